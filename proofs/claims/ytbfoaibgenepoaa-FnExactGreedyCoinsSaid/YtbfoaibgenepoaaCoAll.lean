/- Places of coins: what the model's functions answer; lengths of the lists. -/
import Derived.Test.YtbfoaibgenepoaaCoRec
import Derived.Test.YtbfoaibgenepoaaCoLsM
import Derived.StillTailTactics
set_option linter.unusedVariables false
namespace Go.Proofs.Ytbfoaibgenepoaa

theorem rGreedyCoins0_len (n : Int) (l : List Int) : (rGreedyCoins0 n l).length ≤ 1048577 := by
  rw [rGreedyCoins0]; split
  · rename_i h
    rw [Bool.and_eq_true] at h
    rw [gz_len]; have := (okC_yes h.1).len; omega
  · simp
theorem rRecurrentCoins0_len (a b k : Int) : (rRecurrentCoins0 a b k).length ≤ 1048577 := by
  rw [rRecurrentCoins0]; split
  · rename_i h
    simp only [okRec, Bool.and_eq_true] at h
    have := (okC_yes h.2.2.2).len
    omega
  · simp
theorem rLeastDigits0_len (n : Int) (l : List Int) : (rLeastDigits0 n l).length ≤ 1048577 := by
  rw [rLeastDigits0]; split
  · rename_i h
    rw [Bool.and_eq_true] at h
    have hco := okC_yes h.1
    obtain ⟨t, ht⟩ := hco.one
    have hl := hco.len
    have := (wDg_lst hco (l.length - 1) (by rw [ht]; simp) n.toNat).sol.len
    omega
  · simp

end Go.Proofs.Ytbfoaibgenepoaa
