/- Places of coins, plain: the least digits of a number, as both answer. -/
import Derived.Test.YtbfoaibgenepoaaCoW
set_option linter.unusedVariables false
set_option linter.unusedSimpArgs false
namespace Go.Proofs.Ytbfoaibgenepoaa

def rLeastDigits0 (n : Int) (l : List Int) : List Int := if okC l && inB n 0 400 then wDg l (l.length - 1) n.toNat else []
theorem rLeast_no {n : Int} {l : List Int} (h : (okC l && inB n 0 400) = false) : rLeastDigits0 n l = [] := by rw [rLeastDigits0, h]; rfl
theorem rLeast_yes {n : Nat} {l : List Int} {q : Nat} (h : (okC l && inB n 0 400) = true) (hq : l.length = q + 1) : rLeastDigits0 n l = wDg l q n := by
  rw [rLeastDigits0, h, hq]; rfl
theorem rLeast_len {n : Nat} {l : List Int} {q : Nat} (h : (okC l && inB n 0 400) = true) (hq : l.length = q + 1) : (rLeastDigits0 n l).length = l.length := by
  rw [rLeast_yes h hq]
  rw [Bool.and_eq_true] at h
  exact (wDg_lst (okC_yes h.1) q (by omega) n).sol.len

end Go.Proofs.Ytbfoaibgenepoaa
