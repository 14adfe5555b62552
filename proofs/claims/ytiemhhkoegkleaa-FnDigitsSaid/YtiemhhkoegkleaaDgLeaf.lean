/- Digits: the model's functions of a number and a base. -/
import Derived.Test.YtiemhhkoegkleaaDgSpec
import Derived.Test.YtiemhhkoegkleaaDgDig
import Derived.Test.YtiemhhkoegkleaaDgVal
set_option linter.unusedVariables false
set_option linter.unusedSimpArgs false
set_option maxRecDepth 100000
namespace Go.Proofs.Ytiemhhkoegkleaa
open Go.ChangeShapes Go.WideShapes Go.ChangeAt Go.RowKit

/-- a valid number and base, as naturals -/
theorem okN_nats {n b : Int} (h : okN n b = true) : ∃ n' b' : Nat, n = n' ∧ b = b' ∧ 2 ≤ b' ∧ b' ≤ 16 ∧ n' ≤ 1000000000000 := by
  obtain ⟨⟨h1, h2⟩, h3, h4⟩ := okN_yes h
  exact ⟨n.toNat, b.toNat, by omega, by omega, by omega, by omega, by omega⟩

theorem dg_15 {b n : Nat} (hb : 2 ≤ b) (hb16 : b ≤ 16) : ∀ d ∈ dg b n, 0 ≤ d ∧ d ≤ 15 := fun d hd => by
  have := dg_digits hb n n (Nat.le_refl _) d hd; omega

set_option maxHeartbeats 2000000 in
theorem specDigitSum_any (n b : Int) (w : World) (hn : in64 n) (hb : in64 b) :
    Calls Try.prog 42 #[.int .i64 n, .int .i64 b] w fun e w' => e = .returned (.int .i64 (rDigitSum0 n b)) ∧ Below w.heap.size w w' := by
  cases h : okN n b
  · have HC := Lib.hid (fun W => specOk_any n b W hn hb)
    rw [h] at HC
    rw [show rDigitSum0 n b = -1 by simp [rDigitSum0, h]]
    clear h hn hb
    go_enter Try.func42, Try.ntmps42
    go_wp2_with (go_at_call 74; refine (HC.out _).mono ?_; rintro e w' ⟨rfl, rfl⟩)
    go_ret
    exact ⟨rfl, Below.refl _ _⟩
  · have HC := Lib.hid (fun W => specOk_any n b W hn hb)
    rw [h] at HC
    obtain ⟨n, b, rfl, rfl, hb2, hb16, hn12⟩ := okN_nats h
    have HE := Lib.hid (show rDigitSum0 n b = (dg b n).sum by rw [rDigitSum0, if_pos h]; rfl)
    have h40 := dg_len40 hb2 hn12
    clear h hn hb
    go_enter Try.func42, Try.ntmps42
    go_wp2_with fail
    refine (HC.out _).mono ?_
    rintro e w' ⟨rfl, rfl⟩
    go_wp2_with fail
    refine (specDigits_any n b _ hb2 hb16 hn12).mono ?_
    rintro e w1 ⟨v, rfl, hown, hB⟩
    go_wp2_with fail
    refine (specSum_any _ _ _ (RowAt.of_owns hown) (by omega) (dg_15 hb2 hb16)).mono ?_
    rintro e w2 ⟨rfl, rfl⟩
    go_wp2
    go_ret
    exact ⟨by rw [HE.out]; rfl, hB⟩

end Go.Proofs.Ytiemhhkoegkleaa
