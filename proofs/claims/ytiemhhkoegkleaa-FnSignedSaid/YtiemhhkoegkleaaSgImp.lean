/- Signed binary digits: the program's contracts, all of them. -/
import Derived.Test.YtiemhhkoegkleaaSgCount
set_option linter.unusedVariables false
set_option linter.unusedSimpArgs false
set_option maxRecDepth 100000
namespace Go.Proofs.Ytiemhhkoegkleaa
open Go.ChangeShapes Go.WideShapes Go.ChangeAt Go.RowKit

set_option maxHeartbeats 1000000 in
theorem implCountSigned_any (n p u : Int) (w : World) (hn : in64 n) (hp : in64 p) (hu : in64 u) :
    Calls Try.prog 29 #[.int .i64 n, .int .i64 p, .int .i64 u] w fun e w' => e = .returned (.int .i64 (rCountSigned0 n p u)) ∧ Below w.heap.size w w' := by
  cases h : (inB n (-5000) 5000 && inB p 0 12 && inB u 0 12)
  · have E0 := Lib.hid (show rCountSigned0 n p u = -1 by rw [rCountSigned0, h]; rfl)
    have hcase : (n < -5000) ∨ (¬ n < -5000 ∧ 5000 < n) ∨ (¬ n < -5000 ∧ ¬ 5000 < n ∧ p < u ∧ p < 0) ∨ (¬ n < -5000 ∧ ¬ 5000 < n ∧ u < p ∧ u < 0) ∨ (¬ n < -5000 ∧ ¬ 5000 < n ∧ p ≤ u ∧ u ≤ p ∧ p < 0 ∧ u < 0) ∨
        (¬ n < -5000 ∧ ¬ 5000 < n ∧ p < u ∧ ¬ p < 0 ∧ 12 < u) ∨ (¬ n < -5000 ∧ ¬ 5000 < n ∧ u < p ∧ ¬ u < 0 ∧ 12 < p) ∨ (¬ n < -5000 ∧ ¬ 5000 < n ∧ p ≤ u ∧ u ≤ p ∧ ¬ p < 0 ∧ ¬ u < 0 ∧ 12 < p ∧ 12 < u) := by
      simp only [inB, Bool.and_eq_false_iff, decide_eq_false_iff_not] at h
      omega
    clear h hn hp hu
    rcases hcase with c1 | ⟨c1, c2⟩ | ⟨c1, c2, c3, c4⟩ | ⟨c1, c2, c3, c4⟩ | ⟨c1, c2, c3, c4, c5, c6⟩ | ⟨c1, c2, c3, c4, c5⟩ | ⟨c1, c2, c3, c4, c5⟩ | ⟨c1, c2, c3, c4, c5, c6, c7, c8⟩
    all_goals
      go_enter Try.func29, Try.ntmps29
      go_wp2_with fail
      go_ret
      exact ⟨by rw [E0.out]; rfl, Below.refl _ _⟩
  · have h' := h
    simp only [Bool.and_eq_true] at h'
    obtain ⟨n1, n2⟩ := inB_yes h'.1.1
    obtain ⟨p1, p2⟩ := inB_yes h'.1.2
    obtain ⟨u1, u2⟩ := inB_yes h'.2
    obtain ⟨p, rfl⟩ : ∃ p' : Nat, p = p' := ⟨p.toNat, by omega⟩
    rw [show rCountSigned0 n p u = cnt n p u by rw [rCountSigned0, h, Int.toNat_natCast]; rfl]
    exact countRun_any n u p w n1 n2 (by omega) u1 u2

end Go.Proofs.Ytiemhhkoegkleaa
