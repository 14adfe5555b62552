/- Signed binary digits: the model's counts, its test of sparse digits and its values. -/
import Derived.Test.YtiemhhkoegkleaaSgM
set_option linter.unusedVariables false
set_option linter.unusedSimpArgs false
set_option maxRecDepth 100000
namespace Go.Proofs.Ytiemhhkoegkleaa
open Go.ChangeShapes Go.WideShapes Go.ChangeAt Go.RowKit

theorem spr_of {l : List Int} (h : ∀ j (hj : j + 1 < l.length), l[j] = 0 ∨ l[j + 1] = 0) : sprB l = true := (sprB_iff l).2 (fun j => by
  rcases Nat.lt_or_ge (j + 1) l.length with hj | hj
  · rw [at0_lt hj, at0_lt (by omega)]; exact h j hj
  · right; exact at0_ge hj)
theorem spr_not {l : List Int} {j : Nat} (hj : j + 1 < l.length) (h0 : l[j] ≠ 0) (h1 : l[j + 1] ≠ 0) : sprB l = false := by
  cases h : sprB l
  · rfl
  · have := (sprB_iff l).1 h j
    rw [at0_lt hj, at0_lt (by omega)] at this
    rcases this with e | e
    · exact absurd e h0
    · exact absurd e h1

theorem sv_bound {l : List Int} (h : AllS l) : ∀ (j k : Nat), l.length ≤ k + j → -(2 ^ j : Int) < sv (l.drop k) ∧ sv (l.drop k) < 2 ^ j
  | 0, k, hk => by rw [List.drop_of_length_le (by omega), sv_nil]; decide
  | j + 1, k, hk => by
    have ih := sv_bound h j (k + 1) (by omega)
    have hat := sv_at l k
    have hr := allS_at h k
    have e : (2 : Int) ^ (j + 1) = 2 * 2 ^ j := by rw [Int.pow_succ, Int.mul_comm]
    rw [e]
    obtain ⟨P, hP⟩ : ∃ P, P = (2 : Int) ^ j := ⟨_, rfl⟩
    rw [← hP] at ih ⊢
    omega
theorem sv_small {l : List Int} (h : AllS l) (hl : l.length ≤ 60) (k : Nat) : -1152921504606846976 < sv (l.drop k) ∧ sv (l.drop k) < 1152921504606846976 := sv_bound h 60 k (by omega)

end Go.Proofs.Ytiemhhkoegkleaa
