/- Negative bases: the model's digits and values. -/
import Derived.Test.YtiemhhkoegkleaaNgM
import Derived.Deep.LoopGhost
set_option linter.unusedVariables false
set_option linter.unusedSimpArgs false
set_option maxRecDepth 100000
namespace Go.Proofs.Ytiemhhkoegkleaa
open Go.ChangeShapes Go.WideShapes Go.ChangeAt Go.RowKit

/-- the remainder as Go takes it -/
theorem tmod_fix {b : Nat} (hb : 2 ≤ b) (n : Int) : (n.tmod b < 0 → n.tmod b + b = n % b) ∧ (¬ n.tmod b < 0 → n.tmod b = n % b) ∧ -((b : Int) - 1) ≤ n.tmod b ∧ n.tmod b ≤ (b : Int) - 1 := by
  obtain ⟨d1, d2, d3⟩ := div_facts hb n
  have e := Int.tmod_add_mul_tdiv n b
  have h1 : n.tmod b < b := Int.tmod_lt_of_pos _ (by omega)
  have h2 : -(b : Int) < n.tmod b := by
    have h3 := Int.natAbs_tmod n b
    have h4 := Nat.mod_lt n.natAbs (show 0 < (b : Int).natAbs by omega)
    omega
  obtain ⟨r, hr⟩ : ∃ r, r = n.tmod b := ⟨_, rfl⟩
  obtain ⟨q, hq⟩ : ∃ q, q = n.tdiv b := ⟨_, rfl⟩
  obtain ⟨p, hp⟩ : ∃ p, p = n / (b : Int) := ⟨_, rfl⟩
  obtain ⟨s, hs⟩ : ∃ s, s = n % (b : Int) := ⟨_, rfl⟩
  rw [← hr] at e h1 h2 ⊢
  rw [← hq] at e
  rw [← hp, ← hs] at d1
  rw [← hs] at d2 d3 ⊢
  have key : s - r = b * (q - p) := by rw [Int.mul_sub]; omega
  have e0 : q - p = 0 ∨ q - p = 1 := by
    rcases ltgeZ (q - p) 0 with h | h
    · exfalso
      have : (b : Int) * (q - p) ≤ b * (-1) := Int.mul_le_mul_of_nonneg_left (by omega) (by omega)
      omega
    · rcases ltgeZ 1 (q - p) with h' | h'
      · exfalso
        have : (b : Int) * 2 ≤ b * (q - p) := Int.mul_le_mul_of_nonneg_left (by omega) (by omega)
        omega
      · omega
  rcases e0 with h | h <;> rw [h] at key <;> refine ⟨fun h => ?_, fun h => ?_, by omega, by omega⟩ <;> omega

theorem quo_exact {b : Nat} (hb : 2 ≤ b) (n : Int) : (n % b - n).tdiv b = -(n / b) := by
  obtain ⟨d1, _, _⟩ := div_facts hb n
  rw [show n % (b : Int) - n = b * (-(n / b)) by rw [Int.mul_neg]; omega]
  exact Int.mul_tdiv_cancel_left _ (by omega)

/-- the value, or that it is far beyond -/
def valOk (b : Nat) (l : List Int) (x : Int) (r : Bool) : Prop := r = inN (nv b l) ∧ (r = true → x = nv b l)

end Go.Proofs.Ytiemhhkoegkleaa
