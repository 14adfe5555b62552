/- Negative bases: the model's sums, products, signs, ranges and comparisons. -/
import Derived.Test.YtdflpocnfodbhaaLgR
import Derived.Test.YtdflpocnfodbhaaNgM
import Derived.Deep.LoopGhost
set_option linter.unusedVariables false
set_option linter.unusedSimpArgs false
set_option maxRecDepth 100000
namespace Go.Proofs.Ytdflpocnfodbhaa
open Go.ChangeShapes Go.WideShapes Go.ChangeAt Go.RowKit

theorem val_in {l : List Int} {b : Int} (h : rNegaValue1 l b = true) : ∃ n : Nat, b = n ∧ 2 ≤ n ∧ n ≤ 16 ∧ rNegaValue0 l b = nv n l ∧ -1000000000000 ≤ nv n l ∧ nv n l ≤ 1000000000000 := by
  have h' := h
  simp only [rNegaValue1, Bool.and_eq_true] at h'
  obtain ⟨n, rfl, h2, h16, _, _⟩ := nat_of_ok h'.1
  rw [nvI_nat] at h'
  have := inN_yes h'.2
  exact ⟨n, rfl, h2, h16, by rw [rNegaValue0, h, if_pos rfl, nvI_nat], this.1, this.2⟩

/-- a product in bounds, told by a quotient -/
theorem prod_in {x y : Int} (hx : x ≠ 0) : (max x (-x)) * (max y (-y)) = max (x * y) (-(x * y)) := by
  have e1 : max x (-x) = (x.natAbs : Int) := by omega
  have e2 : max y (-y) = (y.natAbs : Int) := by omega
  have e3 : max (x * y) (-(x * y)) = ((x * y).natAbs : Int) := by omega
  rw [e1, e2, e3, Int.natAbs_mul, Int.natCast_mul]
theorem prod_test {x y : Int} (hx : x ≠ 0) : (1000000000000 / max x (-x) < max y (-y)) ↔ inN (x * y) = false := by
  have h1 := prod_in (y := y) hx
  have hp : 0 < max x (-x) := by omega
  have h2 : (1000000000000 / max x (-x) < max y (-y)) ↔ 1000000000000 < max y (-y) * max x (-x) := Int.ediv_lt_iff_lt_mul hp
  rw [h2, Int.mul_comm, h1]
  simp only [inN, inB, Bool.and_eq_false_iff, decide_eq_false_iff_not]
  omega

end Go.Proofs.Ytdflpocnfodbhaa
