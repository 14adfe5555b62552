/- Long numbers: the model multiplies. -/
import Derived.Test.YtleadjkndciniaaDoorRow
import Derived.Test.YtleadjkndciniaaDoorLgM
import Derived.Deep.LoopGhost
set_option linter.unusedVariables false
set_option linter.unusedSimpArgs false
set_option maxRecDepth 100000
namespace Go.Proofs.YtleadjkndciniaaDoor
open Go.ChangeShapes Go.WideShapes Go.ChangeAt Go.RowKit

theorem hv_set (b : Int) : ∀ (l : List Int) (j : Nat) (v : Int) (h : j < l.length), hv b (l.set j v) = hv b l + b ^ j * (v - l[j])
  | d :: l, 0, v, h => by
    simp only [List.set_cons_zero, hv_cons, Int.pow_zero, Int.one_mul, List.getElem_cons_zero]; omega
  | d :: l, j + 1, v, h => by
    have h' : j < l.length := by simpa using h
    rw [List.set_cons_succ, hv_cons, hv_cons, hv_set b l j v h', Int.mul_add, Int.pow_succ, List.getElem_cons_succ, Int.mul_comm (b ^ j) b, Int.mul_assoc]
    omega

theorem hv_take_succ (b : Int) (l : List Int) (k : Nat) : hv b (l.take (k + 1)) = hv b (l.take k) + b ^ k * at0 l k := by
  by_cases h : k < l.length
  · rw [List.take_succ_eq_append_getElem h, hv_snoc, List.length_take, Nat.min_eq_left (by omega), at0_lt h]
  · rw [List.take_of_length_le (by omega), List.take_of_length_le (by omega), at0_ge (by omega)]; simp

theorem allD_set {b : Nat} {l : List Int} {j : Nat} {v : Int} (h : AllD b l) (h0 : 0 ≤ v) (h1 : v ≤ (b : Int) - 1) : AllD b (l.set j v) := fun x hx => by
  rcases List.mem_or_eq_of_mem_set hx with hx | rfl
  · exact h x hx
  · exact ⟨h0, h1⟩

/-- one place of one row of the product -/
theorem mul_step {b : Nat} (hb : 2 ≤ b) {O : List Int} {i k p : Nat} {x ck cy V P P' y : Int} (hp : p = i + k) (hl : p < O.length) (h : hv b O + (b : Int) ^ p * cy = V + b ^ i * (x * P)) (hP : P' = P + b ^ k * ck) (hy : y = O[p] + x * ck + cy) :
    hv b (O.set p (y % b)) + (b : Int) ^ (p + 1) * (y / b) = V + b ^ i * (x * P') := by
  have e : y % b + b * (y / b) = y := Int.emod_add_mul_ediv y b
  rw [hv_set b O p _ hl, Int.pow_succ, Int.mul_assoc]
  have e1 : (b : Int) ^ p * (y % b - O[p]) + b ^ p * (b * (y / b)) = b ^ p * (x * ck + cy) := by
    rw [← Int.mul_add]; congr 1; omega
  have e2 : (b : Int) ^ p * (x * ck + cy) = b ^ p * cy + b ^ i * (x * (b ^ k * ck)) := by
    have e4 : (b : Int) ^ p * (x * ck) = b ^ i * (x * (b ^ k * ck)) := by
      rw [hp, Int.pow_add]; ac_rfl
    rw [Int.mul_add, e4, Int.add_comm]
  have e3 : V + (b : Int) ^ i * (x * P') = V + b ^ i * (x * P) + b ^ i * (x * (b ^ k * ck)) := by
    rw [hP, Int.mul_add, Int.mul_add]; omega
  omega

theorem mul_bound {b x c o cy : Int} (hb : 2 ≤ b) (hx : 0 ≤ x ∧ x ≤ b - 1) (hc : 0 ≤ c ∧ c ≤ b - 1) (ho : 0 ≤ o ∧ o ≤ b - 1) (hy : 0 ≤ cy ∧ cy ≤ b - 1) : 0 ≤ x * c ∧ x * c ≤ (b - 1) * (b - 1) ∧ 0 ≤ o + x * c + cy ∧ o + x * c + cy < b * b := by
  have h1 : x * c ≤ (b - 1) * (b - 1) := Int.mul_le_mul hx.2 hc.2 hc.1 (by omega)
  have h0 : 0 ≤ x * c := Int.mul_nonneg hx.1 hc.1
  have e : (b - 1) * (b - 1) = b * b - 2 * b + 1 := by rw [Int.sub_mul, Int.mul_sub]; omega
  refine ⟨h0, h1, by omega, by omega⟩

theorem intsOf_set (l : List Int) (j : Nat) (v : Int) : (intsOf l).set j (Value.int .i64 v) = intsOf (l.set j v) := by simp [intsOf, List.map_set]
theorem intsOf_get {l : List Int} {j : Nat} (h : j < l.length) : (intsOf l)[j]? = some (Value.int .i64 l[j]) := by simp [intsOf, h]
theorem intsOf_zeros (n : Nat) : intsOf (List.replicate n 0) = List.replicate n (Value.int .i64 0) := by simp [intsOf]

end Go.Proofs.YtleadjkndciniaaDoor
