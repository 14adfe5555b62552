/- Long numbers: the model's functions of two lists. -/
import Derived.Test.YtiemhhkoegkleaaRow
import Derived.Test.YtiemhhkoegkleaaLgR
import Derived.Deep.LoopGhost
set_option linter.unusedVariables false
set_option linter.unusedSimpArgs false
set_option maxRecDepth 100000
namespace Go.Proofs.Ytiemhhkoegkleaa
open Go.ChangeShapes Go.WideShapes Go.ChangeAt Go.RowKit

theorem dgI_nat (n N : Nat) : dgI (n : Int) N = dg n N := by simp [dgI]
theorem vlI_nat (n : Nat) (l : List Int) : vlI (n : Int) l = vl n l := by simp [vlI]

/-- how many digits a sum, a product has -/
theorem dg_len_pow {b n k : Nat} (hb : 2 ≤ b) (h : n < b ^ k) : (dg b n).length ≤ k := by
  rcases Nat.lt_or_ge k (dg b n).length with h' | h'
  · exfalso
    have hN := nrm_dg hb n
    have hne : dg b n ≠ [] := fun e => by rw [e] at h'; simp at h'
    have h1 := hv_ge hb hN.1 hne (hN.2.resolve_left hne)
    have h2 := vl_cast hN.1
    rw [vl_dg hb] at h2
    have h3 : b ^ k ≤ b ^ ((dg b n).length - 1) := Nat.pow_le_pow_right (by omega) (by omega)
    have h4 : ((b ^ ((dg b n).length - 1) : Nat) : Int) = (b : Int) ^ ((dg b n).length - 1) := Int.natCast_pow _ _
    omega
  · exact h'
theorem vl_lt_pow {b : Nat} {l : List Int} (hb : 2 ≤ b) (h : AllD b l) : vl b l < b ^ l.length := by
  have h1 := hv_lt hb h
  have h2 := vl_cast h
  have h4 : ((b ^ l.length : Nat) : Int) = (b : Int) ^ l.length := Int.natCast_pow _ _
  omega
theorem pow_two_le {b : Nat} (hb : 2 ≤ b) (k : Nat) : b ^ k + b ^ k ≤ b ^ (k + 1) := by
  rw [Nat.pow_succ]
  have := Nat.mul_le_mul_left (b ^ k) hb
  omega
theorem sum_len {b : Nat} {a c : List Int} (hb : 2 ≤ b) (ha : AllD b a) (hc : AllD b c) {k : Nat} (h1 : a.length ≤ k) (h2 : c.length ≤ k) : (dg b (vl b a + vl b c)).length ≤ k + 1 := by
  refine dg_len_pow hb ?_
  have e1 := vl_lt_pow hb ha
  have e2 := vl_lt_pow hb hc
  have e3 := Nat.pow_le_pow_right (show 0 < b by omega) h1
  have e4 := Nat.pow_le_pow_right (show 0 < b by omega) h2
  have e5 := pow_two_le hb k
  omega
theorem mul_len {b : Nat} {a c : List Int} (hb : 2 ≤ b) (ha : AllD b a) (hc : AllD b c) : (dg b (vl b a * vl b c)).length ≤ a.length + c.length := by
  refine dg_len_pow hb ?_
  have e1 := vl_lt_pow hb ha
  have e2 := vl_lt_pow hb hc
  rw [Nat.pow_add]
  rcases Nat.eq_zero_or_pos (vl b c) with h0 | h0
  · rw [h0, Nat.mul_zero]; exact Nat.mul_pos (Nat.pow_pos (by omega)) (Nat.pow_pos (by omega))
  · exact Nat.mul_lt_mul'' e1 e2

/-- the contract of a function that adds or multiplies -/
def TwoAns (R0 : List Int) (R1 : Bool) (w : World) (e : Ending) (w' : World) : Prop := ∃ v, e = .returned (.tuple #[v, .bool R1]) ∧ w'.ownsRow w.heap.size 3 1 v R0.length (intsOf R0) ∧ Below w.heap.size w w'

end Go.Proofs.Ytiemhhkoegkleaa
