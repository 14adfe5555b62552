/- Long numbers: the program adds two numbers. -/
import Derived.Test.YtiemhhkoegkleaaLgPub
import Derived.Deep.RegionHeld3
import Derived.LoopIn
import Derived.LoopNIn
import Derived.OwnWalkIn
import Derived.RangeFuncBound
import Derived.RangeFuncCalls
import Derived.RangeFuncLeaves
import Derived.RangeFuncNested
import Derived.Shelf.Abstract
import Derived.TacticsInMore
set_option linter.unusedVariables false
set_option linter.unusedSimpArgs false
set_option maxRecDepth 100000
namespace Go.Proofs.Ytiemhhkoegkleaa
open Go.ChangeShapes Go.WideShapes Go.ChangeAt Go.RowKit

theorem intsOf_append (l m : List Int) : intsOf (l ++ m) = intsOf l ++ intsOf m := by simp [intsOf]
/-- the next of the cells that are still 0 -/
theorem fill_step (o : List Int) (x : Int) {n : Nat} (h : o.length < n) : (o ++ List.replicate (n - o.length) 0).set o.length x = (o ++ [x]) ++ List.replicate (n - (o ++ [x]).length) 0 := by
  obtain ⟨m, hm⟩ : ∃ m, n - o.length = m + 1 := ⟨n - o.length - 1, by omega⟩
  rw [hm, List.set_append_right _ _ (Nat.le_refl _), show n - (o ++ [x]).length = m by simp; omega]
  simp [List.replicate_succ]
theorem fill_len (o : List Int) {n : Nat} (h : o.length ≤ n) : (o ++ List.replicate (n - o.length) 0).length = n := by simp; omega
theorem fill_get (o : List Int) {n : Nat} (h : o.length < n) : (o ++ List.replicate (n - o.length) (0 : Int))[o.length]? = some 0 := by
  rw [List.getElem?_append_right (Nat.le_refl _), Nat.sub_self, List.getElem?_replicate, if_pos (by omega)]

/-- a sum's last carry is 0 -/
theorem no_carry {b : Nat} (hb : 2 ≤ b) {a c o : List Int} (ha : AllD b a) (hc : AllD b c) (hA : AllD b o) {M : Nat} (h1 : a.length ≤ M) (h2 : c.length ≤ M) {y : Int} (hy : 0 ≤ y) (ho : o.length = M + 1) (h : hv b a + hv b c = hv b o + (b : Int) ^ (M + 1) * y) : y = 0 := by
  rcases Int.lt_or_eq_of_le hy with h0 | h0
  · exfalso
    have e1 := vl_lt_pow hb ha
    have e2 := vl_lt_pow hb hc
    have e3 := Nat.pow_le_pow_right (show 0 < b by omega) h1
    have e4 := Nat.pow_le_pow_right (show 0 < b by omega) h2
    have e5 := pow_two_le hb M
    have c1 := vl_cast ha; have c2 := vl_cast hc
    have p := hv_nonneg' hA
    have q : (b : Int) ^ (M + 1) * 1 ≤ (b : Int) ^ (M + 1) * y := Int.mul_le_mul_of_nonneg_left (by omega) (Int.le_of_lt (pow_pos' hb _))
    have e6 : ((b ^ (M + 1) : Nat) : Int) = (b : Int) ^ (M + 1) := Int.natCast_pow _ _
    omega
  · exact h0.symm

end Go.Proofs.Ytiemhhkoegkleaa
