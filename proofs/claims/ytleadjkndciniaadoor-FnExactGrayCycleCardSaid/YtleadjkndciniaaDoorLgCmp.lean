/- Long numbers: the model compares, adds and subtracts. -/
import Derived.Test.YtleadjkndciniaaDoorRow
import Derived.Test.YtleadjkndciniaaDoorLgM
set_option linter.unusedVariables false
set_option linter.unusedSimpArgs false
set_option maxRecDepth 100000
namespace Go.Proofs.YtleadjkndciniaaDoor
open Go.ChangeShapes Go.WideShapes Go.ChangeAt Go.RowKit

theorem RowAt.drewN {w : World} {v : Value} {cs : List Value} (h : RowAt w v cs) (q : Nat) : RowAt (w.drewN q) v cs := h.below (below_drewN (Below.refl _ _) q)

theorem cmp_lt {n m : Nat} (h : n < m) : cmpN n m = -1 := by simp [cmpN, h]
theorem cmp_gt {n m : Nat} (h : m < n) : cmpN n m = 1 := by
  have : ¬ n < m := by omega
  simp [cmpN, h, this]
theorem cmp_eq (n : Nat) : cmpN n n = 0 := by simp [cmpN]

theorem drop_same {a c : List Int} {k : Nat} (h1 : k < a.length) (h2 : k < c.length) (ht : a.drop (k + 1) = c.drop (k + 1)) (h : a[k] = c[k]) : a.drop k = c.drop k := by
  rw [List.drop_eq_getElem_cons h1, List.drop_eq_getElem_cons h2, ht, h]

theorem allD_snoc {b : Nat} {l : List Int} {d : Int} (h : AllD b l) (h0 : 0 ≤ d) (h1 : d ≤ (b : Int) - 1) : AllD b (l ++ [d]) := fun x hx => by
  rcases List.mem_append.1 hx with hx | hx
  · exact h x hx
  · simp at hx; subst hx; exact ⟨h0, h1⟩

end Go.Proofs.YtleadjkndciniaaDoor
