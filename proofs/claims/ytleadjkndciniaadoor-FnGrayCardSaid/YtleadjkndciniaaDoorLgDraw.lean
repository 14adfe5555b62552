/- Long numbers: what the law draws, and its test of equal lists. -/
import Derived.Test.YtleadjkndciniaaDoorDgS
import Derived.Test.YtleadjkndciniaaDoorCur
import Derived.Deep.LoopGhost
import Derived.Deep.RegionHeld3
set_option linter.unusedVariables false
set_option linter.unusedSimpArgs false
set_option maxRecDepth 100000
namespace Go.Proofs.YtleadjkndciniaaDoor
open Go.ChangeShapes Go.WideShapes Go.ChangeAt Go.RowKit

theorem Cur.below1 {w w' : World} {g : Nat} (h : Cur w g) (hb : Below (g + 1) w w') : Cur w' g := by
  obtain ⟨a, n, cap, i, h, zs, hh, h1, h2, hi, hz, hrow⟩ := h
  refine ⟨a, n, cap, i, h, zs, by rw [hb.block g (by omega)]; exact hh, h1, h2, hi, hz, ?_⟩
  rcases hrow with h0 | ⟨b, off, ha, hbg, hc⟩
  · exact .inl h0
  · exact .inr ⟨b, off, ha, hbg, fun k hk => by rw [hb.cell (p := ⟨b, off + k, none⟩) (by simp; omega)]; exact hc k hk⟩
/-- what is owned above a cursor stays so where the cursor moves -/
theorem owns_drawn {w w' : World} {base g : Nat} {e : TypeId} {size : Nat} {v : Value} {n : Nat} {xs : List Value} (h : w.ownsRow base e size v n xs) (hb : w.grownBy w' (some g)) (hg : g < base) : w'.ownsRow base e size v n xs := by
  obtain ⟨hl, h2⟩ := h
  refine ⟨hl, ?_⟩
  rcases h2 with h2 | ⟨g', cap, cur, hv, hg', hh, r⟩
  · exact .inl h2
  · exact .inr ⟨g', cap, cur, hv, hg', by rw [hb.block g' (heap_lt_of_some hh) (by simp; omega)]; exact hh, r⟩
theorem below_drawn {w0 w w' : World} {g : Nat} (h : Below g w0 w) (hg : w.grownBy w' (some g)) (h0 : g ≤ w.heap.size) : Below g w0 w' :=
  h.grown hg h0 (fun k hk => by cases hk; exact Nat.le_refl _)

end Go.Proofs.YtleadjkndciniaaDoor
