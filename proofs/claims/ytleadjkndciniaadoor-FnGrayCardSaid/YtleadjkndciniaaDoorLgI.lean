/- Long numbers: the program turns a number into another base. -/
import Derived.Test.YtleadjkndciniaaDoorRfB
import Derived.Lib.SliceRun
import Derived.StillTailTactics
set_option linter.unusedVariables false
set_option linter.unusedSimpArgs false
set_option maxRecDepth 100000
namespace Go.Proofs.YtleadjkndciniaaDoor
open Go.ChangeShapes Go.WideShapes Go.ChangeAt Go.RowKit

attribute [local go_sem] Oper.semAt_some wide_fn wide_depth

/-- a row that is owned stands behind a store into an elder block -/
theorem owns_setLow {w : World} {base : Nat} {e : TypeId} {v : Value} {n : Nat} {xs : List Value} (h : w.ownsRow base e 1 v n xs) (p : Addr) (u : Value) (hp : p.block < base) : (w.setCell p u).ownsRow base e 1 v n xs := by
  obtain ⟨hl, h2⟩ := h
  refine ⟨hl, ?_⟩
  rcases h2 with h2 | ⟨g, cap, cur, hv, hg, hh, r⟩
  · exact .inl h2
  · exact .inr ⟨g, cap, cur, hv, hg, by rw [Below.heap_setCell w p u g (by omega)]; exact hh, r⟩
/-- .. and behind the block for the rounds' deferred calls -/
theorem owns_shut {W : World} {D base : Nat} {e : TypeId} {v : Value} {n : Nat} {xs : List Value} (h : W.ownsRow base e 1 v n xs) (hK : W.heap[D]? = some (.deferred (some []))) : (W.putObj D (.deferred none)).ownsRow base e 1 v n xs :=
  owned_own (β := Unit) base e (fun _ => v) (fun _ => n) (fun _ => xs) () W _ (some D) h (grownBy_putObj' W D _) (fun r e => by cases e; exact ⟨_, hK, rfl⟩)

end Go.Proofs.YtleadjkndciniaaDoor
