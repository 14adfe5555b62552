/- Long numbers: the model subtracts. -/
import Derived.Test.YtkkgihlakilknaaLgCmp
set_option linter.unusedVariables false
set_option linter.unusedSimpArgs false
namespace Go.Proofs.Ytkkgihlakilknaa
open Go.ChangeShapes Go.WideShapes Go.ChangeAt Go.RowKit

theorem specAt_q (v : Value) (l : List Int) (k : Nat) (w : World) (n : Nat) (hr : RowAt w v (intsOf l)) (hl : l.length ≤ 1048576) (hk : k ≤ 2000000) :
    Calls Try.prog 53 #[v, .int .i64 k] (w.drewN n) fun e w' => e = .returned (.int .i64 (at0 l k)) ∧ w' = w.drewN n := by
  refine (specAt_any v l k (w.drewN n) (hr.drewN n) hl hk).mono ?_
  rintro e w' ⟨rfl, rfl⟩
  exact ⟨rfl, rfl⟩

theorem owns_drewN {w : World} {base : Nat} {e : TypeId} {v : Value} {n : Nat} {xs : List Value} (h : w.ownsRow base e 1 v n xs) (q : Nat) : (w.drewN q).ownsRow base e 1 v n xs := h

end Go.Proofs.Ytkkgihlakilknaa
