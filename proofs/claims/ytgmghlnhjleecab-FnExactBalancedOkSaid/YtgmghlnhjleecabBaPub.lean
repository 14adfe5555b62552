/- Balanced digits: the model's public functions of digits and values. -/
import Derived.Test.YtgmghlnhjleecabBaSpec
set_option linter.unusedVariables false
set_option linter.unusedSimpArgs false
namespace Go.Proofs.Ytgmghlnhjleecab
open Go.ChangeShapes Go.WideShapes Go.ChangeAt Go.RowKit

theorem specBalancedOk_any (v : Value) (l : List Int) (b : Int) (w : World) (hr : RowAt w v (intsOf l)) (hl : l.length ≤ 1048576) (hi : ∀ n ∈ l, in64 n) (hb : in64 b) :
    Calls Try.prog 51 #[v, .int .i64 b] w fun e w' => e = .returned (.bool (rBalancedOk0 l b)) ∧ Below w.heap.size w w' := by
  refine (specBal_eq v l b w hr hl hi hb).mono ?_
  rintro e w' ⟨rfl, rfl⟩
  exact ⟨rfl, Below.refl _ _⟩

end Go.Proofs.Ytgmghlnhjleecab
