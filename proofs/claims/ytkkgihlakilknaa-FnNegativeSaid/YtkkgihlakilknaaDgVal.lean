/- Digits: the model's value, sum and turn of a list. -/
import Derived.Test.YtkkgihlakilknaaDgDig
set_option linter.unusedVariables false
set_option linter.unusedSimpArgs false
namespace Go.Proofs.Ytkkgihlakilknaa
open Go.ChangeShapes Go.WideShapes Go.ChangeAt Go.RowKit

/-- the sum of the first digits stays small -/
theorem sum_take_bound {l : List Int} (hd : ∀ d ∈ l, 0 ≤ d ∧ d ≤ 15) : ∀ k, k ≤ l.length → 0 ≤ (l.take k).sum ∧ (l.take k).sum ≤ 15 * k
  | 0, _ => by simp
  | k + 1, h => by
    have ih := sum_take_bound hd k (by omega)
    have := hd l[k] (List.getElem_mem (by omega))
    rw [List.take_succ_eq_append_getElem (by omega), List.sum_append]
    simp; omega

end Go.Proofs.Ytkkgihlakilknaa
