/- Permutations: the model's next permutation. -/
import Derived.Test.YtkimojjhmllnfaaMpSpec
import Derived.Deep.CutBlock
import Derived.Deep.CutRange
import Derived.Deep.DeepCutAuto
import Derived.Deep.RegionLaw
import Derived.OwnWalk
set_option linter.unusedVariables false
set_option linter.unusedSimpArgs false
set_option maxRecDepth 100000
namespace Go.Proofs.Ytkimojjhmllnfaa
open Go.ChangeShapes Go.WideShapes Go.ChangeAt Go.RowKit

theorem inB_of {n lo hi : Int} (h1 : lo ≤ n) (h2 : n ≤ hi) : inB n lo hi = true := by simp [inB, h1, h2]
theorem rank_range {l : List Int} : 0 ≤ mv (leh l) (fr l.length) ∧ mv (leh l) (fr l.length) ≤ fct l.length - 1 := by
  have := mv_rangeP (allP_fr l.length) (leh_fit l)
  rw [rp_fr] at this; exact this
theorem pm_len {n : Int} {k : Nat} : (rPermutationAt0 n k).length = if inB (k : Int) 1 8 && inB n 0 (fct k - 1) then k else 0 := by
  rw [rPermutationAt0, Int.toNat_natCast]
  split
  · rw [pat_len, List.length_reverse, md_len, fr_len]
  · rfl

end Go.Proofs.Ytkimojjhmllnfaa
