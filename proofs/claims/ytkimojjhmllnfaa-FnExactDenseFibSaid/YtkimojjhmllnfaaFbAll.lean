/- Fibonacci digits: the model's contracts of the eleven functions. -/
import Derived.Test.YtkimojjhmllnfaaFbSpec
import Derived.Deep.LoopGhost
namespace Go.Proofs.Ytkimojjhmllnfaa
theorem rSparseFib0_len (n : Int) : (rSparseFib0 n).length ≤ 1048577 := by
  unfold rSparseFib0; split
  · have := trT_le (gs 58 n.toNat)
    rw [gs_len] at this
    unfold sp; rw [List.length_reverse]; omega
  · simp
theorem rDenseFib0_len (n : Int) : (rDenseFib0 n).length ≤ 1048577 := by
  unfold rDenseFib0; split
  · have := trT_le (gd 58 n.toNat)
    rw [gd_len] at this
    unfold dn; rw [List.length_reverse]; omega
  · simp
end Go.Proofs.Ytkimojjhmllnfaa
