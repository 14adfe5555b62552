/- Permutations: the model's contracts of the nine functions. -/
import Derived.Test.YtdpeleepfjhefaaMpSpec
import Derived.Deep.CutBlock
import Derived.Deep.CutRange
import Derived.Deep.DeepCutAuto
import Derived.Deep.RegionLaw
import Derived.OwnWalk
namespace Go.Proofs.Ytdpeleepfjhefaa
theorem rFactorialDigits0_len (n m : Int) : (rFactorialDigits0 n m).length ≤ 1048577 := by
  unfold rFactorialDigits0; split
  · rename_i h
    rw [Bool.and_eq_true] at h
    have := inB_yes h.1
    rw [md_len, fr_len]; omega
  · simp
theorem rPermutationAt0_len (n m : Int) : (rPermutationAt0 n m).length ≤ 1048577 := by
  unfold rPermutationAt0; split
  · rename_i h
    rw [Bool.and_eq_true] at h
    have := inB_yes h.1
    rw [pat_len, List.length_reverse, md_len, fr_len]; omega
  · simp
theorem rNextPermutation0_len (l : List Int) : (rNextPermutation0 l).length ≤ 1048577 := by
  unfold rNextPermutation0; split
  · exact rPermutationAt0_len _ _
  · simp
end Go.Proofs.Ytdpeleepfjhefaa
