/- Subsets: the model's contracts of the eight functions. -/
import Derived.Test.YthcglklccnknaaaSbMask
namespace Go.Proofs.Ythcglklccnknaaa
theorem rSubsetAt0_len (n k : Int) : (rSubsetAt0 n k).length ≤ 1048577 := by
  unfold rSubsetAt0; split
  · rename_i h
    rw [atOk, Bool.and_eq_true] at h
    have := inB_yes h.1
    rw [List.length_reverse, gr_len]; omega
  · simp
theorem rNextSubset0_len (l : List Int) : (rNextSubset0 l).length ≤ 1048577 := by
  unfold rNextSubset0; split
  · exact rSubsetAt0_len _ _
  · simp
theorem rSubsetOf0_len (m : Int) : (rSubsetOf0 m).length ≤ 1048577 := by
  unfold rSubsetOf0; split
  · have := soJ_len m.toNat 20
    unfold soJ at this
    unfold so; omega
  · simp
theorem rOtherSubset0_len (l : List Int) (m : Int) : (rOtherSubset0 l m).length ≤ 1048577 := by
  unfold rOtherSubset0; split
  · rename_i h
    have := (okS_yes h).1
    have := oth_small l m.toNat
    omega
  · simp
end Go.Proofs.Ythcglklccnknaaa
