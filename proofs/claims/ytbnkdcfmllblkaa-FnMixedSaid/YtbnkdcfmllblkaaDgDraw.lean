/- What the laws on digits draw: a number and a base. -/
import Derived.Test.YtbnkdcfmllblkaaDrawC
set_option linter.unusedVariables false
set_option linter.unusedSimpArgs false
namespace Go.Proofs.Ytbnkdcfmllblkaa
open Go.ChangeShapes Go.WideShapes Go.ChangeAt Go.RowKit

set_option maxHeartbeats 2000000 in
theorem makeBase_any (v : Value) (n : Nat) (w : World) (hv : BytesAt w v) (hn : n ≤ 1000) :
    Calls Try.prog 23 #[v, .int .i64 n] w (NumIn (fun x => 2 ≤ x ∧ x ≤ 16) w) := by
  have HV := Lib.hid hv
  obtain ⟨a, len, cap, zs, rfl, _⟩ := hv
  go_enter Try.func23, Try.ntmps23
  go_wp2_with fail
  refine (l31New_any _ n _ HV.out hn).mono ?_
  rintro e w1 ⟨g, rfl, hg0, hc1, hb1⟩
  go_wp2_with fail
  refine (below_any g 15 _ hc1 (by omega) (by omega)).mono ?_
  rintro e w2 ⟨x, ⟨hx0, hx1⟩, rfl, hc2, hg2⟩
  go_wp2
  go_ret
  exact ⟨2 + x, ⟨by omega, by omega⟩, rfl, below_cur hb1 hg2 hg0⟩

end Go.Proofs.Ytbnkdcfmllblkaa
