/- What the laws on digits draw: a number and a base. -/
import Derived.Test.YtleadjkndciniaaDoorDrawC
set_option linter.unusedVariables false
set_option linter.unusedSimpArgs false
set_option maxRecDepth 100000
namespace Go.Proofs.YtleadjkndciniaaDoor
open Go.ChangeShapes Go.WideShapes Go.ChangeAt Go.RowKit

set_option maxHeartbeats 4000000 in
theorem makeNumber_any (v : Value) (n : Nat) (w : World) (hv : BytesAt w v) (hn : n ≤ 1000) :
    Calls Tryd.prog 6 #[v, .int .i64 n] w (NumIn (fun x => 0 ≤ x ∧ x ≤ 10000000000) w) := by
  have HV := Lib.hid hv
  obtain ⟨a, len, cap, zs, rfl, _⟩ := hv
  go_enter Tryd.func6, Tryd.ntmps6
  go_wp2_with fail
  refine (l31New_any _ n _ HV.out hn).mono ?_
  rintro e w1 ⟨g, rfl, hg0, hc1, hb1⟩
  go_wp2_with fail
  refine (below_any g 100 _ hc1 (by omega) (by omega)).mono ?_
  rintro e w2 ⟨x, ⟨hx0, hx1⟩, rfl, hc2, hg2⟩
  have hb2 := below_cur hb1 hg2 hg0
  go_wp2_with fail
  refine (once_any g 2 _ hc2 (by omega) (by omega)).mono ?_
  rintro e w3 ⟨q, rfl, hc3, hg3⟩
  have hb3 := below_cur hb2 hg3 hg0
  clear hc1 hc2 hg2 hg3 hb1 hb2
  cases q
  · go_wp2_with fail
    refine (once_any g 3 _ hc3 (by omega) (by omega)).mono ?_
    rintro e w4 ⟨q, rfl, hc4, hg4⟩
    have hb4 := below_cur hb3 hg4 hg0
    cases q
    · go_wp2_with fail
      go_ret
      exact ⟨x, ⟨by omega, by omega⟩, rfl, hb4⟩
    · go_wp2_with fail
      refine (below_any g 100000 _ hc4 (by omega) (by omega)).mono ?_
      rintro e w5 ⟨z, ⟨hz0, hz1⟩, rfl, hc5, hg5⟩
      have hb5 := below_cur hb4 hg5 hg0
      go_wp2_with fail
      go_ret
      exact ⟨x * 100000 + z, ⟨by omega, by omega⟩, rfl, hb5⟩
  · go_wp2_with fail
    refine (below_any g 1000 _ hc3 (by omega) (by omega)).mono ?_
    rintro e w5 ⟨z, ⟨hz0, hz1⟩, rfl, hc5, hg5⟩
    have hb5 := below_cur hb3 hg5 hg0
    go_wp2_with fail
    refine (once_any g 3 _ hc5 (by omega) (by omega)).mono ?_
    rintro e w4 ⟨q, rfl, hc4, hg4⟩
    have hb4 := below_cur hb5 hg4 hg0
    cases q
    · go_wp2_with fail
      go_ret
      exact ⟨x * 1000 + z, ⟨by omega, by omega⟩, rfl, hb4⟩
    · go_wp2_with fail
      refine (below_any g 100000 _ hc4 (by omega) (by omega)).mono ?_
      rintro e w6 ⟨y, ⟨hy0, hy1⟩, rfl, hc6, hg6⟩
      have hb6 := below_cur hb4 hg6 hg0
      go_wp2_with fail
      go_ret
      exact ⟨(x * 1000 + z) * 100000 + y, ⟨by omega, by omega⟩, rfl, hb6⟩

end Go.Proofs.YtleadjkndciniaaDoor
