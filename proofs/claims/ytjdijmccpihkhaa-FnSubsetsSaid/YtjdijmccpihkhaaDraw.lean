/- What the laws draw: numbers and texts; of what was there nothing turns. -/
import Derived.Test.YtjdijmccpihkhaaDrawC
set_option linter.unusedVariables false
set_option linter.unusedSimpArgs false
set_option maxRecDepth 100000
namespace Go.Proofs.Ytjdijmccpihkhaa
open Go.ChangeShapes Go.WideShapes Go.ChangeAt Go.RowKit

set_option maxRecDepth 100000 in
set_option maxHeartbeats 1000000 in
theorem makeNum_any (v : Value) (n : Nat) (w : World) (hv : BytesAt w v) (hn : n ≤ 1000) :
    Calls Try.prog 21 #[v, .int .i64 n] w (NumIn (fun x => 0 ≤ x ∧ x ≤ 65535) w) := by
  have HV := Lib.hid hv
  obtain ⟨a, len, cap, zs, rfl, _⟩ := hv
  go_enter Try.func21, Try.ntmps21
  go_wp2_with (go_at_call 37; refine (l31New_any _ n _ HV.out hn).mono ?_; rintro e w1 ⟨g, rfl, hg0, hc1, hb1⟩)
  refine (byte_any g _ hc1).mono ?_
  rintro e w2 ⟨x, ⟨hx0, hx1⟩, rfl, hc2, hg2⟩
  go_wp2_with (go_at_call 41; refine (byte_any g _ hc2).mono ?_; rintro e w3 ⟨y, ⟨hy0, hy1⟩, rfl, hc3, hg3⟩)
  go_ret
  exact ⟨x * 256 + y, ⟨by omega, by omega⟩, rfl, below_cur (below_cur hb1 hg2 hg0) hg3 hg0⟩

def Picked (l : List ByteArray) (g : Nat) (w : World) (e : Ending) (w' : World) : Prop := ∃ s ∈ l, e = .returned (.string s) ∧ Cur w' g ∧ w.grownBy w' (some g)

end Go.Proofs.Ytjdijmccpihkhaa
