/- The law on FlipIndex: the program answers as the model, writes into no argument, and its answer owns its memory. -/
import Derived.Test.YtleadjkndciniaaDoorRfB
import Derived.Test.YtleadjkndciniaaDoorGrI6
import Derived.Conc.LoneCalls
import Derived.Conc.LoneSelect
import Derived.Conc.SmallLaws
import Derived.Deep.WholeRow
import Derived.Laws.CopyOwn
import Derived.Laws.Rows
import Derived.Laws.Tables
import Derived.Lib.SliceRun
import Derived.OrdersIn
import Derived.OwnWalk
import Derived.Sort.LoopGhostIn
import Derived.Sort.QuietIn
import Derived.StillTailTactics
import Derived.Stop.RegionWithIn
import Derived.TacticsIn
set_option linter.unusedVariables false
set_option linter.unusedSimpArgs false
set_option maxRecDepth 100000
namespace Go.Proofs.YtleadjkndciniaaDoor
open Go.ChangeShapes Go.WideShapes Go.ChangeAt Go.RowKit

set_option maxRecDepth 100000 in
set_option maxHeartbeats 8000000 in
theorem lawFlipIndex (x0 : Int) (hx0 : (Lit.int .i64 x0).wf = true) (W : World) (ht : Tab W) :
    Calls Tryd.prog 4 #[.int .i64 x0] W fun e w' => e = .returned (.bool true) ∧ Below W.heap.size W w' := by
  have hb0 := bounds_i64 hx0
  have HT := Lib.hid ht
  clear ht
  have HB0 := Lib.hid hb0
  clear hb0
  go_enter Tryd.func4, Tryd.ntmps4
  go_wp2_with fail
  refine (specFlipIndex_any x0 W HB0.out).mono ?_
  rintro e w1 ⟨rfl, c1⟩
  have s1 := c1.size
  have b1 := c1
  go_wp2_with fail
  refine (implFlipIndex_any x0 w1 HB0.out (HT.out.below b1)).mono ?_
  rintro e w2 ⟨rfl, c2⟩
  have s2 := c2.size
  have b2 := b1.trans (c2.mono b1.size)
  go_wp2
  go_ret
  exact ⟨rfl, b2⟩

end Go.Proofs.YtleadjkndciniaaDoor
