/- The law on GrayCycle: the program answers as the model, writes into no argument, and its answer owns its memory. -/
import Derived.Test.YtleadjkndciniaaDoorMxI3
import Derived.Test.YtleadjkndciniaaDoorRfB
import Derived.Test.YtleadjkndciniaaDoorGrI8
import Derived.Test.YtleadjkndciniaaDoorGrFact
import Derived.Lib.SliceRun
import Derived.OrdersIn
import Derived.Sort.LoopGhostIn
import Derived.Sort.QuietIn
import Derived.Stop.RegionWithIn
import Derived.TacticsIn
set_option linter.unusedVariables false
set_option linter.unusedSimpArgs false
set_option maxRecDepth 100000
namespace Go.Proofs.YtleadjkndciniaaDoor
open Go.ChangeShapes Go.WideShapes Go.ChangeAt Go.RowKit

set_option maxRecDepth 100000 in
set_option maxHeartbeats 8000000 in
theorem lawGrayCycle (x0 : Int) (hx0 : (Lit.int .i64 x0).wf = true) (W : World) (ht : Tab W) :
    Calls Tryd.prog 5 #[.int .i64 x0] W fun e w' => e = .returned (.bool true) ∧ Below W.heap.size W w' := by
  have hb0 := bounds_i64 hx0
  have HT := Lib.hid ht
  clear ht
  have hn0 := rGrayCycle0_len x0
  obtain ⟨R0, hR0⟩ : ∃ R, R = rGrayCycle0 x0 := ⟨_, rfl⟩
  rw [← hR0] at hn0
  have HB0 := Lib.hid hb0
  clear hb0
  have HR0 := Lib.hid hR0
  clear hR0
  go_enter Tryd.func5, Tryd.ntmps5
  go_wp2_with fail
  have CC1 := Lib.hid (specGrayCycle_any x0 W HB0.out)
  rw [← HR0.out] at CC1
  refine CC1.out.mono ?_
  rintro e w1 ⟨vp0, rfl, op0_1, c1⟩
  have s1 := c1.size
  have b1 := c1
  have Lp0 := Lib.hid (fun k hk => op0_1.lt k hk)
  go_wp2_with fail
  have CC2 := Lib.hid (implGrayCycle_any x0 w1 HB0.out (HT.out.below b1))
  rw [← HR0.out] at CC2
  refine CC2.out.mono ?_
  rintro e w2 ⟨vg0, rfl, og0_2, c2⟩
  have s2 := c2.size
  have b2 := b1.trans (c2.mono b1.size)
  have op0_2 := owns_below op0_1 c2
  clear op0_1
  have Lg0 := Lib.hid (fun k hk => og0_2.lt k hk)
  go_wp2_with fail
  refine (eqIntS_any _ _ R0 R0 _ (RowAt.of_owns og0_2) (RowAt.of_owns op0_2)).mono ?_
  rintro e w3 ⟨rfl, c3⟩
  have s3 := c3.size
  have b3 := b2.trans (c3.mono b2.size)
  have op0_3 := owns_below op0_2 c3
  clear op0_2
  have og0_3 := owns_below og0_2 c3
  clear og0_2
  go_wp2_with fail
  refine (markIntS_any _ _ _ _ _ og0_3 (1) (by omega) (by omega)).mono ?_
  rintro e w4 ⟨rfl, ng0_4, g4⟩
  have s4 := g4.size
  have op0_4 := owns_far op0_3 g4 (fun k hk hk' => by have p1 := Lp0.out k hk; have p2 := Lg0.out k hk'; omega)
  clear op0_3
  have b4 := b3.grown g4 b3.size (fun k hk => by have p2 := Lg0.out k hk; omega)
  clear og0_3
  go_wp2_with fail
  refine (heldIntS_any _ (1) R0.length _ (RowAt.of_owns ng0_4) (by omega) (by omega)).mono ?_
  rintro e w5 ⟨rfl, c5⟩
  have s5 := c5.size
  have b5 := b4.trans (c5.mono b4.size)
  have op0_5 := owns_below op0_4 c5
  clear op0_4
  have og0_5 := owns_below ng0_4 c5
  clear ng0_4
  go_wp2_with fail
  have CC6 := Lib.hid (implGrayCycle_any x0 w5 HB0.out (HT.out.below b5))
  rw [← HR0.out] at CC6
  refine CC6.out.mono ?_
  rintro e w6 ⟨vh0, rfl, oh0_6, c6⟩
  have s6 := c6.size
  have b6 := b5.trans (c6.mono b5.size)
  have op0_6 := owns_below op0_5 c6
  clear op0_5
  have og0_6 := owns_below og0_5 c6
  clear og0_5
  have Lh0 := Lib.hid (fun k hk => oh0_6.lt k hk)
  go_wp2_with fail
  refine (eqIntS_any _ _ R0 R0 _ (RowAt.of_owns oh0_6) (RowAt.of_owns op0_6)).mono ?_
  rintro e w7 ⟨rfl, c7⟩
  have s7 := c7.size
  have b7 := b6.trans (c7.mono b6.size)
  have op0_7 := owns_below op0_6 c7
  clear op0_6
  have og0_7 := owns_below og0_6 c7
  clear og0_6
  have oh0_7 := owns_below oh0_6 c7
  clear oh0_6
  go_wp2_with fail
  refine (heldIntS_any _ (1) R0.length _ (RowAt.of_owns og0_7) (by omega) (by omega)).mono ?_
  rintro e w8 ⟨rfl, c8⟩
  have s8 := c8.size
  have b8 := b7.trans (c8.mono b7.size)
  have op0_8 := owns_below op0_7 c8
  clear op0_7
  have og0_8 := owns_below og0_7 c8
  clear og0_7
  have oh0_8 := owns_below oh0_7 c8
  clear oh0_7
  go_wp2
  go_ret
  exact ⟨rfl, b8⟩

end Go.Proofs.YtleadjkndciniaaDoor
