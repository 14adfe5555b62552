/- The law on IsGrayCycle: the program answers as the model, writes into no argument, and its answer owns its memory. -/
import Derived.Test.YtleadjkndciniaaGrI3
import Derived.Test.YtleadjkndciniaaMxI3
import Derived.Test.YtleadjkndciniaaRfB
import Derived.Lib.SliceRun
import Derived.OrdersIn
import Derived.Sort.LoopGhostIn
import Derived.Sort.QuietIn
import Derived.Stop.RegionWithIn
import Derived.TacticsIn
set_option linter.unusedVariables false
set_option linter.unusedSimpArgs false
namespace Go.Proofs.Ytleadjkndciniaa
open Go.ChangeShapes Go.WideShapes Go.ChangeAt Go.RowKit

set_option maxRecDepth 100000 in
set_option maxHeartbeats 8000000 in
theorem lawIsGrayCycle (W : World) (a0 : Option Addr) (len0 cap0 : Nat) (zs0 : List Int) (hz0 : IsRow .i64 W a0 len0 cap0 zs0) (x1 : Int) (hx1 : (Lit.int .i64 x1).wf = true) :
    Calls Try.prog 8 #[.slice a0 len0 cap0, .int .i64 x1] W fun e w' => e = .returned (.bool true) ∧ Below W.heap.size W w' := by
  obtain ⟨l0, hrow0, hin0⟩ := isInts_of hz0
  have hlen0 : len0 = l0.length ∧ len0 ≤ 9223372036854775807 := by
    obtain ⟨a', c', e, h1, h2, _⟩ := hrow0
    injection e with _ e1 _
    rw [intsOf_length] at e1 h1; unfold maxLen at h2; omega
  clear hz0
  have hb1 := bounds_i64 hx1
  by_cases hbig0 : 1048576 < len0
  · go_enter Try.func8, Try.ntmps8
    go_wp2
    go_ret
    exact ⟨rfl, Below.refl _ _⟩
  have hl0 : l0.length ≤ 1048576 := by omega
  have HL0 := Lib.hid hlen0.1
  have hlm0 := hlen0.2
  clear hlen0
  have HI0 := Lib.hid hin0
  clear hin0
  have HRow0 := Lib.hid hrow0
  clear hrow0
  have HB1 := Lib.hid hb1
  clear hb1
  go_enter Try.func8, Try.ntmps8
  go_wp2_with fail
  refine (toIntS_any _ l0 _ HRow0.out hl0).mono ?_
  rintro e w1 ⟨vs0, rfl, os0_1, c1⟩
  have s1 := c1.size
  have b1 := c1
  have Ls0 := Lib.hid (fun k hk => os0_1.lt k hk)
  go_wp2_with fail
  refine (specIsGrayCycle_any vs0 l0 x1 w1 (RowAt.of_owns os0_1) hl0 HI0.out HB1.out).mono ?_
  rintro e w2 ⟨rfl, c2⟩
  have s2 := c2.size
  have b2 := b1.trans (c2.mono b1.size)
  have os0_2 := owns_below os0_1 c2
  clear os0_1
  go_wp2_with fail
  refine (toIntS_any _ l0 _ (HRow0.out.below b2) hl0).mono ?_
  rintro e w3 ⟨vx0, rfl, ox0_3, c3⟩
  have s3 := c3.size
  have b3 := b2.trans (c3.mono b2.size)
  have os0_3 := owns_below os0_2 c3
  clear os0_2
  have Lx0 := Lib.hid (fun k hk => ox0_3.lt k hk)
  go_wp2_with fail
  refine (implIsGrayCycle_any vx0 l0 x1 w3 (RowAt.of_owns ox0_3) hl0 HI0.out HB1.out).mono ?_
  rintro e w4 ⟨rfl, c4⟩
  have s4 := c4.size
  have b4 := b3.trans (c4.mono b3.size)
  have os0_4 := owns_below os0_3 c4
  clear os0_3
  have ox0_4 := owns_below ox0_3 c4
  clear ox0_3
  go_wp2_with fail
  refine (toIntS_any _ l0 _ (HRow0.out.below b4) hl0).mono ?_
  rintro e w5 ⟨vy0, rfl, oy0_5, c5⟩
  have s5 := c5.size
  have b5 := b4.trans (c5.mono b4.size)
  have os0_5 := owns_below os0_4 c5
  clear os0_4
  have ox0_5 := owns_below ox0_4 c5
  clear ox0_4
  have Ly0 := Lib.hid (fun k hk => oy0_5.lt k hk)
  go_wp2_with fail
  refine (eqIntS_any _ _ l0 l0 _ (RowAt.of_owns ox0_5) (RowAt.of_owns oy0_5)).mono ?_
  rintro e w6 ⟨rfl, c6⟩
  have s6 := c6.size
  have b6 := b5.trans (c6.mono b5.size)
  have os0_6 := owns_below os0_5 c6
  clear os0_5
  have ox0_6 := owns_below ox0_5 c6
  clear ox0_5
  have oy0_6 := owns_below oy0_5 c6
  clear oy0_5
  go_wp2
  go_ret
  exact ⟨rfl, b6⟩

end Go.Proofs.Ytleadjkndciniaa
