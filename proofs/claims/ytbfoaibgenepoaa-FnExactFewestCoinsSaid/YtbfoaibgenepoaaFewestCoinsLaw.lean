/- The law on FewestCoins: the program answers as the model, writes into no argument, and its answer owns its memory. -/
import Derived.Test.YtbfoaibgenepoaaCoI4
import Derived.Test.YtbfoaibgenepoaaCoI7
set_option linter.unusedVariables false
set_option linter.unusedSimpArgs false
namespace Go.Proofs.Ytbfoaibgenepoaa
open Go.ChangeShapes Go.WideShapes Go.ChangeAt Go.RowKit

set_option maxRecDepth 100000 in
set_option maxHeartbeats 8000000 in
theorem lawFewestCoins (W : World) (x0 : Int) (hx0 : (Lit.int .i64 x0).wf = true) (a1 : Option Addr) (len1 cap1 : Nat) (zs1 : List Int) (hz1 : IsRow .i64 W a1 len1 cap1 zs1) :
    Calls Try.prog 8 #[.int .i64 x0, .slice a1 len1 cap1] W fun e w' => e = .returned (.bool true) ∧ Below W.heap.size W w' := by
  have hb0 := bounds_i64 hx0
  obtain ⟨l1, hrow1, hin1⟩ := isInts_of hz1
  have hlen1 : len1 = l1.length ∧ len1 ≤ 9223372036854775807 := by
    obtain ⟨a', c', e, h1, h2, _⟩ := hrow1
    injection e with _ e1 _
    rw [intsOf_length] at e1 h1; unfold maxLen at h2; omega
  clear hz1
  by_cases hbig1 : 1048576 < len1
  · go_enter Try.func8, Try.ntmps8
    go_wp2
    go_ret
    exact ⟨rfl, Below.refl _ _⟩
  have hl1 : l1.length ≤ 1048576 := by omega
  have HL1 := Lib.hid hlen1.1
  have hlm1 := hlen1.2
  clear hlen1
  have HB0 := Lib.hid hb0
  clear hb0
  have HI1 := Lib.hid hin1
  clear hin1
  have HRow1 := Lib.hid hrow1
  clear hrow1
  go_enter Try.func8, Try.ntmps8
  go_wp2_with fail
  refine (toIntS_any _ l1 _ HRow1.out hl1).mono ?_
  rintro e w1 ⟨vs1, rfl, os1_1, c1⟩
  have s1 := c1.size
  have b1 := c1
  have Ls1 := Lib.hid (fun k hk => os1_1.lt k hk)
  go_wp2_with fail
  refine (specFewestCoins_any x0 vs1 l1 w1 HB0.out (RowAt.of_owns os1_1) hl1 HI1.out).mono ?_
  rintro e w2 ⟨rfl, c2⟩
  have s2 := c2.size
  have b2 := b1.trans (c2.mono b1.size)
  have os1_2 := owns_below os1_1 c2
  clear os1_1
  go_wp2_with fail
  refine (toIntS_any _ l1 _ (HRow1.out.below b2) hl1).mono ?_
  rintro e w3 ⟨vx1, rfl, ox1_3, c3⟩
  have s3 := c3.size
  have b3 := b2.trans (c3.mono b2.size)
  have os1_3 := owns_below os1_2 c3
  clear os1_2
  have Lx1 := Lib.hid (fun k hk => ox1_3.lt k hk)
  go_wp2_with fail
  refine (implFewestCoins_any x0 vx1 l1 w3 HB0.out (RowAt.of_owns ox1_3) hl1 HI1.out).mono ?_
  rintro e w4 ⟨rfl, c4⟩
  have s4 := c4.size
  have b4 := b3.trans (c4.mono b3.size)
  have os1_4 := owns_below os1_3 c4
  clear os1_3
  have ox1_4 := owns_below ox1_3 c4
  clear ox1_3
  go_wp2_with fail
  refine (toIntS_any _ l1 _ (HRow1.out.below b4) hl1).mono ?_
  rintro e w5 ⟨vy1, rfl, oy1_5, c5⟩
  have s5 := c5.size
  have b5 := b4.trans (c5.mono b4.size)
  have os1_5 := owns_below os1_4 c5
  clear os1_4
  have ox1_5 := owns_below ox1_4 c5
  clear ox1_4
  have Ly1 := Lib.hid (fun k hk => oy1_5.lt k hk)
  go_wp2_with fail
  refine (eqIntS_any _ _ l1 l1 _ (RowAt.of_owns ox1_5) (RowAt.of_owns oy1_5)).mono ?_
  rintro e w6 ⟨rfl, c6⟩
  have s6 := c6.size
  have b6 := b5.trans (c6.mono b5.size)
  have os1_6 := owns_below os1_5 c6
  clear os1_5
  have ox1_6 := owns_below ox1_5 c6
  clear ox1_5
  have oy1_6 := owns_below oy1_5 c6
  clear oy1_5
  go_wp2
  go_ret
  exact ⟨rfl, b6⟩

end Go.Proofs.Ytbfoaibgenepoaa
