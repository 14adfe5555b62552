/- The law on FromGrayDigits: the program answers as the model, writes into no argument, and its answer owns its memory. -/
import Derived.Test.YtleadjkndciniaaGrBack
import Derived.Test.YtleadjkndciniaaGrI5
import Derived.Laws.Bits64b
set_option linter.unusedVariables false
set_option linter.unusedSimpArgs false
namespace Go.Proofs.Ytleadjkndciniaa
open Go.ChangeShapes Go.WideShapes Go.ChangeAt Go.RowKit

set_option maxRecDepth 100000 in
set_option maxHeartbeats 8000000 in
theorem lawFromGrayDigits (W : World) (a0 : Option Addr) (len0 cap0 : Nat) (zs0 : List Int) (hz0 : IsRow .i64 W a0 len0 cap0 zs0) (a1 : Option Addr) (len1 cap1 : Nat) (zs1 : List Int) (hz1 : IsRow .i64 W a1 len1 cap1 zs1) :
    Calls Try.prog 6 #[.slice a0 len0 cap0, .slice a1 len1 cap1] W fun e w' => e = .returned (.bool true) ∧ Below W.heap.size W w' := by
  obtain ⟨l0, hrow0, hin0⟩ := isInts_of hz0
  have hlen0 : len0 = l0.length ∧ len0 ≤ 9223372036854775807 := by
    obtain ⟨a', c', e, h1, h2, _⟩ := hrow0
    injection e with _ e1 _
    rw [intsOf_length] at e1 h1; unfold maxLen at h2; omega
  clear hz0
  obtain ⟨l1, hrow1, hin1⟩ := isInts_of hz1
  have hlen1 : len1 = l1.length ∧ len1 ≤ 9223372036854775807 := by
    obtain ⟨a', c', e, h1, h2, _⟩ := hrow1
    injection e with _ e1 _
    rw [intsOf_length] at e1 h1; unfold maxLen at h2; omega
  clear hz1
  by_cases hbig0 : 1048576 < len0
  · go_enter Try.func6, Try.ntmps6
    go_wp2
    go_ret
    exact ⟨rfl, Below.refl _ _⟩
  by_cases hbig1 : 1048576 < len1
  · go_enter Try.func6, Try.ntmps6
    go_wp2
    go_ret
    exact ⟨rfl, Below.refl _ _⟩
  have hl0 : l0.length ≤ 1048576 := by omega
  have hl1 : l1.length ≤ 1048576 := by omega
  have HL0 := Lib.hid hlen0.1
  have hlm0 := hlen0.2
  clear hlen0
  have HL1 := Lib.hid hlen1.1
  have hlm1 := hlen1.2
  clear hlen1
  have HI0 := Lib.hid hin0
  clear hin0
  have HRow0 := Lib.hid hrow0
  clear hrow0
  have HI1 := Lib.hid hin1
  clear hin1
  have HRow1 := Lib.hid hrow1
  clear hrow1
  go_enter Try.func6, Try.ntmps6
  go_wp2_with fail
  refine (toIntS_any _ l0 _ HRow0.out hl0).mono ?_
  rintro e w1 ⟨vs0, rfl, os0_1, c1⟩
  have s1 := c1.size
  have b1 := c1
  have Ls0 := Lib.hid (fun k hk => os0_1.lt k hk)
  go_wp2_with fail
  refine (toIntS_any _ l1 _ (HRow1.out.below b1) hl1).mono ?_
  rintro e w2 ⟨vs1, rfl, os1_2, c2⟩
  have s2 := c2.size
  have b2 := b1.trans (c2.mono b1.size)
  have os0_2 := owns_below os0_1 c2
  clear os0_1
  have Ls1 := Lib.hid (fun k hk => os1_2.lt k hk)
  go_wp2_with fail
  refine (specFromGrayDigits_any vs0 l0 vs1 l1 w2 (RowAt.of_owns os0_2) hl0 HI0.out (RowAt.of_owns os1_2) hl1 HI1.out).mono ?_
  rintro e w3 ⟨rfl, c3⟩
  have s3 := c3.size
  have b3 := b2.trans (c3.mono b2.size)
  have os0_3 := owns_below os0_2 c3
  clear os0_2
  have os1_3 := owns_below os1_2 c3
  clear os1_2
  go_wp2_with fail
  refine (toIntS_any _ l0 _ (HRow0.out.below b3) hl0).mono ?_
  rintro e w4 ⟨vx0, rfl, ox0_4, c4⟩
  have s4 := c4.size
  have b4 := b3.trans (c4.mono b3.size)
  have os0_4 := owns_below os0_3 c4
  clear os0_3
  have os1_4 := owns_below os1_3 c4
  clear os1_3
  have Lx0 := Lib.hid (fun k hk => ox0_4.lt k hk)
  go_wp2_with fail
  refine (toIntS_any _ l1 _ (HRow1.out.below b4) hl1).mono ?_
  rintro e w5 ⟨vx1, rfl, ox1_5, c5⟩
  have s5 := c5.size
  have b5 := b4.trans (c5.mono b4.size)
  have os0_5 := owns_below os0_4 c5
  clear os0_4
  have os1_5 := owns_below os1_4 c5
  clear os1_4
  have ox0_5 := owns_below ox0_4 c5
  clear ox0_4
  have Lx1 := Lib.hid (fun k hk => ox1_5.lt k hk)
  go_wp2_with fail
  refine (implFromGrayDigits_any vx0 l0 vx1 l1 w5 (RowAt.of_owns ox0_5) hl0 HI0.out (RowAt.of_owns ox1_5) hl1 HI1.out).mono ?_
  rintro e w6 ⟨rfl, c6⟩
  have s6 := c6.size
  have b6 := b5.trans (c6.mono b5.size)
  have os0_6 := owns_below os0_5 c6
  clear os0_5
  have os1_6 := owns_below os1_5 c6
  clear os1_5
  have ox0_6 := owns_below ox0_5 c6
  clear ox0_5
  have ox1_6 := owns_below ox1_5 c6
  clear ox1_5
  go_wp2_with fail
  refine (toIntS_any _ l0 _ (HRow0.out.below b6) hl0).mono ?_
  rintro e w7 ⟨vy0, rfl, oy0_7, c7⟩
  have s7 := c7.size
  have b7 := b6.trans (c7.mono b6.size)
  have os0_7 := owns_below os0_6 c7
  clear os0_6
  have os1_7 := owns_below os1_6 c7
  clear os1_6
  have ox0_7 := owns_below ox0_6 c7
  clear ox0_6
  have ox1_7 := owns_below ox1_6 c7
  clear ox1_6
  have Ly0 := Lib.hid (fun k hk => oy0_7.lt k hk)
  go_wp2_with fail
  refine (eqIntS_any _ _ l0 l0 _ (RowAt.of_owns ox0_7) (RowAt.of_owns oy0_7)).mono ?_
  rintro e w8 ⟨rfl, c8⟩
  have s8 := c8.size
  have b8 := b7.trans (c8.mono b7.size)
  have os0_8 := owns_below os0_7 c8
  clear os0_7
  have os1_8 := owns_below os1_7 c8
  clear os1_7
  have ox0_8 := owns_below ox0_7 c8
  clear ox0_7
  have ox1_8 := owns_below ox1_7 c8
  clear ox1_7
  have oy0_8 := owns_below oy0_7 c8
  clear oy0_7
  go_wp2_with fail
  refine (toIntS_any _ l1 _ (HRow1.out.below b8) hl1).mono ?_
  rintro e w9 ⟨vy1, rfl, oy1_9, c9⟩
  have s9 := c9.size
  have b9 := b8.trans (c9.mono b8.size)
  have os0_9 := owns_below os0_8 c9
  clear os0_8
  have os1_9 := owns_below os1_8 c9
  clear os1_8
  have ox0_9 := owns_below ox0_8 c9
  clear ox0_8
  have ox1_9 := owns_below ox1_8 c9
  clear ox1_8
  have oy0_9 := owns_below oy0_8 c9
  clear oy0_8
  have Ly1 := Lib.hid (fun k hk => oy1_9.lt k hk)
  go_wp2_with fail
  refine (eqIntS_any _ _ l1 l1 _ (RowAt.of_owns ox1_9) (RowAt.of_owns oy1_9)).mono ?_
  rintro e w10 ⟨rfl, c10⟩
  have s10 := c10.size
  have b10 := b9.trans (c10.mono b9.size)
  have os0_10 := owns_below os0_9 c10
  clear os0_9
  have os1_10 := owns_below os1_9 c10
  clear os1_9
  have ox0_10 := owns_below ox0_9 c10
  clear ox0_9
  have ox1_10 := owns_below ox1_9 c10
  clear ox1_9
  have oy0_10 := owns_below oy0_9 c10
  clear oy0_9
  have oy1_10 := owns_below oy1_9 c10
  clear oy1_9
  go_wp2
  go_ret
  exact ⟨rfl, b10⟩

end Go.Proofs.Ytleadjkndciniaa
