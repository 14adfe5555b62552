/- The law on MixedCarries: the program answers as the model, writes into no argument, and its answer owns its memory. -/
import Derived.Test.YtiemhhkoegkleaaMxNext
import Derived.Test.YtiemhhkoegkleaaMxI5
set_option linter.unusedVariables false
set_option linter.unusedSimpArgs false
set_option maxRecDepth 100000
namespace Go.Proofs.Ytiemhhkoegkleaa
open Go.ChangeShapes Go.WideShapes Go.ChangeAt Go.RowKit

set_option maxRecDepth 100000 in
set_option maxHeartbeats 8000000 in
theorem lawMixedCarries (W : World) (a0 : Option Addr) (len0 cap0 : Nat) (zs0 : List Int) (hz0 : IsRow .i64 W a0 len0 cap0 zs0) (a1 : Option Addr) (len1 cap1 : Nat) (zs1 : List Int) (hz1 : IsRow .i64 W a1 len1 cap1 zs1) (a2 : Option Addr) (len2 cap2 : Nat) (zs2 : List Int) (hz2 : IsRow .i64 W a2 len2 cap2 zs2) :
    Calls Try.prog 7 #[.slice a0 len0 cap0, .slice a1 len1 cap1, .slice a2 len2 cap2] W fun e w' => e = .returned (.bool true) ∧ Below W.heap.size W w' := by
  obtain ⟨l0, hrow0, hin0⟩ := isInts_of hz0
  have hlen0 : len0 = l0.length ∧ len0 ≤ 9223372036854775807 := by
    obtain ⟨a', c', e, h1, h2, _⟩ := hrow0
    injection e with _ e1 _
    rw [intsOf_length] at e1 h1; unfold maxLen at h2; omega
  clear hz0
  obtain ⟨l1, hrow1, hin1⟩ := isInts_of hz1
  have hlen1 : len1 = l1.length ∧ len1 ≤ 9223372036854775807 := by
    obtain ⟨a', c', e, h1, h2, _⟩ := hrow1
    injection e with _ e1 _
    rw [intsOf_length] at e1 h1; unfold maxLen at h2; omega
  clear hz1
  obtain ⟨l2, hrow2, hin2⟩ := isInts_of hz2
  have hlen2 : len2 = l2.length ∧ len2 ≤ 9223372036854775807 := by
    obtain ⟨a', c', e, h1, h2, _⟩ := hrow2
    injection e with _ e1 _
    rw [intsOf_length] at e1 h1; unfold maxLen at h2; omega
  clear hz2
  by_cases hbig0 : 1048576 < len0
  · go_enter Try.func7, Try.ntmps7
    go_wp2
    go_ret
    exact ⟨rfl, Below.refl _ _⟩
  by_cases hbig1 : 1048576 < len1
  · go_enter Try.func7, Try.ntmps7
    go_wp2
    go_ret
    exact ⟨rfl, Below.refl _ _⟩
  by_cases hbig2 : 1048576 < len2
  · go_enter Try.func7, Try.ntmps7
    go_wp2
    go_ret
    exact ⟨rfl, Below.refl _ _⟩
  have hl0 : l0.length ≤ 1048576 := by omega
  have hl1 : l1.length ≤ 1048576 := by omega
  have hl2 : l2.length ≤ 1048576 := by omega
  have HL0 := Lib.hid hlen0.1
  have hlm0 := hlen0.2
  clear hlen0
  have HL1 := Lib.hid hlen1.1
  have hlm1 := hlen1.2
  clear hlen1
  have HL2 := Lib.hid hlen2.1
  have hlm2 := hlen2.2
  clear hlen2
  have HI0 := Lib.hid hin0
  clear hin0
  have HRow0 := Lib.hid hrow0
  clear hrow0
  have HI1 := Lib.hid hin1
  clear hin1
  have HRow1 := Lib.hid hrow1
  clear hrow1
  have HI2 := Lib.hid hin2
  clear hin2
  have HRow2 := Lib.hid hrow2
  clear hrow2
  go_enter Try.func7, Try.ntmps7
  go_wp2_with fail
  refine (toIntS_any _ l0 _ HRow0.out hl0).mono ?_
  rintro e w1 ⟨vs0, rfl, os0_1, c1⟩
  have s1 := c1.size
  have b1 := c1
  have Ls0 := Lib.hid (fun k hk => os0_1.lt k hk)
  go_wp2_with fail
  refine (toIntS_any _ l1 _ (HRow1.out.below b1) hl1).mono ?_
  rintro e w2 ⟨vs1, rfl, os1_2, c2⟩
  have s2 := c2.size
  have b2 := b1.trans (c2.mono b1.size)
  have os0_2 := owns_below os0_1 c2
  clear os0_1
  have Ls1 := Lib.hid (fun k hk => os1_2.lt k hk)
  go_wp2_with fail
  refine (toIntS_any _ l2 _ (HRow2.out.below b2) hl2).mono ?_
  rintro e w3 ⟨vs2, rfl, os2_3, c3⟩
  have s3 := c3.size
  have b3 := b2.trans (c3.mono b2.size)
  have os0_3 := owns_below os0_2 c3
  clear os0_2
  have os1_3 := owns_below os1_2 c3
  clear os1_2
  have Ls2 := Lib.hid (fun k hk => os2_3.lt k hk)
  go_wp2_with fail
  refine (specMixedCarries_any vs0 l0 vs1 l1 vs2 l2 w3 (RowAt.of_owns os0_3) hl0 HI0.out (RowAt.of_owns os1_3) hl1 HI1.out (RowAt.of_owns os2_3) hl2 HI2.out).mono ?_
  rintro e w4 ⟨rfl, c4⟩
  have s4 := c4.size
  have b4 := b3.trans (c4.mono b3.size)
  have os0_4 := owns_below os0_3 c4
  clear os0_3
  have os1_4 := owns_below os1_3 c4
  clear os1_3
  have os2_4 := owns_below os2_3 c4
  clear os2_3
  go_wp2_with fail
  refine (toIntS_any _ l0 _ (HRow0.out.below b4) hl0).mono ?_
  rintro e w5 ⟨vx0, rfl, ox0_5, c5⟩
  have s5 := c5.size
  have b5 := b4.trans (c5.mono b4.size)
  have os0_5 := owns_below os0_4 c5
  clear os0_4
  have os1_5 := owns_below os1_4 c5
  clear os1_4
  have os2_5 := owns_below os2_4 c5
  clear os2_4
  have Lx0 := Lib.hid (fun k hk => ox0_5.lt k hk)
  go_wp2_with fail
  refine (toIntS_any _ l1 _ (HRow1.out.below b5) hl1).mono ?_
  rintro e w6 ⟨vx1, rfl, ox1_6, c6⟩
  have s6 := c6.size
  have b6 := b5.trans (c6.mono b5.size)
  have os0_6 := owns_below os0_5 c6
  clear os0_5
  have os1_6 := owns_below os1_5 c6
  clear os1_5
  have os2_6 := owns_below os2_5 c6
  clear os2_5
  have ox0_6 := owns_below ox0_5 c6
  clear ox0_5
  have Lx1 := Lib.hid (fun k hk => ox1_6.lt k hk)
  go_wp2_with fail
  refine (toIntS_any _ l2 _ (HRow2.out.below b6) hl2).mono ?_
  rintro e w7 ⟨vx2, rfl, ox2_7, c7⟩
  have s7 := c7.size
  have b7 := b6.trans (c7.mono b6.size)
  have os0_7 := owns_below os0_6 c7
  clear os0_6
  have os1_7 := owns_below os1_6 c7
  clear os1_6
  have os2_7 := owns_below os2_6 c7
  clear os2_6
  have ox0_7 := owns_below ox0_6 c7
  clear ox0_6
  have ox1_7 := owns_below ox1_6 c7
  clear ox1_6
  have Lx2 := Lib.hid (fun k hk => ox2_7.lt k hk)
  go_wp2_with fail
  refine (implMixedCarries_any vx0 l0 vx1 l1 vx2 l2 w7 (RowAt.of_owns ox0_7) hl0 HI0.out (RowAt.of_owns ox1_7) hl1 HI1.out (RowAt.of_owns ox2_7) hl2 HI2.out).mono ?_
  rintro e w8 ⟨rfl, c8⟩
  have s8 := c8.size
  have b8 := b7.trans (c8.mono b7.size)
  have os0_8 := owns_below os0_7 c8
  clear os0_7
  have os1_8 := owns_below os1_7 c8
  clear os1_7
  have os2_8 := owns_below os2_7 c8
  clear os2_7
  have ox0_8 := owns_below ox0_7 c8
  clear ox0_7
  have ox1_8 := owns_below ox1_7 c8
  clear ox1_7
  have ox2_8 := owns_below ox2_7 c8
  clear ox2_7
  go_wp2_with fail
  refine (toIntS_any _ l0 _ (HRow0.out.below b8) hl0).mono ?_
  rintro e w9 ⟨vy0, rfl, oy0_9, c9⟩
  have s9 := c9.size
  have b9 := b8.trans (c9.mono b8.size)
  have os0_9 := owns_below os0_8 c9
  clear os0_8
  have os1_9 := owns_below os1_8 c9
  clear os1_8
  have os2_9 := owns_below os2_8 c9
  clear os2_8
  have ox0_9 := owns_below ox0_8 c9
  clear ox0_8
  have ox1_9 := owns_below ox1_8 c9
  clear ox1_8
  have ox2_9 := owns_below ox2_8 c9
  clear ox2_8
  have Ly0 := Lib.hid (fun k hk => oy0_9.lt k hk)
  go_wp2_with fail
  refine (eqIntS_any _ _ l0 l0 _ (RowAt.of_owns ox0_9) (RowAt.of_owns oy0_9)).mono ?_
  rintro e w10 ⟨rfl, c10⟩
  have s10 := c10.size
  have b10 := b9.trans (c10.mono b9.size)
  have os0_10 := owns_below os0_9 c10
  clear os0_9
  have os1_10 := owns_below os1_9 c10
  clear os1_9
  have os2_10 := owns_below os2_9 c10
  clear os2_9
  have ox0_10 := owns_below ox0_9 c10
  clear ox0_9
  have ox1_10 := owns_below ox1_9 c10
  clear ox1_9
  have ox2_10 := owns_below ox2_9 c10
  clear ox2_9
  have oy0_10 := owns_below oy0_9 c10
  clear oy0_9
  go_wp2_with fail
  refine (toIntS_any _ l1 _ (HRow1.out.below b10) hl1).mono ?_
  rintro e w11 ⟨vy1, rfl, oy1_11, c11⟩
  have s11 := c11.size
  have b11 := b10.trans (c11.mono b10.size)
  have os0_11 := owns_below os0_10 c11
  clear os0_10
  have os1_11 := owns_below os1_10 c11
  clear os1_10
  have os2_11 := owns_below os2_10 c11
  clear os2_10
  have ox0_11 := owns_below ox0_10 c11
  clear ox0_10
  have ox1_11 := owns_below ox1_10 c11
  clear ox1_10
  have ox2_11 := owns_below ox2_10 c11
  clear ox2_10
  have oy0_11 := owns_below oy0_10 c11
  clear oy0_10
  have Ly1 := Lib.hid (fun k hk => oy1_11.lt k hk)
  go_wp2_with fail
  refine (eqIntS_any _ _ l1 l1 _ (RowAt.of_owns ox1_11) (RowAt.of_owns oy1_11)).mono ?_
  rintro e w12 ⟨rfl, c12⟩
  have s12 := c12.size
  have b12 := b11.trans (c12.mono b11.size)
  have os0_12 := owns_below os0_11 c12
  clear os0_11
  have os1_12 := owns_below os1_11 c12
  clear os1_11
  have os2_12 := owns_below os2_11 c12
  clear os2_11
  have ox0_12 := owns_below ox0_11 c12
  clear ox0_11
  have ox1_12 := owns_below ox1_11 c12
  clear ox1_11
  have ox2_12 := owns_below ox2_11 c12
  clear ox2_11
  have oy0_12 := owns_below oy0_11 c12
  clear oy0_11
  have oy1_12 := owns_below oy1_11 c12
  clear oy1_11
  go_wp2_with fail
  refine (toIntS_any _ l2 _ (HRow2.out.below b12) hl2).mono ?_
  rintro e w13 ⟨vy2, rfl, oy2_13, c13⟩
  have s13 := c13.size
  have b13 := b12.trans (c13.mono b12.size)
  have os0_13 := owns_below os0_12 c13
  clear os0_12
  have os1_13 := owns_below os1_12 c13
  clear os1_12
  have os2_13 := owns_below os2_12 c13
  clear os2_12
  have ox0_13 := owns_below ox0_12 c13
  clear ox0_12
  have ox1_13 := owns_below ox1_12 c13
  clear ox1_12
  have ox2_13 := owns_below ox2_12 c13
  clear ox2_12
  have oy0_13 := owns_below oy0_12 c13
  clear oy0_12
  have oy1_13 := owns_below oy1_12 c13
  clear oy1_12
  have Ly2 := Lib.hid (fun k hk => oy2_13.lt k hk)
  go_wp2_with fail
  refine (eqIntS_any _ _ l2 l2 _ (RowAt.of_owns ox2_13) (RowAt.of_owns oy2_13)).mono ?_
  rintro e w14 ⟨rfl, c14⟩
  have s14 := c14.size
  have b14 := b13.trans (c14.mono b13.size)
  have os0_14 := owns_below os0_13 c14
  clear os0_13
  have os1_14 := owns_below os1_13 c14
  clear os1_13
  have os2_14 := owns_below os2_13 c14
  clear os2_13
  have ox0_14 := owns_below ox0_13 c14
  clear ox0_13
  have ox1_14 := owns_below ox1_13 c14
  clear ox1_13
  have ox2_14 := owns_below ox2_13 c14
  clear ox2_13
  have oy0_14 := owns_below oy0_13 c14
  clear oy0_13
  have oy1_14 := owns_below oy1_13 c14
  clear oy1_13
  have oy2_14 := owns_below oy2_13 c14
  clear oy2_13
  go_wp2
  go_ret
  exact ⟨rfl, b14⟩

end Go.Proofs.Ytiemhhkoegkleaa
