/- The law on BalancedAdd: the program answers as the model, writes into no argument, and its answer owns its memory. -/
import Derived.Test.YtdflpocnfodbhacBaAddI
import Derived.Test.YtdflpocnfodbhacBldB
set_option linter.unusedVariables false
set_option linter.unusedSimpArgs false
set_option maxRecDepth 100000
namespace Go.Proofs.Ytdflpocnfodbhac
open Go.ChangeShapes Go.WideShapes Go.ChangeAt Go.RowKit

set_option maxRecDepth 100000 in
set_option maxHeartbeats 8000000 in
theorem lawBalancedAdd (W : World) (a0 : Option Addr) (len0 cap0 : Nat) (zs0 : List Int) (hz0 : IsRow .i64 W a0 len0 cap0 zs0) (a1 : Option Addr) (len1 cap1 : Nat) (zs1 : List Int) (hz1 : IsRow .i64 W a1 len1 cap1 zs1) (x2 : Int) (hx2 : (Lit.int .i64 x2).wf = true) :
    Calls Try.prog 3 #[.slice a0 len0 cap0, .slice a1 len1 cap1, .int .i64 x2] W fun e w' => e = .returned (.bool true) ∧ Below W.heap.size W w' := by
  obtain ⟨l0, hrow0, hin0⟩ := isInts_of hz0
  have hlen0 : len0 = l0.length ∧ len0 ≤ 9223372036854775807 := by
    obtain ⟨a', c', e, h1, h2, _⟩ := hrow0
    injection e with _ e1 _
    rw [intsOf_length] at e1 h1; unfold maxLen at h2; omega
  clear hz0
  obtain ⟨l1, hrow1, hin1⟩ := isInts_of hz1
  have hlen1 : len1 = l1.length ∧ len1 ≤ 9223372036854775807 := by
    obtain ⟨a', c', e, h1, h2, _⟩ := hrow1
    injection e with _ e1 _
    rw [intsOf_length] at e1 h1; unfold maxLen at h2; omega
  clear hz1
  have hb2 := bounds_i64 hx2
  by_cases hbig0 : 1048576 < len0
  · go_enter Try.func3, Try.ntmps3
    go_wp2
    go_ret
    exact ⟨rfl, Below.refl _ _⟩
  by_cases hbig1 : 1048576 < len1
  · go_enter Try.func3, Try.ntmps3
    go_wp2
    go_ret
    exact ⟨rfl, Below.refl _ _⟩
  have hl0 : l0.length ≤ 1048576 := by omega
  have hl1 : l1.length ≤ 1048576 := by omega
  have hn0 := rBalancedAdd0_len l0 l1 x2
  obtain ⟨R0, hR0⟩ : ∃ R, R = rBalancedAdd0 l0 l1 x2 := ⟨_, rfl⟩
  rw [← hR0] at hn0
  have HL0 := Lib.hid hlen0.1
  have hlm0 := hlen0.2
  clear hlen0
  have HL1 := Lib.hid hlen1.1
  have hlm1 := hlen1.2
  clear hlen1
  have HI0 := Lib.hid hin0
  clear hin0
  have HRow0 := Lib.hid hrow0
  clear hrow0
  have HI1 := Lib.hid hin1
  clear hin1
  have HRow1 := Lib.hid hrow1
  clear hrow1
  have HB2 := Lib.hid hb2
  clear hb2
  have HR0 := Lib.hid hR0
  clear hR0
  go_enter Try.func3, Try.ntmps3
  go_wp2_with fail
  refine (toIntS_any _ l0 _ HRow0.out hl0).mono ?_
  rintro e w1 ⟨vs0, rfl, os0_1, c1⟩
  have s1 := c1.size
  have b1 := c1
  have Ls0 := Lib.hid (fun k hk => os0_1.lt k hk)
  go_wp2_with fail
  refine (toIntS_any _ l1 _ (HRow1.out.below b1) hl1).mono ?_
  rintro e w2 ⟨vs1, rfl, os1_2, c2⟩
  have s2 := c2.size
  have b2 := b1.trans (c2.mono b1.size)
  have os0_2 := owns_below os0_1 c2
  clear os0_1
  have Ls1 := Lib.hid (fun k hk => os1_2.lt k hk)
  go_wp2_with fail
  have CC3 := Lib.hid (specBalancedAdd_any vs0 l0 vs1 l1 x2 w2 (RowAt.of_owns os0_2) hl0 HI0.out (RowAt.of_owns os1_2) hl1 HI1.out HB2.out)
  rw [← HR0.out] at CC3
  refine CC3.out.mono ?_
  rintro e w3 ⟨vp0, rfl, op0_3, c3⟩
  have s3 := c3.size
  have b3 := b2.trans (c3.mono b2.size)
  have os0_3 := owns_below os0_2 c3
  clear os0_2
  have os1_3 := owns_below os1_2 c3
  clear os1_2
  have Lp0 := Lib.hid (fun k hk => op0_3.lt k hk)
  go_wp2_with fail
  refine (toIntS_any _ l0 _ (HRow0.out.below b3) hl0).mono ?_
  rintro e w4 ⟨vx0, rfl, ox0_4, c4⟩
  have s4 := c4.size
  have b4 := b3.trans (c4.mono b3.size)
  have os0_4 := owns_below os0_3 c4
  clear os0_3
  have os1_4 := owns_below os1_3 c4
  clear os1_3
  have op0_4 := owns_below op0_3 c4
  clear op0_3
  have Lx0 := Lib.hid (fun k hk => ox0_4.lt k hk)
  go_wp2_with fail
  refine (toIntS_any _ l1 _ (HRow1.out.below b4) hl1).mono ?_
  rintro e w5 ⟨vx1, rfl, ox1_5, c5⟩
  have s5 := c5.size
  have b5 := b4.trans (c5.mono b4.size)
  have os0_5 := owns_below os0_4 c5
  clear os0_4
  have os1_5 := owns_below os1_4 c5
  clear os1_4
  have op0_5 := owns_below op0_4 c5
  clear op0_4
  have ox0_5 := owns_below ox0_4 c5
  clear ox0_4
  have Lx1 := Lib.hid (fun k hk => ox1_5.lt k hk)
  go_wp2_with fail
  have CC6 := Lib.hid (implBalancedAdd_any vx0 l0 vx1 l1 x2 w5 (RowAt.of_owns ox0_5) hl0 HI0.out (RowAt.of_owns ox1_5) hl1 HI1.out HB2.out)
  rw [← HR0.out] at CC6
  refine CC6.out.mono ?_
  rintro e w6 ⟨vg0, rfl, og0_6, c6⟩
  have s6 := c6.size
  have b6 := b5.trans (c6.mono b5.size)
  have os0_6 := owns_below os0_5 c6
  clear os0_5
  have os1_6 := owns_below os1_5 c6
  clear os1_5
  have op0_6 := owns_below op0_5 c6
  clear op0_5
  have ox0_6 := owns_below ox0_5 c6
  clear ox0_5
  have ox1_6 := owns_below ox1_5 c6
  clear ox1_5
  have Lg0 := Lib.hid (fun k hk => og0_6.lt k hk)
  go_wp2_with fail
  refine (eqIntS_any _ _ R0 R0 _ (RowAt.of_owns og0_6) (RowAt.of_owns op0_6)).mono ?_
  rintro e w7 ⟨rfl, c7⟩
  have s7 := c7.size
  have b7 := b6.trans (c7.mono b6.size)
  have os0_7 := owns_below os0_6 c7
  clear os0_6
  have os1_7 := owns_below os1_6 c7
  clear os1_6
  have op0_7 := owns_below op0_6 c7
  clear op0_6
  have ox0_7 := owns_below ox0_6 c7
  clear ox0_6
  have ox1_7 := owns_below ox1_6 c7
  clear ox1_6
  have og0_7 := owns_below og0_6 c7
  clear og0_6
  go_wp2_with fail
  refine (toIntS_any _ l0 _ (HRow0.out.below b7) hl0).mono ?_
  rintro e w8 ⟨vy0, rfl, oy0_8, c8⟩
  have s8 := c8.size
  have b8 := b7.trans (c8.mono b7.size)
  have os0_8 := owns_below os0_7 c8
  clear os0_7
  have os1_8 := owns_below os1_7 c8
  clear os1_7
  have op0_8 := owns_below op0_7 c8
  clear op0_7
  have ox0_8 := owns_below ox0_7 c8
  clear ox0_7
  have ox1_8 := owns_below ox1_7 c8
  clear ox1_7
  have og0_8 := owns_below og0_7 c8
  clear og0_7
  have Ly0 := Lib.hid (fun k hk => oy0_8.lt k hk)
  go_wp2_with fail
  refine (eqIntS_any _ _ l0 l0 _ (RowAt.of_owns ox0_8) (RowAt.of_owns oy0_8)).mono ?_
  rintro e w9 ⟨rfl, c9⟩
  have s9 := c9.size
  have b9 := b8.trans (c9.mono b8.size)
  have os0_9 := owns_below os0_8 c9
  clear os0_8
  have os1_9 := owns_below os1_8 c9
  clear os1_8
  have op0_9 := owns_below op0_8 c9
  clear op0_8
  have ox0_9 := owns_below ox0_8 c9
  clear ox0_8
  have ox1_9 := owns_below ox1_8 c9
  clear ox1_8
  have og0_9 := owns_below og0_8 c9
  clear og0_8
  have oy0_9 := owns_below oy0_8 c9
  clear oy0_8
  go_wp2_with fail
  refine (toIntS_any _ l1 _ (HRow1.out.below b9) hl1).mono ?_
  rintro e w10 ⟨vy1, rfl, oy1_10, c10⟩
  have s10 := c10.size
  have b10 := b9.trans (c10.mono b9.size)
  have os0_10 := owns_below os0_9 c10
  clear os0_9
  have os1_10 := owns_below os1_9 c10
  clear os1_9
  have op0_10 := owns_below op0_9 c10
  clear op0_9
  have ox0_10 := owns_below ox0_9 c10
  clear ox0_9
  have ox1_10 := owns_below ox1_9 c10
  clear ox1_9
  have og0_10 := owns_below og0_9 c10
  clear og0_9
  have oy0_10 := owns_below oy0_9 c10
  clear oy0_9
  have Ly1 := Lib.hid (fun k hk => oy1_10.lt k hk)
  go_wp2_with fail
  refine (eqIntS_any _ _ l1 l1 _ (RowAt.of_owns ox1_10) (RowAt.of_owns oy1_10)).mono ?_
  rintro e w11 ⟨rfl, c11⟩
  have s11 := c11.size
  have b11 := b10.trans (c11.mono b10.size)
  have os0_11 := owns_below os0_10 c11
  clear os0_10
  have os1_11 := owns_below os1_10 c11
  clear os1_10
  have op0_11 := owns_below op0_10 c11
  clear op0_10
  have ox0_11 := owns_below ox0_10 c11
  clear ox0_10
  have ox1_11 := owns_below ox1_10 c11
  clear ox1_10
  have og0_11 := owns_below og0_10 c11
  clear og0_10
  have oy0_11 := owns_below oy0_10 c11
  clear oy0_10
  have oy1_11 := owns_below oy1_10 c11
  clear oy1_10
  go_wp2_with fail
  refine (markIntS_any _ _ _ _ _ ox0_11 (1) (by omega) (by omega)).mono ?_
  rintro e w12 ⟨rfl, nx0_12, g12⟩
  have s12 := g12.size
  have os0_12 := owns_far os0_11 g12 (fun k hk hk' => by have p1 := Ls0.out k hk; have p2 := Lx0.out k hk'; omega)
  clear os0_11
  have os1_12 := owns_far os1_11 g12 (fun k hk hk' => by have p1 := Ls1.out k hk; have p2 := Lx0.out k hk'; omega)
  clear os1_11
  have op0_12 := owns_far op0_11 g12 (fun k hk hk' => by have p1 := Lp0.out k hk; have p2 := Lx0.out k hk'; omega)
  clear op0_11
  have ox1_12 := owns_far ox1_11 g12 (fun k hk hk' => by have p1 := Lx1.out k hk; have p2 := Lx0.out k hk'; omega)
  clear ox1_11
  have og0_12 := owns_far og0_11 g12 (fun k hk hk' => by have p1 := Lg0.out k hk; have p2 := Lx0.out k hk'; omega)
  clear og0_11
  have oy0_12 := owns_far oy0_11 g12 (fun k hk hk' => by have p1 := Ly0.out k hk; have p2 := Lx0.out k hk'; omega)
  clear oy0_11
  have oy1_12 := owns_far oy1_11 g12 (fun k hk hk' => by have p1 := Ly1.out k hk; have p2 := Lx0.out k hk'; omega)
  clear oy1_11
  have b12 := b11.grown g12 b11.size (fun k hk => by have p2 := Lx0.out k hk; omega)
  clear ox0_11
  go_wp2_with fail
  refine (markIntS_any _ _ _ _ _ ox1_12 (1 + l0.length) (by omega) (by omega)).mono ?_
  rintro e w13 ⟨rfl, nx1_13, g13⟩
  have s13 := g13.size
  have os0_13 := owns_far os0_12 g13 (fun k hk hk' => by have p1 := Ls0.out k hk; have p2 := Lx1.out k hk'; omega)
  clear os0_12
  have os1_13 := owns_far os1_12 g13 (fun k hk hk' => by have p1 := Ls1.out k hk; have p2 := Lx1.out k hk'; omega)
  clear os1_12
  have op0_13 := owns_far op0_12 g13 (fun k hk hk' => by have p1 := Lp0.out k hk; have p2 := Lx1.out k hk'; omega)
  clear op0_12
  have ox0_13 := owns_far nx0_12 g13 (fun k hk hk' => by have p1 := Lx0.out k hk; have p2 := Lx1.out k hk'; omega)
  clear nx0_12
  have og0_13 := owns_far og0_12 g13 (fun k hk hk' => by have p1 := Lg0.out k hk; have p2 := Lx1.out k hk'; omega)
  clear og0_12
  have oy0_13 := owns_far oy0_12 g13 (fun k hk hk' => by have p1 := Ly0.out k hk; have p2 := Lx1.out k hk'; omega)
  clear oy0_12
  have oy1_13 := owns_far oy1_12 g13 (fun k hk hk' => by have p1 := Ly1.out k hk; have p2 := Lx1.out k hk'; omega)
  clear oy1_12
  have b13 := b12.grown g13 b12.size (fun k hk => by have p2 := Lx1.out k hk; omega)
  clear ox1_12
  go_wp2_with fail
  refine (eqIntS_any _ _ R0 R0 _ (RowAt.of_owns og0_13) (RowAt.of_owns op0_13)).mono ?_
  rintro e w14 ⟨rfl, c14⟩
  have s14 := c14.size
  have b14 := b13.trans (c14.mono b13.size)
  have os0_14 := owns_below os0_13 c14
  clear os0_13
  have os1_14 := owns_below os1_13 c14
  clear os1_13
  have op0_14 := owns_below op0_13 c14
  clear op0_13
  have ox0_14 := owns_below ox0_13 c14
  clear ox0_13
  have ox1_14 := owns_below nx1_13 c14
  clear nx1_13
  have og0_14 := owns_below og0_13 c14
  clear og0_13
  have oy0_14 := owns_below oy0_13 c14
  clear oy0_13
  have oy1_14 := owns_below oy1_13 c14
  clear oy1_13
  go_wp2_with fail
  refine (markIntS_any _ _ _ _ _ og0_14 (1) (by omega) (by omega)).mono ?_
  rintro e w15 ⟨rfl, ng0_15, g15⟩
  have s15 := g15.size
  have os0_15 := owns_far os0_14 g15 (fun k hk hk' => by have p1 := Ls0.out k hk; have p2 := Lg0.out k hk'; omega)
  clear os0_14
  have os1_15 := owns_far os1_14 g15 (fun k hk hk' => by have p1 := Ls1.out k hk; have p2 := Lg0.out k hk'; omega)
  clear os1_14
  have op0_15 := owns_far op0_14 g15 (fun k hk hk' => by have p1 := Lp0.out k hk; have p2 := Lg0.out k hk'; omega)
  clear op0_14
  have ox0_15 := owns_far ox0_14 g15 (fun k hk hk' => by have p1 := Lx0.out k hk; have p2 := Lg0.out k hk'; omega)
  clear ox0_14
  have ox1_15 := owns_far ox1_14 g15 (fun k hk hk' => by have p1 := Lx1.out k hk; have p2 := Lg0.out k hk'; omega)
  clear ox1_14
  have oy0_15 := owns_far oy0_14 g15 (fun k hk hk' => by have p1 := Ly0.out k hk; have p2 := Lg0.out k hk'; omega)
  clear oy0_14
  have oy1_15 := owns_far oy1_14 g15 (fun k hk hk' => by have p1 := Ly1.out k hk; have p2 := Lg0.out k hk'; omega)
  clear oy1_14
  have b15 := b14.grown g15 b14.size (fun k hk => by have p2 := Lg0.out k hk; omega)
  clear og0_14
  go_wp2_with fail
  refine (heldIntS_any _ (1) R0.length _ (RowAt.of_owns ng0_15) (by omega) (by omega)).mono ?_
  rintro e w16 ⟨rfl, c16⟩
  have s16 := c16.size
  have b16 := b15.trans (c16.mono b15.size)
  have os0_16 := owns_below os0_15 c16
  clear os0_15
  have os1_16 := owns_below os1_15 c16
  clear os1_15
  have op0_16 := owns_below op0_15 c16
  clear op0_15
  have ox0_16 := owns_below ox0_15 c16
  clear ox0_15
  have ox1_16 := owns_below ox1_15 c16
  clear ox1_15
  have og0_16 := owns_below ng0_15 c16
  clear ng0_15
  have oy0_16 := owns_below oy0_15 c16
  clear oy0_15
  have oy1_16 := owns_below oy1_15 c16
  clear oy1_15
  go_wp2_with fail
  refine (toIntS_any _ l0 _ (HRow0.out.below b16) hl0).mono ?_
  rintro e w17 ⟨vt0, rfl, ot0_17, c17⟩
  have s17 := c17.size
  have b17 := b16.trans (c17.mono b16.size)
  have os0_17 := owns_below os0_16 c17
  clear os0_16
  have os1_17 := owns_below os1_16 c17
  clear os1_16
  have op0_17 := owns_below op0_16 c17
  clear op0_16
  have ox0_17 := owns_below ox0_16 c17
  clear ox0_16
  have ox1_17 := owns_below ox1_16 c17
  clear ox1_16
  have og0_17 := owns_below og0_16 c17
  clear og0_16
  have oy0_17 := owns_below oy0_16 c17
  clear oy0_16
  have oy1_17 := owns_below oy1_16 c17
  clear oy1_16
  have Lt0 := Lib.hid (fun k hk => ot0_17.lt k hk)
  go_wp2_with fail
  refine (toIntS_any _ l1 _ (HRow1.out.below b17) hl1).mono ?_
  rintro e w18 ⟨vt1, rfl, ot1_18, c18⟩
  have s18 := c18.size
  have b18 := b17.trans (c18.mono b17.size)
  have os0_18 := owns_below os0_17 c18
  clear os0_17
  have os1_18 := owns_below os1_17 c18
  clear os1_17
  have op0_18 := owns_below op0_17 c18
  clear op0_17
  have ox0_18 := owns_below ox0_17 c18
  clear ox0_17
  have ox1_18 := owns_below ox1_17 c18
  clear ox1_17
  have og0_18 := owns_below og0_17 c18
  clear og0_17
  have oy0_18 := owns_below oy0_17 c18
  clear oy0_17
  have oy1_18 := owns_below oy1_17 c18
  clear oy1_17
  have ot0_18 := owns_below ot0_17 c18
  clear ot0_17
  have Lt1 := Lib.hid (fun k hk => ot1_18.lt k hk)
  go_wp2_with fail
  have CC19 := Lib.hid (implBalancedAdd_any vt0 l0 vt1 l1 x2 w18 (RowAt.of_owns ot0_18) hl0 HI0.out (RowAt.of_owns ot1_18) hl1 HI1.out HB2.out)
  rw [← HR0.out] at CC19
  refine CC19.out.mono ?_
  rintro e w19 ⟨vh0, rfl, oh0_19, c19⟩
  have s19 := c19.size
  have b19 := b18.trans (c19.mono b18.size)
  have os0_19 := owns_below os0_18 c19
  clear os0_18
  have os1_19 := owns_below os1_18 c19
  clear os1_18
  have op0_19 := owns_below op0_18 c19
  clear op0_18
  have ox0_19 := owns_below ox0_18 c19
  clear ox0_18
  have ox1_19 := owns_below ox1_18 c19
  clear ox1_18
  have og0_19 := owns_below og0_18 c19
  clear og0_18
  have oy0_19 := owns_below oy0_18 c19
  clear oy0_18
  have oy1_19 := owns_below oy1_18 c19
  clear oy1_18
  have ot0_19 := owns_below ot0_18 c19
  clear ot0_18
  have ot1_19 := owns_below ot1_18 c19
  clear ot1_18
  have Lh0 := Lib.hid (fun k hk => oh0_19.lt k hk)
  go_wp2_with fail
  refine (eqIntS_any _ _ R0 R0 _ (RowAt.of_owns oh0_19) (RowAt.of_owns op0_19)).mono ?_
  rintro e w20 ⟨rfl, c20⟩
  have s20 := c20.size
  have b20 := b19.trans (c20.mono b19.size)
  have os0_20 := owns_below os0_19 c20
  clear os0_19
  have os1_20 := owns_below os1_19 c20
  clear os1_19
  have op0_20 := owns_below op0_19 c20
  clear op0_19
  have ox0_20 := owns_below ox0_19 c20
  clear ox0_19
  have ox1_20 := owns_below ox1_19 c20
  clear ox1_19
  have og0_20 := owns_below og0_19 c20
  clear og0_19
  have oy0_20 := owns_below oy0_19 c20
  clear oy0_19
  have oy1_20 := owns_below oy1_19 c20
  clear oy1_19
  have ot0_20 := owns_below ot0_19 c20
  clear ot0_19
  have ot1_20 := owns_below ot1_19 c20
  clear ot1_19
  have oh0_20 := owns_below oh0_19 c20
  clear oh0_19
  go_wp2_with fail
  refine (heldIntS_any _ (1) R0.length _ (RowAt.of_owns og0_20) (by omega) (by omega)).mono ?_
  rintro e w21 ⟨rfl, c21⟩
  have s21 := c21.size
  have b21 := b20.trans (c21.mono b20.size)
  have os0_21 := owns_below os0_20 c21
  clear os0_20
  have os1_21 := owns_below os1_20 c21
  clear os1_20
  have op0_21 := owns_below op0_20 c21
  clear op0_20
  have ox0_21 := owns_below ox0_20 c21
  clear ox0_20
  have ox1_21 := owns_below ox1_20 c21
  clear ox1_20
  have og0_21 := owns_below og0_20 c21
  clear og0_20
  have oy0_21 := owns_below oy0_20 c21
  clear oy0_20
  have oy1_21 := owns_below oy1_20 c21
  clear oy1_20
  have ot0_21 := owns_below ot0_20 c21
  clear ot0_20
  have ot1_21 := owns_below ot1_20 c21
  clear ot1_20
  have oh0_21 := owns_below oh0_20 c21
  clear oh0_20
  go_wp2
  go_ret
  exact ⟨rfl, b21⟩

end Go.Proofs.Ytdflpocnfodbhac
