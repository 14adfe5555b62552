/- The law on DivideDigits: the program answers as the model, writes into no argument, and its answer owns its memory. -/
import Derived.Test.YtdflpocnfodbhabLgImpV
set_option linter.unusedVariables false
set_option linter.unusedSimpArgs false
set_option maxRecDepth 100000
namespace Go.Proofs.Ytdflpocnfodbhab
open Go.ChangeShapes Go.WideShapes Go.ChangeAt Go.RowKit

set_option maxRecDepth 100000 in
set_option maxHeartbeats 8000000 in
theorem lawDivideDigits (W : World) (a0 : Option Addr) (len0 cap0 : Nat) (zs0 : List Int) (hz0 : IsRow .i64 W a0 len0 cap0 zs0) (a1 : Option Addr) (len1 cap1 : Nat) (zs1 : List Int) (hz1 : IsRow .i64 W a1 len1 cap1 zs1) (x2 : Int) (hx2 : (Lit.int .i64 x2).wf = true) :
    Calls Try.prog 4 #[.slice a0 len0 cap0, .slice a1 len1 cap1, .int .i64 x2] W fun e w' => e = .returned (.bool true) ∧ Below W.heap.size W w' := by
  obtain ⟨l0, hrow0, hin0⟩ := isInts_of hz0
  have hlen0 : len0 = l0.length ∧ len0 ≤ 9223372036854775807 := by
    obtain ⟨a', c', e, h1, h2, _⟩ := hrow0
    injection e with _ e1 _
    rw [intsOf_length] at e1 h1; unfold maxLen at h2; omega
  clear hz0
  obtain ⟨l1, hrow1, hin1⟩ := isInts_of hz1
  have hlen1 : len1 = l1.length ∧ len1 ≤ 9223372036854775807 := by
    obtain ⟨a', c', e, h1, h2, _⟩ := hrow1
    injection e with _ e1 _
    rw [intsOf_length] at e1 h1; unfold maxLen at h2; omega
  clear hz1
  have hb2 := bounds_i64 hx2
  by_cases hbig0 : 1048576 < len0
  · go_enter Try.func4, Try.ntmps4
    go_wp2
    go_ret
    exact ⟨rfl, Below.refl _ _⟩
  by_cases hbig1 : 1048576 < len1
  · go_enter Try.func4, Try.ntmps4
    go_wp2
    go_ret
    exact ⟨rfl, Below.refl _ _⟩
  have hl0 : l0.length ≤ 1048576 := by omega
  have hl1 : l1.length ≤ 1048576 := by omega
  have hn0 := rDivideDigits0_len l0 l1 x2
  have hn1 := rDivideDigits1_len l0 l1 x2
  obtain ⟨R0, hR0⟩ : ∃ R, R = rDivideDigits0 l0 l1 x2 := ⟨_, rfl⟩
  rw [← hR0] at hn0
  obtain ⟨R1, hR1⟩ : ∃ R, R = rDivideDigits1 l0 l1 x2 := ⟨_, rfl⟩
  rw [← hR1] at hn1
  have HL0 := Lib.hid hlen0.1
  have hlm0 := hlen0.2
  clear hlen0
  have HL1 := Lib.hid hlen1.1
  have hlm1 := hlen1.2
  clear hlen1
  have HI0 := Lib.hid hin0
  clear hin0
  have HRow0 := Lib.hid hrow0
  clear hrow0
  have HI1 := Lib.hid hin1
  clear hin1
  have HRow1 := Lib.hid hrow1
  clear hrow1
  have HB2 := Lib.hid hb2
  clear hb2
  have HR0 := Lib.hid hR0
  clear hR0
  have HR1 := Lib.hid hR1
  clear hR1
  go_enter Try.func4, Try.ntmps4
  go_wp2_with fail
  refine (toIntS_any _ l0 _ HRow0.out hl0).mono ?_
  rintro e w1 ⟨vs0, rfl, os0_1, c1⟩
  have s1 := c1.size
  have b1 := c1
  have Ls0 := Lib.hid (fun k hk => os0_1.lt k hk)
  go_wp2_with fail
  refine (toIntS_any _ l1 _ (HRow1.out.below b1) hl1).mono ?_
  rintro e w2 ⟨vs1, rfl, os1_2, c2⟩
  have s2 := c2.size
  have b2 := b1.trans (c2.mono b1.size)
  have os0_2 := owns_below os0_1 c2
  clear os0_1
  have Ls1 := Lib.hid (fun k hk => os1_2.lt k hk)
  go_wp2_with fail
  have CC3 := Lib.hid (specDivideDigits_any vs0 l0 vs1 l1 x2 w2 (RowAt.of_owns os0_2) hl0 HI0.out (RowAt.of_owns os1_2) hl1 HI1.out HB2.out)
  rw [← HR0.out] at CC3
  rw [← HR1.out] at CC3
  refine CC3.out.mono ?_
  rintro e w3 ⟨vp0, vp1, rfl, op0_3, op1_3, app, c3⟩
  have APp := Lib.hid app
  clear app
  have s3 := c3.size
  have b3 := b2.trans (c3.mono b2.size)
  have os0_3 := owns_below os0_2 c3
  clear os0_2
  have os1_3 := owns_below os1_2 c3
  clear os1_2
  have Lp0 := Lib.hid (fun k hk => op0_3.lt k hk)
  have Lp1 := Lib.hid (fun k hk => op1_3.lt k hk)
  go_wp2_with fail
  refine (toIntS_any _ l0 _ (HRow0.out.below b3) hl0).mono ?_
  rintro e w4 ⟨vx0, rfl, ox0_4, c4⟩
  have s4 := c4.size
  have b4 := b3.trans (c4.mono b3.size)
  have os0_4 := owns_below os0_3 c4
  clear os0_3
  have os1_4 := owns_below os1_3 c4
  clear os1_3
  have op0_4 := owns_below op0_3 c4
  clear op0_3
  have op1_4 := owns_below op1_3 c4
  clear op1_3
  have Lx0 := Lib.hid (fun k hk => ox0_4.lt k hk)
  go_wp2_with fail
  refine (toIntS_any _ l1 _ (HRow1.out.below b4) hl1).mono ?_
  rintro e w5 ⟨vx1, rfl, ox1_5, c5⟩
  have s5 := c5.size
  have b5 := b4.trans (c5.mono b4.size)
  have os0_5 := owns_below os0_4 c5
  clear os0_4
  have os1_5 := owns_below os1_4 c5
  clear os1_4
  have op0_5 := owns_below op0_4 c5
  clear op0_4
  have op1_5 := owns_below op1_4 c5
  clear op1_4
  have ox0_5 := owns_below ox0_4 c5
  clear ox0_4
  have Lx1 := Lib.hid (fun k hk => ox1_5.lt k hk)
  go_wp2_with fail
  have CC6 := Lib.hid (implDivideDigits_any vx0 l0 vx1 l1 x2 w5 (RowAt.of_owns ox0_5) hl0 HI0.out (RowAt.of_owns ox1_5) hl1 HI1.out HB2.out)
  rw [← HR0.out] at CC6
  rw [← HR1.out] at CC6
  refine CC6.out.mono ?_
  rintro e w6 ⟨vg0, vg1, rfl, og0_6, og1_6, apg, c6⟩
  have APg := Lib.hid apg
  clear apg
  have s6 := c6.size
  have b6 := b5.trans (c6.mono b5.size)
  have os0_6 := owns_below os0_5 c6
  clear os0_5
  have os1_6 := owns_below os1_5 c6
  clear os1_5
  have op0_6 := owns_below op0_5 c6
  clear op0_5
  have op1_6 := owns_below op1_5 c6
  clear op1_5
  have ox0_6 := owns_below ox0_5 c6
  clear ox0_5
  have ox1_6 := owns_below ox1_5 c6
  clear ox1_5
  have Lg0 := Lib.hid (fun k hk => og0_6.lt k hk)
  have Lg1 := Lib.hid (fun k hk => og1_6.lt k hk)
  go_wp2_with fail
  refine (eqIntS_any _ _ R0 R0 _ (RowAt.of_owns og0_6) (RowAt.of_owns op0_6)).mono ?_
  rintro e w7 ⟨rfl, c7⟩
  have s7 := c7.size
  have b7 := b6.trans (c7.mono b6.size)
  have os0_7 := owns_below os0_6 c7
  clear os0_6
  have os1_7 := owns_below os1_6 c7
  clear os1_6
  have op0_7 := owns_below op0_6 c7
  clear op0_6
  have op1_7 := owns_below op1_6 c7
  clear op1_6
  have ox0_7 := owns_below ox0_6 c7
  clear ox0_6
  have ox1_7 := owns_below ox1_6 c7
  clear ox1_6
  have og0_7 := owns_below og0_6 c7
  clear og0_6
  have og1_7 := owns_below og1_6 c7
  clear og1_6
  go_wp2_with fail
  refine (eqIntS_any _ _ R1 R1 _ (RowAt.of_owns og1_7) (RowAt.of_owns op1_7)).mono ?_
  rintro e w8 ⟨rfl, c8⟩
  have s8 := c8.size
  have b8 := b7.trans (c8.mono b7.size)
  have os0_8 := owns_below os0_7 c8
  clear os0_7
  have os1_8 := owns_below os1_7 c8
  clear os1_7
  have op0_8 := owns_below op0_7 c8
  clear op0_7
  have op1_8 := owns_below op1_7 c8
  clear op1_7
  have ox0_8 := owns_below ox0_7 c8
  clear ox0_7
  have ox1_8 := owns_below ox1_7 c8
  clear ox1_7
  have og0_8 := owns_below og0_7 c8
  clear og0_7
  have og1_8 := owns_below og1_7 c8
  clear og1_7
  go_wp2_with fail
  refine (toIntS_any _ l0 _ (HRow0.out.below b8) hl0).mono ?_
  rintro e w9 ⟨vy0, rfl, oy0_9, c9⟩
  have s9 := c9.size
  have b9 := b8.trans (c9.mono b8.size)
  have os0_9 := owns_below os0_8 c9
  clear os0_8
  have os1_9 := owns_below os1_8 c9
  clear os1_8
  have op0_9 := owns_below op0_8 c9
  clear op0_8
  have op1_9 := owns_below op1_8 c9
  clear op1_8
  have ox0_9 := owns_below ox0_8 c9
  clear ox0_8
  have ox1_9 := owns_below ox1_8 c9
  clear ox1_8
  have og0_9 := owns_below og0_8 c9
  clear og0_8
  have og1_9 := owns_below og1_8 c9
  clear og1_8
  have Ly0 := Lib.hid (fun k hk => oy0_9.lt k hk)
  go_wp2_with fail
  refine (eqIntS_any _ _ l0 l0 _ (RowAt.of_owns ox0_9) (RowAt.of_owns oy0_9)).mono ?_
  rintro e w10 ⟨rfl, c10⟩
  have s10 := c10.size
  have b10 := b9.trans (c10.mono b9.size)
  have os0_10 := owns_below os0_9 c10
  clear os0_9
  have os1_10 := owns_below os1_9 c10
  clear os1_9
  have op0_10 := owns_below op0_9 c10
  clear op0_9
  have op1_10 := owns_below op1_9 c10
  clear op1_9
  have ox0_10 := owns_below ox0_9 c10
  clear ox0_9
  have ox1_10 := owns_below ox1_9 c10
  clear ox1_9
  have og0_10 := owns_below og0_9 c10
  clear og0_9
  have og1_10 := owns_below og1_9 c10
  clear og1_9
  have oy0_10 := owns_below oy0_9 c10
  clear oy0_9
  go_wp2_with fail
  refine (toIntS_any _ l1 _ (HRow1.out.below b10) hl1).mono ?_
  rintro e w11 ⟨vy1, rfl, oy1_11, c11⟩
  have s11 := c11.size
  have b11 := b10.trans (c11.mono b10.size)
  have os0_11 := owns_below os0_10 c11
  clear os0_10
  have os1_11 := owns_below os1_10 c11
  clear os1_10
  have op0_11 := owns_below op0_10 c11
  clear op0_10
  have op1_11 := owns_below op1_10 c11
  clear op1_10
  have ox0_11 := owns_below ox0_10 c11
  clear ox0_10
  have ox1_11 := owns_below ox1_10 c11
  clear ox1_10
  have og0_11 := owns_below og0_10 c11
  clear og0_10
  have og1_11 := owns_below og1_10 c11
  clear og1_10
  have oy0_11 := owns_below oy0_10 c11
  clear oy0_10
  have Ly1 := Lib.hid (fun k hk => oy1_11.lt k hk)
  go_wp2_with fail
  refine (eqIntS_any _ _ l1 l1 _ (RowAt.of_owns ox1_11) (RowAt.of_owns oy1_11)).mono ?_
  rintro e w12 ⟨rfl, c12⟩
  have s12 := c12.size
  have b12 := b11.trans (c12.mono b11.size)
  have os0_12 := owns_below os0_11 c12
  clear os0_11
  have os1_12 := owns_below os1_11 c12
  clear os1_11
  have op0_12 := owns_below op0_11 c12
  clear op0_11
  have op1_12 := owns_below op1_11 c12
  clear op1_11
  have ox0_12 := owns_below ox0_11 c12
  clear ox0_11
  have ox1_12 := owns_below ox1_11 c12
  clear ox1_11
  have og0_12 := owns_below og0_11 c12
  clear og0_11
  have og1_12 := owns_below og1_11 c12
  clear og1_11
  have oy0_12 := owns_below oy0_11 c12
  clear oy0_11
  have oy1_12 := owns_below oy1_11 c12
  clear oy1_11
  go_wp2_with fail
  refine (markIntS_any _ _ _ _ _ ox0_12 (1) (by omega) (by omega)).mono ?_
  rintro e w13 ⟨rfl, nx0_13, g13⟩
  have s13 := g13.size
  have os0_13 := owns_far os0_12 g13 (fun k hk hk' => by have p1 := Ls0.out k hk; have p2 := Lx0.out k hk'; omega)
  clear os0_12
  have os1_13 := owns_far os1_12 g13 (fun k hk hk' => by have p1 := Ls1.out k hk; have p2 := Lx0.out k hk'; omega)
  clear os1_12
  have op0_13 := owns_far op0_12 g13 (fun k hk hk' => by have p1 := Lp0.out k hk; have p2 := Lx0.out k hk'; omega)
  clear op0_12
  have op1_13 := owns_far op1_12 g13 (fun k hk hk' => by have p1 := Lp1.out k hk; have p2 := Lx0.out k hk'; omega)
  clear op1_12
  have ox1_13 := owns_far ox1_12 g13 (fun k hk hk' => by have p1 := Lx1.out k hk; have p2 := Lx0.out k hk'; omega)
  clear ox1_12
  have og0_13 := owns_far og0_12 g13 (fun k hk hk' => by have p1 := Lg0.out k hk; have p2 := Lx0.out k hk'; omega)
  clear og0_12
  have og1_13 := owns_far og1_12 g13 (fun k hk hk' => by have p1 := Lg1.out k hk; have p2 := Lx0.out k hk'; omega)
  clear og1_12
  have oy0_13 := owns_far oy0_12 g13 (fun k hk hk' => by have p1 := Ly0.out k hk; have p2 := Lx0.out k hk'; omega)
  clear oy0_12
  have oy1_13 := owns_far oy1_12 g13 (fun k hk hk' => by have p1 := Ly1.out k hk; have p2 := Lx0.out k hk'; omega)
  clear oy1_12
  have b13 := b12.grown g13 b12.size (fun k hk => by have p2 := Lx0.out k hk; omega)
  clear ox0_12
  go_wp2_with fail
  refine (markIntS_any _ _ _ _ _ ox1_13 (1 + l0.length) (by omega) (by omega)).mono ?_
  rintro e w14 ⟨rfl, nx1_14, g14⟩
  have s14 := g14.size
  have os0_14 := owns_far os0_13 g14 (fun k hk hk' => by have p1 := Ls0.out k hk; have p2 := Lx1.out k hk'; omega)
  clear os0_13
  have os1_14 := owns_far os1_13 g14 (fun k hk hk' => by have p1 := Ls1.out k hk; have p2 := Lx1.out k hk'; omega)
  clear os1_13
  have op0_14 := owns_far op0_13 g14 (fun k hk hk' => by have p1 := Lp0.out k hk; have p2 := Lx1.out k hk'; omega)
  clear op0_13
  have op1_14 := owns_far op1_13 g14 (fun k hk hk' => by have p1 := Lp1.out k hk; have p2 := Lx1.out k hk'; omega)
  clear op1_13
  have ox0_14 := owns_far nx0_13 g14 (fun k hk hk' => by have p1 := Lx0.out k hk; have p2 := Lx1.out k hk'; omega)
  clear nx0_13
  have og0_14 := owns_far og0_13 g14 (fun k hk hk' => by have p1 := Lg0.out k hk; have p2 := Lx1.out k hk'; omega)
  clear og0_13
  have og1_14 := owns_far og1_13 g14 (fun k hk hk' => by have p1 := Lg1.out k hk; have p2 := Lx1.out k hk'; omega)
  clear og1_13
  have oy0_14 := owns_far oy0_13 g14 (fun k hk hk' => by have p1 := Ly0.out k hk; have p2 := Lx1.out k hk'; omega)
  clear oy0_13
  have oy1_14 := owns_far oy1_13 g14 (fun k hk hk' => by have p1 := Ly1.out k hk; have p2 := Lx1.out k hk'; omega)
  clear oy1_13
  have b14 := b13.grown g14 b13.size (fun k hk => by have p2 := Lx1.out k hk; omega)
  clear ox1_13
  go_wp2_with fail
  refine (eqIntS_any _ _ R0 R0 _ (RowAt.of_owns og0_14) (RowAt.of_owns op0_14)).mono ?_
  rintro e w15 ⟨rfl, c15⟩
  have s15 := c15.size
  have b15 := b14.trans (c15.mono b14.size)
  have os0_15 := owns_below os0_14 c15
  clear os0_14
  have os1_15 := owns_below os1_14 c15
  clear os1_14
  have op0_15 := owns_below op0_14 c15
  clear op0_14
  have op1_15 := owns_below op1_14 c15
  clear op1_14
  have ox0_15 := owns_below ox0_14 c15
  clear ox0_14
  have ox1_15 := owns_below nx1_14 c15
  clear nx1_14
  have og0_15 := owns_below og0_14 c15
  clear og0_14
  have og1_15 := owns_below og1_14 c15
  clear og1_14
  have oy0_15 := owns_below oy0_14 c15
  clear oy0_14
  have oy1_15 := owns_below oy1_14 c15
  clear oy1_14
  go_wp2_with fail
  refine (eqIntS_any _ _ R1 R1 _ (RowAt.of_owns og1_15) (RowAt.of_owns op1_15)).mono ?_
  rintro e w16 ⟨rfl, c16⟩
  have s16 := c16.size
  have b16 := b15.trans (c16.mono b15.size)
  have os0_16 := owns_below os0_15 c16
  clear os0_15
  have os1_16 := owns_below os1_15 c16
  clear os1_15
  have op0_16 := owns_below op0_15 c16
  clear op0_15
  have op1_16 := owns_below op1_15 c16
  clear op1_15
  have ox0_16 := owns_below ox0_15 c16
  clear ox0_15
  have ox1_16 := owns_below ox1_15 c16
  clear ox1_15
  have og0_16 := owns_below og0_15 c16
  clear og0_15
  have og1_16 := owns_below og1_15 c16
  clear og1_15
  have oy0_16 := owns_below oy0_15 c16
  clear oy0_15
  have oy1_16 := owns_below oy1_15 c16
  clear oy1_15
  go_wp2_with fail
  refine (markIntS_any _ _ _ _ _ og0_16 (1) (by omega) (by omega)).mono ?_
  rintro e w17 ⟨rfl, ng0_17, g17⟩
  have s17 := g17.size
  have os0_17 := owns_far os0_16 g17 (fun k hk hk' => by have p1 := Ls0.out k hk; have p2 := Lg0.out k hk'; omega)
  clear os0_16
  have os1_17 := owns_far os1_16 g17 (fun k hk hk' => by have p1 := Ls1.out k hk; have p2 := Lg0.out k hk'; omega)
  clear os1_16
  have op0_17 := owns_far op0_16 g17 (fun k hk hk' => by have p1 := Lp0.out k hk; have p2 := Lg0.out k hk'; omega)
  clear op0_16
  have op1_17 := owns_far op1_16 g17 (fun k hk hk' => by have p1 := Lp1.out k hk; have p2 := Lg0.out k hk'; omega)
  clear op1_16
  have ox0_17 := owns_far ox0_16 g17 (fun k hk hk' => by have p1 := Lx0.out k hk; have p2 := Lg0.out k hk'; omega)
  clear ox0_16
  have ox1_17 := owns_far ox1_16 g17 (fun k hk hk' => by have p1 := Lx1.out k hk; have p2 := Lg0.out k hk'; omega)
  clear ox1_16
  have og1_17 := owns_far og1_16 g17 (fun k hk hk' => APg.out k hk' hk)
  clear og1_16
  have oy0_17 := owns_far oy0_16 g17 (fun k hk hk' => by have p1 := Ly0.out k hk; have p2 := Lg0.out k hk'; omega)
  clear oy0_16
  have oy1_17 := owns_far oy1_16 g17 (fun k hk hk' => by have p1 := Ly1.out k hk; have p2 := Lg0.out k hk'; omega)
  clear oy1_16
  have b17 := b16.grown g17 b16.size (fun k hk => by have p2 := Lg0.out k hk; omega)
  clear og0_16
  go_wp2_with fail
  refine (markIntS_any _ _ _ _ _ og1_17 (1 + R0.length) (by omega) (by omega)).mono ?_
  rintro e w18 ⟨rfl, ng1_18, g18⟩
  have s18 := g18.size
  have os0_18 := owns_far os0_17 g18 (fun k hk hk' => by have p1 := Ls0.out k hk; have p2 := Lg1.out k hk'; omega)
  clear os0_17
  have os1_18 := owns_far os1_17 g18 (fun k hk hk' => by have p1 := Ls1.out k hk; have p2 := Lg1.out k hk'; omega)
  clear os1_17
  have op0_18 := owns_far op0_17 g18 (fun k hk hk' => by have p1 := Lp0.out k hk; have p2 := Lg1.out k hk'; omega)
  clear op0_17
  have op1_18 := owns_far op1_17 g18 (fun k hk hk' => by have p1 := Lp1.out k hk; have p2 := Lg1.out k hk'; omega)
  clear op1_17
  have ox0_18 := owns_far ox0_17 g18 (fun k hk hk' => by have p1 := Lx0.out k hk; have p2 := Lg1.out k hk'; omega)
  clear ox0_17
  have ox1_18 := owns_far ox1_17 g18 (fun k hk hk' => by have p1 := Lx1.out k hk; have p2 := Lg1.out k hk'; omega)
  clear ox1_17
  have og0_18 := owns_far ng0_17 g18 (fun k hk hk' => APg.out k hk hk')
  clear ng0_17
  have oy0_18 := owns_far oy0_17 g18 (fun k hk hk' => by have p1 := Ly0.out k hk; have p2 := Lg1.out k hk'; omega)
  clear oy0_17
  have oy1_18 := owns_far oy1_17 g18 (fun k hk hk' => by have p1 := Ly1.out k hk; have p2 := Lg1.out k hk'; omega)
  clear oy1_17
  have b18 := b17.grown g18 b17.size (fun k hk => by have p2 := Lg1.out k hk; omega)
  clear og1_17
  go_wp2_with fail
  refine (heldIntS_any _ (1) R0.length _ (RowAt.of_owns og0_18) (by omega) (by omega)).mono ?_
  rintro e w19 ⟨rfl, c19⟩
  have s19 := c19.size
  have b19 := b18.trans (c19.mono b18.size)
  have os0_19 := owns_below os0_18 c19
  clear os0_18
  have os1_19 := owns_below os1_18 c19
  clear os1_18
  have op0_19 := owns_below op0_18 c19
  clear op0_18
  have op1_19 := owns_below op1_18 c19
  clear op1_18
  have ox0_19 := owns_below ox0_18 c19
  clear ox0_18
  have ox1_19 := owns_below ox1_18 c19
  clear ox1_18
  have og0_19 := owns_below og0_18 c19
  clear og0_18
  have og1_19 := owns_below ng1_18 c19
  clear ng1_18
  have oy0_19 := owns_below oy0_18 c19
  clear oy0_18
  have oy1_19 := owns_below oy1_18 c19
  clear oy1_18
  go_wp2_with fail
  refine (heldIntS_any _ (1 + R0.length) R1.length _ (RowAt.of_owns og1_19) (by omega) (by omega)).mono ?_
  rintro e w20 ⟨rfl, c20⟩
  have s20 := c20.size
  have b20 := b19.trans (c20.mono b19.size)
  have os0_20 := owns_below os0_19 c20
  clear os0_19
  have os1_20 := owns_below os1_19 c20
  clear os1_19
  have op0_20 := owns_below op0_19 c20
  clear op0_19
  have op1_20 := owns_below op1_19 c20
  clear op1_19
  have ox0_20 := owns_below ox0_19 c20
  clear ox0_19
  have ox1_20 := owns_below ox1_19 c20
  clear ox1_19
  have og0_20 := owns_below og0_19 c20
  clear og0_19
  have og1_20 := owns_below og1_19 c20
  clear og1_19
  have oy0_20 := owns_below oy0_19 c20
  clear oy0_19
  have oy1_20 := owns_below oy1_19 c20
  clear oy1_19
  go_wp2_with fail
  refine (toIntS_any _ l0 _ (HRow0.out.below b20) hl0).mono ?_
  rintro e w21 ⟨vt0, rfl, ot0_21, c21⟩
  have s21 := c21.size
  have b21 := b20.trans (c21.mono b20.size)
  have os0_21 := owns_below os0_20 c21
  clear os0_20
  have os1_21 := owns_below os1_20 c21
  clear os1_20
  have op0_21 := owns_below op0_20 c21
  clear op0_20
  have op1_21 := owns_below op1_20 c21
  clear op1_20
  have ox0_21 := owns_below ox0_20 c21
  clear ox0_20
  have ox1_21 := owns_below ox1_20 c21
  clear ox1_20
  have og0_21 := owns_below og0_20 c21
  clear og0_20
  have og1_21 := owns_below og1_20 c21
  clear og1_20
  have oy0_21 := owns_below oy0_20 c21
  clear oy0_20
  have oy1_21 := owns_below oy1_20 c21
  clear oy1_20
  have Lt0 := Lib.hid (fun k hk => ot0_21.lt k hk)
  go_wp2_with fail
  refine (toIntS_any _ l1 _ (HRow1.out.below b21) hl1).mono ?_
  rintro e w22 ⟨vt1, rfl, ot1_22, c22⟩
  have s22 := c22.size
  have b22 := b21.trans (c22.mono b21.size)
  have os0_22 := owns_below os0_21 c22
  clear os0_21
  have os1_22 := owns_below os1_21 c22
  clear os1_21
  have op0_22 := owns_below op0_21 c22
  clear op0_21
  have op1_22 := owns_below op1_21 c22
  clear op1_21
  have ox0_22 := owns_below ox0_21 c22
  clear ox0_21
  have ox1_22 := owns_below ox1_21 c22
  clear ox1_21
  have og0_22 := owns_below og0_21 c22
  clear og0_21
  have og1_22 := owns_below og1_21 c22
  clear og1_21
  have oy0_22 := owns_below oy0_21 c22
  clear oy0_21
  have oy1_22 := owns_below oy1_21 c22
  clear oy1_21
  have ot0_22 := owns_below ot0_21 c22
  clear ot0_21
  have Lt1 := Lib.hid (fun k hk => ot1_22.lt k hk)
  go_wp2_with fail
  have CC23 := Lib.hid (implDivideDigits_any vt0 l0 vt1 l1 x2 w22 (RowAt.of_owns ot0_22) hl0 HI0.out (RowAt.of_owns ot1_22) hl1 HI1.out HB2.out)
  rw [← HR0.out] at CC23
  rw [← HR1.out] at CC23
  refine CC23.out.mono ?_
  rintro e w23 ⟨vh0, vh1, rfl, oh0_23, oh1_23, aph, c23⟩
  have APh := Lib.hid aph
  clear aph
  have s23 := c23.size
  have b23 := b22.trans (c23.mono b22.size)
  have os0_23 := owns_below os0_22 c23
  clear os0_22
  have os1_23 := owns_below os1_22 c23
  clear os1_22
  have op0_23 := owns_below op0_22 c23
  clear op0_22
  have op1_23 := owns_below op1_22 c23
  clear op1_22
  have ox0_23 := owns_below ox0_22 c23
  clear ox0_22
  have ox1_23 := owns_below ox1_22 c23
  clear ox1_22
  have og0_23 := owns_below og0_22 c23
  clear og0_22
  have og1_23 := owns_below og1_22 c23
  clear og1_22
  have oy0_23 := owns_below oy0_22 c23
  clear oy0_22
  have oy1_23 := owns_below oy1_22 c23
  clear oy1_22
  have ot0_23 := owns_below ot0_22 c23
  clear ot0_22
  have ot1_23 := owns_below ot1_22 c23
  clear ot1_22
  have Lh0 := Lib.hid (fun k hk => oh0_23.lt k hk)
  have Lh1 := Lib.hid (fun k hk => oh1_23.lt k hk)
  go_wp2_with fail
  refine (eqIntS_any _ _ R0 R0 _ (RowAt.of_owns oh0_23) (RowAt.of_owns op0_23)).mono ?_
  rintro e w24 ⟨rfl, c24⟩
  have s24 := c24.size
  have b24 := b23.trans (c24.mono b23.size)
  have os0_24 := owns_below os0_23 c24
  clear os0_23
  have os1_24 := owns_below os1_23 c24
  clear os1_23
  have op0_24 := owns_below op0_23 c24
  clear op0_23
  have op1_24 := owns_below op1_23 c24
  clear op1_23
  have ox0_24 := owns_below ox0_23 c24
  clear ox0_23
  have ox1_24 := owns_below ox1_23 c24
  clear ox1_23
  have og0_24 := owns_below og0_23 c24
  clear og0_23
  have og1_24 := owns_below og1_23 c24
  clear og1_23
  have oy0_24 := owns_below oy0_23 c24
  clear oy0_23
  have oy1_24 := owns_below oy1_23 c24
  clear oy1_23
  have ot0_24 := owns_below ot0_23 c24
  clear ot0_23
  have ot1_24 := owns_below ot1_23 c24
  clear ot1_23
  have oh0_24 := owns_below oh0_23 c24
  clear oh0_23
  have oh1_24 := owns_below oh1_23 c24
  clear oh1_23
  go_wp2_with fail
  refine (eqIntS_any _ _ R1 R1 _ (RowAt.of_owns oh1_24) (RowAt.of_owns op1_24)).mono ?_
  rintro e w25 ⟨rfl, c25⟩
  have s25 := c25.size
  have b25 := b24.trans (c25.mono b24.size)
  have os0_25 := owns_below os0_24 c25
  clear os0_24
  have os1_25 := owns_below os1_24 c25
  clear os1_24
  have op0_25 := owns_below op0_24 c25
  clear op0_24
  have op1_25 := owns_below op1_24 c25
  clear op1_24
  have ox0_25 := owns_below ox0_24 c25
  clear ox0_24
  have ox1_25 := owns_below ox1_24 c25
  clear ox1_24
  have og0_25 := owns_below og0_24 c25
  clear og0_24
  have og1_25 := owns_below og1_24 c25
  clear og1_24
  have oy0_25 := owns_below oy0_24 c25
  clear oy0_24
  have oy1_25 := owns_below oy1_24 c25
  clear oy1_24
  have ot0_25 := owns_below ot0_24 c25
  clear ot0_24
  have ot1_25 := owns_below ot1_24 c25
  clear ot1_24
  have oh0_25 := owns_below oh0_24 c25
  clear oh0_24
  have oh1_25 := owns_below oh1_24 c25
  clear oh1_24
  go_wp2_with fail
  refine (heldIntS_any _ (1) R0.length _ (RowAt.of_owns og0_25) (by omega) (by omega)).mono ?_
  rintro e w26 ⟨rfl, c26⟩
  have s26 := c26.size
  have b26 := b25.trans (c26.mono b25.size)
  have os0_26 := owns_below os0_25 c26
  clear os0_25
  have os1_26 := owns_below os1_25 c26
  clear os1_25
  have op0_26 := owns_below op0_25 c26
  clear op0_25
  have op1_26 := owns_below op1_25 c26
  clear op1_25
  have ox0_26 := owns_below ox0_25 c26
  clear ox0_25
  have ox1_26 := owns_below ox1_25 c26
  clear ox1_25
  have og0_26 := owns_below og0_25 c26
  clear og0_25
  have og1_26 := owns_below og1_25 c26
  clear og1_25
  have oy0_26 := owns_below oy0_25 c26
  clear oy0_25
  have oy1_26 := owns_below oy1_25 c26
  clear oy1_25
  have ot0_26 := owns_below ot0_25 c26
  clear ot0_25
  have ot1_26 := owns_below ot1_25 c26
  clear ot1_25
  have oh0_26 := owns_below oh0_25 c26
  clear oh0_25
  have oh1_26 := owns_below oh1_25 c26
  clear oh1_25
  go_wp2_with fail
  refine (heldIntS_any _ (1 + R0.length) R1.length _ (RowAt.of_owns og1_26) (by omega) (by omega)).mono ?_
  rintro e w27 ⟨rfl, c27⟩
  have s27 := c27.size
  have b27 := b26.trans (c27.mono b26.size)
  have os0_27 := owns_below os0_26 c27
  clear os0_26
  have os1_27 := owns_below os1_26 c27
  clear os1_26
  have op0_27 := owns_below op0_26 c27
  clear op0_26
  have op1_27 := owns_below op1_26 c27
  clear op1_26
  have ox0_27 := owns_below ox0_26 c27
  clear ox0_26
  have ox1_27 := owns_below ox1_26 c27
  clear ox1_26
  have og0_27 := owns_below og0_26 c27
  clear og0_26
  have og1_27 := owns_below og1_26 c27
  clear og1_26
  have oy0_27 := owns_below oy0_26 c27
  clear oy0_26
  have oy1_27 := owns_below oy1_26 c27
  clear oy1_26
  have ot0_27 := owns_below ot0_26 c27
  clear ot0_26
  have ot1_27 := owns_below ot1_26 c27
  clear ot1_26
  have oh0_27 := owns_below oh0_26 c27
  clear oh0_26
  have oh1_27 := owns_below oh1_26 c27
  clear oh1_26
  go_wp2
  go_ret
  exact ⟨rfl, b27⟩

end Go.Proofs.Ytdflpocnfodbhab
