/- The law on GrayDigits: the program answers as the model, writes into no argument, and its answer owns its memory. -/
import Derived.Test.YtleadjkndciniaaGrI4
import Derived.Test.YtleadjkndciniaaGrFact
import Derived.Laws.Bits64b
set_option linter.unusedVariables false
set_option linter.unusedSimpArgs false
namespace Go.Proofs.Ytleadjkndciniaa
open Go.ChangeShapes Go.WideShapes Go.ChangeAt Go.RowKit

set_option maxRecDepth 100000 in
set_option maxHeartbeats 8000000 in
theorem lawGrayDigits (W : World) (x0 : Int) (hx0 : (Lit.int .i64 x0).wf = true) (a1 : Option Addr) (len1 cap1 : Nat) (zs1 : List Int) (hz1 : IsRow .i64 W a1 len1 cap1 zs1) :
    Calls Try.prog 5 #[.int .i64 x0, .slice a1 len1 cap1] W fun e w' => e = .returned (.bool true) ∧ Below W.heap.size W w' := by
  have hb0 := bounds_i64 hx0
  obtain ⟨l1, hrow1, hin1⟩ := isInts_of hz1
  have hlen1 : len1 = l1.length ∧ len1 ≤ 9223372036854775807 := by
    obtain ⟨a', c', e, h1, h2, _⟩ := hrow1
    injection e with _ e1 _
    rw [intsOf_length] at e1 h1; unfold maxLen at h2; omega
  clear hz1
  by_cases hbig1 : 1048576 < len1
  · go_enter Try.func5, Try.ntmps5
    go_wp2
    go_ret
    exact ⟨rfl, Below.refl _ _⟩
  have hl1 : l1.length ≤ 1048576 := by omega
  have hn0 := rGrayDigits0_len x0 l1
  obtain ⟨R0, hR0⟩ : ∃ R, R = rGrayDigits0 x0 l1 := ⟨_, rfl⟩
  rw [← hR0] at hn0
  have HL1 := Lib.hid hlen1.1
  have hlm1 := hlen1.2
  clear hlen1
  have HB0 := Lib.hid hb0
  clear hb0
  have HI1 := Lib.hid hin1
  clear hin1
  have HRow1 := Lib.hid hrow1
  clear hrow1
  have HR0 := Lib.hid hR0
  clear hR0
  go_enter Try.func5, Try.ntmps5
  go_wp2_with fail
  refine (toIntS_any _ l1 _ HRow1.out hl1).mono ?_
  rintro e w1 ⟨vs1, rfl, os1_1, c1⟩
  have s1 := c1.size
  have b1 := c1
  have Ls1 := Lib.hid (fun k hk => os1_1.lt k hk)
  go_wp2_with fail
  have CC2 := Lib.hid (specGrayDigits_any x0 vs1 l1 w1 HB0.out (RowAt.of_owns os1_1) hl1 HI1.out)
  rw [← HR0.out] at CC2
  refine CC2.out.mono ?_
  rintro e w2 ⟨vp0, rfl, op0_2, c2⟩
  have s2 := c2.size
  have b2 := b1.trans (c2.mono b1.size)
  have os1_2 := owns_below os1_1 c2
  clear os1_1
  have Lp0 := Lib.hid (fun k hk => op0_2.lt k hk)
  go_wp2_with fail
  refine (toIntS_any _ l1 _ (HRow1.out.below b2) hl1).mono ?_
  rintro e w3 ⟨vx1, rfl, ox1_3, c3⟩
  have s3 := c3.size
  have b3 := b2.trans (c3.mono b2.size)
  have os1_3 := owns_below os1_2 c3
  clear os1_2
  have op0_3 := owns_below op0_2 c3
  clear op0_2
  have Lx1 := Lib.hid (fun k hk => ox1_3.lt k hk)
  go_wp2_with fail
  have CC4 := Lib.hid (implGrayDigits_any x0 vx1 l1 w3 HB0.out (RowAt.of_owns ox1_3) hl1 HI1.out)
  rw [← HR0.out] at CC4
  refine CC4.out.mono ?_
  rintro e w4 ⟨vg0, rfl, og0_4, c4⟩
  have s4 := c4.size
  have b4 := b3.trans (c4.mono b3.size)
  have os1_4 := owns_below os1_3 c4
  clear os1_3
  have op0_4 := owns_below op0_3 c4
  clear op0_3
  have ox1_4 := owns_below ox1_3 c4
  clear ox1_3
  have Lg0 := Lib.hid (fun k hk => og0_4.lt k hk)
  go_wp2_with fail
  refine (eqIntS_any _ _ R0 R0 _ (RowAt.of_owns og0_4) (RowAt.of_owns op0_4)).mono ?_
  rintro e w5 ⟨rfl, c5⟩
  have s5 := c5.size
  have b5 := b4.trans (c5.mono b4.size)
  have os1_5 := owns_below os1_4 c5
  clear os1_4
  have op0_5 := owns_below op0_4 c5
  clear op0_4
  have ox1_5 := owns_below ox1_4 c5
  clear ox1_4
  have og0_5 := owns_below og0_4 c5
  clear og0_4
  go_wp2_with fail
  refine (toIntS_any _ l1 _ (HRow1.out.below b5) hl1).mono ?_
  rintro e w6 ⟨vy1, rfl, oy1_6, c6⟩
  have s6 := c6.size
  have b6 := b5.trans (c6.mono b5.size)
  have os1_6 := owns_below os1_5 c6
  clear os1_5
  have op0_6 := owns_below op0_5 c6
  clear op0_5
  have ox1_6 := owns_below ox1_5 c6
  clear ox1_5
  have og0_6 := owns_below og0_5 c6
  clear og0_5
  have Ly1 := Lib.hid (fun k hk => oy1_6.lt k hk)
  go_wp2_with fail
  refine (eqIntS_any _ _ l1 l1 _ (RowAt.of_owns ox1_6) (RowAt.of_owns oy1_6)).mono ?_
  rintro e w7 ⟨rfl, c7⟩
  have s7 := c7.size
  have b7 := b6.trans (c7.mono b6.size)
  have os1_7 := owns_below os1_6 c7
  clear os1_6
  have op0_7 := owns_below op0_6 c7
  clear op0_6
  have ox1_7 := owns_below ox1_6 c7
  clear ox1_6
  have og0_7 := owns_below og0_6 c7
  clear og0_6
  have oy1_7 := owns_below oy1_6 c7
  clear oy1_6
  go_wp2_with fail
  refine (markIntS_any _ _ _ _ _ ox1_7 (1) (by omega) (by omega)).mono ?_
  rintro e w8 ⟨rfl, nx1_8, g8⟩
  have s8 := g8.size
  have os1_8 := owns_far os1_7 g8 (fun k hk hk' => by have p1 := Ls1.out k hk; have p2 := Lx1.out k hk'; omega)
  clear os1_7
  have op0_8 := owns_far op0_7 g8 (fun k hk hk' => by have p1 := Lp0.out k hk; have p2 := Lx1.out k hk'; omega)
  clear op0_7
  have og0_8 := owns_far og0_7 g8 (fun k hk hk' => by have p1 := Lg0.out k hk; have p2 := Lx1.out k hk'; omega)
  clear og0_7
  have oy1_8 := owns_far oy1_7 g8 (fun k hk hk' => by have p1 := Ly1.out k hk; have p2 := Lx1.out k hk'; omega)
  clear oy1_7
  have b8 := b7.grown g8 b7.size (fun k hk => by have p2 := Lx1.out k hk; omega)
  clear ox1_7
  go_wp2_with fail
  refine (eqIntS_any _ _ R0 R0 _ (RowAt.of_owns og0_8) (RowAt.of_owns op0_8)).mono ?_
  rintro e w9 ⟨rfl, c9⟩
  have s9 := c9.size
  have b9 := b8.trans (c9.mono b8.size)
  have os1_9 := owns_below os1_8 c9
  clear os1_8
  have op0_9 := owns_below op0_8 c9
  clear op0_8
  have ox1_9 := owns_below nx1_8 c9
  clear nx1_8
  have og0_9 := owns_below og0_8 c9
  clear og0_8
  have oy1_9 := owns_below oy1_8 c9
  clear oy1_8
  go_wp2_with fail
  refine (markIntS_any _ _ _ _ _ og0_9 (1) (by omega) (by omega)).mono ?_
  rintro e w10 ⟨rfl, ng0_10, g10⟩
  have s10 := g10.size
  have os1_10 := owns_far os1_9 g10 (fun k hk hk' => by have p1 := Ls1.out k hk; have p2 := Lg0.out k hk'; omega)
  clear os1_9
  have op0_10 := owns_far op0_9 g10 (fun k hk hk' => by have p1 := Lp0.out k hk; have p2 := Lg0.out k hk'; omega)
  clear op0_9
  have ox1_10 := owns_far ox1_9 g10 (fun k hk hk' => by have p1 := Lx1.out k hk; have p2 := Lg0.out k hk'; omega)
  clear ox1_9
  have oy1_10 := owns_far oy1_9 g10 (fun k hk hk' => by have p1 := Ly1.out k hk; have p2 := Lg0.out k hk'; omega)
  clear oy1_9
  have b10 := b9.grown g10 b9.size (fun k hk => by have p2 := Lg0.out k hk; omega)
  clear og0_9
  go_wp2_with fail
  refine (heldIntS_any _ (1) R0.length _ (RowAt.of_owns ng0_10) (by omega) (by omega)).mono ?_
  rintro e w11 ⟨rfl, c11⟩
  have s11 := c11.size
  have b11 := b10.trans (c11.mono b10.size)
  have os1_11 := owns_below os1_10 c11
  clear os1_10
  have op0_11 := owns_below op0_10 c11
  clear op0_10
  have ox1_11 := owns_below ox1_10 c11
  clear ox1_10
  have og0_11 := owns_below ng0_10 c11
  clear ng0_10
  have oy1_11 := owns_below oy1_10 c11
  clear oy1_10
  go_wp2_with fail
  refine (toIntS_any _ l1 _ (HRow1.out.below b11) hl1).mono ?_
  rintro e w12 ⟨vt1, rfl, ot1_12, c12⟩
  have s12 := c12.size
  have b12 := b11.trans (c12.mono b11.size)
  have os1_12 := owns_below os1_11 c12
  clear os1_11
  have op0_12 := owns_below op0_11 c12
  clear op0_11
  have ox1_12 := owns_below ox1_11 c12
  clear ox1_11
  have og0_12 := owns_below og0_11 c12
  clear og0_11
  have oy1_12 := owns_below oy1_11 c12
  clear oy1_11
  have Lt1 := Lib.hid (fun k hk => ot1_12.lt k hk)
  go_wp2_with fail
  have CC13 := Lib.hid (implGrayDigits_any x0 vt1 l1 w12 HB0.out (RowAt.of_owns ot1_12) hl1 HI1.out)
  rw [← HR0.out] at CC13
  refine CC13.out.mono ?_
  rintro e w13 ⟨vh0, rfl, oh0_13, c13⟩
  have s13 := c13.size
  have b13 := b12.trans (c13.mono b12.size)
  have os1_13 := owns_below os1_12 c13
  clear os1_12
  have op0_13 := owns_below op0_12 c13
  clear op0_12
  have ox1_13 := owns_below ox1_12 c13
  clear ox1_12
  have og0_13 := owns_below og0_12 c13
  clear og0_12
  have oy1_13 := owns_below oy1_12 c13
  clear oy1_12
  have ot1_13 := owns_below ot1_12 c13
  clear ot1_12
  have Lh0 := Lib.hid (fun k hk => oh0_13.lt k hk)
  go_wp2_with fail
  refine (eqIntS_any _ _ R0 R0 _ (RowAt.of_owns oh0_13) (RowAt.of_owns op0_13)).mono ?_
  rintro e w14 ⟨rfl, c14⟩
  have s14 := c14.size
  have b14 := b13.trans (c14.mono b13.size)
  have os1_14 := owns_below os1_13 c14
  clear os1_13
  have op0_14 := owns_below op0_13 c14
  clear op0_13
  have ox1_14 := owns_below ox1_13 c14
  clear ox1_13
  have og0_14 := owns_below og0_13 c14
  clear og0_13
  have oy1_14 := owns_below oy1_13 c14
  clear oy1_13
  have ot1_14 := owns_below ot1_13 c14
  clear ot1_13
  have oh0_14 := owns_below oh0_13 c14
  clear oh0_13
  go_wp2_with fail
  refine (heldIntS_any _ (1) R0.length _ (RowAt.of_owns og0_14) (by omega) (by omega)).mono ?_
  rintro e w15 ⟨rfl, c15⟩
  have s15 := c15.size
  have b15 := b14.trans (c15.mono b14.size)
  have os1_15 := owns_below os1_14 c15
  clear os1_14
  have op0_15 := owns_below op0_14 c15
  clear op0_14
  have ox1_15 := owns_below ox1_14 c15
  clear ox1_14
  have og0_15 := owns_below og0_14 c15
  clear og0_14
  have oy1_15 := owns_below oy1_14 c15
  clear oy1_14
  have ot1_15 := owns_below ot1_14 c15
  clear ot1_14
  have oh0_15 := owns_below oh0_14 c15
  clear oh0_14
  go_wp2
  go_ret
  exact ⟨rfl, b15⟩

end Go.Proofs.Ytleadjkndciniaa
