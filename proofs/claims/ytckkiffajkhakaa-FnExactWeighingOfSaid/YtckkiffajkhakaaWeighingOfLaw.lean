/- The law on WeighingOf: the program answers as the model, writes into no argument, and its answer owns its memory. -/
import Derived.Test.YtckkiffajkhakaaBaWeighI
import Derived.Test.YtckkiffajkhakaaBldB
import Derived.RangeFuncCalls
set_option linter.unusedVariables false
set_option linter.unusedSimpArgs false
namespace Go.Proofs.Ytckkiffajkhakaa
open Go.ChangeShapes Go.WideShapes Go.ChangeAt Go.RowKit

set_option maxRecDepth 100000 in
set_option maxHeartbeats 8000000 in
theorem lawWeighingOf (x0 : Int) (hx0 : (Lit.int .i64 x0).wf = true) (W : World) :
    Calls Try.prog 13 #[.int .i64 x0] W fun e w' => e = .returned (.bool true) ∧ Below W.heap.size W w' := by
  have hb0 := bounds_i64 hx0
  have hn0 := rWeighingOf0_len x0
  have hn1 := rWeighingOf1_len x0
  obtain ⟨R0, hR0⟩ : ∃ R, R = rWeighingOf0 x0 := ⟨_, rfl⟩
  rw [← hR0] at hn0
  obtain ⟨R1, hR1⟩ : ∃ R, R = rWeighingOf1 x0 := ⟨_, rfl⟩
  rw [← hR1] at hn1
  have HB0 := Lib.hid hb0
  clear hb0
  have HR0 := Lib.hid hR0
  clear hR0
  have HR1 := Lib.hid hR1
  clear hR1
  go_enter Try.func13, Try.ntmps13
  go_wp2_with fail
  have CC1 := Lib.hid (specWeighingOf_any x0 W HB0.out)
  rw [← HR0.out] at CC1
  rw [← HR1.out] at CC1
  refine CC1.out.mono ?_
  rintro e w1 ⟨vp0, vp1, rfl, op0_1, op1_1, app, c1⟩
  have APp := Lib.hid app
  clear app
  have s1 := c1.size
  have b1 := c1
  have Lp0 := Lib.hid (fun k hk => op0_1.lt k hk)
  have Lp1 := Lib.hid (fun k hk => op1_1.lt k hk)
  go_wp2_with fail
  have CC2 := Lib.hid (implWeighingOf_any x0 w1 HB0.out)
  rw [← HR0.out] at CC2
  rw [← HR1.out] at CC2
  refine CC2.out.mono ?_
  rintro e w2 ⟨vg0, vg1, rfl, og0_2, og1_2, apg, c2⟩
  have APg := Lib.hid apg
  clear apg
  have s2 := c2.size
  have b2 := b1.trans (c2.mono b1.size)
  have op0_2 := owns_below op0_1 c2
  clear op0_1
  have op1_2 := owns_below op1_1 c2
  clear op1_1
  have Lg0 := Lib.hid (fun k hk => og0_2.lt k hk)
  have Lg1 := Lib.hid (fun k hk => og1_2.lt k hk)
  go_wp2_with fail
  refine (eqIntS_any _ _ R0 R0 _ (RowAt.of_owns og0_2) (RowAt.of_owns op0_2)).mono ?_
  rintro e w3 ⟨rfl, c3⟩
  have s3 := c3.size
  have b3 := b2.trans (c3.mono b2.size)
  have op0_3 := owns_below op0_2 c3
  clear op0_2
  have op1_3 := owns_below op1_2 c3
  clear op1_2
  have og0_3 := owns_below og0_2 c3
  clear og0_2
  have og1_3 := owns_below og1_2 c3
  clear og1_2
  go_wp2_with fail
  refine (eqIntS_any _ _ R1 R1 _ (RowAt.of_owns og1_3) (RowAt.of_owns op1_3)).mono ?_
  rintro e w4 ⟨rfl, c4⟩
  have s4 := c4.size
  have b4 := b3.trans (c4.mono b3.size)
  have op0_4 := owns_below op0_3 c4
  clear op0_3
  have op1_4 := owns_below op1_3 c4
  clear op1_3
  have og0_4 := owns_below og0_3 c4
  clear og0_3
  have og1_4 := owns_below og1_3 c4
  clear og1_3
  go_wp2_with fail
  refine (markIntS_any _ _ _ _ _ og0_4 (1) (by omega) (by omega)).mono ?_
  rintro e w5 ⟨rfl, ng0_5, g5⟩
  have s5 := g5.size
  have op0_5 := owns_far op0_4 g5 (fun k hk hk' => by have p1 := Lp0.out k hk; have p2 := Lg0.out k hk'; omega)
  clear op0_4
  have op1_5 := owns_far op1_4 g5 (fun k hk hk' => by have p1 := Lp1.out k hk; have p2 := Lg0.out k hk'; omega)
  clear op1_4
  have og1_5 := owns_far og1_4 g5 (fun k hk hk' => APg.out k hk' hk)
  clear og1_4
  have b5 := b4.grown g5 b4.size (fun k hk => by have p2 := Lg0.out k hk; omega)
  clear og0_4
  go_wp2_with fail
  refine (markIntS_any _ _ _ _ _ og1_5 (1 + R0.length) (by omega) (by omega)).mono ?_
  rintro e w6 ⟨rfl, ng1_6, g6⟩
  have s6 := g6.size
  have op0_6 := owns_far op0_5 g6 (fun k hk hk' => by have p1 := Lp0.out k hk; have p2 := Lg1.out k hk'; omega)
  clear op0_5
  have op1_6 := owns_far op1_5 g6 (fun k hk hk' => by have p1 := Lp1.out k hk; have p2 := Lg1.out k hk'; omega)
  clear op1_5
  have og0_6 := owns_far ng0_5 g6 (fun k hk hk' => APg.out k hk hk')
  clear ng0_5
  have b6 := b5.grown g6 b5.size (fun k hk => by have p2 := Lg1.out k hk; omega)
  clear og1_5
  go_wp2_with fail
  refine (heldIntS_any _ (1) R0.length _ (RowAt.of_owns og0_6) (by omega) (by omega)).mono ?_
  rintro e w7 ⟨rfl, c7⟩
  have s7 := c7.size
  have b7 := b6.trans (c7.mono b6.size)
  have op0_7 := owns_below op0_6 c7
  clear op0_6
  have op1_7 := owns_below op1_6 c7
  clear op1_6
  have og0_7 := owns_below og0_6 c7
  clear og0_6
  have og1_7 := owns_below ng1_6 c7
  clear ng1_6
  go_wp2_with fail
  refine (heldIntS_any _ (1 + R0.length) R1.length _ (RowAt.of_owns og1_7) (by omega) (by omega)).mono ?_
  rintro e w8 ⟨rfl, c8⟩
  have s8 := c8.size
  have b8 := b7.trans (c8.mono b7.size)
  have op0_8 := owns_below op0_7 c8
  clear op0_7
  have op1_8 := owns_below op1_7 c8
  clear op1_7
  have og0_8 := owns_below og0_7 c8
  clear og0_7
  have og1_8 := owns_below og1_7 c8
  clear og1_7
  go_wp2_with fail
  have CC9 := Lib.hid (implWeighingOf_any x0 w8 HB0.out)
  rw [← HR0.out] at CC9
  rw [← HR1.out] at CC9
  refine CC9.out.mono ?_
  rintro e w9 ⟨vh0, vh1, rfl, oh0_9, oh1_9, aph, c9⟩
  have APh := Lib.hid aph
  clear aph
  have s9 := c9.size
  have b9 := b8.trans (c9.mono b8.size)
  have op0_9 := owns_below op0_8 c9
  clear op0_8
  have op1_9 := owns_below op1_8 c9
  clear op1_8
  have og0_9 := owns_below og0_8 c9
  clear og0_8
  have og1_9 := owns_below og1_8 c9
  clear og1_8
  have Lh0 := Lib.hid (fun k hk => oh0_9.lt k hk)
  have Lh1 := Lib.hid (fun k hk => oh1_9.lt k hk)
  go_wp2_with fail
  refine (eqIntS_any _ _ R0 R0 _ (RowAt.of_owns oh0_9) (RowAt.of_owns op0_9)).mono ?_
  rintro e w10 ⟨rfl, c10⟩
  have s10 := c10.size
  have b10 := b9.trans (c10.mono b9.size)
  have op0_10 := owns_below op0_9 c10
  clear op0_9
  have op1_10 := owns_below op1_9 c10
  clear op1_9
  have og0_10 := owns_below og0_9 c10
  clear og0_9
  have og1_10 := owns_below og1_9 c10
  clear og1_9
  have oh0_10 := owns_below oh0_9 c10
  clear oh0_9
  have oh1_10 := owns_below oh1_9 c10
  clear oh1_9
  go_wp2_with fail
  refine (eqIntS_any _ _ R1 R1 _ (RowAt.of_owns oh1_10) (RowAt.of_owns op1_10)).mono ?_
  rintro e w11 ⟨rfl, c11⟩
  have s11 := c11.size
  have b11 := b10.trans (c11.mono b10.size)
  have op0_11 := owns_below op0_10 c11
  clear op0_10
  have op1_11 := owns_below op1_10 c11
  clear op1_10
  have og0_11 := owns_below og0_10 c11
  clear og0_10
  have og1_11 := owns_below og1_10 c11
  clear og1_10
  have oh0_11 := owns_below oh0_10 c11
  clear oh0_10
  have oh1_11 := owns_below oh1_10 c11
  clear oh1_10
  go_wp2_with fail
  refine (heldIntS_any _ (1) R0.length _ (RowAt.of_owns og0_11) (by omega) (by omega)).mono ?_
  rintro e w12 ⟨rfl, c12⟩
  have s12 := c12.size
  have b12 := b11.trans (c12.mono b11.size)
  have op0_12 := owns_below op0_11 c12
  clear op0_11
  have op1_12 := owns_below op1_11 c12
  clear op1_11
  have og0_12 := owns_below og0_11 c12
  clear og0_11
  have og1_12 := owns_below og1_11 c12
  clear og1_11
  have oh0_12 := owns_below oh0_11 c12
  clear oh0_11
  have oh1_12 := owns_below oh1_11 c12
  clear oh1_11
  go_wp2_with fail
  refine (heldIntS_any _ (1 + R0.length) R1.length _ (RowAt.of_owns og1_12) (by omega) (by omega)).mono ?_
  rintro e w13 ⟨rfl, c13⟩
  have s13 := c13.size
  have b13 := b12.trans (c13.mono b12.size)
  have op0_13 := owns_below op0_12 c13
  clear op0_12
  have op1_13 := owns_below op1_12 c13
  clear op1_12
  have og0_13 := owns_below og0_12 c13
  clear og0_12
  have og1_13 := owns_below og1_12 c13
  clear og1_12
  have oh0_13 := owns_below oh0_12 c13
  clear oh0_12
  have oh1_13 := owns_below oh1_12 c13
  clear oh1_12
  go_wp2
  go_ret
  exact ⟨rfl, b13⟩

end Go.Proofs.Ytckkiffajkhakaa
