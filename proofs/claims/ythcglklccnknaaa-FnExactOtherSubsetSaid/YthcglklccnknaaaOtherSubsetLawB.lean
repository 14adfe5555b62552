/- The law on OtherSubset: the program answers as the model, writes into no argument, and its answer owns its memory. -/
import Derived.Test.YthcglklccnknaaaSbAll
import Derived.Test.YthcglklccnknaaaSbI
set_option linter.unusedVariables false
set_option linter.unusedSimpArgs false
namespace Go.Proofs.Ythcglklccnknaaa
open Go.Conc (solo G)
open Go.ChangeShapes Go.WideShapes Go.ChangeAt Go.RowKit

set_option maxRecDepth 100000 in
set_option maxHeartbeats 8000000 in
theorem lawOtherSubsetB (W : World) (a0 : Option Addr) (len0 cap0 : Nat) (zs0 : List Int) (hz0 : IsRow .i64 W a0 len0 cap0 zs0) (x1 : Int) (hx1 : (Lit.int .i64 x1).wf = true) :
    ∃ M last o w' t', runNT Try.prog (M + 1) (solo (G (Frame.enter Try.prog 11 #[.slice a0 len0 cap0, .int .i64 x1] .normal) []) W) #[] = (.ended o w', t') ∧ runN Try.prog M (solo (G (Frame.enter Try.prog 11 #[.slice a0 len0 cap0, .int .i64 x1] .normal) []) W) = .next last ∧ step Try.prog last = .ended o w' ∧
      Go.Conc.Good Try.prog (fun v w' => v = .bool true ∧ Below W.heap.size W w') last o w' t' := by
  obtain ⟨l0, hrow0, hin0⟩ := isInts_of hz0
  have hlen0 : len0 = l0.length ∧ len0 ≤ 9223372036854775807 := by
    obtain ⟨a', c', e, h1, h2, _⟩ := hrow0
    injection e with _ e1 _
    rw [intsOf_length] at e1 h1; unfold maxLen at h2; omega
  clear hz0
  have hb1 := bounds_i64 hx1
  by_cases hbig0 : 1048576 < len0
  · refine main_ends (t := 4) (v := .bool true) Try.func11 rfl rfl (by kernel_rfl) fun Q hways hQ => ?_
    have HQ := Lib.hid (fun tm w' (h1 : tm.getD 4 undef = .bool true) (h2 : Bel W.heap.size W w') => hQ tm w' h1 fun d => ⟨rfl, h2.below d⟩)
    have HW := Lib.hid hways
    clear hQ hways
    simp only [Try.ntmps11, List.size_toArray, List.length_cons, List.length_nil, Nat.reduceAdd, Nat.reduceSub, Array.replicate_succ,
     Array.replicate_zero, List.push_toArray, List.append_toArray, List.nil_append, List.cons_append]
    repeat (refine wb_first tameSbL (by kernel_rfl) HW.out fun σ => ?_; go_wp2_with fail; refine wb_re _ _ ?_; clear σ)
    refine wb_firstS tameSbL (by kernel_rfl) HW.out fun v0 e0 => ?_
    have bb := e0.bel (Bel.refl W.heap.size W)
    go_wp2_with fail
    exact HQ.out _ _ rfl bb
  have hl0 : l0.length ≤ 1048576 := by omega
  have hn0 := rOtherSubset0_len l0 x1
  obtain ⟨R0, hR0⟩ : ∃ R, R = rOtherSubset0 l0 x1 := ⟨_, rfl⟩
  rw [← hR0] at hn0
  have HL0 := Lib.hid hlen0.1
  have hlm0 := hlen0.2
  clear hlen0
  have HI0 := Lib.hid hin0
  clear hin0
  have HRow0 := Lib.hid hrow0
  clear hrow0
  have HB1 := Lib.hid hb1
  clear hb1
  have HR0 := Lib.hid hR0
  clear hR0
  refine main_ends (t := 4) (v := .bool true) Try.func11 rfl rfl (by kernel_rfl) fun Q hways hQ => ?_
  have HQ := Lib.hid (fun tm w' (h1 : tm.getD 4 undef = .bool true) (h2 : Bel W.heap.size W w') => hQ tm w' h1 fun d => ⟨rfl, h2.below d⟩)
  have HW := Lib.hid hways
  clear hQ hways
  simp only [Try.ntmps11, List.size_toArray, List.length_cons, List.length_nil, Nat.reduceAdd, Nat.reduceSub, Array.replicate_succ,
     Array.replicate_zero, List.push_toArray, List.append_toArray, List.nil_append, List.cons_append]
  repeat (refine wb_first tameSbL (by kernel_rfl) HW.out fun σ => ?_; go_wp2_with fail; refine wb_re _ _ ?_; clear σ)
  refine wb_firstS tameSbL (by kernel_rfl) HW.out fun v1 e1 => ?_
  have q1 := e1.size
  have b0 := e1.bel (Bel.refl W.heap.size W)
  go_wp2_with fail
  refine (toIntS_any _ l0 _ (HRow0.out.bel b0) hl0).mono ?_
  rintro e w1 ⟨vs0, rfl, os0_1, c1⟩
  have s1 := c1.size
  have b1 := b0.trans ((bel_of c1).mono b0.size)
  have Ls0 := Lib.hid (fun k hk => os0_1.lt k hk)
  go_wp2_with fail
  have CC2 := Lib.hid (specOtherSubset_any vs0 l0 x1 w1 (RowAt.of_owns os0_1) hl0 HI0.out HB1.out)
  rw [← HR0.out] at CC2
  refine CC2.out.mono ?_
  rintro e w2 ⟨vp0, rfl, op0_2, c2⟩
  have s2 := c2.size
  have b2 := b1.trans ((bel_of c2).mono b1.size)
  have os0_2 := owns_below os0_1 c2
  clear os0_1
  have Lp0 := Lib.hid (fun k hk => op0_2.lt k hk)
  go_wp2_with fail
  repeat (refine wb_first tameSbL (by kernel_rfl) HW.out fun σ => ?_; go_wp2_with fail; refine wb_re _ _ ?_; clear σ)
  refine wb_firstS tameSbL (by kernel_rfl) HW.out fun v2 e2 => ?_
  have q2 := e2.size
  replace b2 := e2.bel b2
  replace os0_2 := e2.owns os0_2
  replace op0_2 := e2.owns op0_2
  go_wp2_with fail
  refine (toIntS_any _ l0 _ (HRow0.out.bel b2) hl0).mono ?_
  rintro e w3 ⟨vx0, rfl, ox0_3, c3⟩
  have s3 := c3.size
  have b3 := b2.trans ((bel_of c3).mono b2.size)
  have os0_3 := owns_below os0_2 c3
  clear os0_2
  have op0_3 := owns_below op0_2 c3
  clear op0_2
  have Lx0 := Lib.hid (fun k hk => ox0_3.lt k hk)
  go_wp2_with fail
  repeat (refine wb_first tameSbL (by kernel_rfl) HW.out fun σ => ?_; go_wp2_with fail; refine wb_re _ _ ?_; clear σ)
  refine wb_seq (wb_region ?_)
  simp only [List.size_toArray, List.length_cons, List.length_nil, Nat.reduceAdd, Nat.zero_add, List.range, List.range.loop]
  repeat (refine rb_op tameSbL rfl rfl rfl (fun K hK σ => ?_); go_simp; refine hK _ _ ?_; clear hK K; refine rb_re _ _ ?_; clear σ)
  have CC4 := Lib.hid (implOtherSubset_b vx0 l0 x1 w3 (RowAt.of_owns ox0_3) hl0 HI0.out HB1.out)
  rw [← HR0.out] at CC4
  refine rb_call rfl rfl rfl Try.func16 rfl rfl (by simp only [List.map_toArray, List.map_cons, List.map_nil]; exact CC4.out) ?_
  rintro vr w4 ⟨vg0, rfl, τ, d, og0_4, c4⟩
  replace c4 := bel_re c4
  clear τ d
  have s4 := c4.size
  have b4 := b3.trans (c4.mono b3.size)
  have os0_4 := owns_bel os0_3 c4
  clear os0_3
  have op0_4 := owns_bel op0_3 c4
  clear op0_3
  have ox0_4 := owns_bel ox0_3 c4
  clear ox0_3
  have Lg0 := Lib.hid (fun k hk => og0_4.lt k hk)
  repeat (refine rb_op tameSbL rfl rfl rfl (fun K hK σ => ?_); go_simp; refine hK _ _ ?_; clear hK K; refine rb_re _ _ ?_; clear σ)
  refine rb_nil (show Wb _ _ _ _ _ from ?_)
  repeat (refine wb_first tameSbL (by kernel_rfl) HW.out fun σ => ?_; go_wp2_with fail; refine wb_re _ _ ?_; clear σ)
  refine wb_firstS tameSbL (by kernel_rfl) HW.out fun v3 e3 => ?_
  have q3 := e3.size
  replace b4 := e3.bel b4
  replace os0_4 := e3.owns os0_4
  replace op0_4 := e3.owns op0_4
  replace ox0_4 := e3.owns ox0_4
  replace og0_4 := e3.owns og0_4
  go_wp2_with fail
  refine (eqIntS_any _ _ R0 R0 _ (RowAt.of_owns og0_4) (RowAt.of_owns op0_4)).mono ?_
  rintro e w5 ⟨rfl, c5⟩
  have s5 := c5.size
  have b5 := b4.trans ((bel_of c5).mono b4.size)
  have os0_5 := owns_below os0_4 c5
  clear os0_4
  have op0_5 := owns_below op0_4 c5
  clear op0_4
  have ox0_5 := owns_below ox0_4 c5
  clear ox0_4
  have og0_5 := owns_below og0_4 c5
  clear og0_4
  go_wp2_with fail
  repeat (refine wb_first tameSbL (by kernel_rfl) HW.out fun σ => ?_; go_wp2_with fail; refine wb_re _ _ ?_; clear σ)
  refine wb_firstS tameSbL (by kernel_rfl) HW.out fun v4 e4 => ?_
  have q4 := e4.size
  replace b5 := e4.bel b5
  replace os0_5 := e4.owns os0_5
  replace op0_5 := e4.owns op0_5
  replace ox0_5 := e4.owns ox0_5
  replace og0_5 := e4.owns og0_5
  go_wp2_with fail
  refine (toIntS_any _ l0 _ (HRow0.out.bel b5) hl0).mono ?_
  rintro e w6 ⟨vy0, rfl, oy0_6, c6⟩
  have s6 := c6.size
  have b6 := b5.trans ((bel_of c6).mono b5.size)
  have os0_6 := owns_below os0_5 c6
  clear os0_5
  have op0_6 := owns_below op0_5 c6
  clear op0_5
  have ox0_6 := owns_below ox0_5 c6
  clear ox0_5
  have og0_6 := owns_below og0_5 c6
  clear og0_5
  have Ly0 := Lib.hid (fun k hk => oy0_6.lt k hk)
  go_wp2_with fail
  refine (eqIntS_any _ _ l0 l0 _ (RowAt.of_owns ox0_6) (RowAt.of_owns oy0_6)).mono ?_
  rintro e w7 ⟨rfl, c7⟩
  have s7 := c7.size
  have b7 := b6.trans ((bel_of c7).mono b6.size)
  have os0_7 := owns_below os0_6 c7
  clear os0_6
  have op0_7 := owns_below op0_6 c7
  clear op0_6
  have ox0_7 := owns_below ox0_6 c7
  clear ox0_6
  have og0_7 := owns_below og0_6 c7
  clear og0_6
  have oy0_7 := owns_below oy0_6 c7
  clear oy0_6
  go_wp2_with fail
  repeat (refine wb_first tameSbL (by kernel_rfl) HW.out fun σ => ?_; go_wp2_with fail; refine wb_re _ _ ?_; clear σ)
  refine wb_firstS tameSbL (by kernel_rfl) HW.out fun v5 e5 => ?_
  have q5 := e5.size
  replace b7 := e5.bel b7
  replace os0_7 := e5.owns os0_7
  replace op0_7 := e5.owns op0_7
  replace ox0_7 := e5.owns ox0_7
  replace og0_7 := e5.owns og0_7
  replace oy0_7 := e5.owns oy0_7
  go_wp2_with fail
  refine (markIntS_any _ _ _ _ _ ox0_7 (1) (by omega) (by omega)).mono ?_
  rintro e w8 ⟨rfl, nx0_8, g8⟩
  have s8 := g8.size
  have os0_8 := owns_far os0_7 g8 (fun k hk hk' => by have p1 := Ls0.out k hk; have p2 := Lx0.out k hk'; omega)
  clear os0_7
  have op0_8 := owns_far op0_7 g8 (fun k hk hk' => by have p1 := Lp0.out k hk; have p2 := Lx0.out k hk'; omega)
  clear op0_7
  have og0_8 := owns_far og0_7 g8 (fun k hk hk' => by have p1 := Lg0.out k hk; have p2 := Lx0.out k hk'; omega)
  clear og0_7
  have oy0_8 := owns_far oy0_7 g8 (fun k hk hk' => by have p1 := Ly0.out k hk; have p2 := Lx0.out k hk'; omega)
  clear oy0_7
  have b8 := bel_grown b7 g8 b7.size (fun k hk => by have p2 := Lx0.out k hk; omega)
  clear ox0_7
  go_wp2_with fail
  repeat (refine wb_first tameSbL (by kernel_rfl) HW.out fun σ => ?_; go_wp2_with fail; refine wb_re _ _ ?_; clear σ)
  refine wb_firstS tameSbL (by kernel_rfl) HW.out fun v6 e6 => ?_
  have q6 := e6.size
  replace b8 := e6.bel b8
  replace os0_8 := e6.owns os0_8
  replace op0_8 := e6.owns op0_8
  replace og0_8 := e6.owns og0_8
  replace oy0_8 := e6.owns oy0_8
  replace nx0_8 := e6.owns nx0_8
  go_wp2_with fail
  refine (eqIntS_any _ _ R0 R0 _ (RowAt.of_owns og0_8) (RowAt.of_owns op0_8)).mono ?_
  rintro e w9 ⟨rfl, c9⟩
  have s9 := c9.size
  have b9 := b8.trans ((bel_of c9).mono b8.size)
  have os0_9 := owns_below os0_8 c9
  clear os0_8
  have op0_9 := owns_below op0_8 c9
  clear op0_8
  have ox0_9 := owns_below nx0_8 c9
  clear nx0_8
  have og0_9 := owns_below og0_8 c9
  clear og0_8
  have oy0_9 := owns_below oy0_8 c9
  clear oy0_8
  go_wp2_with fail
  repeat (refine wb_first tameSbL (by kernel_rfl) HW.out fun σ => ?_; go_wp2_with fail; refine wb_re _ _ ?_; clear σ)
  refine wb_firstS tameSbL (by kernel_rfl) HW.out fun v7 e7 => ?_
  have q7 := e7.size
  replace b9 := e7.bel b9
  replace os0_9 := e7.owns os0_9
  replace op0_9 := e7.owns op0_9
  replace ox0_9 := e7.owns ox0_9
  replace og0_9 := e7.owns og0_9
  replace oy0_9 := e7.owns oy0_9
  go_wp2_with fail
  refine (markIntS_any _ _ _ _ _ og0_9 (1) (by omega) (by omega)).mono ?_
  rintro e w10 ⟨rfl, ng0_10, g10⟩
  have s10 := g10.size
  have os0_10 := owns_far os0_9 g10 (fun k hk hk' => by have p1 := Ls0.out k hk; have p2 := Lg0.out k hk'; omega)
  clear os0_9
  have op0_10 := owns_far op0_9 g10 (fun k hk hk' => by have p1 := Lp0.out k hk; have p2 := Lg0.out k hk'; omega)
  clear op0_9
  have ox0_10 := owns_far ox0_9 g10 (fun k hk hk' => by have p1 := Lx0.out k hk; have p2 := Lg0.out k hk'; omega)
  clear ox0_9
  have oy0_10 := owns_far oy0_9 g10 (fun k hk hk' => by have p1 := Ly0.out k hk; have p2 := Lg0.out k hk'; omega)
  clear oy0_9
  have b10 := bel_grown b9 g10 b9.size (fun k hk => by have p2 := Lg0.out k hk; omega)
  clear og0_9
  go_wp2_with fail
  repeat (refine wb_first tameSbL (by kernel_rfl) HW.out fun σ => ?_; go_wp2_with fail; refine wb_re _ _ ?_; clear σ)
  refine wb_firstS tameSbL (by kernel_rfl) HW.out fun v8 e8 => ?_
  have q8 := e8.size
  replace b10 := e8.bel b10
  replace os0_10 := e8.owns os0_10
  replace op0_10 := e8.owns op0_10
  replace ox0_10 := e8.owns ox0_10
  replace oy0_10 := e8.owns oy0_10
  replace ng0_10 := e8.owns ng0_10
  go_wp2_with fail
  refine (heldIntS_any _ (1) R0.length _ (RowAt.of_owns ng0_10) (by omega) (by omega)).mono ?_
  rintro e w11 ⟨rfl, c11⟩
  have s11 := c11.size
  have b11 := b10.trans ((bel_of c11).mono b10.size)
  have os0_11 := owns_below os0_10 c11
  clear os0_10
  have op0_11 := owns_below op0_10 c11
  clear op0_10
  have ox0_11 := owns_below ox0_10 c11
  clear ox0_10
  have og0_11 := owns_below ng0_10 c11
  clear ng0_10
  have oy0_11 := owns_below oy0_10 c11
  clear oy0_10
  go_wp2_with fail
  repeat (refine wb_first tameSbL (by kernel_rfl) HW.out fun σ => ?_; go_wp2_with fail; refine wb_re _ _ ?_; clear σ)
  refine wb_seq (wb_region ?_)
  simp only [List.size_toArray, List.length_cons, List.length_nil, Nat.reduceAdd, Nat.zero_add, List.range, List.range.loop]
  repeat (refine rb_op tameSbL rfl rfl rfl (fun K hK σ => ?_); go_simp; refine hK _ _ ?_; clear hK K; refine rb_re _ _ ?_; clear σ)
  refine rb_lone tameSbL rfl rfl rfl rfl Try.func26 rfl rfl fun v9 e9 => ?_
  simp only [List.map_toArray, List.map_cons, List.map_nil]
  have q9 := e9.size
  replace b11 := e9.bel b11
  replace os0_11 := e9.owns os0_11
  replace op0_11 := e9.owns op0_11
  replace ox0_11 := e9.owns ox0_11
  replace og0_11 := e9.owns og0_11
  replace oy0_11 := e9.owns oy0_11
  refine (toIntS_any _ l0 _ (HRow0.out.bel b11) hl0).mono ?_
  rintro e w12 ⟨vt0, rfl, ot0_12, c12⟩
  refine ⟨_, rfl, ?_⟩
  have s12 := c12.size
  have b12 := b11.trans ((bel_of c12).mono b11.size)
  have os0_12 := owns_below os0_11 c12
  clear os0_11
  have op0_12 := owns_below op0_11 c12
  clear op0_11
  have ox0_12 := owns_below ox0_11 c12
  clear ox0_11
  have og0_12 := owns_below og0_11 c12
  clear og0_11
  have oy0_12 := owns_below oy0_11 c12
  clear oy0_11
  have Lt0 := Lib.hid (fun k hk => ot0_12.lt k hk)
  repeat (refine rb_op tameSbL rfl rfl rfl (fun K hK σ => ?_); go_simp; refine hK _ _ ?_; clear hK K; refine rb_re _ _ ?_; clear σ)
  have CC13 := Lib.hid (implOtherSubset_b vt0 l0 x1 w12 (RowAt.of_owns ot0_12) hl0 HI0.out HB1.out)
  rw [← HR0.out] at CC13
  refine rb_call rfl rfl rfl Try.func16 rfl rfl (by simp only [List.map_toArray, List.map_cons, List.map_nil]; exact CC13.out) ?_
  rintro vr w13 ⟨vh0, rfl, τ, d, oh0_13, c13⟩
  replace c13 := bel_re c13
  clear τ d
  have s13 := c13.size
  have b13 := b12.trans (c13.mono b12.size)
  have os0_13 := owns_bel os0_12 c13
  clear os0_12
  have op0_13 := owns_bel op0_12 c13
  clear op0_12
  have ox0_13 := owns_bel ox0_12 c13
  clear ox0_12
  have og0_13 := owns_bel og0_12 c13
  clear og0_12
  have oy0_13 := owns_bel oy0_12 c13
  clear oy0_12
  have ot0_13 := owns_bel ot0_12 c13
  clear ot0_12
  have Lh0 := Lib.hid (fun k hk => oh0_13.lt k hk)
  repeat (refine rb_op tameSbL rfl rfl rfl (fun K hK σ => ?_); go_simp; refine hK _ _ ?_; clear hK K; refine rb_re _ _ ?_; clear σ)
  refine rb_nil (show Wb _ _ _ _ _ from ?_)
  repeat (refine wb_first tameSbL (by kernel_rfl) HW.out fun σ => ?_; go_wp2_with fail; refine wb_re _ _ ?_; clear σ)
  refine wb_lastS tameSbL (by kernel_rfl) HW.out fun v10 e10 => ?_
  have q10 := e10.size
  replace b13 := e10.bel b13
  replace os0_13 := e10.owns os0_13
  replace op0_13 := e10.owns op0_13
  replace ox0_13 := e10.owns ox0_13
  replace og0_13 := e10.owns og0_13
  replace oy0_13 := e10.owns oy0_13
  replace ot0_13 := e10.owns ot0_13
  replace oh0_13 := e10.owns oh0_13
  go_wp2_with fail
  refine (eqIntS_any _ _ R0 R0 _ (RowAt.of_owns oh0_13) (RowAt.of_owns op0_13)).mono ?_
  rintro e w14 ⟨rfl, c14⟩
  have s14 := c14.size
  have b14 := b13.trans ((bel_of c14).mono b13.size)
  have os0_14 := owns_below os0_13 c14
  clear os0_13
  have op0_14 := owns_below op0_13 c14
  clear op0_13
  have ox0_14 := owns_below ox0_13 c14
  clear ox0_13
  have og0_14 := owns_below og0_13 c14
  clear og0_13
  have oy0_14 := owns_below oy0_13 c14
  clear oy0_13
  have ot0_14 := owns_below ot0_13 c14
  clear ot0_13
  have oh0_14 := owns_below oh0_13 c14
  clear oh0_13
  go_wp2_with fail
  refine (heldIntS_any _ (1) R0.length _ (RowAt.of_owns og0_14) (by omega) (by omega)).mono ?_
  rintro e w15 ⟨rfl, c15⟩
  have s15 := c15.size
  have b15 := b14.trans ((bel_of c15).mono b14.size)
  have os0_15 := owns_below os0_14 c15
  clear os0_14
  have op0_15 := owns_below op0_14 c15
  clear op0_14
  have ox0_15 := owns_below ox0_14 c15
  clear ox0_14
  have og0_15 := owns_below og0_14 c15
  clear og0_14
  have oy0_15 := owns_below oy0_14 c15
  clear oy0_14
  have ot0_15 := owns_below ot0_14 c15
  clear ot0_14
  have oh0_15 := owns_below oh0_14 c15
  clear oh0_14

  go_wp2
  exact HQ.out _ _ rfl b15

end Go.Proofs.Ythcglklccnknaaa
