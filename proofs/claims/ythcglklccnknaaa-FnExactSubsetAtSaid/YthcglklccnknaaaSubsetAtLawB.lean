/- The law on SubsetAt: the program answers as the model, writes into no argument, and its answer owns its memory. -/
import Derived.Test.YthcglklccnknaaaSbAll
import Derived.Test.YthcglklccnknaaaSbG
set_option linter.unusedVariables false
set_option linter.unusedSimpArgs false
namespace Go.Proofs.Ythcglklccnknaaa
open Go.Conc (solo G)
open Go.ChangeShapes Go.WideShapes Go.ChangeAt Go.RowKit

set_option maxRecDepth 100000 in
set_option maxHeartbeats 8000000 in
theorem lawSubsetAtB (x0 : Int) (hx0 : (Lit.int .i64 x0).wf = true) (x1 : Int) (hx1 : (Lit.int .i64 x1).wf = true) (W : World) :
    ∃ M last o w' t', runNT Try.prog (M + 1) (solo (G (Frame.enter Try.prog 7 #[.int .i64 x0, .int .i64 x1] .normal) []) W) #[] = (.ended o w', t') ∧ runN Try.prog M (solo (G (Frame.enter Try.prog 7 #[.int .i64 x0, .int .i64 x1] .normal) []) W) = .next last ∧ step Try.prog last = .ended o w' ∧
      Go.Conc.Good Try.prog (fun v w' => v = .bool true ∧ Below W.heap.size W w') last o w' t' := by
  have hb0 := bounds_i64 hx0
  have hb1 := bounds_i64 hx1
  have hn0 := rSubsetAt0_len x0 x1
  obtain ⟨R0, hR0⟩ : ∃ R, R = rSubsetAt0 x0 x1 := ⟨_, rfl⟩
  rw [← hR0] at hn0
  have HB0 := Lib.hid hb0
  clear hb0
  have HB1 := Lib.hid hb1
  clear hb1
  have HR0 := Lib.hid hR0
  clear hR0
  refine main_ends (t := 4) (v := .bool true) Try.func7 rfl rfl (by kernel_rfl) fun Q hways hQ => ?_
  have HQ := Lib.hid (fun tm w' (h1 : tm.getD 4 undef = .bool true) (h2 : Bel W.heap.size W w') => hQ tm w' h1 fun d => ⟨rfl, h2.below d⟩)
  have HW := Lib.hid hways
  clear hQ hways
  simp only [Try.ntmps7, List.size_toArray, List.length_cons, List.length_nil, Nat.reduceAdd, Nat.reduceSub, Array.replicate_succ,
     Array.replicate_zero, List.push_toArray, List.append_toArray, List.nil_append, List.cons_append]
  repeat (refine wb_first tameSbL (by kernel_rfl) HW.out fun σ => ?_; go_wp2_with fail; refine wb_re _ _ ?_; clear σ)
  refine wb_firstS tameSbL (by kernel_rfl) HW.out fun v1 e1 => ?_
  have q1 := e1.size
  have b0 := e1.bel (Bel.refl W.heap.size W)
  go_wp2_with fail
  have CC1 := Lib.hid (specSubsetAt_any x0 x1 v1 HB0.out HB1.out)
  rw [← HR0.out] at CC1
  refine CC1.out.mono ?_
  rintro e w1 ⟨vp0, rfl, op0_1, c1⟩
  have s1 := c1.size
  have b1 := b0.trans ((bel_of c1).mono b0.size)
  have Lp0 := Lib.hid (fun k hk => op0_1.lt k hk)
  go_wp2_with fail
  repeat (refine wb_first tameSbL (by kernel_rfl) HW.out fun σ => ?_; go_wp2_with fail; refine wb_re _ _ ?_; clear σ)
  refine wb_seq (wb_region ?_)
  simp only [List.size_toArray, List.length_cons, List.length_nil, Nat.reduceAdd, Nat.zero_add, List.range, List.range.loop]
  repeat (refine rb_op tameSbL rfl rfl rfl (fun K hK σ => ?_); go_simp; refine hK _ _ ?_; clear hK K; refine rb_re _ _ ?_; clear σ)
  have CC2 := Lib.hid (implSubsetAt_b x0 x1 w1 HB0.out HB1.out)
  rw [← HR0.out] at CC2
  refine rb_call rfl rfl rfl Try.func14 rfl rfl (by simp only [List.map_toArray, List.map_cons, List.map_nil]; exact CC2.out) ?_
  rintro vr w2 ⟨vg0, rfl, τ, d, og0_2, c2⟩
  replace c2 := bel_re c2
  clear τ d
  have s2 := c2.size
  have b2 := b1.trans (c2.mono b1.size)
  have op0_2 := owns_bel op0_1 c2
  clear op0_1
  have Lg0 := Lib.hid (fun k hk => og0_2.lt k hk)
  repeat (refine rb_op tameSbL rfl rfl rfl (fun K hK σ => ?_); go_simp; refine hK _ _ ?_; clear hK K; refine rb_re _ _ ?_; clear σ)
  refine rb_nil (show Wb _ _ _ _ _ from ?_)
  repeat (refine wb_first tameSbL (by kernel_rfl) HW.out fun σ => ?_; go_wp2_with fail; refine wb_re _ _ ?_; clear σ)
  refine wb_firstS tameSbL (by kernel_rfl) HW.out fun v2 e2 => ?_
  have q2 := e2.size
  replace b2 := e2.bel b2
  replace op0_2 := e2.owns op0_2
  replace og0_2 := e2.owns og0_2
  go_wp2_with fail
  refine (eqIntS_any _ _ R0 R0 _ (RowAt.of_owns og0_2) (RowAt.of_owns op0_2)).mono ?_
  rintro e w3 ⟨rfl, c3⟩
  have s3 := c3.size
  have b3 := b2.trans ((bel_of c3).mono b2.size)
  have op0_3 := owns_below op0_2 c3
  clear op0_2
  have og0_3 := owns_below og0_2 c3
  clear og0_2
  go_wp2_with fail
  repeat (refine wb_first tameSbL (by kernel_rfl) HW.out fun σ => ?_; go_wp2_with fail; refine wb_re _ _ ?_; clear σ)
  refine wb_firstS tameSbL (by kernel_rfl) HW.out fun v3 e3 => ?_
  have q3 := e3.size
  replace b3 := e3.bel b3
  replace op0_3 := e3.owns op0_3
  replace og0_3 := e3.owns og0_3
  go_wp2_with fail
  refine (markIntS_any _ _ _ _ _ og0_3 (1) (by omega) (by omega)).mono ?_
  rintro e w4 ⟨rfl, ng0_4, g4⟩
  have s4 := g4.size
  have op0_4 := owns_far op0_3 g4 (fun k hk hk' => by have p1 := Lp0.out k hk; have p2 := Lg0.out k hk'; omega)
  clear op0_3
  have b4 := bel_grown b3 g4 b3.size (fun k hk => by have p2 := Lg0.out k hk; omega)
  clear og0_3
  go_wp2_with fail
  repeat (refine wb_first tameSbL (by kernel_rfl) HW.out fun σ => ?_; go_wp2_with fail; refine wb_re _ _ ?_; clear σ)
  refine wb_firstS tameSbL (by kernel_rfl) HW.out fun v4 e4 => ?_
  have q4 := e4.size
  replace b4 := e4.bel b4
  replace op0_4 := e4.owns op0_4
  replace ng0_4 := e4.owns ng0_4
  go_wp2_with fail
  refine (heldIntS_any _ (1) R0.length _ (RowAt.of_owns ng0_4) (by omega) (by omega)).mono ?_
  rintro e w5 ⟨rfl, c5⟩
  have s5 := c5.size
  have b5 := b4.trans ((bel_of c5).mono b4.size)
  have op0_5 := owns_below op0_4 c5
  clear op0_4
  have og0_5 := owns_below ng0_4 c5
  clear ng0_4
  go_wp2_with fail
  repeat (refine wb_first tameSbL (by kernel_rfl) HW.out fun σ => ?_; go_wp2_with fail; refine wb_re _ _ ?_; clear σ)
  refine wb_seq (wb_region ?_)
  simp only [List.size_toArray, List.length_cons, List.length_nil, Nat.reduceAdd, Nat.zero_add, List.range, List.range.loop]
  repeat (refine rb_op tameSbL rfl rfl rfl (fun K hK σ => ?_); go_simp; refine hK _ _ ?_; clear hK K; refine rb_re _ _ ?_; clear σ)
  have CC6 := Lib.hid (implSubsetAt_b x0 x1 w5 HB0.out HB1.out)
  rw [← HR0.out] at CC6
  refine rb_call rfl rfl rfl Try.func14 rfl rfl (by simp only [List.map_toArray, List.map_cons, List.map_nil]; exact CC6.out) ?_
  rintro vr w6 ⟨vh0, rfl, τ, d, oh0_6, c6⟩
  replace c6 := bel_re c6
  clear τ d
  have s6 := c6.size
  have b6 := b5.trans (c6.mono b5.size)
  have op0_6 := owns_bel op0_5 c6
  clear op0_5
  have og0_6 := owns_bel og0_5 c6
  clear og0_5
  have Lh0 := Lib.hid (fun k hk => oh0_6.lt k hk)
  repeat (refine rb_op tameSbL rfl rfl rfl (fun K hK σ => ?_); go_simp; refine hK _ _ ?_; clear hK K; refine rb_re _ _ ?_; clear σ)
  refine rb_nil (show Wb _ _ _ _ _ from ?_)
  repeat (refine wb_first tameSbL (by kernel_rfl) HW.out fun σ => ?_; go_wp2_with fail; refine wb_re _ _ ?_; clear σ)
  refine wb_lastS tameSbL (by kernel_rfl) HW.out fun v5 e5 => ?_
  have q5 := e5.size
  replace b6 := e5.bel b6
  replace op0_6 := e5.owns op0_6
  replace og0_6 := e5.owns og0_6
  replace oh0_6 := e5.owns oh0_6
  go_wp2_with fail
  refine (eqIntS_any _ _ R0 R0 _ (RowAt.of_owns oh0_6) (RowAt.of_owns op0_6)).mono ?_
  rintro e w7 ⟨rfl, c7⟩
  have s7 := c7.size
  have b7 := b6.trans ((bel_of c7).mono b6.size)
  have op0_7 := owns_below op0_6 c7
  clear op0_6
  have og0_7 := owns_below og0_6 c7
  clear og0_6
  have oh0_7 := owns_below oh0_6 c7
  clear oh0_6
  go_wp2_with fail
  refine (heldIntS_any _ (1) R0.length _ (RowAt.of_owns og0_7) (by omega) (by omega)).mono ?_
  rintro e w8 ⟨rfl, c8⟩
  have s8 := c8.size
  have b8 := b7.trans ((bel_of c8).mono b7.size)
  have op0_8 := owns_below op0_7 c8
  clear op0_7
  have og0_8 := owns_below og0_7 c8
  clear og0_7
  have oh0_8 := owns_below oh0_7 c8
  clear oh0_7

  go_wp2
  exact HQ.out _ _ rfl b8

end Go.Proofs.Ythcglklccnknaaa
