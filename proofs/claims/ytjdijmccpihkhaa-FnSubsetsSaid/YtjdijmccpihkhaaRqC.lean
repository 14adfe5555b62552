/- The sum of the digits of a number, beside leavers. -/
import Derived.Test.YtjdijmccpihkhaaRqB
set_option linter.unusedVariables false
set_option linter.unusedSimpArgs false
set_option maxRecDepth 100000
namespace Go.Proofs.Ytjdijmccpihkhaa
open Go.Conc Go.ChangeShapes Go.WideShapes Go.ChangeAt Go.RowKit

theorem baseOkR_any (b : Int) (w : World) (hb : in64 b) :
    Calls Try.prog 51 #[.int .i64 b] w fun e w' => e = .returned (.bool (okB b)) ∧ w = w' := by
  obtain ⟨hb0, hb1⟩ := hb
  by_cases h : 2 ≤ b
  · have HK := Lib.hid (show okB b = decide (b ≤ 16) by simp [okB, h])
    go_enter Try.func51, Try.ntmps51
    go_wp2
    all_goals (go_ret; exact ⟨ret_bool HK.out.symm, rfl⟩)
  · have h' : b < 2 := by omega
    have HK := Lib.hid (show okB b = false by simp [okB, h])
    go_enter Try.func51, Try.ntmps51
    go_wp2
    all_goals (go_ret; exact ⟨ret_bool HK.out.symm, rfl⟩)

set_option maxHeartbeats 2000000 in
theorem each_boxed (n b : Nat) (w : World) (hb2 : 2 ≤ b) (hb16 : b ≤ 16) (hn : n ≤ 1000000000000) :
    Calls Try.prog 43 #[.int .i64 n, .int .i64 b] w fun e w' => e = .returned (.tuple #[.func (.func 52) #[] #[.pointer (some ⟨w.heap.size, 0, none⟩), .pointer (some ⟨w.heap.size + 1, 0, none⟩)], .bool true]) ∧ Below w.heap.size w w' ∧ Boxed w' w.heap.size 3 (.int .i64 n) ∧ Boxed w' (w.heap.size + 1) 3 (.int .i64 b) := by
  have HC := Lib.hid (fun W => baseOkR_any b W (by unfold in64; omega))
  rw [show okB (b : Int) = true by simp [okB]; omega] at HC
  obtain ⟨w2, hw2⟩ : ∃ w2, w2 = (w.alloc (.cells #[.int .i64 n] 3)).alloc (.cells #[.int .i64 b] 3) := ⟨_, rfl⟩
  have b0 := Boxed.new w 3 (.int .i64 n)
  have b1 := Boxed.new (w.alloc (.cells #[.int .i64 n] 3)) 3 (.int .i64 b)
  rw [World.size_alloc] at b1
  have HS := Lib.hid (show Below w.heap.size w w2 ∧ Boxed w2 w.heap.size 3 (.int .i64 n) ∧ Boxed w2 (w.heap.size + 1) 3 (.int .i64 b) from by
    subst hw2
    exact ⟨((Below.refl _ _).alloc (Nat.le_refl _) _).alloc (by simp) _, b0.alloc _, b1⟩)
  have HW := Lib.hid hw2
  clear hw2 b0 b1
  go_enter Try.func43, Try.ntmps43
  go_wp2_with (go_at_call 51; refine (HC.out _).mono ?_; rintro e w' ⟨rfl, rfl⟩)
  go_ret2
  rw [← HW.out]
  exact ⟨rfl, HS.out⟩

set_option maxHeartbeats 4000000 in
theorem digitSum_b (n b : Nat) (w : World) (hb2 : 2 ≤ b) (hb16 : b ≤ 16) (hn : n ≤ 1000000000000) :
    BCalls Try.prog 23 #[.int .i64 n, .int .i64 b] w fun v w' => v = .int .i64 (dg b n).sum ∧ Bel w.heap.size w w' := by
  have HE := Lib.hid (fun W => each_boxed n b W hb2 hb16 hn)
  refine bcalls_of_wb Try.func23 rfl (plain1 (t := 4) rfl) ?_
  simp only [Try.ntmps23, List.size_toArray, List.length_cons, List.length_nil, Nat.reduceAdd, Nat.reduceSub, Array.replicate_succ, Array.replicate_zero, List.push_toArray, List.append_toArray, List.nil_append, List.cons_append]
  have hways := bodyPost_ways (P := Try.prog) (fn := Try.f23) (R := fun v w' => v = .int .i64 (dg b n).sum ∧ Bel w.heap.size w w')
  have hQ : ∀ (t : Array Value) (w' : World), t.getD 4 undef = .int .i64 (dg b n).sum → Bel w.heap.size w w' → bodyPost Try.prog Try.f23 (fun e w' => ∃ v, e = .returned v ∧ v = .int .i64 (dg b n).sum ∧ Bel w.heap.size w w') .ret ⟨t, []⟩ w' := by
    intro t w' h1 h2
    exact ⟨rfl, _, results_tmp (t := 4) rfl _ _ _, _, rfl, h1, h2⟩
  obtain ⟨Z, hZ⟩ : ∃ Z, Z = (dg b n).sum := ⟨_, rfl⟩
  have HSB := Lib.hid (fun bn bb W h1 h2 => sum_b n b bn bb W hb2 hb16 hn h1 h2)
  rw [← hZ] at hways hQ HSB ⊢
  generalize bodyPost Try.prog Try.f23 (fun e w' => ∃ v, e = .returned v ∧ v = .int .i64 Z ∧ Bel w.heap.size w w') = Q at hways hQ ⊢
  have HW := Lib.hid hways
  have HQ := Lib.hid hQ
  clear hways hQ hZ
  refine wb_first tameSb (by kernel_rfl) HW.out fun σ => ?_
  go_wp2_with fail
  refine wb_re _ _ ?_
  clear σ
  refine wb_firstS tameSb (by kernel_rfl) HW.out fun v1 e1 => ?_
  have q1 := e1.size
  have b0 := e1.bel (Bel.refl w.heap.size w)
  go_wp2_with fail
  refine (HE.out _).mono ?_
  rintro e w1 ⟨rfl, hb, bn, bb⟩
  rw [q1] at bn bb
  have HB := Lib.hid (b0.trans ((bel_of hb).mono b0.size))
  have BN := Lib.hid bn
  have BB := Lib.hid bb
  clear hb bn bb b0
  go_wp2_with fail
  refine wb_first tameSb (by kernel_rfl) HW.out fun σ => ?_
  go_wp2_with fail
  refine wb_re _ _ ?_
  clear σ
  refine wb_seq (wb_region ?_)
  simp only [List.size_toArray, List.length_cons, List.length_nil, Nat.reduceAdd, Nat.zero_add, List.range, List.range.loop]
  refine rb_op tameSb rfl rfl rfl (fun K hK σ => ?_)
  go_simp
  refine hK _ _ ?_
  clear hK K
  refine rb_re _ _ ?_
  clear σ
  refine rb_call rfl rfl rfl Try.func44 rfl rfl (by simp only [List.map_toArray, List.map_cons, List.map_nil]; exact HSB.out _ _ _ BN.out BB.out) ?_
  rintro vr w2 ⟨rfl, hb⟩
  have HB2 := Lib.hid (HB.out.trans (hb.mono HB.out.size))
  clear hb
  refine rb_op tameSb rfl rfl rfl (fun K hK σ => ?_)
  go_simp
  refine hK _ _ ?_
  clear hK K
  refine rb_re _ _ ?_
  clear σ
  refine rb_nil (show Wb _ _ _ _ _ from ?_)
  exact wb_ret (HQ.out _ _ rfl HB2.out)

end Go.Proofs.Ytjdijmccpihkhaa
