/- The law on subsets: ranks, the next one, the other one, masks and coefficients fit together. -/
import Derived.Test.YtjdijmccpihkhaaLawFns
import Derived.Test.YtjdijmccpihkhaaSbI
import Derived.Test.YtjdijmccpihkhaaRqC
import Derived.Test.YtjdijmccpihkhaaDraw
set_option linter.unusedVariables false
set_option linter.unusedSimpArgs false
set_option maxRecDepth 100000
namespace Go.Proofs.Ytjdijmccpihkhaa
open Go.Conc (solo G)
open Go.ChangeShapes Go.WideShapes Go.ChangeAt Go.RowKit

theorem bytes_bel {W W' : World} {v : Value} (h : BytesAt W v) (hb : Bel W.heap.size W W') : BytesAt W' v := by
  obtain ⟨τ, d, h'⟩ := hb
  exact BytesAt.below (show BytesAt (re W τ d) v from h) h'
theorem dsum_two {l : List Int} (h : SbL l) : (dg 2 (mk l)).sum = l.length := by
  have h1 := sb_dsum h
  rw [rDigitSum0] at h1
  split at h1
  · simpa using h1
  · omega

set_option maxRecDepth 100000 in
set_option maxHeartbeats 16000000 in
theorem lawSubsetsB (W : World) (a : Option Addr) (len cap : Nat) (zs : List Int) (hz : IsRow .u8 W a len cap zs) :
    ∃ M last o w' t', runNT Try.prog (M + 1) (solo (G (Frame.enter Try.prog 3 #[.slice a len cap] .normal) []) W) #[] = (.ended o w', t') ∧ runN Try.prog M (solo (G (Frame.enter Try.prog 3 #[.slice a len cap] .normal) []) W) = .next last ∧ step Try.prog last = .ended o w' ∧
      Go.Conc.Good Try.prog (fun v w' => v = .bool true ∧ Below W.heap.size W w') last o w' t' := by
  have hv := bytesAt_of hz
  have HV := Lib.hid hv
  have hlen : len ≤ 9223372036854775807 := by
    obtain ⟨_, n, c, zs', e, h1, h2, _⟩ := hv
    injection e with _ e1 _
    unfold maxLen at h2; omega
  clear hz hv
  by_cases hbig : 1048576 < len
  · refine main_ends (t := 2) (v := .bool true) Try.func3 rfl rfl (by kernel_rfl) fun Q hways hQ => ?_
    have HQ := Lib.hid (fun tm w' (h1 : tm.getD 2 undef = .bool true) (h2 : Bel W.heap.size W w') => hQ tm w' h1 fun d => ⟨rfl, h2.below d⟩)
    have HW := Lib.hid hways
    clear hQ hways
    simp only [Try.ntmps3, List.size_toArray, List.length_cons, List.length_nil, Nat.reduceAdd, Nat.reduceSub, Array.replicate_succ,
     Array.replicate_zero, List.push_toArray, List.append_toArray, List.nil_append, List.cons_append]
    repeat (refine wb_first tameSbL (by kernel_rfl) HW.out fun σ => ?_; go_wp2_with fail; refine wb_re _ _ ?_; clear σ)
    refine wb_firstS tameSbL (by kernel_rfl) HW.out fun v0 e0 => ?_
    have bb := e0.bel (Bel.refl W.heap.size W)
    go_wp2_with fail
    exact HQ.out _ _ rfl bb
  · refine main_ends (t := 2) (v := .bool true) Try.func3 rfl rfl (by kernel_rfl) fun Q hways hQ => ?_
    have HQ := Lib.hid (fun tm w' (h1 : tm.getD 2 undef = .bool true) (h2 : Bel W.heap.size W w') => hQ tm w' h1 fun d => ⟨rfl, h2.below d⟩)
    have HW := Lib.hid hways
    clear hQ hways
    simp only [Try.ntmps3, List.size_toArray, List.length_cons, List.length_nil, Nat.reduceAdd, Nat.reduceSub, Array.replicate_succ,
     Array.replicate_zero, List.push_toArray, List.append_toArray, List.nil_append, List.cons_append]
    have HB := Bel.refl W.heap.size W
    repeat (refine wb_first tameSbL (by kernel_rfl) HW.out fun σ => ?_; go_wp2_with fail; refine wb_re _ _ ?_; clear σ)
    refine wb_firstS tameSbL (by kernel_rfl) HW.out fun v0 e0 => ?_
    replace HB := e0.bel HB
    go_wp2_with fail
    refine (makeSubset_any _ 0 _ (bytes_bel HV.out HB) (by omega)).mono ?_
    rintro e w1 ⟨l, vl, hS, rfl, hrow, hb⟩
    replace HB := HB.trans ((bel_of hb).mono HB.size)
    clear hb
    obtain ⟨f1, f2, f3, f4, f5, f6, f7, f8⟩ := sb_at hS
    obtain ⟨g1, g2, g3, g4, g5, g6, g7, g8⟩ := sb_other hS
    obtain ⟨n1, n2⟩ := sb_next hS
    have hds := sb_dsum hS
    have h5 := hS.2
    have hLb : ∀ x ∈ l, 0 ≤ x ∧ x ≤ 19 := fun x hx => by have := (okS_yes hS.1).2.1 x hx; omega
    have hOb : ∀ x ∈ oth l 20, 0 ≤ x ∧ x ≤ 19 := fun x hx => by have := (okS_yes g3).2.1 x hx; omega
    have hb20 := bn_at (a := 20) (b := l.length) (by omega) (by omega)
    have hbs := bn_30 (n := 20) (k := l.length) (by omega)
    have CR := Lib.hid (fun W v (h : RowAt W v (intsOf l)) => implSubsetRank_any v l W h (by omega) (fun x hx => by have := hLb x hx; exact ⟨by omega, by omega⟩))
    rw [f4] at CR
    have CA := Lib.hid (fun W => implSubsetAt_b (rk l) l.length W ⟨by omega, by omega⟩ ⟨by omega, by omega⟩)
    rw [f1, f2] at CA
    have CN := Lib.hid (fun W v (h : RowAt W v (intsOf l)) => implNextSubset_b v l W h (by omega) (fun x hx => by have := hLb x hx; exact ⟨by omega, by omega⟩))
    rw [n1, n2] at CN
    have CO := Lib.hid (fun W v (h : RowAt W v (intsOf l)) => implOtherSubset_b v l 20 W h (by omega) (fun x hx => by have := hLb x hx; exact ⟨by omega, by omega⟩) ⟨by omega, by omega⟩)
    rw [g1, g2] at CO
    have CQ := Lib.hid (fun W v (h : RowAt W v (intsOf (oth l 20))) => implOtherSubset_b v (oth l 20) 20 W h (by omega) (fun x hx => by have := hOb x hx; exact ⟨by omega, by omega⟩) ⟨by omega, by omega⟩)
    rw [g4, g5] at CQ
    have CK := Lib.hid (fun W v (h : RowAt W v (intsOf l)) => implSubsetOk_any v l 20 W h (by omega) (fun x hx => by have := hLb x hx; exact ⟨by omega, by omega⟩) ⟨by omega, by omega⟩)
    rw [f8] at CK
    have CB := Lib.hid (fun W => implBinomial_any 20 l.length W ⟨by omega, by omega⟩ ⟨by omega, by omega⟩)
    rw [show rBinomial0 20 l.length = bn 20 l.length from hb20] at CB
    have CM := Lib.hid (fun W v (h : RowAt W v (intsOf l)) => implMaskOf_any v l W h (by omega) (fun x hx => by have := hLb x hx; exact ⟨by omega, by omega⟩))
    rw [f5] at CM
    have CMO := Lib.hid (fun W v (h : RowAt W v (intsOf (oth l 20))) => implMaskOf_any v (oth l 20) W h (by omega) (fun x hx => by have := hOb x hx; exact ⟨by omega, by omega⟩))
    rw [g7] at CMO
    have CS := Lib.hid (fun W => implSubsetOf_b (mk l) W ⟨by omega, by omega⟩)
    rw [f6] at CS
    have CD := Lib.hid (fun W => digitSum_b (mk l) 2 W (by omega) (by omega) (by omega))
    rw [dsum_two hS] at CD
    have CX := Lib.hid (fun h => sb_more hS h)
    have CZ := Lib.hid (fun h => sb_none hS h)
    obtain ⟨K, hK⟩ : ∃ K, K = l.length := ⟨_, rfl⟩
    obtain ⟨O, hO⟩ : ∃ O, O = oth l 20 := ⟨_, rfl⟩
    obtain ⟨KO, hKO⟩ : ∃ KO, KO = O.length := ⟨_, rfl⟩
    obtain ⟨R, hR⟩ : ∃ R, R = rk l := ⟨_, rfl⟩
    obtain ⟨M, hM⟩ : ∃ M, M = mk l := ⟨_, rfl⟩
    obtain ⟨MO, hMO⟩ : ∃ MO, MO = mk O := ⟨_, rfl⟩
    obtain ⟨C, hC⟩ : ∃ C, C = bn 20 K := ⟨_, rfl⟩
    rw [← hK] at f3 h5 g6 hbs CA CN CB CX CZ CD CQ CS
    rw [← hO] at CO CQ CMO g6 g8 hOb
    rw [← hKO] at CO g6
    rw [← hR] at f3 CR CA CX CZ CN
    rw [← hM] at CM CS CD CX f7 g8
    rw [← hMO] at CMO g8
    rw [← hC] at f3 CB CX CZ hbs CN
    obtain ⟨N, hN⟩ : ∃ N, N = rSubsetAt0 ((R : Int) + 1) K := ⟨_, rfl⟩
    rw [← hN] at CN CX CZ
    obtain ⟨al, cl, rfl, l1, l2, l3⟩ := hrow.ints
    unfold maxLen at l2
    clear l3
    rw [← hK] at l1
    have O2 := Lib.hid hK.symm
    have OKO := Lib.hid hKO.symm
    have HLB := Lib.hid hLb
    have HL := Lib.hid hrow
    rw [← hK] at HL ⊢
    have hn0 : ¬ (R : Int) < 0 := by omega
    have hn1 : ¬ (C : Int) ≤ R := by omega
    have h20 : (20 : Int) - K = KO := by omega
    have hmm : (M : Int) + MO = 1048575 := by omega
    have hMs : M ≤ 1048575 := by omega
    have hMOs : MO ≤ 1048575 := by omega
    have hRs : R ≤ 1073741824 := by omega
    have hKOs : KO ≤ 20 := by omega
    clear hS f1 f2 f3 f4 f5 f6 f7 f8 g1 g2 g3 g4 g5 g6 g7 g8 n1 n2 hds hLb hOb hb20 hK hO hKO hR hM hMO hC hN hrow
    go_wp2_with fail
    repeat (refine wb_first tameSbL (by kernel_rfl) HW.out fun σ => ?_; go_wp2_with fail; refine wb_re _ _ ?_; clear σ)
    refine wb_firstS tameSbL (by kernel_rfl) HW.out fun v1 e1 => ?_
    replace HL := Lib.hid (e1.row HL.out)
    replace HB := e1.bel HB
    go_wp2_with fail
    refine (CR.out _ _ HL.out).mono ?_
    rintro e w2 ⟨rfl, hb⟩
    replace HL := Lib.hid (HL.out.below hb)
    replace HB := HB.trans ((bel_of hb).mono HB.size)
    clear hb
    go_wp2_with fail
    repeat (refine wb_first tameSbL (by kernel_rfl) HW.out fun σ => ?_; go_wp2_with fail; refine wb_re _ _ ?_; clear σ)
    refine wb_seq (wb_region ?_)
    simp only [List.size_toArray, List.length_cons, List.length_nil, Nat.reduceAdd, Nat.zero_add, List.range, List.range.loop]
    repeat (refine rb_op tameSbL rfl rfl rfl (fun K hK σ => ?_); go_simp; refine hK _ _ ?_; clear hK K; refine rb_re _ _ ?_; clear σ)
    refine rb_call rfl rfl rfl Try.func14 rfl rfl (by simp only [List.map_toArray, List.map_cons, List.map_nil]; exact CA.out _) ?_
    rintro vr w3 ⟨vx, rfl, τ, d, ho, hb⟩
    replace hb := bel_re hb
    clear τ d
    replace HL := Lib.hid (HL.out.bel hb)
    replace HB := HB.trans (hb.mono HB.size)
    have HX := Lib.hid (RowAt.of_owns ho)
    obtain ⟨ax, cx, rfl, _, _⟩ := owns_form ho
    clear ho
    clear hb
    repeat (refine rb_op tameSbL rfl rfl rfl (fun K hK σ => ?_); go_simp; refine hK _ _ ?_; clear hK K; refine rb_re _ _ ?_; clear σ)
    refine rb_nil (show Wb _ _ _ _ _ from ?_)
    repeat (refine wb_first tameSbL (by kernel_rfl) HW.out fun σ => ?_; go_wp2_with fail; refine wb_re _ _ ?_; clear σ)
    refine wb_seq (wb_region ?_)
    simp only [List.size_toArray, List.length_cons, List.length_nil, Nat.reduceAdd, Nat.zero_add, List.range, List.range.loop]
    repeat (refine rb_op tameSbL rfl rfl rfl (fun K hK σ => ?_); go_simp; refine hK _ _ ?_; clear hK K; refine rb_re _ _ ?_; clear σ)
    refine rb_call rfl rfl rfl Try.func15 rfl rfl (by simp only [List.map_toArray, List.map_cons, List.map_nil]; exact CN.out _ _ HL.out) ?_
    rintro vr w4 ⟨vy, rfl, τ, d, ho, hb⟩
    replace hb := bel_re hb
    clear τ d
    replace HL := Lib.hid (HL.out.bel hb)
    replace HX := Lib.hid (HX.out.bel hb)
    replace HB := HB.trans (hb.mono HB.size)
    have HY := Lib.hid (RowAt.of_owns ho)
    obtain ⟨ay, cy, hvy, _, _⟩ := owns_form ho
    obtain ⟨KN, hKN⟩ : ∃ KN, KN = N.length := ⟨_, rfl⟩
    rw [← hKN] at hvy
    subst hvy
    have HKN := Lib.hid hKN
    clear ho hKN
    clear hb
    repeat (refine rb_op tameSbL rfl rfl rfl (fun K hK σ => ?_); go_simp; refine hK _ _ ?_; clear hK K; refine rb_re _ _ ?_; clear σ)
    refine rb_nil (show Wb _ _ _ _ _ from ?_)
    repeat (refine wb_first tameSbL (by kernel_rfl) HW.out fun σ => ?_; go_wp2_with fail; refine wb_re _ _ ?_; clear σ)
    refine wb_seq (wb_region ?_)
    simp only [List.size_toArray, List.length_cons, List.length_nil, Nat.reduceAdd, Nat.zero_add, List.range, List.range.loop]
    repeat (refine rb_op tameSbL rfl rfl rfl (fun K hK σ => ?_); go_simp; refine hK _ _ ?_; clear hK K; refine rb_re _ _ ?_; clear σ)
    refine rb_call rfl rfl rfl Try.func16 rfl rfl (by simp only [List.map_toArray, List.map_cons, List.map_nil]; exact CO.out _ _ HL.out) ?_
    rintro vr w5 ⟨vo, rfl, τ, d, ho, hb⟩
    replace hb := bel_re hb
    clear τ d
    replace HL := Lib.hid (HL.out.bel hb)
    replace HX := Lib.hid (HX.out.bel hb)
    replace HY := Lib.hid (HY.out.bel hb)
    replace HB := HB.trans (hb.mono HB.size)
    have HO := Lib.hid (RowAt.of_owns ho)
    obtain ⟨ao, co, rfl, _, _⟩ := owns_form ho
    clear ho
    clear hb
    repeat (refine rb_op tameSbL rfl rfl rfl (fun K hK σ => ?_); go_simp; refine hK _ _ ?_; clear hK K; refine rb_re _ _ ?_; clear σ)
    refine rb_nil (show Wb _ _ _ _ _ from ?_)
    repeat (refine wb_first tameSbL (by kernel_rfl) HW.out fun σ => ?_; go_wp2_with fail; refine wb_re _ _ ?_; clear σ)
    refine wb_seq (wb_region ?_)
    simp only [List.size_toArray, List.length_cons, List.length_nil, Nat.reduceAdd, Nat.zero_add, List.range, List.range.loop]
    repeat (refine rb_op tameSbL rfl rfl rfl (fun K hK σ => ?_); go_simp; refine hK _ _ ?_; clear hK K; refine rb_re _ _ ?_; clear σ)
    refine rb_call rfl rfl rfl Try.func16 rfl rfl (by simp only [List.map_toArray, List.map_cons, List.map_nil]; exact CQ.out _ _ HO.out) ?_
    rintro vr w6 ⟨vq, rfl, τ, d, ho, hb⟩
    replace hb := bel_re hb
    clear τ d
    replace HL := Lib.hid (HL.out.bel hb)
    replace HX := Lib.hid (HX.out.bel hb)
    replace HY := Lib.hid (HY.out.bel hb)
    replace HO := Lib.hid (HO.out.bel hb)
    replace HB := HB.trans (hb.mono HB.size)
    have HQ1 := Lib.hid (RowAt.of_owns ho)
    obtain ⟨aq, cq, rfl, _, _⟩ := owns_form ho
    clear ho
    clear hb
    repeat (refine rb_op tameSbL rfl rfl rfl (fun K hK σ => ?_); go_simp; refine hK _ _ ?_; clear hK K; refine rb_re _ _ ?_; clear σ)
    refine rb_nil (show Wb _ _ _ _ _ from ?_)
    repeat (refine wb_first tameSbL (by kernel_rfl) HW.out fun σ => ?_; go_wp2_with fail; refine wb_re _ _ ?_; clear σ)
    refine wb_firstS tameSbL (by kernel_rfl) HW.out fun v2 e2 => ?_
    replace HL := Lib.hid (e2.row HL.out)
    replace HX := Lib.hid (e2.row HX.out)
    replace HY := Lib.hid (e2.row HY.out)
    replace HO := Lib.hid (e2.row HO.out)
    replace HQ1 := Lib.hid (e2.row HQ1.out)
    replace HB := e2.bel HB
    go_wp2_with fail
    refine (CK.out _ _ HL.out).mono ?_
    rintro e w7 ⟨rfl, hb⟩
    replace HL := Lib.hid (HL.out.below hb)
    replace HX := Lib.hid (HX.out.below hb)
    replace HY := Lib.hid (HY.out.below hb)
    replace HO := Lib.hid (HO.out.below hb)
    replace HQ1 := Lib.hid (HQ1.out.below hb)
    replace HB := HB.trans ((bel_of hb).mono HB.size)
    clear hb
    go_wp2_with fail
    refine (CB.out _).mono ?_
    rintro e w8 ⟨rfl, hb⟩
    replace HL := Lib.hid (HL.out.below hb)
    replace HX := Lib.hid (HX.out.below hb)
    replace HY := Lib.hid (HY.out.below hb)
    replace HO := Lib.hid (HO.out.below hb)
    replace HQ1 := Lib.hid (HQ1.out.below hb)
    replace HB := HB.trans ((bel_of hb).mono HB.size)
    clear hb
    go_wp2_with fail
    refine (same_any _ _ l l _ HX.out HL.out (by rw [O2.out]; omega) (by rw [O2.out]; omega) rfl).mono ?_
    rintro e w' ⟨rfl, rfl⟩
    go_wp2_with fail
    refine (same_any _ _ l l _ HQ1.out HL.out (by rw [O2.out]; omega) (by rw [O2.out]; omega) rfl).mono ?_
    rintro e w' ⟨rfl, rfl⟩
    go_wp2_with fail
    clear CR CA CO CQ CK CN HX HQ1
    by_cases h : R + 1 < C
    · obtain ⟨x1, x2, x3, x4, x5, x6⟩ := CX.out h
      have hIN : (R : Int) + 1 < C := by omega
      have hNb : ∀ x ∈ N, 0 ≤ x ∧ x ≤ 19 := fun x hx => by have := (okS_yes x1).2.1 x hx; omega
      have CRN := Lib.hid (fun W v (hh : RowAt W v (intsOf N)) => implSubsetRank_any v N W hh (by omega) (fun x hx => by have := hNb x hx; exact ⟨by omega, by omega⟩))
      rw [x3] at CRN
      have CMN := Lib.hid (fun W v (hh : RowAt W v (intsOf N)) => implMaskOf_any v N W hh (by omega) (fun x hx => by have := hNb x hx; exact ⟨by omega, by omega⟩))
      rw [x4] at CMN
      obtain ⟨MN, hMN⟩ : ∃ MN, MN = mk N := ⟨_, rfl⟩
      rw [← hMN] at CMN x5 x6
      have hmn : ¬ (MN : Int) ≤ M := by omega
      have hmn2 : (M : Int) < MN := by omega
      rw [decide_eq_true h]
      clear x1 x2 x3 x4 hMN hNb h CX CZ
      repeat (refine wb_first tameSbL (by kernel_rfl) HW.out fun σ => ?_; go_wp2_with fail; refine wb_re _ _ ?_; clear σ)
      refine wb_firstS tameSbL (by kernel_rfl) HW.out fun v3 e3 => ?_
      replace HL := Lib.hid (e3.row HL.out)
      replace HY := Lib.hid (e3.row HY.out)
      replace HO := Lib.hid (e3.row HO.out)
      replace HB := e3.bel HB
      go_wp2_with fail
      refine (CB.out _).mono ?_
      rintro e w9 ⟨rfl, hb⟩
      replace HL := Lib.hid (HL.out.below hb)
      replace HY := Lib.hid (HY.out.below hb)
      replace HO := Lib.hid (HO.out.below hb)
      replace HB := HB.trans ((bel_of hb).mono HB.size)
      clear hb
      go_wp2_with fail
      refine (CRN.out _ _ HY.out).mono ?_
      rintro e w10 ⟨rfl, hb⟩
      replace HL := Lib.hid (HL.out.below hb)
      replace HY := Lib.hid (HY.out.below hb)
      replace HO := Lib.hid (HO.out.below hb)
      replace HB := HB.trans ((bel_of hb).mono HB.size)
      clear hb
      go_wp2_with fail
      refine (CMN.out _ _ HY.out).mono ?_
      rintro e w11 ⟨rfl, hb⟩
      replace HL := Lib.hid (HL.out.below hb)
      replace HO := Lib.hid (HO.out.below hb)
      replace HB := HB.trans ((bel_of hb).mono HB.size)
      clear hb
      go_wp2_with fail
      refine (CM.out _ _ HL.out).mono ?_
      rintro e w12 ⟨rfl, hb⟩
      replace HL := Lib.hid (HL.out.below hb)
      replace HO := Lib.hid (HO.out.below hb)
      replace HB := HB.trans ((bel_of hb).mono HB.size)
      clear hb
      go_wp2_with fail
      clear CRN CMN HY CB
      repeat (refine wb_first tameSbL (by kernel_rfl) HW.out fun σ => ?_; go_wp2_with fail; refine wb_re _ _ ?_; clear σ)
      refine wb_firstS tameSbL (by kernel_rfl) HW.out fun v4 e4 => ?_
      replace HL := Lib.hid (e4.row HL.out)
      replace HO := Lib.hid (e4.row HO.out)
      replace HB := e4.bel HB
      go_wp2_with fail
      refine (makeNum_any _ 20 _ (bytes_bel HV.out HB) (by omega)).mono ?_
      rintro e wa ⟨x, ⟨hx0, hx1⟩, rfl, hb⟩
      replace HL := Lib.hid (HL.out.below hb)
      replace HO := Lib.hid (HO.out.below hb)
      replace HB := HB.trans ((bel_of hb).mono HB.size)
      clear hb
      obtain ⟨A, hA, hA29⟩ : ∃ A : Nat, x.tmod 30 = A ∧ A ≤ 29 := ⟨(x % 30).toNat, by rw [Int.tmod_eq_emod_of_nonneg hx0]; omega, by omega⟩
      clear hx0 hx1
      go_wp2_with fail
      repeat (refine wb_first tameSbL (by kernel_rfl) HW.out fun σ => ?_; go_wp2_with fail; refine wb_re _ _ ?_; clear σ)
      refine wb_firstS tameSbL (by kernel_rfl) HW.out fun v5 e5 => ?_
      replace HL := Lib.hid (e5.row HL.out)
      replace HO := Lib.hid (e5.row HO.out)
      replace HB := e5.bel HB
      go_wp2_with fail
      refine (makeNum_any _ 22 _ (bytes_bel HV.out HB) (by omega)).mono ?_
      rintro e wb ⟨y, ⟨hy0, hy1⟩, rfl, hb⟩
      replace HL := Lib.hid (HL.out.below hb)
      replace HO := Lib.hid (HO.out.below hb)
      replace HB := HB.trans ((bel_of hb).mono HB.size)
      clear hb
      obtain ⟨B, hBe, hB28⟩ : ∃ B : Nat, y.tmod 29 = B ∧ B ≤ 28 := ⟨(y % 29).toNat, by rw [Int.tmod_eq_emod_of_nonneg hy0]; omega, by omega⟩
      clear hy0 hy1
      go_wp2_with fail
      repeat (refine wb_first tameSbL (by kernel_rfl) HW.out fun σ => ?_; go_wp2_with fail; refine wb_re _ _ ?_; clear σ)
      refine wb_firstS tameSbL (by kernel_rfl) HW.out fun v6 e6 => ?_
      replace HL := Lib.hid (e6.row HL.out)
      replace HO := Lib.hid (e6.row HO.out)
      replace HB := e6.bel HB
      go_wp2_with fail
      refine (CM.out _ _ HL.out).mono ?_
      rintro e wc ⟨rfl, hb⟩
      replace HL := Lib.hid (HL.out.below hb)
      replace HO := Lib.hid (HO.out.below hb)
      replace HB := HB.trans ((bel_of hb).mono HB.size)
      clear hb
      go_wp2_with fail
      obtain ⟨e1, e2, e3, e4, e5⟩ := bn_pascal hA29 hB28
      have CB1 := Lib.hid (fun W => implBinomial_any ((A : Int) + 1) ((B : Int) + 1) W ⟨by omega, by omega⟩ ⟨by omega, by omega⟩)
      rw [e1] at CB1
      have CB2 := Lib.hid (fun W => implBinomial_any A B W ⟨by omega, by omega⟩ ⟨by omega, by omega⟩)
      rw [e2] at CB2
      have CB3 := Lib.hid (fun W => implBinomial_any A ((B : Int) + 1) W ⟨by omega, by omega⟩ ⟨by omega, by omega⟩)
      rw [e3] at CB3
      have CB4 := Lib.hid (fun (h : B ≤ A) => And.intro (bn_turn hA29 h) (fun W => implBinomial_any A ((A : Int) - B) W ⟨by omega, by omega⟩ ⟨by omega, by omega⟩))
      obtain ⟨P1, hP1⟩ : ∃ P, P = bn (A + 1) (B + 1) := ⟨_, rfl⟩
      obtain ⟨P2, hP2⟩ : ∃ P, P = bn A B := ⟨_, rfl⟩
      obtain ⟨P3, hP3⟩ : ∃ P, P = bn A (B + 1) := ⟨_, rfl⟩
      rw [← hP1, ← hP2, ← hP3] at e4
      rw [← hP1] at CB1 e5
      rw [← hP2] at CB2 CB4
      rw [← hP3] at CB3
      have hbb : (P2 : Int) + P3 = P1 := by omega
      have hwa : IntKind.i64.wrap ((A : Int) + 1) = (A : Int) + 1 := by rw [IntKind.wrap_i64]; omega
      have hwb : IntKind.i64.wrap ((B : Int) + 1) = (B : Int) + 1 := by rw [IntKind.wrap_i64]; omega
      have hwp : IntKind.i64.wrap (P1 : Int) = P1 := by rw [IntKind.wrap_i64]; omega
      have hwm : IntKind.i64.wrap ((M : Int) + MO) = 1048575 := by rw [IntKind.wrap_i64]; omega
      have hwd : IntKind.i64.wrap ((A : Int) - B) = (A : Int) - B := by rw [IntKind.wrap_i64]; omega
      clear e1 e2 e3 e4 hP1 hP2 hP3
      repeat (refine wb_first tameSbL (by kernel_rfl) HW.out fun σ => ?_; go_wp2_with fail; refine wb_re _ _ ?_; clear σ)
      refine wb_seq (wb_region ?_)
      simp only [List.size_toArray, List.length_cons, List.length_nil, Nat.reduceAdd, Nat.zero_add, List.range, List.range.loop]
      repeat (refine rb_op tameSbL rfl rfl rfl (fun K hK σ => ?_); go_simp; refine hK _ _ ?_; clear hK K; refine rb_re _ _ ?_; clear σ)
      refine rb_call rfl rfl rfl Try.func22 rfl rfl (by simp only [List.map_toArray, List.map_cons, List.map_nil]; exact CS.out _) ?_
      rintro vr wd ⟨vs, rfl, τ, d, ho, hb⟩
      replace hb := bel_re hb
      clear τ d
      replace HL := Lib.hid (HL.out.bel hb)
      replace HO := Lib.hid (HO.out.bel hb)
      replace HB := HB.trans (hb.mono HB.size)
      have HX := Lib.hid (RowAt.of_owns ho)
      obtain ⟨axs, cxs, rfl, _, _⟩ := owns_form ho
      clear ho
      clear hb
      repeat (refine rb_op tameSbL rfl rfl rfl (fun K hK σ => ?_); go_simp; refine hK _ _ ?_; clear hK K; refine rb_re _ _ ?_; clear σ)
      refine rb_lone tameSbL rfl rfl rfl rfl Try.func19 rfl rfl fun v7 e7 => ?_
      simp only [List.map_toArray, List.map_cons, List.map_nil]
      replace HL := Lib.hid (e7.row HL.out)
      replace HO := Lib.hid (e7.row HO.out)
      replace HX := Lib.hid (e7.row HX.out)
      replace HB := e7.bel HB
      refine (same_any _ _ l l _ HX.out HL.out (by rw [O2.out]; omega) (by rw [O2.out]; omega) rfl).mono ?_
      rintro e w' ⟨rfl, rfl⟩
      refine ⟨_, rfl, ?_⟩
      clear HX HL
      repeat (refine rb_op tameSbL rfl rfl rfl (fun K hK σ => ?_); go_simp; refine hK _ _ ?_; clear hK K; refine rb_re _ _ ?_; clear σ)
      refine rb_lone tameSbL rfl rfl rfl rfl Try.func20 rfl rfl fun v8 e8 => ?_
      simp only [List.map_toArray, List.map_cons, List.map_nil]
      replace HO := Lib.hid (e8.row HO.out)
      replace HB := e8.bel HB
      refine (CMO.out _ _ HO.out).mono ?_
      rintro e we ⟨rfl, hb⟩
      refine ⟨_, rfl, ?_⟩
      replace HO := Lib.hid (HO.out.below hb)
      replace HB := HB.trans ((bel_of hb).mono HB.size)
      clear hb
      clear HO
      repeat (refine rb_op tameSbL rfl rfl rfl (fun K hK σ => ?_); go_simp; refine hK _ _ ?_; clear hK K; refine rb_re _ _ ?_; clear σ)
      refine rb_call rfl rfl rfl Try.func23 rfl rfl (by simp only [List.map_toArray, List.map_cons, List.map_nil]; exact CD.out _) ?_
      rintro vr wf ⟨rfl, hb⟩
      replace HB := HB.trans (hb.mono HB.size)
      clear hb
      repeat (refine rb_op tameSbL rfl rfl rfl (fun K hK σ => ?_); go_simp; refine hK _ _ ?_; clear hK K; refine rb_re _ _ ?_; clear σ)
      refine rb_lone tameSbL rfl rfl rfl rfl Try.func18 rfl rfl fun v9 e9 => ?_
      simp only [List.map_toArray, List.map_cons, List.map_nil]
      replace HB := e9.bel HB
      refine (CB1.out _).mono ?_
      rintro e wg ⟨rfl, hb⟩
      refine ⟨_, rfl, ?_⟩
      replace HB := HB.trans ((bel_of hb).mono HB.size)
      clear hb
      repeat (refine rb_op tameSbL rfl rfl rfl (fun K hK σ => ?_); go_simp; refine hK _ _ ?_; clear hK K; refine rb_re _ _ ?_; clear σ)
      refine rb_lone tameSbL rfl rfl rfl rfl Try.func18 rfl rfl fun v10 e10 => ?_
      simp only [List.map_toArray, List.map_cons, List.map_nil]
      replace HB := e10.bel HB
      refine (CB2.out _).mono ?_
      rintro e wh ⟨rfl, hb⟩
      refine ⟨_, rfl, ?_⟩
      replace HB := HB.trans ((bel_of hb).mono HB.size)
      clear hb
      repeat (refine rb_op tameSbL rfl rfl rfl (fun K hK σ => ?_); go_simp; refine hK _ _ ?_; clear hK K; refine rb_re _ _ ?_; clear σ)
      refine rb_lone tameSbL rfl rfl rfl rfl Try.func18 rfl rfl fun v11 e11 => ?_
      simp only [List.map_toArray, List.map_cons, List.map_nil]
      replace HB := e11.bel HB
      refine (CB3.out _).mono ?_
      rintro e wi ⟨rfl, hb⟩
      refine ⟨_, rfl, ?_⟩
      replace HB := HB.trans ((bel_of hb).mono HB.size)
      clear hb
      by_cases hba : A < B
      · have hbI : (A : Int) < B := by omega
        iterate 8 (refine rb_op tameSbL rfl rfl rfl (fun K hK σ => ?_); go_simp; refine hK _ _ ?_; clear hK K; refine rb_re _ _ ?_; clear σ)
        iterate 9 (refine rb_unwanted rfl rfl ?_; go_simp)
        repeat (refine rb_op tameSbL rfl rfl rfl (fun K hK σ => ?_); go_simp; refine hK _ _ ?_; clear hK K; refine rb_re _ _ ?_; clear σ)
        refine rb_nil (show Wb _ _ _ _ _ from ?_)
        exact wb_ret (HQ.out _ _ rfl HB)
      · have hbI : ¬ (A : Int) < B := by omega
        have C4 := (CB4.out (by omega)).2
        rw [(CB4.out (by omega)).1] at C4
        have C4 := Lib.hid C4
        repeat (refine rb_op tameSbL rfl rfl rfl (fun K hK σ => ?_); go_simp; refine hK _ _ ?_; clear hK K; refine rb_re _ _ ?_; clear σ)
        refine rb_lone tameSbL rfl rfl rfl rfl Try.func18 rfl rfl fun v12 e12 => ?_
        simp only [List.map_toArray, List.map_cons, List.map_nil]
        replace HB := e12.bel HB
        refine (CB2.out _).mono ?_
        rintro e wj ⟨rfl, hb⟩
        refine ⟨_, rfl, ?_⟩
        replace HB := HB.trans ((bel_of hb).mono HB.size)
        clear hb
        repeat (refine rb_op tameSbL rfl rfl rfl (fun K hK σ => ?_); go_simp; refine hK _ _ ?_; clear hK K; refine rb_re _ _ ?_; clear σ)
        refine rb_lone tameSbL rfl rfl rfl rfl Try.func18 rfl rfl fun v13 e13 => ?_
        simp only [List.map_toArray, List.map_cons, List.map_nil]
        replace HB := e13.bel HB
        refine (C4.out _).mono ?_
        rintro e wk ⟨rfl, hb⟩
        refine ⟨_, rfl, ?_⟩
        replace HB := HB.trans ((bel_of hb).mono HB.size)
        clear hb
        repeat (refine rb_op tameSbL rfl rfl rfl (fun K hK σ => ?_); go_simp; refine hK _ _ ?_; clear hK K; refine rb_re _ _ ?_; clear σ)
        refine rb_nil (show Wb _ _ _ _ _ from ?_)
        exact wb_ret (HQ.out _ _ rfl HB)
    · have hIN : ¬ (R : Int) + 1 < C := by omega
      rw [decide_eq_false h]
      clear h CX CZ HY
      repeat (refine wb_first tameSbL (by kernel_rfl) HW.out fun σ => ?_; go_wp2_with fail; refine wb_re _ _ ?_; clear σ)
      refine wb_firstS tameSbL (by kernel_rfl) HW.out fun v14 e14 => ?_
      replace HL := Lib.hid (e14.row HL.out)
      replace HO := Lib.hid (e14.row HO.out)
      replace HB := e14.bel HB
      go_wp2_with fail
      refine (CB.out _).mono ?_
      rintro e w9 ⟨rfl, hb⟩
      replace HL := Lib.hid (HL.out.below hb)
      replace HO := Lib.hid (HO.out.below hb)
      replace HB := HB.trans ((bel_of hb).mono HB.size)
      clear hb
      go_wp2_with fail
      clear CB
      repeat (refine wb_first tameSbL (by kernel_rfl) HW.out fun σ => ?_; go_wp2_with fail; refine wb_re _ _ ?_; clear σ)
      refine wb_firstS tameSbL (by kernel_rfl) HW.out fun v15 e15 => ?_
      replace HL := Lib.hid (e15.row HL.out)
      replace HO := Lib.hid (e15.row HO.out)
      replace HB := e15.bel HB
      go_wp2_with fail
      refine (makeNum_any _ 20 _ (bytes_bel HV.out HB) (by omega)).mono ?_
      rintro e wa ⟨x, ⟨hx0, hx1⟩, rfl, hb⟩
      replace HL := Lib.hid (HL.out.below hb)
      replace HO := Lib.hid (HO.out.below hb)
      replace HB := HB.trans ((bel_of hb).mono HB.size)
      clear hb
      obtain ⟨A, hA, hA29⟩ : ∃ A : Nat, x.tmod 30 = A ∧ A ≤ 29 := ⟨(x % 30).toNat, by rw [Int.tmod_eq_emod_of_nonneg hx0]; omega, by omega⟩
      clear hx0 hx1
      go_wp2_with fail
      repeat (refine wb_first tameSbL (by kernel_rfl) HW.out fun σ => ?_; go_wp2_with fail; refine wb_re _ _ ?_; clear σ)
      refine wb_firstS tameSbL (by kernel_rfl) HW.out fun v16 e16 => ?_
      replace HL := Lib.hid (e16.row HL.out)
      replace HO := Lib.hid (e16.row HO.out)
      replace HB := e16.bel HB
      go_wp2_with fail
      refine (makeNum_any _ 22 _ (bytes_bel HV.out HB) (by omega)).mono ?_
      rintro e wb ⟨y, ⟨hy0, hy1⟩, rfl, hb⟩
      replace HL := Lib.hid (HL.out.below hb)
      replace HO := Lib.hid (HO.out.below hb)
      replace HB := HB.trans ((bel_of hb).mono HB.size)
      clear hb
      obtain ⟨B, hBe, hB28⟩ : ∃ B : Nat, y.tmod 29 = B ∧ B ≤ 28 := ⟨(y % 29).toNat, by rw [Int.tmod_eq_emod_of_nonneg hy0]; omega, by omega⟩
      clear hy0 hy1
      go_wp2_with fail
      repeat (refine wb_first tameSbL (by kernel_rfl) HW.out fun σ => ?_; go_wp2_with fail; refine wb_re _ _ ?_; clear σ)
      refine wb_firstS tameSbL (by kernel_rfl) HW.out fun v17 e17 => ?_
      replace HL := Lib.hid (e17.row HL.out)
      replace HO := Lib.hid (e17.row HO.out)
      replace HB := e17.bel HB
      go_wp2_with fail
      refine (CM.out _ _ HL.out).mono ?_
      rintro e wc ⟨rfl, hb⟩
      replace HL := Lib.hid (HL.out.below hb)
      replace HO := Lib.hid (HO.out.below hb)
      replace HB := HB.trans ((bel_of hb).mono HB.size)
      clear hb
      go_wp2_with fail
      obtain ⟨e1, e2, e3, e4, e5⟩ := bn_pascal hA29 hB28
      have CB1 := Lib.hid (fun W => implBinomial_any ((A : Int) + 1) ((B : Int) + 1) W ⟨by omega, by omega⟩ ⟨by omega, by omega⟩)
      rw [e1] at CB1
      have CB2 := Lib.hid (fun W => implBinomial_any A B W ⟨by omega, by omega⟩ ⟨by omega, by omega⟩)
      rw [e2] at CB2
      have CB3 := Lib.hid (fun W => implBinomial_any A ((B : Int) + 1) W ⟨by omega, by omega⟩ ⟨by omega, by omega⟩)
      rw [e3] at CB3
      have CB4 := Lib.hid (fun (h : B ≤ A) => And.intro (bn_turn hA29 h) (fun W => implBinomial_any A ((A : Int) - B) W ⟨by omega, by omega⟩ ⟨by omega, by omega⟩))
      obtain ⟨P1, hP1⟩ : ∃ P, P = bn (A + 1) (B + 1) := ⟨_, rfl⟩
      obtain ⟨P2, hP2⟩ : ∃ P, P = bn A B := ⟨_, rfl⟩
      obtain ⟨P3, hP3⟩ : ∃ P, P = bn A (B + 1) := ⟨_, rfl⟩
      rw [← hP1, ← hP2, ← hP3] at e4
      rw [← hP1] at CB1 e5
      rw [← hP2] at CB2 CB4
      rw [← hP3] at CB3
      have hbb : (P2 : Int) + P3 = P1 := by omega
      have hwa : IntKind.i64.wrap ((A : Int) + 1) = (A : Int) + 1 := by rw [IntKind.wrap_i64]; omega
      have hwb : IntKind.i64.wrap ((B : Int) + 1) = (B : Int) + 1 := by rw [IntKind.wrap_i64]; omega
      have hwp : IntKind.i64.wrap (P1 : Int) = P1 := by rw [IntKind.wrap_i64]; omega
      have hwm : IntKind.i64.wrap ((M : Int) + MO) = 1048575 := by rw [IntKind.wrap_i64]; omega
      have hwd : IntKind.i64.wrap ((A : Int) - B) = (A : Int) - B := by rw [IntKind.wrap_i64]; omega
      clear e1 e2 e3 e4 hP1 hP2 hP3
      repeat (refine wb_first tameSbL (by kernel_rfl) HW.out fun σ => ?_; go_wp2_with fail; refine wb_re _ _ ?_; clear σ)
      refine wb_seq (wb_region ?_)
      simp only [List.size_toArray, List.length_cons, List.length_nil, Nat.reduceAdd, Nat.zero_add, List.range, List.range.loop]
      repeat (refine rb_op tameSbL rfl rfl rfl (fun K hK σ => ?_); go_simp; refine hK _ _ ?_; clear hK K; refine rb_re _ _ ?_; clear σ)
      refine rb_call rfl rfl rfl Try.func22 rfl rfl (by simp only [List.map_toArray, List.map_cons, List.map_nil]; exact CS.out _) ?_
      rintro vr wd ⟨vs, rfl, τ, d, ho, hb⟩
      replace hb := bel_re hb
      clear τ d
      replace HL := Lib.hid (HL.out.bel hb)
      replace HO := Lib.hid (HO.out.bel hb)
      replace HB := HB.trans (hb.mono HB.size)
      have HX := Lib.hid (RowAt.of_owns ho)
      obtain ⟨axs, cxs, rfl, _, _⟩ := owns_form ho
      clear ho
      clear hb
      repeat (refine rb_op tameSbL rfl rfl rfl (fun K hK σ => ?_); go_simp; refine hK _ _ ?_; clear hK K; refine rb_re _ _ ?_; clear σ)
      refine rb_lone tameSbL rfl rfl rfl rfl Try.func19 rfl rfl fun v18 e18 => ?_
      simp only [List.map_toArray, List.map_cons, List.map_nil]
      replace HL := Lib.hid (e18.row HL.out)
      replace HO := Lib.hid (e18.row HO.out)
      replace HX := Lib.hid (e18.row HX.out)
      replace HB := e18.bel HB
      refine (same_any _ _ l l _ HX.out HL.out (by rw [O2.out]; omega) (by rw [O2.out]; omega) rfl).mono ?_
      rintro e w' ⟨rfl, rfl⟩
      refine ⟨_, rfl, ?_⟩
      clear HX HL
      repeat (refine rb_op tameSbL rfl rfl rfl (fun K hK σ => ?_); go_simp; refine hK _ _ ?_; clear hK K; refine rb_re _ _ ?_; clear σ)
      refine rb_lone tameSbL rfl rfl rfl rfl Try.func20 rfl rfl fun v19 e19 => ?_
      simp only [List.map_toArray, List.map_cons, List.map_nil]
      replace HO := Lib.hid (e19.row HO.out)
      replace HB := e19.bel HB
      refine (CMO.out _ _ HO.out).mono ?_
      rintro e we ⟨rfl, hb⟩
      refine ⟨_, rfl, ?_⟩
      replace HO := Lib.hid (HO.out.below hb)
      replace HB := HB.trans ((bel_of hb).mono HB.size)
      clear hb
      clear HO
      repeat (refine rb_op tameSbL rfl rfl rfl (fun K hK σ => ?_); go_simp; refine hK _ _ ?_; clear hK K; refine rb_re _ _ ?_; clear σ)
      refine rb_call rfl rfl rfl Try.func23 rfl rfl (by simp only [List.map_toArray, List.map_cons, List.map_nil]; exact CD.out _) ?_
      rintro vr wf ⟨rfl, hb⟩
      replace HB := HB.trans (hb.mono HB.size)
      clear hb
      repeat (refine rb_op tameSbL rfl rfl rfl (fun K hK σ => ?_); go_simp; refine hK _ _ ?_; clear hK K; refine rb_re _ _ ?_; clear σ)
      refine rb_lone tameSbL rfl rfl rfl rfl Try.func18 rfl rfl fun v20 e20 => ?_
      simp only [List.map_toArray, List.map_cons, List.map_nil]
      replace HB := e20.bel HB
      refine (CB1.out _).mono ?_
      rintro e wg ⟨rfl, hb⟩
      refine ⟨_, rfl, ?_⟩
      replace HB := HB.trans ((bel_of hb).mono HB.size)
      clear hb
      repeat (refine rb_op tameSbL rfl rfl rfl (fun K hK σ => ?_); go_simp; refine hK _ _ ?_; clear hK K; refine rb_re _ _ ?_; clear σ)
      refine rb_lone tameSbL rfl rfl rfl rfl Try.func18 rfl rfl fun v21 e21 => ?_
      simp only [List.map_toArray, List.map_cons, List.map_nil]
      replace HB := e21.bel HB
      refine (CB2.out _).mono ?_
      rintro e wh ⟨rfl, hb⟩
      refine ⟨_, rfl, ?_⟩
      replace HB := HB.trans ((bel_of hb).mono HB.size)
      clear hb
      repeat (refine rb_op tameSbL rfl rfl rfl (fun K hK σ => ?_); go_simp; refine hK _ _ ?_; clear hK K; refine rb_re _ _ ?_; clear σ)
      refine rb_lone tameSbL rfl rfl rfl rfl Try.func18 rfl rfl fun v22 e22 => ?_
      simp only [List.map_toArray, List.map_cons, List.map_nil]
      replace HB := e22.bel HB
      refine (CB3.out _).mono ?_
      rintro e wi ⟨rfl, hb⟩
      refine ⟨_, rfl, ?_⟩
      replace HB := HB.trans ((bel_of hb).mono HB.size)
      clear hb
      by_cases hba : A < B
      · have hbI : (A : Int) < B := by omega
        iterate 8 (refine rb_op tameSbL rfl rfl rfl (fun K hK σ => ?_); go_simp; refine hK _ _ ?_; clear hK K; refine rb_re _ _ ?_; clear σ)
        iterate 9 (refine rb_unwanted rfl rfl ?_; go_simp)
        repeat (refine rb_op tameSbL rfl rfl rfl (fun K hK σ => ?_); go_simp; refine hK _ _ ?_; clear hK K; refine rb_re _ _ ?_; clear σ)
        refine rb_nil (show Wb _ _ _ _ _ from ?_)
        exact wb_ret (HQ.out _ _ rfl HB)
      · have hbI : ¬ (A : Int) < B := by omega
        have C4 := (CB4.out (by omega)).2
        rw [(CB4.out (by omega)).1] at C4
        have C4 := Lib.hid C4
        repeat (refine rb_op tameSbL rfl rfl rfl (fun K hK σ => ?_); go_simp; refine hK _ _ ?_; clear hK K; refine rb_re _ _ ?_; clear σ)
        refine rb_lone tameSbL rfl rfl rfl rfl Try.func18 rfl rfl fun v23 e23 => ?_
        simp only [List.map_toArray, List.map_cons, List.map_nil]
        replace HB := e23.bel HB
        refine (CB2.out _).mono ?_
        rintro e wj ⟨rfl, hb⟩
        refine ⟨_, rfl, ?_⟩
        replace HB := HB.trans ((bel_of hb).mono HB.size)
        clear hb
        repeat (refine rb_op tameSbL rfl rfl rfl (fun K hK σ => ?_); go_simp; refine hK _ _ ?_; clear hK K; refine rb_re _ _ ?_; clear σ)
        refine rb_lone tameSbL rfl rfl rfl rfl Try.func18 rfl rfl fun v24 e24 => ?_
        simp only [List.map_toArray, List.map_cons, List.map_nil]
        replace HB := e24.bel HB
        refine (C4.out _).mono ?_
        rintro e wk ⟨rfl, hb⟩
        refine ⟨_, rfl, ?_⟩
        replace HB := HB.trans ((bel_of hb).mono HB.size)
        clear hb
        repeat (refine rb_op tameSbL rfl rfl rfl (fun K hK σ => ?_); go_simp; refine hK _ _ ?_; clear hK K; refine rb_re _ _ ?_; clear σ)
        refine rb_nil (show Wb _ _ _ _ _ from ?_)
        exact wb_ret (HQ.out _ _ rfl HB)

end Go.Proofs.Ytjdijmccpihkhaa
