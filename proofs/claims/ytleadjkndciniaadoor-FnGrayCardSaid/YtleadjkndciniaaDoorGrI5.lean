/- Gray codes, the program: the number with Gray digits. -/
import Derived.Test.YtleadjkndciniaaDoorGrI4
set_option linter.unusedVariables false
set_option linter.unusedSimpArgs false
set_option maxRecDepth 100000
namespace Go.Proofs.YtleadjkndciniaaDoor
open Go.ChangeShapes Go.WideShapes Go.ChangeAt Go.RowKit

attribute [local go_sem] Oper.semAt_some wide_fn wide_depth

/-- what is known of digits that fit -/
structure UdF (d r : List Int) : Prop where
  at' : ∀ j (h1 : j < d.length), ∃ h2 : j < r.length, 0 ≤ d[j] ∧ d[j] ≤ r[j] - 1 ∧ 2 ≤ r[j] ∧ r[j] ≤ 60
  sum : ∀ k, 0 ≤ (umS (d.drop k) (r.drop k)).2 ∧ (umS (d.drop k) (r.drop k)).2 ≤ 600
  len : d.length ≤ 10
  out : (umS d r).1.length = d.length
  ok : okM (umS d r).1 r = true
  bd : ∀ z ∈ (umS d r).1, in64 z
theorem umS_nil (r : List Int) : umS [] r = ([], 0) := by cases r <;> rfl
theorem in_bdG : ∀ {l r : List Int}, InR l r → (∀ x ∈ r, x ≤ 60) → ∀ z ∈ l, 0 ≤ z ∧ z ≤ 60
  | [], _, _, _, z, hz => by simp at hz
  | x :: l, y :: r, h, hr, z, hz => by
    rcases List.mem_cons.1 hz with rfl | hz
    · have h1 := h.1; have h2 := hr y (by simp); omega
    · exact in_bdG h.2 (fun u hu => hr u (by simp [hu])) z hz
  | _ :: _, [], h, _, _, _ => h.elim
theorem udF_of {d r : List Int} (h : okM d r = true) : UdF d r := by
  obtain ⟨hok, hft⟩ := okM_yes h
  obtain ⟨o1, o2, o3, o4⟩ := okR_yes hok
  have hfit := inR_of hft
  have hdl := hfit.len
  refine ⟨fun j h1 => ⟨by omega, ?_⟩, fun k => ?_, by omega, umS_len d r hdl, okM_mk hok (fit_of (umS_in hfit)), fun z hz => ?_⟩
  · have h1 := fitM_at hft j h1 (by omega)
    have h2 := o3 _ (List.getElem_mem (show j < r.length by omega))
    exact ⟨h1.1, h1.2, h2.1, h2.2⟩
  · have h1 := inR_sum (inR_drop k hfit) (fun x hx => (o3 x (List.mem_of_mem_drop hx)).2)
    have h2 := (inR_drop k hfit).len
    rw [← umS_sum _ _ h2] at h1
    rw [List.length_drop] at h1
    omega
  · have := in_bdG (umS_in hfit) (fun x hx => (o3 x hx).2) z hz
    unfold in64; omega

set_option maxHeartbeats 8000000 in
theorem implFromGrayDigits_any (vd : Value) (d : List Int) (vr : Value) (r : List Int) (w : World) (hrd : RowAt w vd (intsOf d)) (hld : d.length ≤ 1048576) (hid : ∀ n ∈ d, in64 n) (hrr : RowAt w vr (intsOf r)) (hlr : r.length ≤ 1048576) (hir : ∀ n ∈ r, in64 n) :
    Calls Tryd.prog 15 #[vd, vr] w fun e w' => e = .returned (.int .i64 (rFromGrayDigits0 d r)) ∧ Below w.heap.size w w' := by
  have HM := Lib.hid (fun W (hb : Below w.heap.size w W) => implMixedOk_any vd d vr r W (hrd.below hb) hld hid (hrr.below hb) hlr hir)
  have HRow := Lib.hid (fun W (hb : Below w.heap.size w W) => hrr.below hb)
  have HRowD := Lib.hid (fun W (hb : Below w.heap.size w W) => hrd.below hb)
  obtain ⟨i0, hi, hz0, hz1, hz2⟩ := info_parts infoInt
  have E := Lib.hid (show rFromGrayDigits0 d r = if okM d r then mv (umS d r).1 r else -1 from rfl)
  obtain ⟨RES, hRES⟩ : ∃ R, R = rFromGrayDigits0 d r := ⟨_, rfl⟩
  rw [← hRES] at E ⊢
  clear hRES
  cases h : okM d r
  · rw [h] at E
    rw [show rMixedOk0 d r = false from h] at HM
    obtain ⟨a, cap, rfl, h1, h2, h3⟩ := hrr.ints
    obtain ⟨ad, capd, rfl, g1, g2, g3⟩ := hrd.ints
    unfold maxLen at h2 g2
    clear h h3 g3 hrr hrd hir hid
    go_enter Tryd.func15, Tryd.ntmps15
    go_wp2_with (go_at_call 36; refine (HM.out _ ((Below.refl _ w).alloc (Nat.le_refl _) _)).mono ?_; rintro e w1 ⟨rfl, hB⟩)
    go_ret
    exact ⟨by rw [E.out]; rfl, (show Below w.heap.size w _ from (Below.refl _ w).alloc (Nat.le_refl _) _).trans (hB.mono (by simp))⟩
  rw [h] at E
  rw [show rMixedOk0 d r = true from h] at HM
  have hF := udF_of h
  have HV := Lib.hid (fun W v (hr : RowAt W v (intsOf (umS d r).1)) (hb : Below w.heap.size w W) => implMixedValue_any v (umS d r).1 vr r W hr (by rw [hF.out]; omega) hF.bd (hrr.below hb) hlr hir)
  have EV := Lib.hid (show rMixedValue0 (umS d r).1 r = RES by rw [E.out, rMixedValue0, hF.ok])
  rw [EV.out] at HV
  have HAT := Lib.hid hF.at'; have HSM := Lib.hid hF.sum; have HUL := Lib.hid hF.out
  have HGD := Lib.hid (fun j (h1 : j < d.length) (h2 : j < r.length) => um_drop h1 h2)
  have hL9 := hF.len
  obtain ⟨a, cap, rfl, h1, h2, h3⟩ := hrr.ints
  obtain ⟨sa, capd, rfl, g1, g2, g3⟩ := hrd.ints
  unfold maxLen at h2 g2
  obtain ⟨L, hL⟩ : ∃ L, L = d.length := ⟨_, rfl⟩
  have HL := Lib.hid hL
  obtain ⟨LR, hLR⟩ : ∃ LR, LR = r.length := ⟨_, rfl⟩
  have HLR := Lib.hid hLR
  rw [← hLR] at h1 hlr HM HRow HV ⊢
  rw [← hL] at g1 hld hL9 HM HRowD ⊢
  clear hLR hL h hF E EV h3 g3 hrr hrd hir hid
  refine (callsIn_wide (n := 0)).1 ?_
  refine callsIn_of_wp_marks Tryd.func15 rfl trivial ?_ rfl
  simp only [Tryd.ntmps15, List.size_toArray, List.length_cons, List.length_nil, Nat.reduceAdd, Nat.reduceSub, Array.replicate_succ, Array.replicate_zero, List.push_toArray, List.append_toArray, List.nil_append, List.cons_append]
  gi_wp2_with (first
    | (gi_at_call 36; refine (callsIn_wide.2 (HM.out _ ((Below.refl _ w).alloc (Nat.le_refl _) _))).mono ?_; rintro e wM ⟨rfl, hBM⟩)
    | (gi_at_make; refine wpListIn_make_fullL _ rfl _ _ 25 rfl w.heap.size 3 i0 (.int .i64 0) 1 Tryd.underlying25 hi hz0 hz1 _ _ _ _ L rfl rfl rfl rfl ?c1 ?c2 ?c3 ?_))
  case c1 => rw [hz2]; omega
  case c2 => unfold maxLen; omega
  case c3 => have := hBM.size; simp at this; omega
  intro w1 hown hgrow
  have hsM : w.heap.size + 1 ≤ wM.heap.size := by have := hBM.size; simpa using this
  have hm1 : wM.heap.size + 1 ≤ w1.heap.size := by have := (hown.lt wM.heap.size rfl).2; omega
  have hown1 : w1.ownsRow w.heap.size 3 1 (.slice (some ⟨wM.heap.size, 0, none⟩) L L) L (intsOf (List.replicate L 0)) := by
    rw [intsOf_zeros]; rw [toList_madeCells_one] at hown; simpa using hown
  have b0M : Boxed wM w.heap.size 25 (.slice a LR cap) := boxed_below (Boxed.new w _ _) hBM (by simp)
  have b0' : Boxed w1 w.heap.size 25 (.slice a LR cap) := Boxed.kept (W := wM) b0M hgrow (by simp)
  have hBM' : Below w.heap.size w wM := (show Below w.heap.size w _ from (Below.refl _ w).alloc (Nat.le_refl _) _).trans (hBM.mono (by simp))
  have hBw1 : Below w.heap.size w w1 := hBM'.grown hgrow (by omega) (fun k hk => by cases hk)
  clear hown hgrow hBM
  obtain ⟨g, hg⟩ : ∃ g, g = wM.heap.size := ⟨_, rfl⟩
  rw [← hg] at hm1 hown1 hsM ⊢
  clear hg b0M hBM'
  gi_wp2_with (gi_at_call 34; refine (callsIn_wide.2 (backLI_any _ _ _ _)).mono ?_; rintro e w' ⟨rfl, rfl⟩)
  obtain ⟨N, hN⟩ : ∃ N, N = w1.heap.size := ⟨_, rfl⟩
  obtain ⟨A2, hA2⟩ : ∃ A2, (((w1.alloc (.cells #[.slice (some ⟨g, 0, none⟩) L L] 25)).alloc (.cells #[.int .i64 0] 3)).alloc (.cells #[.slice sa L capd] 25)) = A2 := ⟨_, rfl⟩
  have hs2 : A2.heap.size = N + 3 := by rw [← hA2, hN]; simp
  have b0 : Boxed A2 w.heap.size 25 (.slice a LR cap) := by rw [← hA2]; exact ((b0'.alloc _).alloc _).alloc _
  have b1 : Boxed A2 N 25 (.slice (some ⟨g, 0, none⟩) L L) := by rw [← hA2, hN]; exact ((Boxed.new w1 _ _).alloc _).alloc _
  have b2 : Boxed A2 (N + 1) 3 (.int .i64 0) := by rw [← hA2, hN]; exact (boxed_at _ _ _ (by simp)).alloc _
  have b3 : Boxed A2 (N + 1 + 1) 25 (.slice sa L capd) := by rw [← hA2, hN]; exact boxed_at _ _ _ (by simp)
  have hB2 : Below w.heap.size w A2 := by rw [← hA2]; exact ((hBw1.alloc hBw1.size _).alloc (by simp; omega) _).alloc (by simp; omega) _
  have hq2 : A2.ownsRow w.heap.size 3 1 (.slice (some ⟨g, 0, none⟩) L L) L (intsOf (List.replicate L 0)) := by rw [← hA2]; exact ((hown1.alloc _).alloc _).alloc _
  rw [hA2, ← hN]
  rw [← hN] at hm1
  clear hA2 b0' hown1 hBw1 hN
  refine' rangeBI (sa := sa) (cap := capd) (fun k x => ∃ h : k < d.length, x = d[k]) rfl (show L ≤ 1000000 by omega) rfl
    (fun k W => (∃ (D : List Int), (Boxed W w.heap.size 25 (.slice a LR cap) ∧ Boxed W N 25 (.slice (some ⟨g, 0, none⟩) L L) ∧ Boxed W (N + 1) 3 (.int .i64 (umS (d.drop k) (r.drop k)).2) ∧ Boxed W (N + 1 + 1) 25 (.slice sa L capd)) ∧
      (D.length = L ∧ D.drop k = (umS (d.drop k) (r.drop k)).1) ∧ W.ownsRow w.heap.size 3 1 (.slice (some ⟨g, 0, none⟩) L L) L (intsOf D)) ∧ Below w.heap.size w W)
    (fun cd k W => False)
    ?hI ?hIx ?h0 ?hrd _ ?assign ?body ?done ?stop
  case hI =>
    refine OwnFrom.and (Own.from ?_ _) (ownFrom_below (Nat.le_refl _) (by omega))
    rintro s A C row ⟨D, ⟨x0, x1, x2, x3⟩, hp, hq⟩ hg hr
    exact ⟨D, ⟨boxed_own _ _ (fun _ : Unit => _) () A C row x0 hg hr, boxed_own _ _ (fun _ : Unit => _) () A C row x1 hg hr, boxed_own _ _ (fun _ : Unit => _) () A C row x2 hg hr, boxed_own _ _ (fun _ : Unit => _) () A C row x3 hg hr⟩, hp, ownedI_own _ _ (fun _ : Unit => _) (fun _ => _) (fun _ => _) () A C row hq hg hr⟩
  case hIx => exact fun cd s A C row hs hg hr => hs
  case h0 =>
    refine ⟨⟨List.replicate L 0, ⟨b0, b1, ?_, b3⟩, ⟨by simp, ?_⟩, hq2⟩, hB2⟩
    · rw [HL.out, List.drop_length, umS_nil]; exact b2
    · rw [HL.out, List.drop_length, umS_nil, List.drop_of_length_le (by simp)]
  case hrd =>
    rintro k X ⟨⟨D, ⟨_, _, _, x3⟩, _, _⟩, hB⟩ hk
    refine ⟨x3.cell, fun j hj => ?_⟩
    have hjd : j < d.length := by have := HL.out; omega
    obtain ⟨a', cap2, e', _, _, h3⟩ := (HRowD.out X hB).ints
    injection e' with e1 e2 e3
    subst e1
    obtain ⟨ba, oa, rfl, hba, hcell⟩ := h3.resolve_left (fun e => by rw [e] at hjd; simp at hjd)
    exact ⟨d[j], ba, oa, rfl, ⟨hjd, rfl⟩, hcell j hjd⟩
  case assign =>
    intro l k x W K hK
    gi_wp2
    exact hK
  case body =>
    rintro l' k x W hk ⟨hkd, rfl⟩ ⟨⟨D, ⟨x0, x1, x2, x3⟩, ⟨hDl, hDd⟩, hq⟩, hB⟩ hsz hbk
    obtain ⟨hkr, t0, t1, t2, t3⟩ := HAT.out k hkd
    have hgd := HGD.out k hkd hkr
    have hsm := HSM.out (k + 1)
    have hkD : k < D.length := by have := HL.out; omega
    obtain ⟨ar, cap3, e3, _, _, q3⟩ := (HRow.out _ hB).ints
    injection e3 with e3 e5 e4
    clear e5
    subst e3 e4
    obtain ⟨b', off, rfl, hbb, hcell⟩ := q3.resolve_left (fun e => by rw [e] at hkr; simp at hkr)
    have hcr := hcell k hkr
    obtain ⟨z0, hcd⟩ : ∃ z, W.cell? ⟨g, k, none⟩ = some (.int .i64 z) := ⟨D[k], by
      have h1 := hq.cellAt k (by omega)
      rw [intsOf_get hkD] at h1
      simpa using h1⟩
    obtain ⟨X, hX⟩ : ∃ X, X = d[k] := ⟨_, rfl⟩
    obtain ⟨Y, hY⟩ : ∃ Y, Y = r[k] := ⟨_, rfl⟩
    obtain ⟨S, hS⟩ : ∃ S, S = (umS (d.drop (k + 1)) (r.drop (k + 1))).2 := ⟨_, rfl⟩
    obtain ⟨T, hT⟩ : ∃ T, T = (umS (d.drop (k + 1)) (r.drop (k + 1))).1 := ⟨_, rfl⟩
    rw [← hX] at t0 t1 hgd ⊢
    rw [← hY] at hcr t1 t2 t3 hgd
    rw [← hS] at hgd hsm x2
    rw [← hT] at hgd hDd
    obtain ⟨V, hV⟩ : ∃ V, (if S % 2 = 1 then Y - 1 - X else X) = V := ⟨_, rfl⟩
    have HF := Lib.hid (fun W => refl_any X Y S V W hsm.1 (by omega) t0 (by omega) t2 t3 hV)
    rw [hV] at hgd
    have hX9 : X ≤ 60 := by omega
    have hkL : (k : Int) < L := by omega
    have hkR : (k : Int) < LR := by have := HLR.out; omega
    have fq : W.frozen? ⟨g, k, none⟩ = false := by have := hq.frozenAt k; simpa using this
    have c0 : W.drew.cell? ⟨w.heap.size, 0, none⟩ = some (.slice (some ⟨b', off, none⟩) LR cap) := x0.cell
    have c1' : W.drew.cell? ⟨N, 0, none⟩ = some (.slice (some ⟨g, 0, none⟩) L L) := x1.cell
    have c2' : W.drew.cell? ⟨N + 1, 0, none⟩ = some (.int .i64 S) := x2.cell
    have c3' : W.drew.cell? ⟨b', off + k, none⟩ = some (.int .i64 Y) := hcr
    have c4' : W.drew.cell? ⟨g, k, none⟩ = some (.int .i64 z0) := hcd
    have f4' : W.drew.frozen? ⟨g, k, none⟩ = false := fq
    obtain ⟨W6, hW6⟩ : ∃ W6, W6 = W.drew.setCell ⟨g, k, none⟩ (.int .i64 V) := ⟨_, rfl⟩
    have y0 : Boxed W6 w.heap.size 25 (.slice (some ⟨b', off, none⟩) LR cap) := by rw [hW6]; exact boxed_setOff (X := W.drew) x0 _ _ (show g ≠ w.heap.size by omega)
    have y1 : Boxed W6 N 25 (.slice (some ⟨g, 0, none⟩) L L) := by rw [hW6]; exact boxed_setOff (X := W.drew) x1 _ _ (show g ≠ N by omega)
    have y2 : Boxed W6 (N + 1) 3 (.int .i64 S) := by rw [hW6]; exact boxed_setOff (X := W.drew) x2 _ _ (show g ≠ N + 1 by omega)
    have y3 : Boxed W6 (N + 1 + 1) 25 (.slice sa L capd) := by rw [hW6]; exact boxed_setOff (X := W.drew) x3 _ _ (show g ≠ N + 1 + 1 by omega)
    have hq6 : W6.ownsRow w.heap.size 3 1 (.slice (some ⟨g, 0, none⟩) L L) L (intsOf (D.set k V)) := by
      have h := (World.ownsRow.stored (w := W.drew) hq k (.int .i64 V)).1
      rw [hW6]
      rwa [ints_set] at h
    have hB6 : Below w.heap.size w W6 := by rw [hW6]; exact Below.setCell (p := ⟨g, k, none⟩) (show Below w.heap.size w W.drew from below_drewN hB 1) (show w.heap.size ≤ g by omega) _
    have hA6 : Area A2.heap.size 2 W W6 := by rw [hW6]; exact Area.setCell (X := W.drew) _ _ (.inl (by simp; omega))
    have d2 : (W.setCell ⟨g, k, none⟩ (.int .i64 V)).cell? ⟨N + 1, 0, none⟩ = some (.int .i64 S) := by have := y2.cell; rw [hW6] at this; exact this
    have g2 : (W.setCell ⟨g, k, none⟩ (.int .i64 V)).frozen? ⟨N + 1, 0, none⟩ = false := by have := y2.frozen; rw [hW6] at this; exact this
    have d2' : (W.setCell ⟨g, k, none⟩ (.int .i64 V)).drew.cell? ⟨N + 1, 0, none⟩ = some (.int .i64 S) := d2
    have g2' : (W.setCell ⟨g, k, none⟩ (.int .i64 V)).drew.frozen? ⟨N + 1, 0, none⟩ = false := g2
    have HEND := Lib.hid (show Area A2.heap.size 2 W (W6.setCell ⟨N + 1, 0, none⟩ (.int .i64 (S + X))) ∧ ((∃ (D : List Int), (Boxed (W6.setCell ⟨N + 1, 0, none⟩ (.int .i64 (S + X))) w.heap.size 25 (.slice (some ⟨b', off, none⟩) LR cap) ∧ Boxed (W6.setCell ⟨N + 1, 0, none⟩ (.int .i64 (S + X))) N 25 (.slice (some ⟨g, 0, none⟩) L L) ∧ Boxed (W6.setCell ⟨N + 1, 0, none⟩ (.int .i64 (S + X))) (N + 1) 3 (.int .i64 (umS (d.drop k) (r.drop k)).2) ∧ Boxed (W6.setCell ⟨N + 1, 0, none⟩ (.int .i64 (S + X))) (N + 1 + 1) 25 (.slice sa L capd)) ∧
      (D.length = L ∧ D.drop k = (umS (d.drop k) (r.drop k)).1) ∧ (W6.setCell ⟨N + 1, 0, none⟩ (.int .i64 (S + X))).ownsRow w.heap.size 3 1 (.slice (some ⟨g, 0, none⟩) L L) L (intsOf D)) ∧ Below w.heap.size w (W6.setCell ⟨N + 1, 0, none⟩ (.int .i64 (S + X)))) from by
      refine ⟨hA6.trans (Area.setCell (X := W6) _ _ (.inl (by simp; omega))), ⟨D.set k V, ⟨?_, ?_, ?_, ?_⟩, ⟨by rw [List.length_set]; exact hDl, by rw [drop_setG _ _ _ hkD, hDd, hgd]⟩, ?_⟩, ?_⟩
      · exact boxed_setOff (X := W6) y0 _ _ (show N + 1 ≠ w.heap.size by omega)
      · exact boxed_setOff (X := W6) y1 _ _ (show N + 1 ≠ N by omega)
      · rw [hgd]; exact y2.set _
      · exact boxed_setOff (X := W6) y3 _ _ (show N + 1 ≠ N + 1 + 1 by omega)
      · refine owns_setOff (w := W6) hq6 _ _ ?_
        simp [Value.ownBlock]; omega
      · exact Below.setCell (p := ⟨N + 1, 0, none⟩) hB6 (show w.heap.size ≤ N + 1 by omega) _)
    have HW6 := Lib.hid hW6
    have hs0 := hsm.1; have hs9 := hsm.2
    clear hgd hsm hkD hbb hcell hcr hcd q3 hX hY hS hT hV fq hW6 x0 x1 x2 x3 y0 y1 y2 y3 hq hq6 hB hB6 hA6 hDl hDd b0 b1 b2 b3 hB2 hq2
    gi_wp2_with fail
    refine regionIn_tail 10 (by kernel_rfl) (by kernel_rfl) (by kernel_rfl) ?_
    simp only [List.take_succ_cons, List.take_zero, List.drop_succ_cons, List.drop_zero]
    change wpStill _ _ (World.drew W) _ _ _
    repeat still_step
    still_call ((HF.out _).mono (fun e w' h => ⟨h.1, h.2.symm⟩))
    repeat still_step
    refine wpStill_nil ?_
    change wpListIn _ _ _ _ _ _ _ W.drew
    gi_wp2_with fail
    have hE := HEND.out
    rw [HW6.out] at hE
    exact hE
  case done =>
    rintro E W hE ⟨⟨D, ⟨x0, x1, x2, x3⟩, ⟨hDl, hDd⟩, hq⟩, hB⟩ hK
    rw [List.drop_zero, List.drop_zero, List.drop_zero] at hDd
    subst hDd
    have hsz := hB.size
    have hKl := heap_lt_of_some hK
    have c1 := x1.cell; have c0 := x0.cell
    have HVV := Lib.hid (HV.out W _ (RowAt.of_owns hq) hB)
    have HB := Lib.hid hB
    have hE9 : w.heap.size ≤ E := by omega
    clear x0 x1 x2 x3 hq hB b0 b1 b2 b3 hB2 hq2 hDl
    gi_wp2_with (gi_at_call 37; refine (callsIn_wide.2 HVV.out).mono ?_; rintro e w2 ⟨rfl, hb2⟩)
    have hK2 : w2.heap[E]? = some (.deferred (some [])) := (hb2.block E hKl).trans hK
    refine ⟨by simp, .inl ⟨_, _, rfl, run_takeDeferred hK2, ?_⟩⟩
    refine ⟨_, results_tmp rfl _ _ _, ⟨rfl, (HB.out.trans (hb2.mono hsz)).trans (below_putObj _ (by omega) (by have := hb2.size; omega))⟩⟩
  case stop =>
    rintro E c k W hE hk hj hK
    exact hj.elim

end Go.Proofs.YtleadjkndciniaaDoor
