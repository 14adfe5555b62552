/- Gray codes, the program: digits of mixed places. -/
import Derived.Test.YtleadjkndciniaaDoorGrMix
import Derived.Test.YtleadjkndciniaaDoorMxI4
import Derived.Test.YtleadjkndciniaaDoorRfBI
import Derived.Test.YtleadjkndciniaaDoorLgI
import Derived.Test.YtleadjkndciniaaDoorLgV
import Derived.Test.YtleadjkndciniaaDoorStl
import Derived.Stop.RegionWithIn
set_option linter.unusedVariables false
set_option linter.unusedSimpArgs false
set_option maxRecDepth 100000
namespace Go.Proofs.YtleadjkndciniaaDoor
open Go.ChangeShapes Go.WideShapes Go.ChangeAt Go.RowKit

attribute [local go_sem] Oper.semAt_some wide_fn wide_depth

theorem owns_lowG {w : World} {base base' : Nat} {e : TypeId} {v : Value} {n : Nat} {xs : List Value} (h : w.ownsRow base e 1 v n xs) (hb : base' ≤ base) : w.ownsRow base' e 1 v n xs :=
  ⟨h.1, h.2.imp id (fun ⟨g, cap, cur, hv, hg, r⟩ => ⟨g, cap, cur, hv, Nat.le_trans hb hg, r⟩)⟩

/-- a digit as it is, or counted from the other end -/
theorem refl_any (d r s y : Int) (w : World) (hs0 : 0 ≤ s) (hs9 : s ≤ 1000) (hd0 : 0 ≤ d) (hd9 : d ≤ 60) (hr0 : 2 ≤ r) (hr9 : r ≤ 60) (hy : (if s % 2 = 1 then r - 1 - d else d) = y) :
    Calls Tryd.prog 35 #[.int .i64 d, .int .i64 r, .int .i64 s] w fun e w' => e = .returned (.int .i64 y) ∧ w = w' := by
  have hsr : s.tmod 2 = s % 2 := Int.tmod_eq_emod_of_nonneg hs0
  by_cases h : s % 2 = 1
  · rw [if_pos h] at hy
    rw [h] at hsr
    have HY := Lib.hid hy
    clear hy h
    go_enter Tryd.func35, Tryd.ntmps35
    go_wp2
    go_ret
    exact ⟨by rw [← HY.out]; rfl, rfl⟩
  · rw [if_neg h] at hy
    have h0 : s % 2 = 0 := by omega
    rw [h0] at hsr
    have HY := Lib.hid hy
    clear hy h h0
    go_enter Tryd.func35, Tryd.ntmps35
    go_wp2
    go_ret
    exact ⟨by rw [← HY.out]; rfl, rfl⟩

/-- what is known of the digits that are written anew -/
structure GdF (d r : List Int) : Prop where
  at' : ∀ j (h1 : j < d.length), ∃ h2 : j < r.length, 0 ≤ d[j] ∧ d[j] ≤ r[j] - 1 ∧ 2 ≤ r[j] ∧ r[j] ≤ 60
  sum : ∀ k, 0 ≤ (gmS (d.drop k) (r.drop k)).2 ∧ (gmS (d.drop k) (r.drop k)).2 ≤ 600
  len : d.length ≤ 10
  out : (gmS d r).1.length = d.length
theorem gmS_nil (r : List Int) : gmS [] r = ([], 0) := by cases r <;> rfl
theorem gdF_of (n : Int) (r : List Int) : GdF (rMixedDigits0 n r) r := by
  cases h : (okR r && inB n 0 (rp r - 1))
  · rw [show rMixedDigits0 n r = [] by rw [rMixedDigits0, h]; rfl]
    refine ⟨fun j h1 => by simp at h1, fun k => ?_, by simp, by rw [gmS_nil]⟩
    rw [List.drop_nil, gmS_nil]; decide
  · rw [show rMixedDigits0 n r = md n r by rw [rMixedDigits0, h]; rfl]
    rw [Bool.and_eq_true] at h
    obtain ⟨o1, o2, o3, o4⟩ := okR_yes h.1
    obtain ⟨d, hd⟩ : ∃ d, d = md n r := ⟨_, rfl⟩
    have hfit : InR d r := by rw [hd]; exact inR_of (fit_md o3 n)
    have hdl : d.length = r.length := by rw [hd]; exact md_len r n
    rw [← hd]
    refine ⟨fun j h1 => ⟨by omega, ?_⟩, fun k => ?_, by omega, gmS_len d r hdl⟩
    · have h1 := fitM_at (fit_of hfit) j h1 (by omega)
      have h2 := o3 _ (List.getElem_mem (show j < r.length by omega))
      exact ⟨h1.1, h1.2, h2.1, h2.2⟩
    · have h1 := inR_sum (gmS_in (inR_drop k hfit)) (fun x hx => (o3 x (List.mem_of_mem_drop hx)).2)
      have h2 := (gmS_in (inR_drop k hfit)).len
      rw [← gmS_sum] at h1
      rw [List.length_drop] at h2
      omega

set_option maxHeartbeats 8000000 in
theorem implGrayDigits_any (n : Int) (vr : Value) (r : List Int) (w : World) (hn : in64 n) (hrr : RowAt w vr (intsOf r)) (hlr : r.length ≤ 1048576) (hir : ∀ n ∈ r, in64 n) :
    Calls Tryd.prog 13 #[.int .i64 n, vr] w fun e w' => ∃ v', e = .returned v' ∧ w'.ownsRow w.heap.size 3 1 v' (rGrayDigits0 n r).length (intsOf (rGrayDigits0 n r)) ∧ Below w.heap.size w w' := by
  have HM := Lib.hid (fun W (hb : Below w.heap.size w W) => implMixedDigits_any n vr r W hn (hrr.below hb) hlr hir)
  have HRow := Lib.hid (fun W (hb : Below w.heap.size w W) => hrr.below hb)
  have hF := gdF_of n r
  have E : rGrayDigits0 n r = (gmS (rMixedDigits0 n r) r).1 := rfl
  obtain ⟨d, hd⟩ : ∃ d, d = rMixedDigits0 n r := ⟨_, rfl⟩
  rw [← hd] at HM hF E
  rw [E, hF.out]
  have HAT := Lib.hid hF.at'; have HSM := Lib.hid hF.sum
  have HGD := Lib.hid (fun j (h1 : j < d.length) (h2 : j < r.length) => gm_drop h1 h2)
  have hL9 := hF.len
  obtain ⟨L, hL⟩ : ∃ L, L = d.length := ⟨_, rfl⟩
  rw [← hL] at HM hL9 ⊢
  have HL := Lib.hid hL
  obtain ⟨a, cap, rfl, h1, h2, h3⟩ := hrr.ints
  unfold maxLen at h2
  clear hd E hL hF h3 hrr hir
  obtain ⟨LR, hLR⟩ : ∃ LR, LR = r.length := ⟨_, rfl⟩
  have HLR := Lib.hid hLR
  rw [← hLR] at h1 hlr HM HRow ⊢
  clear hLR
  refine (callsIn_wide (n := 0)).1 ?_
  refine callsIn_of_wp_marks Tryd.func13 rfl trivial ?_ rfl
  simp only [Tryd.ntmps13, List.size_toArray, List.length_cons, List.length_nil, Nat.reduceAdd, Nat.reduceSub, Array.replicate_succ, Array.replicate_zero, List.push_toArray, List.append_toArray, List.nil_append, List.cons_append]
  gi_wp2_with (gi_at_call 33; refine (callsIn_wide.2 (HM.out _ ((Below.refl _ w).alloc (Nat.le_refl _) _))).mono ?_; rintro e w1 ⟨v1, rfl, hO, hB⟩; obtain ⟨sa, c1, rfl, hLc, hc9⟩ := owns_form hO)
  gi_wp2_with (gi_at_call 34; refine (callsIn_wide.2 (backLI_any _ _ _ _)).mono ?_; rintro e w' ⟨rfl, rfl⟩)
  have HG := Lib.hid (show ∀ k, (Value.slice sa L c1).ownBlock = some k → w.heap.size + 1 ≤ k ∧ k < w1.heap.size from fun k hk => by have := hO.lt k hk; simpa using this)
  have hs1 : w.heap.size + 1 ≤ w1.heap.size := by have := hB.size; simpa using this
  have b0' : Boxed w1 w.heap.size 25 (.slice a LR cap) := boxed_below (Boxed.new w _ _) hB (by simp)
  have hBw1 : Below w.heap.size w w1 := (show Below w.heap.size w _ from (Below.refl _ w).alloc (Nat.le_refl _) _).trans (hB.mono (by simp))
  have hO1 : w1.ownsRow w.heap.size 3 1 (.slice sa L c1) L (intsOf d) := owns_lowG hO (by simp)
  obtain ⟨N, hN⟩ : ∃ N, N = w1.heap.size := ⟨_, rfl⟩
  obtain ⟨A2, hA2⟩ : ∃ A2, (((w1.alloc (.cells #[.slice sa L c1] 25)).alloc (.cells #[.int .i64 0] 3)).alloc (.cells #[.slice sa L c1] 25)) = A2 := ⟨_, rfl⟩
  have hs2 : A2.heap.size = N + 3 := by rw [← hA2, hN]; simp
  have b0 : Boxed A2 w.heap.size 25 (.slice a LR cap) := by rw [← hA2]; exact ((b0'.alloc _).alloc _).alloc _
  have b1 : Boxed A2 N 25 (.slice sa L c1) := by rw [← hA2, hN]; exact ((Boxed.new w1 _ _).alloc _).alloc _
  have b2 : Boxed A2 (N + 1) 3 (.int .i64 0) := by rw [← hA2, hN]; exact (boxed_at _ _ _ (by simp)).alloc _
  have b3 : Boxed A2 (N + 1 + 1) 25 (.slice sa L c1) := by rw [← hA2, hN]; exact boxed_at _ _ _ (by simp)
  have hB2 : Below w.heap.size w A2 := by rw [← hA2]; exact ((hBw1.alloc hBw1.size _).alloc (by simp; omega) _).alloc (by simp; omega) _
  have hq2 : A2.ownsRow w.heap.size 3 1 (.slice sa L c1) L (intsOf d) := by rw [← hA2]; exact ((hO1.alloc _).alloc _).alloc _
  rw [hA2, ← hN]
  rw [← hN] at hs1 HG
  clear hA2 b0' hO1 hO hBw1 hB hN
  refine' rangeBI (sa := sa) (cap := c1) (fun k x => ∃ h : k < d.length, x = d[k]) rfl (show L ≤ 1000000 by omega) rfl
    (fun k W => (∃ (D : List Int), (Boxed W w.heap.size 25 (.slice a LR cap) ∧ Boxed W N 25 (.slice sa L c1) ∧ Boxed W (N + 1) 3 (.int .i64 (gmS (d.drop k) (r.drop k)).2) ∧ Boxed W (N + 1 + 1) 25 (.slice sa L c1)) ∧
      (D.length = L ∧ D.take k = d.take k ∧ D.drop k = (gmS (d.drop k) (r.drop k)).1) ∧ W.ownsRow w.heap.size 3 1 (.slice sa L c1) L (intsOf D)) ∧ Below w.heap.size w W)
    (fun cd k W => False)
    ?hI ?hIx ?h0 ?hrd _ ?assign ?body ?done ?stop
  case hI =>
    refine OwnFrom.and (Own.from ?_ _) (ownFrom_below (Nat.le_refl _) (by omega))
    rintro s A C row ⟨D, ⟨x0, x1, x2, x3⟩, hp, hq⟩ hg hr
    exact ⟨D, ⟨boxed_own _ _ (fun _ : Unit => _) () A C row x0 hg hr, boxed_own _ _ (fun _ : Unit => _) () A C row x1 hg hr, boxed_own _ _ (fun _ : Unit => _) () A C row x2 hg hr, boxed_own _ _ (fun _ : Unit => _) () A C row x3 hg hr⟩, hp, ownedI_own _ _ (fun _ : Unit => _) (fun _ => _) (fun _ => _) () A C row hq hg hr⟩
  case hIx => exact fun cd s A C row hs hg hr => hs
  case h0 =>
    refine ⟨⟨d, ⟨b0, b1, ?_, b3⟩, ⟨HL.out.symm, rfl, ?_⟩, hq2⟩, hB2⟩
    · rw [HL.out, List.drop_length, gmS_nil]; exact b2
    · rw [HL.out, List.drop_length, gmS_nil]
  case hrd =>
    rintro k X ⟨⟨D, ⟨_, _, _, x3⟩, ⟨hDl, hDt, _⟩, hq⟩, hB⟩ hk
    refine ⟨x3.cell, fun j hj => ?_⟩
    have hjd : j < d.length := by have := HL.out; omega
    have hjD : j < D.length := by omega
    have hji : D[j] = d[j] := by
      have e := congrArg (fun l : List Int => l[j]?) hDt
      simpa only [List.getElem?_take, if_pos hj, List.getElem?_eq_getElem hjD, List.getElem?_eq_getElem hjd, Option.some.injEq] using e
    obtain ⟨g, c2, e2⟩ := owns_some hq (fun e => by injection e with _ e; omega)
    injection e2 with e2 _ e3
    subst e2 e3
    refine ⟨d[j], g, 0, rfl, ⟨hjd, rfl⟩, ?_⟩
    have h1 := hq.cellAt j (by omega)
    rw [intsOf_get hjD, hji] at h1
    simpa using h1
  case assign =>
    intro l k x W K hK
    gi_wp2
    exact hK
  case body =>
    rintro l' k x W hk ⟨hkd, rfl⟩ ⟨⟨D, ⟨x0, x1, x2, x3⟩, ⟨hDl, hDt, hDd⟩, hq⟩, hB⟩ hsz hbk
    obtain ⟨hkr, t0, t1, t2, t3⟩ := HAT.out k hkd
    have hgd := HGD.out k hkd hkr
    have hsm := HSM.out (k + 1)
    have hkD : k < D.length := by have := HL.out; omega
    obtain ⟨e1, e2⟩ := take_at hDt hkD hkd
    obtain ⟨ar, cap3, e3, _, _, q3⟩ := (HRow.out _ hB).ints
    injection e3 with e3 e5 e4
    clear e5
    subst e3 e4
    obtain ⟨b', off, rfl, hbb, hcell⟩ := q3.resolve_left (fun e => by rw [e] at hkr; simp at hkr)
    have hcr := hcell k hkr
    obtain ⟨g, c2, e2'⟩ := owns_some hq (fun e => by injection e with _ e; omega)
    injection e2' with e2' _ e3'
    subst e2' e3'
    obtain ⟨hg1, hg2⟩ := HG.out g rfl
    have hcd : W.cell? ⟨g, k, none⟩ = some (.int .i64 d[k]) := by
      have h1 := hq.cellAt k (by omega)
      rw [intsOf_get hkD, e1] at h1
      simpa using h1
    obtain ⟨X, hX⟩ : ∃ X, X = d[k] := ⟨_, rfl⟩
    obtain ⟨Y, hY⟩ : ∃ Y, Y = r[k] := ⟨_, rfl⟩
    obtain ⟨S, hS⟩ : ∃ S, S = (gmS (d.drop (k + 1)) (r.drop (k + 1))).2 := ⟨_, rfl⟩
    obtain ⟨T, hT⟩ : ∃ T, T = (gmS (d.drop (k + 1)) (r.drop (k + 1))).1 := ⟨_, rfl⟩
    rw [← hX] at hcd t0 t1 hgd ⊢
    rw [← hY] at hcr t1 t2 t3 hgd
    rw [← hS] at hgd hsm x2
    rw [← hT] at hgd hDd
    obtain ⟨V, hV⟩ : ∃ V, (if S % 2 = 1 then Y - 1 - X else X) = V := ⟨_, rfl⟩
    have HF := Lib.hid (fun W => refl_any X Y S V W hsm.1 (by omega) t0 (by omega) t2 t3 hV)
    rw [hV] at hgd
    have hV0 : 0 ≤ V ∧ V ≤ 60 := by rw [← hV]; split <;> omega
    have hkL : (k : Int) < L := by omega
    have hkR : (k : Int) < LR := by have := HLR.out; omega
    have fq : W.frozen? ⟨g, k, none⟩ = false := by have := hq.frozenAt k; simpa using this
    have c0 : W.drew.cell? ⟨w.heap.size, 0, none⟩ = some (.slice (some ⟨b', off, none⟩) LR cap) := x0.cell
    have c1' : W.drew.cell? ⟨N, 0, none⟩ = some (.slice (some ⟨g, 0, none⟩) L c1) := x1.cell
    have c2' : W.drew.cell? ⟨N + 1, 0, none⟩ = some (.int .i64 S) := x2.cell
    have c3' : W.drew.cell? ⟨b', off + k, none⟩ = some (.int .i64 Y) := hcr
    have c4' : W.drew.cell? ⟨g, k, none⟩ = some (.int .i64 X) := hcd
    have f4' : W.drew.frozen? ⟨g, k, none⟩ = false := fq
    obtain ⟨W6, hW6⟩ : ∃ W6, W6 = W.drew.setCell ⟨g, k, none⟩ (.int .i64 V) := ⟨_, rfl⟩
    have y0 : Boxed W6 w.heap.size 25 (.slice (some ⟨b', off, none⟩) LR cap) := by rw [hW6]; exact boxed_setOff (X := W.drew) x0 _ _ (show g ≠ w.heap.size by omega)
    have y1 : Boxed W6 N 25 (.slice (some ⟨g, 0, none⟩) L c1) := by rw [hW6]; exact boxed_setOff (X := W.drew) x1 _ _ (show g ≠ N by omega)
    have y2 : Boxed W6 (N + 1) 3 (.int .i64 S) := by rw [hW6]; exact boxed_setOff (X := W.drew) x2 _ _ (show g ≠ N + 1 by omega)
    have y3 : Boxed W6 (N + 1 + 1) 25 (.slice (some ⟨g, 0, none⟩) L c1) := by rw [hW6]; exact boxed_setOff (X := W.drew) x3 _ _ (show g ≠ N + 1 + 1 by omega)
    have hq6 : W6.ownsRow w.heap.size 3 1 (.slice (some ⟨g, 0, none⟩) L c1) L (intsOf (D.set k V)) := by
      have h := (World.ownsRow.stored (w := W.drew) hq k (.int .i64 V)).1
      rw [hW6]
      rwa [ints_set] at h
    have hB6 : Below w.heap.size w W6 := by rw [hW6]; exact Below.setCell (p := ⟨g, k, none⟩) (show Below w.heap.size w W.drew from below_drewN hB 1) (show w.heap.size ≤ g by omega) _
    have hA6 : Area A2.heap.size 2 W W6 := by rw [hW6]; exact Area.setCell (X := W.drew) _ _ (.inl (by simp; omega))
    have d4 : W6.cell? ⟨g, k, none⟩ = some (.int .i64 V) := by
      have h1 := hq6.cellAt k (by omega)
      rw [intsOf_get (by rw [List.length_set]; exact hkD), List.getElem_set_self] at h1
      simpa using h1
    have d1 := y1.cell; have d2 := y2.cell; have g2 := y2.frozen
    have d1' : W6.drew.cell? ⟨N, 0, none⟩ = some (.slice (some ⟨g, 0, none⟩) L c1) := d1
    have d2' : W6.drew.cell? ⟨N + 1, 0, none⟩ = some (.int .i64 S) := d2
    have d4' : W6.drew.cell? ⟨g, k, none⟩ = some (.int .i64 V) := d4
    have g2' : W6.drew.frozen? ⟨N + 1, 0, none⟩ = false := g2
    have HEND := Lib.hid (show Area A2.heap.size 2 W (W6.drew.setCell ⟨N + 1, 0, none⟩ (.int .i64 (S + V))) ∧ ((∃ (D : List Int), (Boxed (W6.drew.setCell ⟨N + 1, 0, none⟩ (.int .i64 (S + V))) w.heap.size 25 (.slice (some ⟨b', off, none⟩) LR cap) ∧ Boxed (W6.drew.setCell ⟨N + 1, 0, none⟩ (.int .i64 (S + V))) N 25 (.slice (some ⟨g, 0, none⟩) L c1) ∧ Boxed (W6.drew.setCell ⟨N + 1, 0, none⟩ (.int .i64 (S + V))) (N + 1) 3 (.int .i64 (gmS (d.drop k) (r.drop k)).2) ∧ Boxed (W6.drew.setCell ⟨N + 1, 0, none⟩ (.int .i64 (S + V))) (N + 1 + 1) 25 (.slice (some ⟨g, 0, none⟩) L c1)) ∧
      (D.length = L ∧ D.take k = d.take k ∧ D.drop k = (gmS (d.drop k) (r.drop k)).1) ∧ (W6.drew.setCell ⟨N + 1, 0, none⟩ (.int .i64 (S + V))).ownsRow w.heap.size 3 1 (.slice (some ⟨g, 0, none⟩) L c1) L (intsOf D)) ∧ Below w.heap.size w (W6.drew.setCell ⟨N + 1, 0, none⟩ (.int .i64 (S + V)))) from by
      refine ⟨hA6.trans (Area.setCell (X := W6.drew) _ _ (.inl (by simp; omega))), ⟨D.set k V, ⟨?_, ?_, ?_, ?_⟩, ⟨by rw [List.length_set]; exact hDl, by rw [take_setG, e2], by rw [drop_setG _ _ _ hkD, hDd, hgd]⟩, ?_⟩, ?_⟩
      · exact boxed_setOff (X := W6.drew) y0 _ _ (show N + 1 ≠ w.heap.size by omega)
      · exact boxed_setOff (X := W6.drew) y1 _ _ (show N + 1 ≠ N by omega)
      · rw [hgd]; exact (show Boxed W6.drew (N + 1) 3 (.int .i64 S) from y2).set _
      · exact boxed_setOff (X := W6.drew) y3 _ _ (show N + 1 ≠ N + 1 + 1 by omega)
      · refine owns_setOff (w := W6.drew) hq6 _ _ ?_
        simp [Value.ownBlock]; omega
      · exact Below.setCell (p := ⟨N + 1, 0, none⟩) (show Below w.heap.size w W6.drew from below_drewN hB6 1) (show w.heap.size ≤ N + 1 by omega) _)
    have HW6 := Lib.hid hW6
    have hs0 := hsm.1; have hs9 := hsm.2
    have hv0 := hV0.1; have hv9 := hV0.2
    clear hgd hsm hkD e1 e2 hbb hcell hcr hcd q3 hX hY hS hT hV hV0 fq hW6 x0 x1 x2 x3 y0 y1 y2 y3 hq hq6 hB hB6 hA6 hDl hDt hDd b0 b1 b2 b3 hB2 hq2
    gi_wp2_with fail
    refine regionIn_tail 10 (by kernel_rfl) (by kernel_rfl) (by kernel_rfl) ?_
    simp only [List.take_succ_cons, List.take_zero, List.drop_succ_cons, List.drop_zero]
    change wpStill _ _ (World.drew W) _ _ _
    repeat still_step
    still_call ((HF.out _).mono (fun e w' h => ⟨h.1, h.2.symm⟩))
    repeat still_step
    refine wpStill_nil ?_
    change wpListIn _ _ _ _ _ _ _ W.drew
    gi_wp2_with fail
    change Code.wpIn _ _ _ _ _ _ (W.drew.setCell ⟨g, k, none⟩ (.int .i64 V))
    rw [← HW6.out]
    refine regionIn_tail 6 (by kernel_rfl) (by kernel_rfl) (by kernel_rfl) ?_
    simp only [List.take_succ_cons, List.take_zero, List.drop_succ_cons, List.drop_zero]
    change wpStill _ _ (World.drew W6) _ _ _
    repeat still_step
    refine wpStill_nil ?_
    change wpListIn _ _ _ _ _ _ _ W6.drew
    gi_wp2_with fail
    exact HEND.out
  case done =>
    rintro E W hE ⟨⟨D, ⟨x0, x1, x2, x3⟩, ⟨hDl, _, hDd⟩, hq⟩, hB⟩ hK
    rw [List.drop_zero, List.drop_zero, List.drop_zero] at hDd
    subst hDd
    have hsz := hB.size
    have hKl := heap_lt_of_some hK
    have c1 := x1.cell
    have HO := Lib.hid hq
    have HB := Lib.hid hB
    clear x0 x1 x2 x3 hq hB b0 b1 b2 b3 hB2 hq2 hDl
    gi_wp2_with fail
    refine ⟨by simp, .inl ⟨_, _, rfl, run_takeDeferred hK, ?_⟩⟩
    refine ⟨_, results_tmp rfl _ _ _, ⟨_, rfl, ?_, HB.out.trans (below_putObj _ (by omega) (by omega))⟩⟩
    exact owns_shut HO.out hK
  case stop =>
    rintro E c k W hE hk hj hK
    exact hj.elim

end Go.Proofs.YtleadjkndciniaaDoor
