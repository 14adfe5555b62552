/- Gray codes: the model's number of Gray digits. -/
import Derived.Test.YtleadjkndciniaaLgDiv
import Derived.Test.YtleadjkndciniaaGrMix
set_option linter.unusedVariables false
set_option linter.unusedSimpArgs false
set_option maxRecDepth 100000
namespace Go.Proofs.Ytleadjkndciniaa
open Go.ChangeShapes Go.WideShapes Go.ChangeAt Go.RowKit

theorem add_addrG (b off j : Nat) : (⟨b, off, none⟩ : Addr).add j = ⟨b, off + j, none⟩ := by
  unfold Addr.add; split <;> simp_all

set_option maxHeartbeats 8000000 in
theorem specFromGrayDigits_any (vd : Value) (d : List Int) (vr : Value) (r : List Int) (w : World) (hrd : RowAt w vd (intsOf d)) (hld : d.length ≤ 1048576) (hid : ∀ n ∈ d, in64 n) (hrr : RowAt w vr (intsOf r)) (hlr : r.length ≤ 1048576) (hir : ∀ n ∈ r, in64 n) :
    Calls Try.prog 20 #[vd, vr] w fun e w' => e = .returned (.int .i64 (rFromGrayDigits0 d r)) ∧ Below w.heap.size w w' := by
  have HM := Lib.hid (specMx_eq vd d vr r w hrd hld hid hrr hlr hir)
  have HRow := Lib.hid (fun W (hb : Below w.heap.size w W) => hrr.below hb)
  obtain ⟨i0, hi, hz0, hz1, hz2⟩ := info_parts infoInt
  obtain ⟨a, cap, rfl, h1, h2, h3⟩ := hrr.ints
  obtain ⟨ad, capd, rfl, g1, g2, g3⟩ := hrd.ints
  cases h : okM d r
  · have E := Lib.hid (show rFromGrayDigits0 d r = -1 by rw [rFromGrayDigits0, h]; rfl)
    rw [h] at HM
    clear h hrr hrd h1 h2 h3 g1 g2 g3 hir hid
    go_enter Try.func20, Try.ntmps20
    go_wp2_with fail
    refine HM.out.mono ?_
    rintro e w' ⟨rfl, rfl⟩
    go_wp2_with fail
    go_ret
    exact ⟨by rw [E.out]; rfl, Below.refl _ _⟩
  · rw [h] at HM
    obtain ⟨hok, hft⟩ := okM_yes h
    obtain ⟨o1, o2, o3, o4⟩ := okR_yes hok
    have hfit := inR_of hft
    have hdl := hfit.len
    have hum : okM (umS d r).1 r = true := okM_mk hok (fit_of (umS_in hfit))
    have E := Lib.hid (show rFromGrayDigits0 d r = mv (umS d r).1 r by rw [rFromGrayDigits0, h]; rfl)
    have HV := Lib.hid (fun W v (hr : RowAt W v (intsOf (umS d r).1)) (hb : Below w.heap.size w W) => specVal7_any v (umS d r).1 (.slice a r.length cap) r W hr (HRow.out W hb) hum)
    have HUL := Lib.hid (umS_len d r hdl)
    obtain ⟨gd, od, rfl, hgd, hcd⟩ := g3.resolve_left (fun e => by rw [e] at hdl; simp at hdl; omega)
    have HCL := Lib.hid (show ∀ (i : Nat) (u : Value), (intsOf d)[i]? = some u → (w.alloc (.cells #[] 3)).cell? ((⟨gd, od, none⟩ : Addr).add i) = some u from fun i u hu => by
      have hil : i < d.length := by
        have := (List.getElem?_eq_some_iff.1 hu).1
        simpa [intsOf] using this
      rw [add_addrG, ((Below.refl _ w).alloc (Nat.le_refl _) (.cells #[] 3)).cell (p := ⟨gd, od + i, none⟩) hgd, hcd i hil]
      rw [intsOf_get hil] at hu
      exact hu)
    have HA := Lib.hid o3
    have HDL := Lib.hid hdl
    have HGD := Lib.hid (fun j (h1 : j < d.length) (h2 : j < r.length) => um_drop h1 h2)
    have HSM := Lib.hid (fun k => show 0 ≤ (umS (d.drop k) (r.drop k)).2 ∧ (umS (d.drop k) (r.drop k)).2 ≤ 600 by
      have h1 := inR_sum (inR_drop k hfit) (fun x hx => (o3 x (List.mem_of_mem_drop hx)).2)
      have h2 := (inR_drop k hfit).len
      rw [← umS_sum _ _ h2] at h1
      rw [List.length_drop] at h1
      omega)
    have HAT := Lib.hid (fun j (h1 : j < d.length) (h2 : j < r.length) => fitM_at hft j h1 h2)
    have hlit := World.ownsRow_lit (base := w.heap.size) (e := 3) (size := 1) w #[] 0 (Nat.le_refl _) (by decide) rfl
    obtain ⟨L, hL⟩ : ∃ L, L = d.length := ⟨_, rfl⟩
    rw [← hL] at HM HUL g1 ⊢
    have HL := Lib.hid hL
    have hL0 : 0 < L := by omega
    have hL9 : L ≤ 10 := by omega
    unfold maxLen at g2 h2
    clear h hrr hrd h3 hir hid hfit hft hdl o1 o2 o3 o4 hL hlr hld hcd hok hum
    go_enter Try.func20, Try.ntmps20
    go_wp2_with (first
      | (go_at_call 36; refine HM.out.mono ?_; rintro e w' ⟨rfl, rfl⟩)
      | (at_builtin; refine wpList_append_own _ rfl _ _ 24 rfl w.heap.size 3 i0 (.int .i64 0) 1 8 Try.underlying24 hi hz0 hz1 hz2 rfl (by decide) _ _ _ rfl hlit ⟨gd, od, none⟩ L capd (intsOf d) rfl ?e0 ?e1 ?e2 ?e3 ?e4 ?e5 ?_))
    case e0 => have := HL.out; simp [intsOf]; omega
    case e1 => exact HCL.out
    case e2 => exact intsOf_one _
    case e3 => unfold maxLen; omega
    case e4 => omega
    case e5 => simp
    intro v1 w1 hown' hgrow _
    have hB1 : Below w.heap.size w w1 := ((Below.refl w.heap.size w).alloc (Nat.le_refl _) (.cells #[] 3)).grown hgrow (by simp) (fun k hk => by simp [Value.ownBlock] at hk; omega)
    have hO : w1.ownsRow w.heap.size 3 1 v1 L (intsOf d) := by simpa [intsOf] using hown'
    obtain ⟨a1, c1, e1, _, _⟩ := owns_form hO
    subst e1
    obtain ⟨g, c2, e2⟩ := owns_some hO (fun e => by injection e with _ e; omega)
    injection e2 with e2 _ e3
    subst e2 e3
    have HO := Lib.hid hO
    have HB := Lib.hid hB1
    clear hO hB1 hown' hgrow hlit
    go_wp2_with fail
    go_loopw [6, 7] (fun s i wr => ∃ (k : Nat) (D : List Int), k ≤ L ∧ i = .int .i64 ((k : Int) - 1) ∧ s = .int .i64 (umS (d.drop k) (r.drop k)).2 ∧ D.length = L ∧ D.take k = d.take k ∧ D.drop k = (umS (d.drop k) (r.drop k)).1 ∧ wr.ownsRow w.heap.size 3 1 (.slice (some ⟨g, 0, none⟩) L c1) L (intsOf D) ∧ Below w.heap.size w wr) (fun _ i _ => (intOf i + 1).toNat)
    case atStart =>
      refine ⟨L, d, Nat.le_refl _, rfl, ?_, HL.out.symm, rfl, ?_, HO.out, HB.out⟩
      · rw [HL.out, List.drop_length]; rfl
      · rw [HL.out, List.drop_length]; rfl
    case round =>
      obtain ⟨k, D, hk, rfl, rfl, hDl, hDt, hDd, hown, hBr⟩ := hrel
      cases k with
      | zero =>
        rw [List.drop_zero, List.drop_zero, List.drop_zero] at hDd
        subst hDd
        have HVV := Lib.hid (HV.out wr _ (RowAt.of_owns hown) hBr)
        have HBR := Lib.hid hBr
        have hsz := hBr.size
        clear hDl hDt hown hBr
        go_wp2_with fail
        refine HVV.out.mono ?_
        rintro e w2 ⟨rfl, hB2⟩
        go_wp2_with fail
        go_ret
        exact ⟨by rw [E.out]; rfl, HBR.out.trans (hB2.mono hsz)⟩
      | succ j =>
        have hjL : j < L := by omega
        have hjd : j < d.length := by have := HL.out; omega
        have hjr : j < r.length := by have := HDL.out; omega
        have hjD : j < D.length := by omega
        obtain ⟨e1, e2⟩ := take_at hDt hjD hjd
        have hgd := HGD.out j hjd hjr
        have hsm := HSM.out (j + 1)
        have hsj := HSM.out j
        have hat := HAT.out j hjd hjr
        have hra := HA.out _ (List.getElem_mem hjr)
        obtain ⟨a3, cap3, e3, _, _, q3⟩ := (HRow.out _ hBr).ints
        injection e3 with e3 e5 e4
        clear e5
        subst e3 e4
        obtain ⟨b', off, rfl, hbb, hcell⟩ := q3.resolve_left (fun e => by rw [e] at hjr; simp at hjr)
        have hcr := hcell j hjr
        have hcd : wr.cell? ⟨g, j, none⟩ = some (.int .i64 d[j]) := by
          have h1 := hown.cellAt j (by omega)
          rw [intsOf_get hjD, e1] at h1
          simpa using h1
        have hfd : wr.frozen? ⟨g, j, none⟩ = false := by have := hown.frozenAt j; simpa using this
        have hgb := (hown.lt g (by simp [Value.ownBlock])).1
        obtain ⟨x, hx⟩ : ∃ x, x = d[j] := ⟨_, rfl⟩
        obtain ⟨y, hy⟩ : ∃ y, y = r[j] := ⟨_, rfl⟩
        obtain ⟨S, hS⟩ : ∃ S, S = (umS (d.drop (j + 1)) (r.drop (j + 1))).2 := ⟨_, rfl⟩
        obtain ⟨T, hT⟩ : ∃ T, T = (umS (d.drop (j + 1)) (r.drop (j + 1))).1 := ⟨_, rfl⟩
        rw [← hx] at hcd hat hgd
        rw [← hy] at hcr hat hgd hra
        rw [← hS] at hgd hsm ⊢
        rw [← hT] at hgd hDd
        have hsr : S.tmod 2 = S % 2 := Int.tmod_eq_emod_of_nonneg hsm.1
        have hji : (j : Int) < L := by omega
        have hjri : (j : Int) < r.length := by omega
        rw [hgd] at hsj
        have hs1 := hsm.1
        have hs2 := hsm.2
        have hy1 := hra.1
        have hy2 := hra.2
        have hx1 := hat.1
        have hx2 := hat.2
        have hjn : ((j + 1 : Nat) : Int) - 1 = (j : Int) := by omega
        rw [hjn]
        have hLR := Lib.hid hjr
        have HS2 := Lib.hid (show S + x = (umS (d.drop j) (r.drop j)).2 by rw [hgd])
        by_cases hodd : S % 2 = 1
        · rw [if_pos hodd] at hgd
          have hN1 : (D.set j (y - 1 - x)).drop j = (umS (d.drop j) (r.drop j)).1 := by rw [drop_setG _ _ _ hjD, hDd, hgd]
          have hN2 : (D.set j (y - 1 - x)).take j = d.take j := by rw [take_setG, e2]
          have hst := (hown.stored j (.int .i64 (y - 1 - x))).1
          rw [ints_set] at hst
          have HST := Lib.hid hst
          have HN1 := Lib.hid hN1; have HN2 := Lib.hid hN2
          have HNL := Lib.hid (show (D.set j (y - 1 - x)).length = L by rw [List.length_set]; exact hDl)
          have HBR := Lib.hid hBr
          rw [hodd] at hsr
          clear hgd hsj hN1 hN2 hst hown hBr hDl hDt hDd e1 e2 hx hy hS hT hat hra hsm hcell q3 hodd hjd hjr hjD
          go_wp2_with fail
          go_roundw
          case rel => exact ⟨j, _, by omega, by go_num, by rw [← HS2.out], HNL.out, HN2.out, HN1.out, HST.out, HBR.out.setCell (p := ⟨g, j, none⟩) hgb _⟩
          case measure => simp [intOf]
        · rw [if_neg hodd] at hgd
          have hev : S % 2 = 0 := by omega
          have hN1 : D.drop j = (umS (d.drop j) (r.drop j)).1 := by rw [List.drop_eq_getElem_cons hjD, hDd, hgd, e1, hx]
          have HN1 := Lib.hid hN1; have HN2 := Lib.hid e2
          have HNL := Lib.hid hDl
          have HBR := Lib.hid hBr
          have HOW := Lib.hid hown
          rw [hev] at hsr
          clear hgd hsj hN1 hown hBr hDl hDt hDd e1 e2 hx hy hS hT hat hra hsm hcell q3 hodd hjd hjr hjD hev
          go_wp2_with fail
          go_roundw
          case rel => exact ⟨j, D, by omega, by go_num, by rw [← HS2.out], HNL.out, HN2.out, HN1.out, HOW.out, HBR.out⟩
          case measure => simp [intOf]

end Go.Proofs.Ytleadjkndciniaa
