/- Mixed places: the program's digits, values and the next digits. -/
import Derived.Test.YtleadjkndciniaaDoorLgMul
import Derived.Test.YtleadjkndciniaaDoorMxAdd
import Derived.Test.YtleadjkndciniaaDoorMxI3
set_option linter.unusedVariables false
set_option linter.unusedSimpArgs false
set_option maxRecDepth 100000
namespace Go.Proofs.YtleadjkndciniaaDoor
open Go.ChangeShapes Go.WideShapes Go.ChangeAt Go.RowKit

/-- the digit at place k, of a number that is not negative -/
theorem dig_eq {n P x : Int} (h0 : 0 ≤ n) (hP : 1 ≤ P) : (n.tdiv P).tmod x = n / P % x ∧ 0 ≤ n / P ∧ n / P ≤ n := by
  have h1 : n.tdiv P = n / P := Int.tdiv_eq_ediv_of_nonneg h0
  have h2 : 0 ≤ n / P := Int.ediv_nonneg h0 (by omega)
  exact ⟨by rw [h1, Int.tmod_eq_emod_of_nonneg h2], h2, Int.ediv_le_self _ h0⟩

set_option maxHeartbeats 8000000 in
theorem implMixedDigits_any (n : Int) (vr : Value) (r : List Int) (w : World) (hn : in64 n) (hrr : RowAt w vr (intsOf r)) (hlr : r.length ≤ 1048576) (hir : ∀ n ∈ r, in64 n) :
    Calls Tryd.prog 33 #[.int .i64 n, vr] w fun e w' => ∃ v', e = .returned v' ∧ w'.ownsRow w.heap.size 3 1 v' (rMixedDigits0 n r).length (intsOf (rMixedDigits0 n r)) ∧ Below w.heap.size w w' := by
  have HS := Lib.hid (sysOf_any vr r w hrr hlr)
  obtain ⟨i0, hi, hz0, hz1, hz2⟩ := info_parts infoInt
  obtain ⟨hn1, hn2⟩ := hn
  clear hrr hir
  cases h : okR r
  · rw [h] at HS
    have E0 := Lib.hid (show rMixedDigits0 n r = [] by rw [rMixedDigits0, h]; rfl)
    clear h
    go_enter Tryd.func33, Tryd.ntmps33
    go_wp2_with fail
    refine HS.out.mono ?_
    rintro e w1 ⟨cs, hS, rfl, hB1⟩
    have HV := Lib.hid hS
    clear hS
    go_wp2_with (first
      | (refine wpS_alloc rfl rfl ?_; intro w2 g hg hgs hB2)
      | (refine wpS_store rfl _ _ rfl g cs sysZ hg rfl HV.out.size HV.out.one w.heap.size w (hB1.trans (hB2.mono hB1.size)) (by have := hgs.out.1; have := hB1.size; omega) rfl rfl ?_; intro w3 hg3 hk3 hs3 hB3))
    go_ret
    exact ⟨_, rfl, by rw [E0.out]; exact World.ownsRow_nil _ _ _ _, hB3⟩
  · rw [h] at HS
    obtain ⟨o1, o2, o3, o4⟩ := okR_yes h
    have HALL := Lib.hid o3
    have HOK := Lib.hid h
    have hp1 := rp_pos o3
    obtain ⟨R, hR⟩ : ∃ R, R = rp r := ⟨_, rfl⟩
    rw [← hR] at o4 hp1
    have HRE := Lib.hid (show rRangeOf0 r = R by rw [rRangeOf0, h, hR]; rfl)
    have HIN := Lib.hid (show rMixedDigits0 n r = if inB n 0 (R - 1) then md n r else [] by rw [rMixedDigits0, h, hR]; rfl)
    clear h o3 hR
    by_cases d1 : n < 0
    · have E0 := Lib.hid (show rMixedDigits0 n r = [] by rw [HIN.out, show inB n 0 (R - 1) = false by simp [inB]; omega]; rfl)
      go_enter Tryd.func33, Tryd.ntmps33
      go_wp2_with fail
      refine HS.out.mono ?_
      rintro e w1 ⟨cs, hS, rfl, hB1⟩
      have HV := Lib.hid hS
      clear hS
      go_wp2_with (first
        | (refine wpS_alloc rfl rfl ?_; intro w2 g hg hgs hB2)
        | (refine wpS_store rfl _ _ rfl g cs sysZ hg rfl HV.out.size HV.out.one w.heap.size w (hB1.trans (hB2.mono hB1.size)) (by have := hgs.out.1; have := hB1.size; omega) rfl rfl ?_; intro w3 hg3 hk3 hs3 hB3))
      go_ret
      exact ⟨_, rfl, by rw [E0.out]; exact World.ownsRow_nil _ _ _ _, hB3⟩
    · have hdn : decide (n < 0) = false := decide_eq_false d1
      by_cases d2 : R ≤ n
      · have E0 := Lib.hid (show rMixedDigits0 n r = [] by rw [HIN.out, show inB n 0 (R - 1) = false by simp [inB]; omega]; rfl)
        go_enter Tryd.func33, Tryd.ntmps33
        go_wp2_with fail
        refine HS.out.mono ?_
        rintro e w1 ⟨cs, hS, rfl, hB1⟩
        obtain ⟨k, hk, h0, h1⟩ := hS.range
        rw [HRE.out] at h1
        have HZ := Lib.hid (fun W => size7_any cs k _ W hS.size h0 hk h1)
        have HV := Lib.hid hS
        clear hS h0 h1
        go_wp2_with (first
          | (refine wpS_alloc rfl rfl ?_; intro w2 g hg hgs hB2)
          | (refine wpS_store rfl _ _ rfl g cs sysZ hg rfl HV.out.size HV.out.one w.heap.size w (hB1.trans (hB2.mono hB1.size)) (by have := hgs.out.1; have := hB1.size; omega) rfl rfl ?_; intro w3 hg3 hk3 hs3 hB3)
          | (refine wpS_load rfl _ rfl g cs hg3 HV.out.size rfl ?_)
          | (go_at_call 49; refine (HZ.out _).mono ?_; rintro e w4 ⟨rfl, hB4⟩))
        go_ret
        exact ⟨_, rfl, by rw [E0.out]; exact World.ownsRow_nil _ _ _ _, hB3.trans (hB4.mono hB3.size)⟩
      · have E0 := Lib.hid (show rMixedDigits0 n r = md n r by rw [HIN.out, show inB n 0 (R - 1) = true by simp [inB]; omega]; rfl)
        go_enter Tryd.func33, Tryd.ntmps33
        go_wp2_with fail
        refine HS.out.mono ?_
        rintro e w1 ⟨cs, hS, rfl, hB1⟩
        obtain ⟨k, hk, h0, h1⟩ := hS.range
        rw [HRE.out] at h1
        have HZ := Lib.hid (fun W => size7_any cs k _ W hS.size h0 hk h1)
        have HV := Lib.hid hS
        have HK := Lib.hid (hS.yes HOK.out)
        clear hS h0 h1
        go_wp2_with (first
          | (refine wpS_alloc rfl rfl ?_; intro w2 g hg hgs hB2)
          | (refine wpS_store rfl _ _ rfl g cs sysZ hg rfl HV.out.size HV.out.one w.heap.size w (hB1.trans (hB2.mono hB1.size)) (by have := hgs.out.1; have := hB1.size; omega) rfl rfl ?_; intro w3 hg3 hk3 hs3 hB3)
          | (refine wpS_load rfl _ rfl g cs hg3 HV.out.size rfl ?_)
          | (go_at_call 49; refine (HZ.out _).mono ?_; rintro e w4 ⟨rfl, hB4⟩; have hg4 := sys_below hg3 hB4; have c0 := sys_cell hg4 HK.out.count)
          | (at_make; refine wpList_make_full _ rfl _ _ 25 rfl w.heap.size 3 i0 (.int .i64 0) 1 Tryd.underlying25 hi hz0 hz1 _ _ _ _ r.length rfl rfl rfl rfl ?c1 ?c2 ?c3 ?_))
        case c1 => rw [hz2]; omega
        case c2 => unfold maxLen; omega
        case c3 => have := hB3.size; have := hB4.size; omega
        intro w5 hown hgrow
        obtain ⟨gb, hgb⟩ : ∃ gb, gb = w4.heap.size := ⟨_, rfl⟩
        rw [← hgb] at hown ⊢
        have HO1 := Lib.hid (show w5.ownsRow w.heap.size 3 1 (.slice (some ⟨gb, 0, none⟩) r.length r.length) r.length (intsOf (List.replicate r.length 0)) by
          rw [toList_madeCells_one] at hown; rw [intsOf_zeros]; simpa using hown)
        have hB45 : Below w4.heap.size w4 w5 := (Below.refl _ _).grown hgrow (Nat.le_refl _) (fun k hk => by cases hk)
        have hg5 := sys_below hg4 hB45
        have hB5 : Below w.heap.size w w5 := (hB3.trans (hB4.mono hB3.size)).trans (hB45.mono (by have := hB3.size; have := hB4.size; omega))
        have hgb1 : g < gb := by rw [hgb]; exact sys_lt hg4
        have hgb2 : w.heap.size ≤ gb := by have := hB3.size; have := hB4.size; omega
        have hgw : w.heap.size ≤ g := by have := hgs.out.1; have := hB1.size; omega
        clear hown hgrow hB45 hB4 hB3 hB2 hB1 hg3 hg4 hg hk3 hs3 hgs hgb c0
        go_wp2
        go_loopw [31] (fun i wr => ∃ (k : Nat) (o : List Int), o.length = k ∧ k ≤ r.length ∧ i = .int .i64 k ∧ o = md n (r.take k) ∧ wr.ownsRow w.heap.size 3 1 (.slice (some ⟨gb, 0, none⟩) r.length r.length) r.length (intsOf (o ++ List.replicate (r.length - o.length) 0)) ∧ Hid (wr.heap[g]? = some (.cells cs 66 (0, 0))) ∧ Below w.heap.size w wr) (fun i _ => r.length - (intOf i).toNat)
        case atStart => exact ⟨0, [], rfl, Nat.zero_le _, rfl, by simp [md], by simpa using HO1.out, hg5, hB5⟩
        case round =>
          obtain ⟨k', o, hok, hk', rfl, ho, hown, hg6, hB⟩ := hrel
          subst hok
          have hsz := hB.size
          clear hB5 HO1 hg5
          by_cases hlt : o.length < r.length
          · have hc2 := sys_cell hg6 (HK.out.rad o.length hlt)
            have hc3 := sys_cell hg6 (HK.out.pla o.length (by omega))
            have hx := HALL.out _ (List.getElem_mem hlt)
            have hPl := rp_le10 HALL.out o2 o.length
            have HMD := Lib.hid (md_take HALL.out hlt n)
            obtain ⟨P, hP⟩ : ∃ P, P = rp (r.take o.length) := ⟨_, rfl⟩
            obtain ⟨x, hxe⟩ : ∃ x, x = r[o.length] := ⟨_, rfl⟩
            rw [← hP] at hc3 hPl HMD
            rw [← hxe] at hc2 hx HMD
            have hP1 := hPl.1; have hP2 := hPl.2
            have hx2 := hx.1; have hx60 := hx.2
            obtain ⟨hm1, hm2, hm3⟩ := dig_eq (x := x) (show 0 ≤ n by omega) hP1
            have hm4 : 0 ≤ n / P % x := Int.emod_nonneg _ (by omega)
            have hm5 : n / P % x < x := Int.emod_lt_of_pos _ (by omega)
            have hm6 : n.tdiv P = n / P := Int.tdiv_eq_ediv_of_nonneg (by omega)
            have hm7 : (n / P).tmod x = n / P % x := Int.tmod_eq_emod_of_nonneg hm2
            obtain ⟨q, hq⟩ : ∃ q, q = n / P := ⟨_, rfl⟩
            rw [← hq] at hm2 hm3 hm4 hm5 hm6 hm7 HMD
            obtain ⟨y, hy⟩ : ∃ y, y = q % x := ⟨_, rfl⟩
            rw [← hy] at hm4 hm5 hm7 HMD
            have HST := Lib.hid (show o ++ [y] = md n (r.take (o.length + 1)) by rw [HMD.out, ← ho])
            have hxn : (x == 0) = false := by simp; omega
            have hPn : (P == 0) = false := by simp; omega
            have hlt' : (o.length : Int) < r.length := by omega
            have hk10 : o.length < 10 := by omega
            have q5 : ¬ P = 0 := by omega
            have q6 : ¬ x = 0 := by omega
            have q1 : (o.length : Int) < 11 := by omega
            have q2 : (o.length : Int) < 10 := by omega
            have q3 : IntKind.i64.wrap q = q := by rw [IntKind.wrap_i64]; omega
            have q4 : IntKind.i64.wrap y = y := by rw [IntKind.wrap_i64]; omega
            have hcp : wr.cell? ⟨gb, o.length, none⟩ = some (.int .i64 0) := by
              rw [hown.cellAt o.length (by omega)]
              have := fill_getM o hlt
              simp only [intsOf, List.getElem?_map, this]; rfl
            have hfp : wr.frozen? ⟨gb, o.length, none⟩ = false := hown.frozenAt o.length
            have hownd : (wr.drewN 1).ownsRow w.heap.size 3 1 (.slice (some ⟨gb, 0, none⟩) r.length r.length) r.length (intsOf (o ++ List.replicate (r.length - o.length) 0)) := hown
            have hsd := (hownd.stored o.length (.int .i64 y)).1
            rw [intsOf_set, fill_stepM o _ hlt] at hsd
            have HSD := Lib.hid hsd
            clear hm1 hP hxe hPl hx hq hy ho hsd hown hownd
            go_wp2_with fail
            refine wp_region_still_tail 14 (by kernel_rfl) (by kernel_rfl) ?_
            simp only [List.take_succ_cons, List.take_zero, List.drop_succ_cons, List.drop_zero]
            repeat still_step
            refine wpStill_nil ?_
            change wpList _ _ _ _ _ (wr.drewN 1)
            go_wp2_with fail
            go_roundw
            case rel =>
              refine ⟨o.length + 1, o ++ [y], by simp, by omega, by go_num, HST.out, HSD.out, ?_, (below_drewN hB 1).setCell (p := ⟨gb, o.length, none⟩) hgb2 _⟩
              show _ = _
              rw [heap_setCell_other _ _ _ _ (show g ≠ gb by omega)]; exact hg6.out
            case measure => simp [intOf]; omega
          · have hkn : o.length = r.length := by omega
            rw [hkn, List.take_length] at ho
            have HO := Lib.hid (show wr.ownsRow w.heap.size 3 1 (.slice (some ⟨gb, 0, none⟩) r.length r.length) (rMixedDigits0 n r).length (intsOf (rMixedDigits0 n r)) by
              rw [E0.out, md_len, ← ho]; simpa [hkn] using hown)
            have hn9 : ¬ (o.length : Int) < r.length := by omega
            clear hown ho hkn
            go_wp2
            go_ret
            exact ⟨_, rfl, HO.out, hB⟩

/-- a product of a digit and what its place counts -/
theorem term_le {d P : Int} (h0 : 0 ≤ d) (h1 : d ≤ 59) (h2 : 1 ≤ P) (h3 : P ≤ 1000000000000) : 0 ≤ d * P ∧ d * P ≤ 59000000000000 := by
  have e1 : d * P ≤ 59 * 1000000000000 := Int.mul_le_mul h1 h3 (by omega) (by omega)
  exact ⟨Int.mul_nonneg h0 (by omega), by omega⟩

set_option maxHeartbeats 4000000 in
theorem implMixedValue_any (v : Value) (l : List Int) (vr : Value) (r : List Int) (w : World) (hra : RowAt w v (intsOf l)) (hl : l.length ≤ 1048576) (hia : ∀ n ∈ l, in64 n) (hrr : RowAt w vr (intsOf r)) (hlr : r.length ≤ 1048576) (hir : ∀ n ∈ r, in64 n) :
    Calls Tryd.prog 37 #[v, vr] w fun e w' => e = .returned (.int .i64 (rMixedValue0 l r)) ∧ Below w.heap.size w w' := by
  have H1 := Lib.hid (implMixedOk_any v l vr r w hra hl hia hrr hlr hir)
  have HP := Lib.hid (fun W hW => implPlacesOf_any vr r W (hrr.below (w' := W) hW) hlr hir)
  obtain ⟨a, cap, rfl, h1, h2, h3⟩ := hra.ints
  unfold maxLen at h2
  clear hra hrr hia hir
  cases h : okM l r
  · rw [show rMixedOk0 l r = false from h] at H1
    have E0 := Lib.hid (show rMixedValue0 l r = -1 by rw [rMixedValue0, h]; rfl)
    clear h h3
    go_enter Tryd.func37, Tryd.ntmps37
    go_wp2_with fail
    refine H1.out.mono ?_
    rintro e w' ⟨rfl, hB1⟩
    go_wp2_with fail
    go_ret
    exact ⟨by rw [E0.out]; rfl, hB1⟩
  · rw [show rMixedOk0 l r = true from h] at H1
    have E0 := Lib.hid (show rMixedValue0 l r = mv l r by rw [rMixedValue0, h]; rfl)
    obtain ⟨hR, hF⟩ := okM_yes h
    obtain ⟨o1, o2, o3, o4⟩ := okR_yes hR
    have hlr' := fitM_len hF
    have HF := Lib.hid (fitM_at hF)
    have HALL := Lib.hid o3
    have HB := Lib.hid (fun k => And.intro (rp_pos (allR_take o3 k)) (Int.le_trans (rp_take_le o3 k) o4))
    have HMV := Lib.hid (fun k => mv_range (allR_take o3 k) (fitM_take hF k))
    have EP := Lib.hid (show rPlacesOf0 r = plF 1 r by rw [rPlacesOf0, hR]; rfl)
    have HLR := Lib.hid hlr'
    clear h o3 o4 hR hF hlr'
    go_enter Tryd.func37, Tryd.ntmps37
    go_wp2_with fail
    refine H1.out.mono ?_
    rintro e w1 ⟨rfl, hB1⟩
    go_wp2_with fail
    refine (HP.out w1 hB1).mono ?_
    rintro e w2 ⟨vp, rfl, hO, hB2⟩
    have hrow := RowAt.of_ownAt hO
    rw [EP.out] at hrow
    obtain ⟨ap, capp, rfl, hp1, hp2, hp3⟩ := hrow.ints
    unfold maxLen at hp2
    have hB12 := hB1.trans (hB2.mono hB1.size)
    rw [plF_len] at hp1
    have hnp : (plF 1 r).length = r.length := plF_len r 1
    have hr0 : 0 < r.length := by omega
    obtain ⟨bp, offp, rfl, hbp, hcellp⟩ := hp3.resolve_left (fun e => by rw [e] at hnp; simp at hnp; omega)
    rw [hnp]
    have HPC := Lib.hid (show ∀ i, i < r.length → w2.cell? ⟨bp, offp + i, none⟩ = some (.int .i64 (rp (r.take i))) from fun i hi => by
      rw [hcellp i (by rw [hnp]; exact hi), plF_get, Int.one_mul])
    clear hO hrow hcellp hp3 hnp hB1 hB2
    go_wp2_with fail
    go_loop [5, 15] (fun s i => ∃ k : Nat, k ≤ r.length ∧ i = .int .i64 k ∧ s = .int .i64 (mv (l.take k) (r.take k))) (fun _ i => r.length - (intOf i).toNat)
    case atStart => exact ⟨0, Nat.zero_le _, rfl, by simp [mv_nil]⟩
    case round =>
      obtain ⟨k, hk, rfl, rfl⟩ := hrel
      obtain ⟨m0, m1⟩ := HMV.out k
      obtain ⟨g1, g2⟩ := HB.out k
      by_cases hlt : k < r.length
      · have hla : k < l.length := by have := HLR.out; omega
        obtain ⟨b', off, rfl, hbb, hcell⟩ := h3.resolve_left (fun e => by rw [e] at hla; simp at hla)
        have hc : w2.cell? ⟨b', off + k, none⟩ = some (.int .i64 l[k]) := by rw [hB12.cell (p := ⟨b', off + k, none⟩) hbb]; exact hcell k hla
        have hc2 := HPC.out k hlt
        obtain ⟨p0, p1⟩ := HF.out k hla hlt
        have hx := (HALL.out _ (List.getElem_mem hlt)).2
        have HT := Lib.hid (mv_take hla hlt)
        obtain ⟨M, hM⟩ : ∃ M, M = mv (l.take k) (r.take k) := ⟨_, rfl⟩
        obtain ⟨P, hP⟩ : ∃ P, P = rp (r.take k) := ⟨_, rfl⟩
        obtain ⟨d, hd⟩ : ∃ d, d = l[k] := ⟨_, rfl⟩
        rw [← hM, ← hP, ← hd] at HT
        rw [← hM] at m0 m1 ⊢
        rw [← hP] at g1 g2 m1 hc2
        rw [← hd] at hc p0 p1
        have d59 : d ≤ 59 := by omega
        obtain ⟨t0, t1⟩ := term_le p0 d59 g1 g2
        obtain ⟨t, ht⟩ : ∃ t, t = d * P := ⟨_, rfl⟩
        have hwt : IntKind.i64.wrap (d * P) = t := by rw [IntKind.wrap_i64, ← ht]; omega
        rw [← ht] at t0 t1 HT
        have hkl : (k : Int) < l.length := by omega
        clear h3 hcell hM hP hd p1 hx ht
        go_wp2_with fail
        go_round
        case rel => exact ⟨k + 1, hlt, by go_num, by rw [HT.out]⟩
        case measure => simp [intOf]; omega
      · have hkl : k = r.length := by omega
        subst hkl
        have HV := Lib.hid (show mv (l.take r.length) r = mv l r by rw [← HLR.out, List.take_length])
        clear h3
        go_wp2_with fail
        go_ret
        exact ⟨by rw [E0.out, ← HV.out]; rfl, hB12⟩

end Go.Proofs.YtleadjkndciniaaDoor
