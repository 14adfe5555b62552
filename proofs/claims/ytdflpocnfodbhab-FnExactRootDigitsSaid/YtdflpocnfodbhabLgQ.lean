/- Long numbers: the program's square root. -/
import Derived.Test.YtdflpocnfodbhabLgRoot
import Derived.Test.YtdflpocnfodbhabLgT
import Derived.Test.YtdflpocnfodbhabLgV
import Derived.Stop.RegionWithIn
set_option linter.unusedVariables false
set_option linter.unusedSimpArgs false
set_option maxRecDepth 100000
namespace Go.Proofs.Ytdflpocnfodbhab
open Go.ChangeShapes Go.WideShapes Go.ChangeAt Go.RowKit

attribute [local go_sem] Oper.semAt_some wide_fn wide_depth

theorem vl_set0 {b : Nat} {O : List Int} {k d : Nat} (h : AllD b O) (hk : k < O.length) (h0 : O[k] = 0) (hd : d < b) : vl b (O.set k (d : Int)) = vl b O + d * b ^ k := by
  have h1 := vl_cast h
  have h2 := vl_cast (allD_set (j := k) h (v := (d : Int)) (by omega) (by omega))
  have h3 := hv_set (b : Int) O k (d : Int) hk
  rw [h0, Int.sub_zero] at h3
  have h4 : ((d * b ^ k : Nat) : Int) = (b : Int) ^ k * d := by rw [Int.natCast_mul, Int.natCast_pow, Int.mul_comm]
  omega
theorem set_zero {O : List Int} {k : Nat} (hk : k < O.length) (h0 : O[k] = 0) : O.set k ((0 : Nat) : Int) = O := by
  rw [show ((0 : Nat) : Int) = O[k] by rw [h0]; rfl]; exact List.set_getElem_self _
/-- as many digits as half the number has -/
theorem root_digits {b m : Nat} {a O : List Int} (hb : 2 ≤ b) (ha : Nrm b a) (hm : m = (a.length + 1) / 2) (hO : AllD b O) (hl : O.length = m) (hval : vl b O = isq (vl b a)) : O = dg b (isq (vl b a)) := by
  rw [← hval]
  refine (dg_vl hb ⟨hO, ?_⟩).symm
  by_cases h0 : O = []
  · exact .inl h0
  · refine .inr (fun hlast => ?_)
    have hpos : 0 < O.length := List.length_pos_iff.2 h0
    have hne : a ≠ [] := fun e => by rw [e] at hm; simp at hm; omega
    have h1 := hv_ge hb ha.1 hne (ha.2.resolve_left hne)
    have h2 := vl_cast ha.1
    have h3 : ((b ^ (a.length - 1) : Nat) : Int) = (b : Int) ^ (a.length - 1) := Int.natCast_pow _ _
    have h4 : b ^ (a.length - 1) ≤ vl b a := by omega
    have h5 : b ^ (m - 1) * b ^ (m - 1) ≤ b ^ (a.length - 1) := by
      rw [← Nat.pow_add]; exact Nat.pow_le_pow_right (by omega) (by omega)
    -- the number without its last digit, which is 0
    have e : O = O.dropLast ++ [0] := by
      have := List.dropLast_concat_getLast h0
      rw [List.getLast?_eq_some_getLast h0] at hlast
      injection hlast with hlast
      rw [hlast] at this
      exact this.symm
    have h6 : vl b O < b ^ (m - 1) := by
      have hA : AllD b O.dropLast := fun d hd => hO d (List.dropLast_subset _ hd)
      have h7 := vl_lt_pow hb hA
      rw [List.length_dropLast, hl] at h7
      have h8 : hv b O = hv b O.dropLast := by
        rw [e, hv_snoc, Int.mul_zero, Int.add_zero, List.dropLast_concat]
      unfold vl at h7 ⊢
      rw [h8]; exact h7
    rw [hval] at h6
    have h9 := isq_lt (vl b a)
    have h10 : (isq (vl b a) + 1) * (isq (vl b a) + 1) ≤ b ^ (m - 1) * b ^ (m - 1) := Nat.mul_le_mul h6 h6
    omega

set_option maxRecDepth 100000 in
set_option maxHeartbeats 8000000 in
theorem implRoot_any (va : Value) (a : List Int) (b : Nat) (w : World) (hb : 2 ≤ b) (hb16 : b ≤ 16) (ha : Nrm b a) (hra : RowAt w va (intsOf a)) (hl : a.length ≤ 60) :
    Calls Try.prog 54 #[va, .int .i64 b] w fun e w' => ∃ v, e = .returned v ∧ w'.ownsRow w.heap.size 3 1 v (dg b (isq (vl b a))).length (intsOf (dg b (isq (vl b a)))) ∧ Below w.heap.size w w' := by
  have HRA := Lib.hid hra
  obtain ⟨aa, cap, rfl, h1, h2, h3⟩ := hra.ints
  unfold maxLen at h2
  obtain ⟨i0, hi, hz0, hz1, hz2⟩ := info_parts infoInt
  have HA := Lib.hid ha
  obtain ⟨m, hm⟩ : ∃ m, m = (a.length + 1) / 2 := ⟨_, rfl⟩
  have HEND := Lib.hid (fun O hO hl hv => root_digits (m := m) (O := O) hb ha hm hO hl hv)
  have HST := Lib.hid (root_start (n := 0) (m := m) hb ha.1 (by omega))
  obtain ⟨A, hA⟩ : ∃ A, A = vl b a := ⟨_, rfl⟩
  have HAA := Lib.hid hA
  rw [← hA] at HEND HST ⊢
  have hm2 : ((a.length : Int) + 1) / 2 = (m : Int) := by omega
  have hm3 : ((a.length : Int) + 1).tdiv 2 = (m : Int) := by rw [Int.tdiv_eq_ediv_of_nonneg (by omega)]; omega
  have hm9 : m ≤ 30 := by omega
  clear h3 hra ha hA hm
  refine (callsIn_wide (n := 0)).1 ?_
  refine callsIn_of_wp_marks Try.func54 rfl trivial ?_ rfl
  simp only [Try.ntmps54, List.size_toArray, List.length_cons, List.length_nil, Nat.reduceAdd, Nat.reduceSub, Array.replicate_succ, Array.replicate_zero, List.push_toArray, List.append_toArray, List.nil_append, List.cons_append]
  gi_wp2_with (gi_at_make; refine wpListIn_make_fullL _ rfl _ _ 39 rfl w.heap.size 3 i0 (.int .i64 0) 1 Try.underlying39 hi hz0 hz1 _ _ _ _ m rfl rfl rfl rfl ?c1 ?c2 ?c3 ?_)
  case c1 => rw [hz2]; omega
  case c2 => unfold maxLen; omega
  case c3 => simp; omega
  intro w1 hown hgrow
  have hm1 : w.heap.size + 3 ≤ w1.heap.size := by have := (hown.lt (w.heap.size + 1 + 1) rfl).2; omega
  have hown1 : w1.ownsRow w.heap.size 3 1 (.slice (some ⟨w.heap.size + 1 + 1, 0, none⟩) m m) m (intsOf (List.replicate m 0)) := by
    rw [intsOf_zeros]; rw [toList_madeCells_one] at hown; simpa using hown
  have b0' : Boxed w1 w.heap.size 39 (.slice aa a.length cap) := ((Boxed.new w _ _).alloc _).kept hgrow (by simp)
  have b1' : Boxed w1 (w.heap.size + 1) 3 (.int .i64 b) := (boxed_at (w.alloc (.cells #[.slice aa a.length cap] 39)) _ _ (by simp)).kept hgrow (by simp)
  have hBw1 : Below w.heap.size w w1 := (((Below.refl _ w).alloc (Nat.le_refl _) _).alloc (by simp) _).grown hgrow (by simp; omega) (fun k hk => by cases hk)
  clear hown hgrow
  gi_wp2_with (gi_at_call 77; refine (callsIn_wide.2 (backL_any _ _ _ _)).mono ?_; rintro e w' ⟨rfl, rfl⟩)
  obtain ⟨A4, hA4⟩ : ∃ A4, ((w1.alloc (.cells #[.slice (some ⟨w.heap.size + 1 + 1, 0, none⟩) m m] 39)).alloc (.cells #[.slice (some ⟨w.heap.size + 1 + 1, 0, none⟩) m m] 39)) = A4 := ⟨_, rfl⟩
  have hs4 : A4.heap.size = w1.heap.size + 2 := by rw [← hA4]; simp
  have b0 : Boxed A4 w.heap.size 39 (.slice aa a.length cap) := by rw [← hA4]; exact (b0'.alloc _).alloc _
  have b1 : Boxed A4 (w.heap.size + 1) 3 (.int .i64 b) := by rw [← hA4]; exact (b1'.alloc _).alloc _
  have b2 : Boxed A4 w1.heap.size 39 (.slice (some ⟨w.heap.size + 1 + 1, 0, none⟩) m m) := by rw [← hA4]; exact (Boxed.new w1 _ _).alloc _
  have b4 : Boxed A4 (w1.heap.size + 1) 39 (.slice (some ⟨w.heap.size + 1 + 1, 0, none⟩) m m) := by rw [← hA4]; exact boxed_at _ _ _ (by simp)
  have hB4 : Below w.heap.size w A4 := by
    rw [← hA4]
    exact (hBw1.alloc hBw1.size _).alloc (by simp; omega) _
  have hq4 : A4.ownsRow w.heap.size 3 1 (.slice (some ⟨w.heap.size + 1 + 1, 0, none⟩) m m) m (intsOf (List.replicate m 0)) := by
    rw [← hA4]
    exact (hown1.alloc _).alloc _
  rw [hA4]
  clear hA4 b0' b1' hown1 hBw1
  refine rangeB (sa := some ⟨w.heap.size + 1 + 1, 0, none⟩) (cap := m) (fun k d => True) rfl (show m ≤ 1000000 by omega) rfl
    (fun k W => (∃ (O : List Int), (Boxed W w.heap.size 39 (.slice aa a.length cap) ∧ Boxed W (w.heap.size + 1) 3 (.int .i64 b) ∧ Boxed W w1.heap.size 39 (.slice (some ⟨w.heap.size + 1 + 1, 0, none⟩) m m) ∧ Boxed W (w1.heap.size + 1) 39 (.slice (some ⟨w.heap.size + 1 + 1, 0, none⟩) m m)) ∧
      (O.length = m ∧ AllD b O ∧ (∀ j (hj : j < O.length), j < k → O[j] = 0) ∧ vl b O * vl b O ≤ A ∧ A < (vl b O + b ^ k) * (vl b O + b ^ k)) ∧
      W.ownsRow w.heap.size 3 1 (.slice (some ⟨w.heap.size + 1 + 1, 0, none⟩) m m) m (intsOf O)) ∧ Below w.heap.size w W)
    (fun cd k W => False)
    ?hI ?hIx ?h0 ?hrd (fun k d => { tmps := #[.slice aa a.length cap, .int .i64 b, .pointer (some ⟨w.heap.size, 0, none⟩), .pointer (some ⟨w.heap.size + 1, 0, none⟩), .slice none 0 0, .pointer (some ⟨w1.heap.size, 0, none⟩), .int .i64 k, .slice aa a.length cap, .int .i64 a.length, .int .i64 (a.length + 1), .int .i64 m, .slice (some ⟨w.heap.size + 1 + 1, 0, none⟩) m m, .slice (some ⟨w.heap.size + 1 + 1, 0, none⟩) m m, .func (.func 87) #[] #[.pointer (some ⟨w1.heap.size + 1, 0, none⟩)], .int .i64 k, .int .i64 d, undef, undef, undef, undef, undef, undef, undef, undef, undef, undef, undef, undef, undef, undef, undef, undef, undef, undef, undef], defers := [] }) ?assign ?body ?done ?stop
  case hI =>
    refine OwnFrom.and (Own.from ?_ _) (ownFrom_below (Nat.le_refl _) (by omega))
    rintro s A C row ⟨O, ⟨x0, x1, x2, x4⟩, hp, hq⟩ hg hr
    exact ⟨O, ⟨boxed_own _ _ (fun _ : Unit => _) () A C row x0 hg hr, boxed_own _ _ (fun _ : Unit => _) () A C row x1 hg hr, boxed_own _ _ (fun _ : Unit => _) () A C row x2 hg hr, boxed_own _ _ (fun _ : Unit => _) () A C row x4 hg hr⟩, hp, owned_own _ _ (fun _ : Unit => _) (fun _ => _) (fun _ => _) () A C row hq hg hr⟩
  case hIx => exact fun cd s A C row hs hg hr => hs
  case h0 =>
    have hz : vl b (List.replicate m 0) = 0 := by
      rw [vl, hv_zeros b (fun d hd => (List.mem_replicate.1 hd).2)]; rfl
    refine ⟨⟨List.replicate m 0, ⟨b0, b1, b2, b4⟩, ⟨by simp, fun d hd => ?_, fun j hj _ => by simp, by rw [hz]; exact Nat.zero_le _, by rw [hz]; exact HST.out⟩, hq4⟩, hB4⟩
    have := (List.mem_replicate.1 hd).2; subst this; omega
  case hrd =>
    rintro k X ⟨⟨O, ⟨_, _, _, x4⟩, ⟨hOl, _⟩, hq⟩, hB⟩ hk
    refine ⟨x4.cell, fun j hj => ?_⟩
    have hjO : j < O.length := by omega
    refine ⟨O[j], w.heap.size + 1 + 1, 0, rfl, trivial, ?_⟩
    rw [Nat.zero_add, hq.cellAt j (by omega)]
    exact intsOf_get hjO
  case assign =>
    intro l k d W K hK
    gi_wp2
    exact hK
  case body =>
    rintro l k d W hk _ ⟨⟨O, ⟨x0, x1, x2, x4⟩, ⟨hOl, hOA, hOz, hle, hlt⟩, hq⟩, hB⟩ hsz hbk
    have hkO : k < O.length := by omega
    have hk0 := hOz k hkO (by omega)
    obtain ⟨R, hR⟩ : ∃ R, R = vl b O := ⟨_, rfl⟩
    have HVS := Lib.hid (fun d (hd : d < b) => show vl b (O.set k (d : Int)) = R + d * b ^ k by rw [hR]; exact vl_set0 hOA hkO hk0 hd)
    have HAD := Lib.hid (fun (d : Nat) (hd : d < b) => show AllD b (O.set k (d : Int)) from allD_set (j := k) hOA (by omega) (by omega))
    have HOZ := Lib.hid (fun (d : Nat) => show ∀ j (hj : j < (O.set k (d : Int)).length), j < k → (O.set k (d : Int))[j] = 0 from fun j hj h => by
      rw [List.getElem_set, if_neg (by omega)]
      exact hOz j (by simpa using hj) (by omega))
    have HOL := Lib.hid (fun (d : Nat) => show (O.set k (d : Int)).length = m by rw [List.length_set]; exact hOl)
    rw [← hR] at hle hlt
    have HLE := Lib.hid hle
    have HLT := Lib.hid (show A < (R + (b - 1 + 1) * b ^ k) * (R + (b - 1 + 1) * b ^ k) by
      rw [show b - 1 + 1 = b by omega, Nat.mul_comm b, ← Nat.pow_succ]; exact hlt)
    have hkm : (k : Int) < m := by omega
    have cq := (hq.cellAt k (by omega)).trans (intsOf_get hkO)
    rw [hk0] at cq
    have fq : W.frozen? ⟨w.heap.size + 1 + 1, k, none⟩ = false := hq.frozenAt k
    have hqs := (hq.stored k (.int .i64 ((b : Int) - 1))).1
    rw [intsOf_set] at hqs
    have HBE := Lib.hid (show ((b - 1 : Nat) : Int) = (b : Int) - 1 by omega)
    have HQ := Lib.hid hqs
    have c0 := x0.cell; have c1 := x1.cell; have c2 := x2.cell
    have X0 := Lib.hid x0; have X1 := Lib.hid x1; have X2 := Lib.hid x2; have X4 := Lib.hid x4
    have HB := Lib.hid hB
    clear x0 x1 x2 x4 hk0 hOl hOA hOz hle hlt hq hqs hkO b0 b1 b2 b4 hB4 hq4 hB
    gi_wp2_with fail
    gi_loopg [] (b - 1) (fun g wi => (Boxed wi w.heap.size 39 (.slice aa a.length cap) ∧ Boxed wi (w.heap.size + 1) 3 (.int .i64 b) ∧ Boxed wi w1.heap.size 39 (.slice (some ⟨w.heap.size + 1 + 1, 0, none⟩) m m) ∧ Boxed wi (w1.heap.size + 1) 39 (.slice (some ⟨w.heap.size + 1 + 1, 0, none⟩) m m)) ∧
      g < b ∧ A < (R + (g + 1) * b ^ k) * (R + (g + 1) * b ^ k) ∧ wi.ownsRow w.heap.size 3 1 (.slice (some ⟨w.heap.size + 1 + 1, 0, none⟩) m m) m (intsOf (O.set k (g : Int))) ∧ Below w.heap.size w wi ∧ Area A4.heap.size 2 W wi ∧ W.heap.size ≤ wi.heap.size)
    case atStart =>
      exact ⟨⟨boxed_setOff X0.out _ _ (show w.heap.size + 1 + 1 ≠ w.heap.size by omega), boxed_setOff X1.out _ _ (show w.heap.size + 1 + 1 ≠ w.heap.size + 1 by omega), boxed_setOff X2.out _ _ (show w.heap.size + 1 + 1 ≠ w1.heap.size by omega), boxed_setOff X4.out _ _ (show w.heap.size + 1 + 1 ≠ w1.heap.size + 1 by omega)⟩, by omega, HLT.out, by rw [HBE.out]; exact HQ.out,
        HB.out.setCell (p := ⟨w.heap.size + 1 + 1, k, none⟩) (show w.heap.size ≤ w.heap.size + 1 + 1 by omega) _, Area.setCell _ _ (.inl (by simp; omega)), by simp⟩
    case round =>
      obtain ⟨⟨x0, x1, x2, x4⟩, hgb, hlt, hq, hBi, hAi, hsi⟩ := hrel
      obtain ⟨P, hP⟩ : ∃ P, P = O.set k (gk : Int) := ⟨_, rfl⟩
      obtain ⟨V, hV⟩ : ∃ V, V = R + gk * b ^ k := ⟨_, rfl⟩
      have hPv : vl b P = V := by rw [hP, hV]; exact HVS.out gk hgb
      have hPA : AllD b P := by rw [hP]; exact HAD.out gk hgb
      have hPl : P.length = m := by rw [hP]; exact HOL.out gk
      rw [← hP] at hq
      have hTI := implTimes_any (.slice (some ⟨w.heap.size + 1 + 1, 0, none⟩) m m) (.slice (some ⟨w.heap.size + 1 + 1, 0, none⟩) m m) P P b wr.drew hb hb16 hPA hPA (RowAt.of_owns (owns_drewN hq 1)) (RowAt.of_owns (owns_drewN hq 1)) (by omega) (by omega)
      have hml := mul_len hb hPA hPA
      rw [hPv] at hTI hml
      have HTI := Lib.hid hTI
      have HCM := Lib.hid (fun v W (hr : RowAt W v (intsOf (dg b (V * V)))) (hB : Below w.heap.size w W) => implCompare_any v (.slice aa a.length cap) (dg b (V * V)) a b W hb (nrm_dg hb _) HA.out hr (HRA.out.below hB) (by omega) (by omega))
      simp only [vl_dg hb, ← HAA.out] at HCM
      have c0 := x0.cell; have c1 := x1.cell; have c2 := x2.cell
      have X0 := Lib.hid x0; have X1 := Lib.hid x1; have X2 := Lib.hid x2; have X4 := Lib.hid x4
      have HP := Lib.hid hP; have HV := Lib.hid hV; have HQ := Lib.hid hq; have HBi := Lib.hid hBi; have HAi := Lib.hid hAi
      have HLT := Lib.hid hlt
      have hsb := hBi.size
      have hn0 := x0.lt
      clear x0 x1 x2 x4 hP hV hPv hPA hPl hq hBi hAi hlt hTI hml
      obtain ⟨z, hz⟩ : ∃ z, z = cmpN (V * V) A := ⟨_, rfl⟩
      rw [← hz] at HCM
      have HZ := Lib.hid hz
      clear hz
      gi_wp2_with fail
      gi_region_with (first
        | (gi_at_call 52; refine (CallsIn.inRound l (callsIn_wide.2 HTI.out)).mono ?_; rintro e w2 ⟨v2, rfl, ho2, hb2⟩; have c0' := (boxed_below (X := wr.drew) X0.out hb2 hn0).cell)
        | (gi_at_call 46; refine (CallsIn.inRound l (callsIn_wide.2 (HCM.out v2 w2 (RowAt.of_owns ho2) ((show Below w.heap.size w wr.drew from below_drewN HBi.out 1).trans (hb2.mono hsb))))).mono ?_; rintro e w3 ⟨rfl, hb3⟩))
      all_goals
        have hbb : Below wr.drew.heap.size wr.drew w3 := hb2.trans (hb3.mono hb2.size)
        have HBB := Lib.hid (show Below w.heap.size w w3 from (show Below w.heap.size w wr.drew from below_drewN HBi.out 1).trans (hbb.mono hsb))
        have hs3 := hbb.size
        have X0' := Lib.hid (boxed_below (X := wr.drew) X0.out hbb (Boxed.lt X0.out))
        have X1' := Lib.hid (boxed_below (X := wr.drew) X1.out hbb (Boxed.lt X1.out))
        have X2' := Lib.hid (boxed_below (X := wr.drew) X2.out hbb (Boxed.lt X2.out))
        have X4' := Lib.hid (boxed_below (X := wr.drew) X4.out hbb (Boxed.lt X4.out))
        have hq3 : w3.ownsRow w.heap.size 3 1 (.slice (some ⟨w.heap.size + 1 + 1, 0, none⟩) m m) m (intsOf P) := owns_below (show wr.drew.ownsRow w.heap.size 3 1 (.slice (some ⟨w.heap.size + 1 + 1, 0, none⟩) m m) m (intsOf P) from HQ.out) hbb
        have HA3 := Lib.hid (HAi.out.trans (show Area A4.heap.size 2 wr w3 from Area.below (X := wr.drew) hbb (show A4.heap.size + 2 ≤ wr.heap.size by omega)))
        have hsz3 : W.heap.size ≤ w3.heap.size := Nat.le_trans hsi hs3
        have HQ3 := Lib.hid hq3
        clear hb2 hb3 ho2 hbb
        by_cases hcm : 0 < z
        · have hgt : A < V * V := cmp_pos.1 (by rw [← HZ.out]; exact hcm)
          have hVR : V = R + gk * b ^ k := HV.out
          obtain ⟨e, rfl⟩ : ∃ e, gk = e + 1 := ⟨gk - 1, by
            have h0 : gk ≠ 0 := fun h0 => by
              subst h0
              rw [Nat.zero_mul, Nat.add_zero] at hVR
              rw [hVR] at hgt
              have := HLE.out
              omega
            omega⟩
          have hkO : k < O.length := by have := HOL.out 0; rw [List.length_set] at this; omega
          have hPk : (intsOf P)[k]? = some (.int .i64 ((e : Int) + 1)) := by
            rw [HP.out, intsOf_get (by simp; exact hkO)]; simp
          have cq3 := (hq3.cellAt k (by omega)).trans hPk
          have fq3 : w3.frozen? ⟨w.heap.size + 1 + 1, k, none⟩ = false := hq3.frozenAt k
          have c2' := X2'.out.cell
          have hqs := (hq3.stored k (.int .i64 ((e : Int) + 1 - 1))).1
          rw [intsOf_set, HP.out, List.set_set] at hqs
          have HQS := Lib.hid hqs
          have HGT := Lib.hid (show A < (R + (e + 1) * b ^ k) * (R + (e + 1) * b ^ k) by rw [← hVR]; exact hgt)
          have hE1 := Lib.hid (show (e : Int) + 1 - 1 = (e : Int) by omega)
          clear hqs hq3 hgt hVR hPk hkO
          gi_wp2_with fail
          gi_roundg e
          case measure => omega
          case rel =>
            refine ⟨⟨boxed_setOff X0'.out _ _ (show w.heap.size + 1 + 1 ≠ w.heap.size by omega), boxed_setOff X1'.out _ _ (show w.heap.size + 1 + 1 ≠ w.heap.size + 1 by omega), boxed_setOff X2'.out _ _ (show w.heap.size + 1 + 1 ≠ w1.heap.size by omega), boxed_setOff X4'.out _ _ (show w.heap.size + 1 + 1 ≠ w1.heap.size + 1 by omega)⟩, by omega, HGT.out, ?_,
              HBB.out.setCell (p := ⟨w.heap.size + 1 + 1, k, none⟩) (show w.heap.size ≤ w.heap.size + 1 + 1 by omega) _, HA3.out.trans (Area.setCell _ _ (.inl (by simp; omega))), by simp; omega⟩
            rw [← hE1.out]
            exact HQS.out
        · have hgt : ¬ A < V * V := fun h => hcm (by rw [HZ.out]; exact cmp_pos.2 h)
          have HVP := Lib.hid (show vl b (O.set k (gk : Int)) = V by rw [HV.out]; exact HVS.out gk hgb)
          have HLT2 := Lib.hid (show A < (V + b ^ k) * (V + b ^ k) by
            have h5 := HLT.out
            have h6 : R + (gk + 1) * b ^ k = V + b ^ k := by rw [Nat.add_mul, Nat.one_mul, ← Nat.add_assoc, ← HV.out]
            rw [h6] at h5
            exact h5)
          clear hq3 hs4
          gi_wp2_with fail
          refine ⟨HA3.out, ⟨⟨X0'.out, X1'.out, X2'.out, X4'.out⟩, O.set k (gk : Int), ⟨HOL.out gk, HAD.out gk hgb, HOZ.out gk, by rw [HVP.out]; omega, by rw [HVP.out]; exact HLT2.out⟩, by rw [← HP.out]; exact HQ3.out⟩, HBB.out⟩
  case done =>
    rintro D W hD ⟨⟨O, ⟨x0, x1, x2, x4⟩, ⟨hOl, hOA, hOz, hle, hlt⟩, hq⟩, hB⟩ hK
    have hR : vl b O = isq A := isq_eq hle (by simpa using hlt)
    have hO := HEND.out O hOA hOl hR
    have hD' : w1.heap.size + 2 ≤ D := by omega
    have hsz := hB.size
    have hKl := heap_lt_of_some hK
    have c2 := x2.cell
    have HQ := Lib.hid (show W.ownsRow w.heap.size 3 1 (.slice (some ⟨w.heap.size + 1 + 1, 0, none⟩) m m) (dg b (isq A)).length (intsOf (dg b (isq A))) by rw [← hO, hOl]; exact hq)
    clear x0 x1 x2 x4 hOl hOA hOz hle hlt hq hR hO b0 b1 b2 b4 hB4 hq4 HRA
    gi_wp2
    refine ⟨by simp, .inl ⟨_, _, rfl, run_takeDeferred hK, ?_⟩⟩
    refine ⟨.slice (some ⟨w.heap.size + 1 + 1, 0, none⟩) m m, ?_, ⟨_, rfl, owns_shut HQ.out hK, hB.trans (below_putObj _ (by omega) hsz)⟩⟩
    simp [results, Try.f54, go_sem]
  case stop =>
    rintro D c k W hD hk hj hK
    exact hj.elim

end Go.Proofs.Ytdflpocnfodbhab
