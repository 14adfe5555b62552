/- The law on permutations: ranks, Lehmer's digits, the next one, the complement and the inversions fit together. -/
import Derived.Test.YtdpeleepfjhefaaLawFns
import Derived.Test.YtdpeleepfjhefaaMpInvI
import Derived.Test.YtdpeleepfjhefaaMpNextI
import Derived.Test.YtdpeleepfjhefaaMpBefore
set_option linter.unusedVariables false
set_option linter.unusedSimpArgs false
set_option maxRecDepth 100000
namespace Go.Proofs.Ytdpeleepfjhefaa
open Go.ChangeShapes Go.WideShapes Go.ChangeAt Go.RowKit

set_option maxRecDepth 100000 in
set_option maxHeartbeats 16000000 in
theorem lawPermutations (W : World) (a : Option Addr) (len cap : Nat) (zs : List Int) (hz : IsRow .u8 W a len cap zs) :
    Calls Try.prog 3 #[.slice a len cap] W fun e w' => e = .returned (.bool true) ∧ Below W.heap.size W w' := by
  have hv := bytesAt_of hz
  have HV := Lib.hid hv
  obtain ⟨i0, hi, hz0, hz1, hz2⟩ := info_parts infoInt
  have hlen : len ≤ 9223372036854775807 := by
    obtain ⟨_, n, c, zs', e, h1, h2, _⟩ := hv
    injection e with _ e1 _
    unfold maxLen at h2; omega
  clear hz hv
  by_cases hbig : 1048576 < len
  · go_enter Try.func3, Try.ntmps3
    go_wp2
    go_ret
    exact ⟨rfl, Below.refl _ _⟩
  · go_enter Try.func3, Try.ntmps3
    go_wp2_with fail
    refine (makePermutation_any _ 0 _ HV.out (by omega)).mono ?_
    rintro e w1 ⟨k, m, vl, hS, rfl, hrow, HB⟩
    obtain ⟨m1, m6, k0, kF⟩ := id hS
    obtain ⟨o1, o2, o3, o4⟩ := pm_ok hS
    obtain ⟨n1, n2⟩ := pm_next hS
    obtain ⟨g1, g2, g3⟩ := fac_at m1 m6
    have hfb := fct_le (show m ≤ 12 by omega)
    have hfb1 := fct_le (show m - 1 ≤ 12 by omega)
    have hdl : (rFactorialDigits0 k m).length = m := by rw [← o3, leh_len, o2]
    have hdb : ∀ d ∈ rFactorialDigits0 k m, 0 ≤ d ∧ d ≤ 7 := by rw [← o3]; exact leh_bits o1
    have hLb : ∀ x ∈ rPermutationAt0 k m, 0 ≤ x ∧ x ≤ (m : Int) - 1 := fun x hx => iot_mem (o4.mem_iff.1 hx)
    have hsm : 0 ≤ (rFactorialDigits0 k m).sum ∧ (rFactorialDigits0 k m).sum ≤ 7 * m := by
      have := sum_take_le hdb m (by omega)
      rw [List.take_of_length_le (by omega)] at this; exact this
    have CR := Lib.hid (fun W v (h : RowAt W v (intsOf (rPermutationAt0 k m))) => implRankOf_any v _ W h (by omega) (fun x hx => by have := hLb x hx; exact ⟨by omega, by omega⟩))
    rw [pm_rank hS] at CR
    have CL := Lib.hid (fun W v (h : RowAt W v (intsOf (rPermutationAt0 k m))) => implLehmerOf_any v _ W h (by omega) (fun x hx => by have := hLb x hx; exact ⟨by omega, by omega⟩))
    rw [pm_leh hS, hdl] at CL
    have CO := Lib.hid (fun W v (h : RowAt W v (intsOf (rPermutationAt0 k m))) => implPermutationOk_any v _ W h (by omega) (fun x hx => by have := hLb x hx; exact ⟨by omega, by omega⟩))
    rw [show rPermutationOk0 (rPermutationAt0 k m) = true from o1] at CO
    have CI := Lib.hid (fun W v (h : RowAt W v (intsOf (rPermutationAt0 k m))) => implCountInversions_any v _ W h (by omega) (fun x hx => by have := hLb x hx; exact ⟨by omega, by omega⟩))
    have CB := Lib.hid (fun W v (h : RowAt W v (intsOf (rPermutationAt0 k m).reverse)) => implCountInversions_any v _ W h (by rw [List.length_reverse]; omega) (fun x hx => by have := hLb x (List.mem_reverse.1 hx); exact ⟨by omega, by omega⟩))
    have hback := pm_back hS
    rw [pm_inv hS] at CI hback
    have CN := Lib.hid (fun W v (h : RowAt W v (intsOf (rPermutationAt0 k m))) => implNextPermutation_any v _ W h (by omega) (fun x hx => by have := hLb x hx; exact ⟨by omega, by omega⟩))
    rw [n1, n2] at CN
    have CF := Lib.hid (fun W => implFactorial_any m W ⟨by omega, by omega⟩)
    have CF1 := Lib.hid (fun W => implFactorial_any ((m : Int) - 1) W ⟨by omega, by omega⟩)
    rw [g1] at CF
    rw [g2] at CF1
    have CP := Lib.hid (fun W => implPermutationAt_any k m W ⟨by omega, by omega⟩ ⟨by omega, by omega⟩)
    rw [o2] at CP
    have CP2 := Lib.hid (fun W => implPermutationAt_any (fct m - 1 - k) m W ⟨by omega, by omega⟩ ⟨by omega, by omega⟩)
    rw [pm_other hS, List.length_map, o2] at CP2
    have CD := Lib.hid (fun W => implFactorialDigits_any k m W ⟨by omega, by omega⟩ ⟨by omega, by omega⟩)
    rw [hdl] at CD
    have CV := Lib.hid (fun W v (h : RowAt W v (intsOf (rFactorialDigits0 k m))) => implFactorialValue_any v _ W h (by omega) (fun x hx => by have := hdb x hx; exact ⟨by omega, by omega⟩))
    rw [pm_val hS] at CV
    have CS := Lib.hid (fun W v (h : RowAt W v (intsOf (rFactorialDigits0 k m))) => lsum_any v _ W h (by omega) (fun x hx => by have := hdb x hx; exact ⟨by omega, by omega⟩))
    have CX := Lib.hid (fun (h : k + 1 < fct m) => And.intro (pm_ok (pm_lex hS h).1).2.1 (And.intro (pm_lex hS h).2 (pm_rank (pm_lex hS h).1)))
    have CY := Lib.hid (fun (h : k + 1 < fct m) x (hx : x ∈ rPermutationAt0 (k + 1) m) => iot_mem ((pm_ok (pm_lex hS h).1).2.2.2.mem_iff.1 hx))
    have CZ := Lib.hid (fun (h : ¬ k + 1 < fct m) => show (rPermutationAt0 (k + 1) m).length = 0 by
      rw [pm_len, if_neg]
      intro hh
      rw [Bool.and_eq_true] at hh
      have := inB_yes hh.2
      omega)
    obtain ⟨F, hF⟩ : ∃ F, F = fct m := ⟨_, rfl⟩
    obtain ⟨F1, hF1⟩ : ∃ F, F = fct (m - 1) := ⟨_, rfl⟩
    obtain ⟨L, hL⟩ : ∃ L, L = rPermutationAt0 k m := ⟨_, rfl⟩
    obtain ⟨D, hD⟩ : ∃ D, D = rFactorialDigits0 k m := ⟨_, rfl⟩
    obtain ⟨N, hN⟩ : ∃ N, N = rPermutationAt0 (k + 1) m := ⟨_, rfl⟩
    obtain ⟨S, hSm⟩ : ∃ S, S = D.sum := ⟨_, rfl⟩
    obtain ⟨T, hT⟩ : ∃ T, T = rCountInversions0 L.reverse := ⟨_, rfl⟩
    rw [← hF] at kF g3 hfb CF CX CY CZ CP2 CN
    rw [← hF1] at g3 hfb1 CF1
    rw [← hL] at o2 hLb CR CL CO CI CB CN CP CP2 CX hrow hback
    rw [← hD] at hdl hdb hsm CL CD CV CS CI hback
    rw [← hN] at CN CX CY CZ
    rw [← hSm] at hsm CS CI hback
    rw [← hT] at CB hback
    obtain ⟨al, cl, rfl, l1, l2, l3⟩ := hrow.ints
    unfold maxLen at l2
    clear l3
    rw [o2] at l1 hrow
    have O2 := Lib.hid o2
    have HDL := Lib.hid hdl
    have HLB := Lib.hid hLb
    have HBK := Lib.hid hback
    have HG3 := Lib.hid g3
    have HL := Lib.hid hrow
    obtain ⟨q1, q2⟩ := hsm
    obtain ⟨q3, q4⟩ := hfb
    obtain ⟨q5, q6⟩ := hfb1
    have hn0 : ¬ k < 0 := by omega
    have hn1 : ¬ F ≤ k := by omega
    clear hS o1 o3 o4 n1 n2 g1 g2 hdb hT hSm hN hD hL hF hF1 o2 hdl hLb hback g3 hrow
    rw [O2.out]
    go_wp2_with fail
    refine (CR.out _ _ HL.out).mono ?_
    rintro e w2 ⟨rfl, hb⟩
    replace HL := Lib.hid (HL.out.below hb)
    replace HB := HB.trans (hb.mono HB.size)
    clear hb
    go_wp2_with fail
    refine (CL.out _ _ HL.out).mono ?_
    rintro e w3 ⟨vh, rfl, ho, hb⟩
    replace HL := Lib.hid (HL.out.below hb)
    replace HB := HB.trans (hb.mono HB.size)
    have HH := Lib.hid (RowAt.of_owns ho)
    obtain ⟨ah, ch, rfl, _, _⟩ := owns_form ho
    clear ho
    clear hb
    go_wp2_with fail
    refine (CO.out _ _ HL.out).mono ?_
    rintro e w4 ⟨rfl, hb⟩
    replace HL := Lib.hid (HL.out.below hb)
    replace HH := Lib.hid (HH.out.below hb)
    replace HB := HB.trans (hb.mono HB.size)
    clear hb
    go_wp2_with fail
    refine (CF.out _).mono ?_
    rintro e w5 ⟨rfl, hb⟩
    replace HL := Lib.hid (HL.out.below hb)
    replace HH := Lib.hid (HH.out.below hb)
    replace HB := HB.trans (hb.mono HB.size)
    clear hb
    go_wp2_with fail
    refine (CP.out _).mono ?_
    rintro e w6 ⟨vq, rfl, ho, hb⟩
    replace HL := Lib.hid (HL.out.below hb)
    replace HH := Lib.hid (HH.out.below hb)
    replace HB := HB.trans (hb.mono HB.size)
    have HQ := Lib.hid (RowAt.of_owns ho)
    obtain ⟨aq, cq, rfl, _, _⟩ := owns_form ho
    clear ho
    clear hb
    go_wp2_with fail
    refine (same_any _ _ L L _ HQ.out HL.out (by rw [O2.out]; omega) (by rw [O2.out]; omega) rfl).mono ?_
    rintro e w' ⟨rfl, rfl⟩
    go_wp2_with fail
    refine (CD.out _).mono ?_
    rintro e w7 ⟨vd, rfl, ho, hb⟩
    replace HL := Lib.hid (HL.out.below hb)
    replace HH := Lib.hid (HH.out.below hb)
    replace HB := HB.trans (hb.mono HB.size)
    have HD := Lib.hid (RowAt.of_owns ho)
    obtain ⟨ad, cd, rfl, _, _⟩ := owns_form ho
    clear ho
    clear hb
    go_wp2_with fail
    refine (same_any _ _ D D _ HH.out HD.out (by rw [HDL.out]; omega) (by rw [HDL.out]; omega) rfl).mono ?_
    rintro e w' ⟨rfl, rfl⟩
    go_wp2_with fail
    refine (CV.out _ _ HH.out).mono ?_
    rintro e w8 ⟨rfl, hb⟩
    replace HL := Lib.hid (HL.out.below hb)
    replace HH := Lib.hid (HH.out.below hb)
    replace HB := HB.trans (hb.mono HB.size)
    clear hb
    go_wp2_with fail
    refine (CS.out _ _ HH.out).mono ?_
    rintro e w' ⟨rfl, rfl⟩
    go_wp2_with fail
    refine (CI.out _ _ HL.out).mono ?_
    rintro e w9 ⟨rfl, hb⟩
    replace HL := Lib.hid (HL.out.below hb)
    replace HB := HB.trans (hb.mono HB.size)
    clear hb
    clear CR CL CO CP CD CV CS HH HQ HD HDL
    by_cases h : k + 1 < F
    · have EX := CX.out h
      have HNB := Lib.hid (CY.out h)
      have CRN := Lib.hid (fun W v (hh : RowAt W v (intsOf N)) => implRankOf_any v N W hh (by rw [EX.1]; omega) (fun x hx => by have := HNB.out x hx; exact ⟨by omega, by omega⟩))
      rw [EX.2.2] at CRN
      rw [decide_eq_true h, EX.1] at CN
      have HNL := Lib.hid EX.1
      have HLX := Lib.hid EX.2.1
      clear EX CX CY CZ HNB
      go_wp2_with fail
      refine (CN.out _ _ HL.out).mono ?_
      rintro e wA ⟨vn, rfl, ho, hb⟩
      replace HL := Lib.hid (HL.out.below hb)
      replace HB := HB.trans (hb.mono HB.size)
      have HN := Lib.hid (RowAt.of_owns ho)
      obtain ⟨an, cn, rfl, _, _⟩ := owns_form ho
      clear ho
      clear hb
      go_wp2_with fail
      refine (CF.out _).mono ?_
      rintro e wB ⟨rfl, hb⟩
      replace HL := Lib.hid (HL.out.below hb)
      replace HN := Lib.hid (HN.out.below hb)
      replace HB := HB.trans (hb.mono HB.size)
      clear hb
      go_wp2_with fail
      refine (CRN.out _ _ HN.out).mono ?_
      rintro e wS ⟨rfl, hb⟩
      replace HL := Lib.hid (HL.out.below hb)
      replace HN := Lib.hid (HN.out.below hb)
      replace HB := HB.trans (hb.mono HB.size)
      clear hb
      go_wp2_with fail
      refine (before_any _ _ L N _ HL.out HN.out (by rw [O2.out]; omega) (by rw [HNL.out]; omega) HLX.out).mono ?_
      rintro e w' ⟨rfl, rfl⟩
      clear CN CRN HNL HLX HN
      go_wp2_with fail
      have hlit := World.ownsRow_lit (base := wS.heap.size) (e := 3) (size := 1) wS #[] 0 (Nat.le_refl _) (by decide) rfl
      have HO2 := Lib.hid O2.out
      go_loopw [9, 10] (fun v i wr => ∃ g : Nat, g ≤ m ∧ i = .int .i64 ((g : Int) - 1) ∧ wr.ownsRow wS.heap.size 3 1 v (m - g) (intsOf (L.drop g).reverse) ∧ Below wS.heap.size wS wr) (fun _ i _ => (intOf i + 1).toNat)
      case atStart => exact ⟨m, Nat.le_refl _, rfl, by rw [Nat.sub_self, List.drop_of_length_le (by rw [O2.out]; omega)]; exact hlit, (Below.refl _ _).alloc (Nat.le_refl _) _⟩
      case round =>
        obtain ⟨g, hgm, rfl, hown, hBw⟩ := hrel
        have hsw := hBw.size
        cases g with
        | succ j =>
          have e1 : ((j + 1 : Nat) : Int) - 1 = (j : Int) := by omega
          rw [e1]
          have hjL : j < L.length := by rw [O2.out]; omega
          obtain ⟨al2, cl2, e2, _, _, hcc⟩ := (HL.out.below hBw).ints
          injection e2 with e2 e3 e4
          subst e2
          obtain ⟨bL, oL, rfl, hbL, hcL⟩ := hcc.resolve_left (fun e => by rw [e] at hjL; simp at hjL)
          have hcx := hcL j hjL
          obtain ⟨y, hy⟩ : ∃ y, y = L[j] := ⟨_, rfl⟩
          rw [← hy] at hcx
          have HRV := Lib.hid (show (L.drop j).reverse = (L.drop (j + 1)).reverse ++ [y] by rw [List.drop_eq_getElem_cons hjL, List.reverse_cons, hy])
          have hjm : (j : Int) < m := by omega
          have hmj : m - (j + 1) + 1 = m - j := by omega
          have HMJ := Lib.hid hmj
          obtain ⟨R, hR⟩ : ∃ R, R = (L.drop (j + 1)).reverse := ⟨_, rfl⟩
          rw [← hR] at hown HRV
          clear hcc hcL hy hR e3 e4 hlit hmj
          go_wp2_with (at_builtin; refine wpList_append_own_at _ rfl _ _ 23 rfl wS.heap.size 3 i0 (.int .i64 0) 1 8 Try.underlying23 hi hz0 hz1 hz2 rfl (by decide) _ _ _ rfl (hown.alloc _) ⟨wr.heap.size, 0, none⟩ 1 1 [.int .i64 y] rfl rfl (one_cell _ _ _) (by intro u hu; simp at hu; subst hu; rfl) (by unfold maxLen; omega) (by omega) (by simp; omega) ?_)
          intro vb' wx hown' hgrow _ _
          have hBx := (hBw.alloc hsw _).grown hgrow (by simp; omega) (fun j hj => (hown.lt j hj).1)
          have HO := Lib.hid (show wx.ownsRow wS.heap.size 3 1 vb' (m - j) (intsOf (L.drop j).reverse) by rw [HRV.out, ← HMJ.out]; simpa [intsOf] using hown')
          clear hown' hgrow hown
          go_wp2_with fail
          go_roundw
          case rel => exact ⟨j, by omega, by go_num, HO.out, hBx⟩
          case measure => simp [intOf]
        | zero =>
          have HW2 := Lib.hid (RowAt.of_owns hown)
          obtain ⟨ab, cb, e2, _, _⟩ := owns_form hown
          subst e2
          have HLx := Lib.hid (HL.out.below hBw)
          replace HB := Lib.hid (HB.trans (hBw.mono HB.size))
          have hn9 : ¬ (0 : Int) ≤ ((0 : Nat) : Int) - 1 := by omega
          have hfk : 0 ≤ F - 1 - k := by omega
          clear hown hlit hBw hsw
          go_wp2_with fail
          refine (CF.out _).mono ?_
          rintro e wa ⟨rfl, hb⟩
          replace HLx := Lib.hid (HLx.out.below hb)
          replace HW2 := Lib.hid (HW2.out.below hb)
          replace HB := Lib.hid (HB.out.trans (hb.mono HB.out.size))
          clear hb
          go_wp2_with fail
          refine (CP2.out _).mono ?_
          rintro e wc ⟨vo, rfl, ho, hb⟩
          replace HLx := Lib.hid (HLx.out.below hb)
          replace HW2 := Lib.hid (HW2.out.below hb)
          replace HB := Lib.hid (HB.out.trans (hb.mono HB.out.size))
          obtain ⟨ax, cx, rfl, x1, x2, x3⟩ := (RowAt.of_owns ho).ints
          unfold maxLen at x2
          rw [List.length_map, O2.out] at x1 ⊢
          obtain ⟨al2, cl2, e2, _, _, y3⟩ := HLx.out.ints
          injection e2 with e2 e3 e4
          subst e2
          have hm0 : 0 < L.length := by rw [O2.out]; omega
          obtain ⟨bX, oX, rfl, hbX, hcX⟩ := x3.resolve_left (fun e => by rw [List.map_eq_nil_iff] at e; rw [e] at hm0; simp at hm0)
          obtain ⟨bL, oL, rfl, hbL, hcL⟩ := y3.resolve_left (fun e => by rw [e] at hm0; simp at hm0)
          have HCX := Lib.hid hcX
          have HCL := Lib.hid hcL
          clear hb ho x3 y3 hcX hcL hm0 e3 e4
          go_wp2_with fail
          go_loop [122] (fun i => ∃ j : Nat, j ≤ m ∧ i = .int .i64 j) (fun i => m - (intOf i).toNat)
          case atStart => exact ⟨0, Nat.zero_le _, rfl⟩
          case round =>
            obtain ⟨j, hjm, rfl⟩ := hrel
            by_cases hlt : j < m
            · have hjL : j < L.length := by rw [O2.out]; exact hlt
              have h1 := HCL.out j hjL
              have h2 := HCX.out j (by rw [List.length_map]; exact hjL)
              rw [List.getElem_map] at h2
              have hyb := HLB.out _ (List.getElem_mem hjL)
              obtain ⟨y, hy⟩ : ∃ y, y = L[j] := ⟨_, rfl⟩
              rw [← hy] at h1 h2 hyb
              clear hy
              go_wp2_with fail
              go_round
              case rel => exact ⟨j + 1, hlt, by go_num⟩
              case measure => simp [intOf]; omega
            · have hX : ∃ X : Int, (m : Int) * ((m : Int) - 1) = X ∧ 0 ≤ X ∧ X ≤ 30 := by
                have : m = 1 ∨ m = 2 ∨ m = 3 ∨ m = 4 ∨ m = 5 ∨ m = 6 := by omega
                rcases this with rfl | rfl | rfl | rfl | rfl | rfl <;> exact ⟨_, rfl, by decide, by decide⟩
              obtain ⟨X, hX, X0, X1⟩ := hX
              have hbk := HBK.out
              rw [hX] at hbk
              have hXd : X.tdiv 2 = X / 2 := Int.tdiv_eq_ediv_of_nonneg X0
              have hg3 := HG3.out
              have HXX := Lib.hid hX
              have hTS : IntKind.i64.wrap (T + S) = X / 2 := by rw [hbk, IntKind.wrap_i64]; omega
              have hXw : IntKind.i64.wrap ((m : Int) * ((m : Int) - 1)) = X := by rw [hX, IntKind.wrap_i64]; omega
              have hFw : IntKind.i64.wrap ((m : Int) * F1) = F := by rw [← hg3, IntKind.wrap_i64]; omega
              clear hX hbk hg3
              go_wp2_with fail
              refine (CB.out _ _ HW2.out).mono ?_
              rintro e wd ⟨rfl, hb⟩
              replace HLx := Lib.hid (HLx.out.below hb)
              replace HB := Lib.hid (HB.out.trans (hb.mono HB.out.size))
              clear hb
              go_wp2_with fail
              refine (CI.out _ _ HLx.out).mono ?_
              rintro e we ⟨rfl, hb⟩
              replace HB := Lib.hid (HB.out.trans (hb.mono HB.out.size))
              clear hb
              go_wp2_with fail
              refine (CF.out _).mono ?_
              rintro e wf ⟨rfl, hb⟩
              replace HB := Lib.hid (HB.out.trans (hb.mono HB.out.size))
              clear hb
              go_wp2_with fail
              refine (CF1.out _).mono ?_
              rintro e wg ⟨rfl, hb⟩
              replace HB := Lib.hid (HB.out.trans (hb.mono HB.out.size))
              clear hb
              go_wp2_with fail
              go_ret
              exact ⟨rfl, HB.out⟩
    · have EZ := CZ.out (by omega)
      rw [decide_eq_false h, EZ] at CN
      clear EZ CX CY CZ
      go_wp2_with fail
      refine (CN.out _ _ HL.out).mono ?_
      rintro e wA ⟨vn, rfl, ho, hb⟩
      replace HL := Lib.hid (HL.out.below hb)
      replace HB := HB.trans (hb.mono HB.size)
      obtain ⟨an, cn, rfl, _, _⟩ := owns_form ho
      clear ho
      clear hb
      go_wp2_with fail
      refine (CF.out _).mono ?_
      rintro e wS ⟨rfl, hb⟩
      replace HL := Lib.hid (HL.out.below hb)
      replace HB := HB.trans (hb.mono HB.size)
      clear hb
      clear CN
      go_wp2_with fail
      have hlit := World.ownsRow_lit (base := wS.heap.size) (e := 3) (size := 1) wS #[] 0 (Nat.le_refl _) (by decide) rfl
      have HO2 := Lib.hid O2.out
      go_loopw [9, 10] (fun v i wr => ∃ g : Nat, g ≤ m ∧ i = .int .i64 ((g : Int) - 1) ∧ wr.ownsRow wS.heap.size 3 1 v (m - g) (intsOf (L.drop g).reverse) ∧ Below wS.heap.size wS wr) (fun _ i _ => (intOf i + 1).toNat)
      case atStart => exact ⟨m, Nat.le_refl _, rfl, by rw [Nat.sub_self, List.drop_of_length_le (by rw [O2.out]; omega)]; exact hlit, (Below.refl _ _).alloc (Nat.le_refl _) _⟩
      case round =>
        obtain ⟨g, hgm, rfl, hown, hBw⟩ := hrel
        have hsw := hBw.size
        cases g with
        | succ j =>
          have e1 : ((j + 1 : Nat) : Int) - 1 = (j : Int) := by omega
          rw [e1]
          have hjL : j < L.length := by rw [O2.out]; omega
          obtain ⟨al2, cl2, e2, _, _, hcc⟩ := (HL.out.below hBw).ints
          injection e2 with e2 e3 e4
          subst e2
          obtain ⟨bL, oL, rfl, hbL, hcL⟩ := hcc.resolve_left (fun e => by rw [e] at hjL; simp at hjL)
          have hcx := hcL j hjL
          obtain ⟨y, hy⟩ : ∃ y, y = L[j] := ⟨_, rfl⟩
          rw [← hy] at hcx
          have HRV := Lib.hid (show (L.drop j).reverse = (L.drop (j + 1)).reverse ++ [y] by rw [List.drop_eq_getElem_cons hjL, List.reverse_cons, hy])
          have hjm : (j : Int) < m := by omega
          have hmj : m - (j + 1) + 1 = m - j := by omega
          have HMJ := Lib.hid hmj
          obtain ⟨R, hR⟩ : ∃ R, R = (L.drop (j + 1)).reverse := ⟨_, rfl⟩
          rw [← hR] at hown HRV
          clear hcc hcL hy hR e3 e4 hlit hmj
          go_wp2_with (at_builtin; refine wpList_append_own_at _ rfl _ _ 23 rfl wS.heap.size 3 i0 (.int .i64 0) 1 8 Try.underlying23 hi hz0 hz1 hz2 rfl (by decide) _ _ _ rfl (hown.alloc _) ⟨wr.heap.size, 0, none⟩ 1 1 [.int .i64 y] rfl rfl (one_cell _ _ _) (by intro u hu; simp at hu; subst hu; rfl) (by unfold maxLen; omega) (by omega) (by simp; omega) ?_)
          intro vb' wx hown' hgrow _ _
          have hBx := (hBw.alloc hsw _).grown hgrow (by simp; omega) (fun j hj => (hown.lt j hj).1)
          have HO := Lib.hid (show wx.ownsRow wS.heap.size 3 1 vb' (m - j) (intsOf (L.drop j).reverse) by rw [HRV.out, ← HMJ.out]; simpa [intsOf] using hown')
          clear hown' hgrow hown
          go_wp2_with fail
          go_roundw
          case rel => exact ⟨j, by omega, by go_num, HO.out, hBx⟩
          case measure => simp [intOf]
        | zero =>
          have HW2 := Lib.hid (RowAt.of_owns hown)
          obtain ⟨ab, cb, e2, _, _⟩ := owns_form hown
          subst e2
          have HLx := Lib.hid (HL.out.below hBw)
          replace HB := Lib.hid (HB.trans (hBw.mono HB.size))
          have hn9 : ¬ (0 : Int) ≤ ((0 : Nat) : Int) - 1 := by omega
          have hfk : 0 ≤ F - 1 - k := by omega
          clear hown hlit hBw hsw
          go_wp2_with fail
          refine (CF.out _).mono ?_
          rintro e wa ⟨rfl, hb⟩
          replace HLx := Lib.hid (HLx.out.below hb)
          replace HW2 := Lib.hid (HW2.out.below hb)
          replace HB := Lib.hid (HB.out.trans (hb.mono HB.out.size))
          clear hb
          go_wp2_with fail
          refine (CP2.out _).mono ?_
          rintro e wc ⟨vo, rfl, ho, hb⟩
          replace HLx := Lib.hid (HLx.out.below hb)
          replace HW2 := Lib.hid (HW2.out.below hb)
          replace HB := Lib.hid (HB.out.trans (hb.mono HB.out.size))
          obtain ⟨ax, cx, rfl, x1, x2, x3⟩ := (RowAt.of_owns ho).ints
          unfold maxLen at x2
          rw [List.length_map, O2.out] at x1 ⊢
          obtain ⟨al2, cl2, e2, _, _, y3⟩ := HLx.out.ints
          injection e2 with e2 e3 e4
          subst e2
          have hm0 : 0 < L.length := by rw [O2.out]; omega
          obtain ⟨bX, oX, rfl, hbX, hcX⟩ := x3.resolve_left (fun e => by rw [List.map_eq_nil_iff] at e; rw [e] at hm0; simp at hm0)
          obtain ⟨bL, oL, rfl, hbL, hcL⟩ := y3.resolve_left (fun e => by rw [e] at hm0; simp at hm0)
          have HCX := Lib.hid hcX
          have HCL := Lib.hid hcL
          clear hb ho x3 y3 hcX hcL hm0 e3 e4
          go_wp2_with fail
          go_loop [122] (fun i => ∃ j : Nat, j ≤ m ∧ i = .int .i64 j) (fun i => m - (intOf i).toNat)
          case atStart => exact ⟨0, Nat.zero_le _, rfl⟩
          case round =>
            obtain ⟨j, hjm, rfl⟩ := hrel
            by_cases hlt : j < m
            · have hjL : j < L.length := by rw [O2.out]; exact hlt
              have h1 := HCL.out j hjL
              have h2 := HCX.out j (by rw [List.length_map]; exact hjL)
              rw [List.getElem_map] at h2
              have hyb := HLB.out _ (List.getElem_mem hjL)
              obtain ⟨y, hy⟩ : ∃ y, y = L[j] := ⟨_, rfl⟩
              rw [← hy] at h1 h2 hyb
              clear hy
              go_wp2_with fail
              go_round
              case rel => exact ⟨j + 1, hlt, by go_num⟩
              case measure => simp [intOf]; omega
            · have hX : ∃ X : Int, (m : Int) * ((m : Int) - 1) = X ∧ 0 ≤ X ∧ X ≤ 30 := by
                have : m = 1 ∨ m = 2 ∨ m = 3 ∨ m = 4 ∨ m = 5 ∨ m = 6 := by omega
                rcases this with rfl | rfl | rfl | rfl | rfl | rfl <;> exact ⟨_, rfl, by decide, by decide⟩
              obtain ⟨X, hX, X0, X1⟩ := hX
              have hbk := HBK.out
              rw [hX] at hbk
              have hXd : X.tdiv 2 = X / 2 := Int.tdiv_eq_ediv_of_nonneg X0
              have hg3 := HG3.out
              have HXX := Lib.hid hX
              have hTS : IntKind.i64.wrap (T + S) = X / 2 := by rw [hbk, IntKind.wrap_i64]; omega
              have hXw : IntKind.i64.wrap ((m : Int) * ((m : Int) - 1)) = X := by rw [hX, IntKind.wrap_i64]; omega
              have hFw : IntKind.i64.wrap ((m : Int) * F1) = F := by rw [← hg3, IntKind.wrap_i64]; omega
              clear hX hbk hg3
              go_wp2_with fail
              refine (CB.out _ _ HW2.out).mono ?_
              rintro e wd ⟨rfl, hb⟩
              replace HLx := Lib.hid (HLx.out.below hb)
              replace HB := Lib.hid (HB.out.trans (hb.mono HB.out.size))
              clear hb
              go_wp2_with fail
              refine (CI.out _ _ HLx.out).mono ?_
              rintro e we ⟨rfl, hb⟩
              replace HB := Lib.hid (HB.out.trans (hb.mono HB.out.size))
              clear hb
              go_wp2_with fail
              refine (CF.out _).mono ?_
              rintro e wf ⟨rfl, hb⟩
              replace HB := Lib.hid (HB.out.trans (hb.mono HB.out.size))
              clear hb
              go_wp2_with fail
              refine (CF1.out _).mono ?_
              rintro e wg ⟨rfl, hb⟩
              replace HB := Lib.hid (HB.out.trans (hb.mono HB.out.size))
              clear hb
              go_wp2_with fail
              go_ret
              exact ⟨rfl, HB.out⟩

end Go.Proofs.Ytdpeleepfjhefaa
