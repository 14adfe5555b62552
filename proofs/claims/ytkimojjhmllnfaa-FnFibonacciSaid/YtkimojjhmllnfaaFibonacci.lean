/- The law on Fibonacci digits: sparse and dense digits, the number of lists, weights, places and shifts. -/
import Derived.Test.YtkimojjhmllnfaaLawFns
import Derived.Test.YtkimojjhmllnfaaFbI3
import Derived.Test.YtkimojjhmllnfaaFbI4
import Derived.Test.YtkimojjhmllnfaaFbSame
import Derived.Test.YtkimojjhmllnfaaDraw
set_option linter.unusedVariables false
set_option linter.unusedSimpArgs false
set_option maxRecDepth 100000
namespace Go.Proofs.Ytkimojjhmllnfaa
open Go.ChangeShapes Go.WideShapes Go.ChangeAt Go.RowKit

theorem inB_in {x a b : Int} (h1 : a ≤ x) (h2 : x ≤ b) : inB x a b = true := by simp [inB]; omega
theorem fb_bits {l : List Int} (h : B01 l) : ∀ x ∈ l, in64 x := fun x hx => by have := h x hx; exact ⟨by omega, by omega⟩
theorem fb_sums {l : List Int} (h : B01 l) : ∀ x ∈ l, 0 ≤ x ∧ x ≤ 1000000000000000 := fun x hx => by have := h x hx; exact ⟨by omega, by omega⟩
theorem dn_b01 (n : Nat) : B01 (dn n) := fun d hd => trT_b01 (gd_b01 58 n) d (by rw [dn, List.mem_reverse] at hd; exact hd)
theorem sp_len (n : Nat) : (sp n).length ≤ 58 := by rw [sp, List.length_reverse]; have := trT_le (gs 58 n); rw [gs_len] at this; exact this
theorem dn_len (n : Nat) : (dn n).length ≤ 58 := by rw [dn, List.length_reverse]; have := trT_le (gd 58 n); rw [gd_len] at this; exact this
theorem fb_num {N : Nat} (h : N ≤ 100000) : rSparseFib0 N = sp N ∧ rDenseFib0 N = dn N ∧ rCountFib0 N = cnt (sp N).length N ∧ rShiftFib0 N = vL 1 (sp N) := by
  refine ⟨?_, ?_, ?_, ?_⟩
  · rw [rSparseFib0, inB_in (by omega) (by omega)]; rfl
  · rw [rDenseFib0, inB_in (by omega) (by omega)]; rfl
  · rw [rCountFib0, inB_in (by omega) (by omega)]; rfl
  · rw [rShiftFib0, inB_in (by omega) (by omega)]; rfl
theorem fb_val {l : List Int} {n : Nat} (h : okF l = true) (hv : vL 0 l = n) (hn : n ≤ 1000000000) : rFibValue0 l = n ∧ rFibValue1 l = true := by
  have e : fvOk l = true := by rw [fvOk, h, hv, decide_eq_true (by omega)]; rfl
  exact ⟨by rw [rFibValue0, e, hv]; rfl, e⟩
theorem fb_is {N : Nat} (h : N ≤ 100000) : rIsSparseFib0 (sp N) = true ∧ rIsDenseFib0 (dn N) = true :=
  ⟨by rw [rIsSparseFib0, sp_ok (by omega), sp_prs (by omega)]; rfl, by rw [rIsDenseFib0, dn_ok (by omega), dn_prs (by omega)]; rfl⟩
theorem fb_shift_le {N : Nat} (h : N ≤ 100000) : vL 1 (sp N) ≤ 2 * N + 1 := by
  have h1 := lp_two (shift_phi (b01_sp N)).1
  rw [sp_val (by omega)] at h1
  omega
theorem fb_place {k : Nat} (h : k ≤ 58) : rFibPlace0 k = fp k := by rw [rFibPlace0, inB_in (by omega) (by omega)]; rfl
theorem fb_jump {j : Nat} (h : j ≤ 29) : fp j ≤ 2000000 ∧ rShiftFib0 (fp j : Nat) = fp (j + 1) := by
  have h1 := fp_mono h
  have h2 : fp 29 = 1346269 := fp_29
  refine ⟨by omega, ?_⟩
  rw [rShiftFib0, inB_in (by omega) (by omega), if_pos rfl, Int.toNat_natCast, shift_place (by omega)]
theorem b01_sum : ∀ {l : List Int}, B01 l → 0 ≤ l.sum ∧ l.sum ≤ l.length
  | [], _ => by simp
  | x :: t, h => by
    have := b01_sum (b01_tail h)
    rw [List.sum_cons, List.length_cons]
    rcases b01_head h with rfl | rfl <;> omega

set_option maxRecDepth 100000 in
set_option maxHeartbeats 16000000 in
theorem lawFibonacci (W : World) (a : Option Addr) (len cap : Nat) (zs : List Int) (hz : IsRow .u8 W a len cap zs) :
    Calls Try.prog 3 #[.slice a len cap] W fun e w' => e = .returned (.bool true) ∧ Below W.heap.size W w' := by
  have hv := bytesAt_of hz
  have HV := Lib.hid hv
  have hlen : len ≤ 9223372036854775807 := by
    obtain ⟨_, n, c, zs', e, h1, h2, _⟩ := hv
    injection e with _ e1 _
    unfold maxLen at h2; omega
  clear hz hv
  have HB := Below.refl W.heap.size W
  by_cases hbig : 1048576 < len
  · go_enter Try.func3, Try.ntmps3
    go_wp2
    go_ret
    exact ⟨rfl, Below.refl _ _⟩
  · go_enter Try.func3, Try.ntmps3
    go_wp2_with fail
    refine (makeNum_any _ 0 _ (HV.out.below HB) (by omega)).mono ?_
    rintro e wa ⟨x, ⟨hx0, hx1⟩, rfl, hb⟩
    replace HB := HB.trans (hb.mono HB.size)
    clear hb
    obtain ⟨N, hN, hN9⟩ : ∃ N : Nat, x.tmod 3000 = N ∧ N ≤ 2999 := ⟨(x % 3000).toNat, by rw [Int.tmod_eq_emod_of_nonneg hx0]; omega, by omega⟩
    obtain ⟨r1, r2, r3, r4⟩ := fb_num (show N ≤ 100000 by omega)
    obtain ⟨s1, s2⟩ := fb_val (sp_ok (n := N) (by omega)) (sp_val (by omega)) (by omega)
    obtain ⟨d1, d2⟩ := fb_val (dn_ok (n := N) (by omega)) (dn_val (by omega)) (by omega)
    obtain ⟨t1, t2⟩ := fb_is (show N ≤ 100000 by omega)
    have c1 := cnt_sp (show N ≤ 500000000000 by omega)
    have c2 := cnt_one (show N ≤ 500000000000 by omega)
    have c3 := cnt_le (sp N).length N
    have hsl := dn_short (show N ≤ 500000000000 by omega)
    have sl := sp_few (show N ≤ 100000000 by omega)
    have dl := dn_len N
    have m1 := fb_shift_le (show N ≤ 100000 by omega)
    have m2 := (fb_num (show vL 1 (sp N) ≤ 100000 by omega)).2.2.2
    rw [shift_two (by omega) (by omega)] at m2
    have CS := Lib.hid (fun W => implSparseFib_any N W ⟨by omega, by omega⟩)
    rw [r1] at CS
    have CD := Lib.hid (fun W => implDenseFib_any N W ⟨by omega, by omega⟩)
    rw [r2] at CD
    have CVS := Lib.hid (fun W v (h : RowAt W v (intsOf (sp N))) => implFibValue_any v (sp N) W h (by omega) (fb_bits (sp_b01 N)))
    rw [s1, s2] at CVS
    have CVD := Lib.hid (fun W v (h : RowAt W v (intsOf (dn N))) => implFibValue_any v (dn N) W h (by omega) (fb_bits (dn_b01 N)))
    rw [d1, d2] at CVD
    have CC := Lib.hid (fun W => implCountFib_any N W ⟨by omega, by omega⟩)
    rw [r3] at CC
    have CIS := Lib.hid (fun W v (h : RowAt W v (intsOf (sp N))) => implIsSparseFib_any v (sp N) W h (by omega) (fb_bits (sp_b01 N)))
    rw [t1] at CIS
    have CID := Lib.hid (fun W v (h : RowAt W v (intsOf (dn N))) => implIsDenseFib_any v (dn N) W h (by omega) (fb_bits (dn_b01 N)))
    rw [t2] at CID
    have CSH := Lib.hid (fun W => implShiftFib_any N W ⟨by omega, by omega⟩)
    rw [r4] at CSH
    have CSM := Lib.hid (fun W => implShiftFib_any (vL 1 (sp N) : Nat) W ⟨by omega, by omega⟩)
    rw [m2] at CSM
    obtain ⟨M, hM⟩ : ∃ M, M = vL 1 (sp N) := ⟨_, rfl⟩
    rw [← hM] at CSM CSH m1
    obtain ⟨C, hC⟩ : ∃ C, C = cnt (sp N).length N := ⟨_, rfl⟩
    rw [← hC] at c1 c2 c3 CC
    obtain ⟨S, hS⟩ : ∃ S, S = sp N := ⟨_, rfl⟩
    obtain ⟨D, hD⟩ : ∃ D, D = dn N := ⟨_, rfl⟩
    rw [← hS] at CS CVS CIS c2 c3 hsl sl
    rw [← hD] at CD CVD CID c2 hsl dl
    obtain ⟨LS, hLS⟩ : ∃ L, L = S.length := ⟨_, rfl⟩
    obtain ⟨LD, hLD⟩ : ∃ L, L = D.length := ⟨_, rfl⟩
    rw [← hLS] at CS hsl sl c3
    rw [← hLD] at CD hsl dl
    have hC9 : C ≤ 1125899906842624 := by
      have h1 : 2 ^ LS ≤ 2 ^ 50 := Nat.pow_le_pow_right (by decide) sl
      have h2 : 2 ^ 50 = 1125899906842624 := by decide
      omega
    have hq : ((C : Int) == 1) = decide (S = D) := by
      by_cases h : S = D
      · have := c2.2 h
        rw [decide_eq_true h, this]; rfl
      · rw [decide_eq_false h]
        have : C ≠ 1 := fun e => h (c2.1 e)
        simp; omega
    obtain ⟨q, hqq⟩ : ∃ q, q = decide (S = D) := ⟨_, rfl⟩
    rw [← hqq] at hq
    have CSA := Lib.hid (fun W v u (h : RowAt W v (intsOf S)) (h' : RowAt W u (intsOf D)) => same2_any v u S D W h h' (by omega) (by omega))
    rw [← hqq] at CSA
    have hc1 : ¬ (C : Int) < 1 := by omega
    have hslI : ¬ (LS : Int) < LD := by omega
    clear r1 r2 r3 r4 s1 s2 d1 d2 t1 t2 c1 c2 c3 m2 hM hC hS hD hLS hLD hqq hx0 hx1
    go_wp2_with fail
    refine (CS.out _).mono ?_
    rintro e w2 ⟨vs, rfl, ho, hb⟩
    replace HB := HB.trans (hb.mono HB.size)
    have HS := Lib.hid (RowAt.of_owns ho)
    obtain ⟨aS1, cS1, rfl, _, _⟩ := owns_form ho
    clear ho
    clear hb
    go_wp2_with fail
    refine (CD.out _).mono ?_
    rintro e w3 ⟨vd, rfl, ho, hb⟩
    replace HS := Lib.hid (HS.out.below hb)
    replace HB := HB.trans (hb.mono HB.size)
    have HD := Lib.hid (RowAt.of_owns ho)
    obtain ⟨aD1, cD1, rfl, _, _⟩ := owns_form ho
    clear ho
    clear hb
    go_wp2_with fail
    refine (CVS.out _ _ HS.out).mono ?_
    rintro e w4 ⟨rfl, hb⟩
    replace HS := Lib.hid (HS.out.below hb)
    replace HD := Lib.hid (HD.out.below hb)
    replace HB := HB.trans (hb.mono HB.size)
    clear hb
    go_wp2_with fail
    refine (CVD.out _ _ HD.out).mono ?_
    rintro e w5 ⟨rfl, hb⟩
    replace HS := Lib.hid (HS.out.below hb)
    replace HD := Lib.hid (HD.out.below hb)
    replace HB := HB.trans (hb.mono HB.size)
    clear hb
    go_wp2_with fail
    refine (CC.out _).mono ?_
    rintro e w6 ⟨rfl, hb⟩
    replace HS := Lib.hid (HS.out.below hb)
    replace HD := Lib.hid (HD.out.below hb)
    replace HB := HB.trans (hb.mono HB.size)
    clear hb
    go_wp2_with fail
    refine (CIS.out _ _ HS.out).mono ?_
    rintro e w7 ⟨rfl, hb⟩
    replace HS := Lib.hid (HS.out.below hb)
    replace HD := Lib.hid (HD.out.below hb)
    replace HB := HB.trans (hb.mono HB.size)
    clear hb
    go_wp2_with fail
    refine (CID.out _ _ HD.out).mono ?_
    rintro e w8 ⟨rfl, hb⟩
    replace HS := Lib.hid (HS.out.below hb)
    replace HD := Lib.hid (HD.out.below hb)
    replace HB := HB.trans (hb.mono HB.size)
    clear hb
    go_wp2_with fail
    refine (CSA.out _ _ _ HS.out HD.out).mono ?_
    rintro e w' ⟨rfl, rfl⟩
    clear CS CD CVS CVD CC CIS CID CSA HS HD hsl sl dl hC9
    go_wp2_with fail
    refine (makeFib_any _ 10 _ (HV.out.below HB) (by omega)).mono ?_
    rintro e w9 ⟨l, vl, hF, rfl, hrow, hb⟩
    replace HB := HB.trans (hb.mono HB.size)
    clear hb
    obtain ⟨fb, ft, fv⟩ := fbL_v hF
    obtain ⟨V, hVe⟩ : ∃ V, V = vL 0 l := ⟨_, rfl⟩
    have fs := fb_sparse hF
    have fd := fb_dense hF
    have fl := fb_light hF
    have fh := fb_heavy hF
    rw [← hVe] at fs fd fl fh fv
    obtain ⟨v1, v2⟩ := fb_val hF.1 hVe.symm (by omega)
    obtain ⟨r1, r2, r3, r4⟩ := fb_num (show V ≤ 100000 by omega)
    have c1 := cnt_sp (show V ≤ 500000000000 by omega)
    have c3 := cnt_le (sp V).length V
    have sl := sp_few (show V ≤ 100000000 by omega)
    have dl := dn_len V
    have l13 := hF.2
    have ss := b01_sum (sp_b01 V)
    have sd := b01_sum (dn_b01 V)
    have sll := b01_sum fb
    have KV := Lib.hid (fun W v (h : RowAt W v (intsOf l)) => implFibValue_any v l W h (by omega) (fb_bits fb))
    rw [v1, v2] at KV
    have KO := Lib.hid (fun W v (h : RowAt W v (intsOf l)) => implFibOk_any v l W h (by omega) (fb_bits fb))
    rw [rFibOk0, hF.1] at KO
    have KS := Lib.hid (fun W v (h : RowAt W v (intsOf l)) => implIsSparseFib_any v l W h (by omega) (fb_bits fb))
    rw [fs] at KS
    have KD := Lib.hid (fun W v (h : RowAt W v (intsOf l)) => implIsDenseFib_any v l W h (by omega) (fb_bits fb))
    rw [fd] at KD
    have KP := Lib.hid (fun W => implSparseFib_any V W ⟨by omega, by omega⟩)
    rw [r1] at KP
    have KQ := Lib.hid (fun W => implDenseFib_any V W ⟨by omega, by omega⟩)
    rw [r2] at KQ
    have KC := Lib.hid (fun W => implCountFib_any V W ⟨by omega, by omega⟩)
    rw [r3] at KC
    have KM := Lib.hid (fun W v (h : RowAt W v (intsOf l)) => lsum_any v l W h (by omega) (fb_sums fb))
    have KMS := Lib.hid (fun W v (h : RowAt W v (intsOf (sp V))) => lsum_any v (sp V) W h (by omega) (fb_sums (sp_b01 V)))
    have KMD := Lib.hid (fun W v (h : RowAt W v (intsOf (dn V))) => lsum_any v (dn V) W h (by omega) (fb_sums (dn_b01 V)))
    have KES := Lib.hid (fun W v u (h : RowAt W v (intsOf l)) (h' : RowAt W u (intsOf (sp V))) => same2_any v u l (sp V) W h h' (by omega) (by omega))
    have KED := Lib.hid (fun W v u (h : RowAt W v (intsOf l)) (h' : RowAt W u (intsOf (dn V))) => same2_any v u l (dn V) W h h' (by omega) (by omega))
    obtain ⟨C2, hC⟩ : ∃ C, C = cnt (sp V).length V := ⟨_, rfl⟩
    rw [← hC] at c1 c3 KC
    obtain ⟨S, hS⟩ : ∃ S, S = sp V := ⟨_, rfl⟩
    obtain ⟨D, hD⟩ : ∃ D, D = dn V := ⟨_, rfl⟩
    rw [← hS] at KP KS KMS KES sl c3 ss fl
    rw [← hD] at KQ KD KMD KED dl sd fh
    obtain ⟨qs, hqs⟩ : ∃ q, q = decide (l = S) := ⟨_, rfl⟩
    obtain ⟨qd, hqd⟩ : ∃ q, q = decide (l = D) := ⟨_, rfl⟩
    rw [← hqs] at KS KES
    rw [← hqd] at KD KED
    obtain ⟨X, hX⟩ : ∃ X, X = l.sum := ⟨_, rfl⟩
    obtain ⟨Y, hY⟩ : ∃ Y, Y = S.sum := ⟨_, rfl⟩
    obtain ⟨Z, hZ⟩ : ∃ Z, Z = D.sum := ⟨_, rfl⟩
    rw [← hX] at KM fl fh sll
    rw [← hY] at KMS fl ss
    rw [← hZ] at KMD fh sd
    obtain ⟨LS, hLS⟩ : ∃ L, L = S.length := ⟨_, rfl⟩
    obtain ⟨LD, hLD⟩ : ∃ L, L = D.length := ⟨_, rfl⟩
    rw [← hLS] at KP sl c3 ss
    rw [← hLD] at KQ dl sd
    have hC9 : C2 ≤ 1125899906842624 := by
      have h1 : 2 ^ LS ≤ 2 ^ 50 := Nat.pow_le_pow_right (by decide) sl
      have h2 : 2 ^ 50 = 1125899906842624 := by decide
      omega
    have hc1 : ¬ (C2 : Int) < 1 := by omega
    have hfl : ¬ X < Y := by omega
    have hfh : ¬ Z < X := by omega
    have hxr : 0 ≤ X ∧ X ≤ 100 := by omega
    have hyr : 0 ≤ Y ∧ Y ≤ 100 := by omega
    have hzr : 0 ≤ Z ∧ Z ≤ 100 := by omega
    have HL := Lib.hid hrow
    obtain ⟨al, cl, rfl, l1, l2, l3⟩ := hrow.ints
    obtain ⟨LL, hLL⟩ : ∃ L, L = l.length := ⟨_, rfl⟩
    rw [← hLL] at HL ⊢
    clear hF fb ft fs fd fl fh v1 v2 r1 r2 r3 r4 c1 c3 l13 ss sd sll hVe hC hS hD hqs hqd hX hY hZ hLS hLD hLL hrow l1 l2 l3 sl dl
    go_wp2_with fail
    refine (KV.out _ _ HL.out).mono ?_
    rintro e wb ⟨rfl, hb⟩
    replace HL := Lib.hid (HL.out.below hb)
    replace HB := HB.trans (hb.mono HB.size)
    clear hb
    go_wp2_with fail
    refine (KO.out _ _ HL.out).mono ?_
    rintro e wc ⟨rfl, hb⟩
    replace HL := Lib.hid (HL.out.below hb)
    replace HB := HB.trans (hb.mono HB.size)
    clear hb
    go_wp2_with fail
    refine (KS.out _ _ HL.out).mono ?_
    rintro e wd ⟨rfl, hb⟩
    replace HL := Lib.hid (HL.out.below hb)
    replace HB := HB.trans (hb.mono HB.size)
    clear hb
    go_wp2_with fail
    refine (KP.out _).mono ?_
    rintro e we ⟨vp, rfl, ho, hb⟩
    replace HL := Lib.hid (HL.out.below hb)
    replace HB := HB.trans (hb.mono HB.size)
    have HP := Lib.hid (RowAt.of_owns ho)
    obtain ⟨ap, cp, rfl, _, _⟩ := owns_form ho
    clear ho
    clear hb
    go_wp2_with fail
    refine (KES.out _ _ _ HL.out HP.out).mono ?_
    rintro e w' ⟨rfl, rfl⟩
    clear HP KES KS KO KV
    go_wp2_with fail
    refine (KD.out _ _ HL.out).mono ?_
    rintro e wf ⟨rfl, hb⟩
    replace HL := Lib.hid (HL.out.below hb)
    replace HB := HB.trans (hb.mono HB.size)
    clear hb
    go_wp2_with fail
    refine (KQ.out _).mono ?_
    rintro e wg ⟨vq, rfl, ho, hb⟩
    replace HL := Lib.hid (HL.out.below hb)
    replace HB := HB.trans (hb.mono HB.size)
    have HQ := Lib.hid (RowAt.of_owns ho)
    obtain ⟨aq, cq, rfl, _, _⟩ := owns_form ho
    clear ho
    clear hb
    go_wp2_with fail
    refine (KED.out _ _ _ HL.out HQ.out).mono ?_
    rintro e w' ⟨rfl, rfl⟩
    clear HQ KED KD
    go_wp2_with fail
    refine (KC.out _).mono ?_
    rintro e wh ⟨rfl, hb⟩
    replace HL := Lib.hid (HL.out.below hb)
    replace HB := HB.trans (hb.mono HB.size)
    clear hb
    go_wp2_with fail
    refine (KM.out _ _ HL.out).mono ?_
    rintro e w' ⟨rfl, rfl⟩
    go_wp2_with fail
    refine (KP.out _).mono ?_
    rintro e wi ⟨vp2, rfl, ho, hb⟩
    replace HL := Lib.hid (HL.out.below hb)
    replace HB := HB.trans (hb.mono HB.size)
    have HP := Lib.hid (RowAt.of_owns ho)
    obtain ⟨ap2, cp2, rfl, _, _⟩ := owns_form ho
    clear ho
    clear hb
    go_wp2_with fail
    refine (KMS.out _ _ HP.out).mono ?_
    rintro e w' ⟨rfl, rfl⟩
    go_wp2_with fail
    refine (KM.out _ _ HL.out).mono ?_
    rintro e w' ⟨rfl, rfl⟩
    go_wp2_with fail
    refine (KQ.out _).mono ?_
    rintro e wj ⟨vq2, rfl, ho, hb⟩
    replace HL := Lib.hid (HL.out.below hb)
    replace HB := HB.trans (hb.mono HB.size)
    have HQ := Lib.hid (RowAt.of_owns ho)
    obtain ⟨aq2, cq2, rfl, _, _⟩ := owns_form ho
    clear ho
    clear hb
    go_wp2_with fail
    refine (KMD.out _ _ HQ.out).mono ?_
    rintro e w' ⟨rfl, rfl⟩
    clear HP HQ HL KC KM KP KMS KQ KMD
    go_wp2_with fail
    refine (makeNum_any _ 40 _ (HV.out.below HB) (by omega)).mono ?_
    rintro e wk ⟨y, ⟨hy0, hy1⟩, rfl, hb⟩
    replace HB := HB.trans (hb.mono HB.size)
    clear hb
    obtain ⟨K, hK, hK9⟩ : ∃ K : Nat, y.tmod 56 = K ∧ K ≤ 55 := ⟨(y % 56).toNat, by rw [Int.tmod_eq_emod_of_nonneg hy0]; omega, by omega⟩
    obtain ⟨J, hJ, hJ9⟩ : ∃ J : Nat, (K : Int).tmod 30 = J ∧ J ≤ 29 := ⟨K % 30, by rw [Int.tmod_eq_emod_of_nonneg (by omega)]; omega, by omega⟩
    obtain ⟨j1, j2⟩ := fb_jump hJ9
    have e1 := fp_s K
    have e2 := fp_60 (show K + 2 ≤ 60 by omega)
    have P2 := Lib.hid (fun W => implFibPlace_any ((K + 2 : Nat) : Int) W ⟨by omega, by omega⟩)
    rw [fb_place (by omega)] at P2
    have P0 := Lib.hid (fun W => implFibPlace_any (K : Int) W ⟨by omega, by omega⟩)
    rw [fb_place (by omega)] at P0
    have P1 := Lib.hid (fun W => implFibPlace_any ((K + 1 : Nat) : Int) W ⟨by omega, by omega⟩)
    rw [fb_place (by omega)] at P1
    have Q0 := Lib.hid (fun W => implFibPlace_any (J : Int) W ⟨by omega, by omega⟩)
    rw [fb_place (by omega)] at Q0
    have Q1 := Lib.hid (fun W => implFibPlace_any ((J + 1 : Nat) : Int) W ⟨by omega, by omega⟩)
    rw [fb_place (by omega)] at Q1
    have QS := Lib.hid (fun W => implShiftFib_any (fp J : Nat) W ⟨by omega, by omega⟩)
    rw [j2] at QS
    rw [show ((K + 2 : Nat) : Int) = (K : Int) + 2 by omega] at P2
    rw [show ((K + 1 : Nat) : Int) = (K : Int) + 1 by omega] at P1
    rw [show ((J + 1 : Nat) : Int) = (J : Int) + 1 by omega] at Q1
    obtain ⟨A, hA⟩ : ∃ A, A = fp K := ⟨_, rfl⟩
    obtain ⟨B, hBe⟩ : ∃ B, B = fp (K + 1) := ⟨_, rfl⟩
    obtain ⟨E, hE⟩ : ∃ E, E = fp (K + 2) := ⟨_, rfl⟩
    obtain ⟨F, hFe⟩ : ∃ F, F = fp J := ⟨_, rfl⟩
    obtain ⟨G, hG⟩ : ∃ G, G = fp (J + 1) := ⟨_, rfl⟩
    rw [← hA] at e1 P0
    rw [← hBe] at e1 P1
    rw [← hE] at e1 e2 P2
    rw [← hFe] at Q0 QS j1
    rw [← hG] at Q1 QS
    have hab : (A : Int) + B = E := by omega
    have hmn : ((M + N : Nat) : Int) = (M : Int) + N := by omega
    rw [hmn] at CSM
    clear e1 hA hBe hE hFe hG j2 hmn hy0 hy1
    go_wp2_with fail
    refine (P2.out _).mono ?_
    rintro e wl ⟨rfl, hb⟩
    replace HB := HB.trans (hb.mono HB.size)
    clear hb
    go_wp2_with fail
    refine (P0.out _).mono ?_
    rintro e wm ⟨rfl, hb⟩
    replace HB := HB.trans (hb.mono HB.size)
    clear hb
    go_wp2_with fail
    refine (P1.out _).mono ?_
    rintro e wn ⟨rfl, hb⟩
    replace HB := HB.trans (hb.mono HB.size)
    clear hb
    go_wp2_with fail
    refine (Q0.out _).mono ?_
    rintro e wo ⟨rfl, hb⟩
    replace HB := HB.trans (hb.mono HB.size)
    clear hb
    go_wp2_with fail
    refine (QS.out _).mono ?_
    rintro e wp ⟨rfl, hb⟩
    replace HB := HB.trans (hb.mono HB.size)
    clear hb
    go_wp2_with fail
    refine (Q1.out _).mono ?_
    rintro e wq ⟨rfl, hb⟩
    replace HB := HB.trans (hb.mono HB.size)
    clear hb
    go_wp2_with fail
    refine (CSH.out _).mono ?_
    rintro e wr ⟨rfl, hb⟩
    replace HB := HB.trans (hb.mono HB.size)
    clear hb
    go_wp2_with fail
    refine (CSH.out _).mono ?_
    rintro e ws ⟨rfl, hb⟩
    replace HB := HB.trans (hb.mono HB.size)
    clear hb
    go_wp2_with fail
    refine (CSM.out _).mono ?_
    rintro e wt ⟨rfl, hb⟩
    replace HB := HB.trans (hb.mono HB.size)
    clear hb
    go_wp2_with fail
    go_ret
    exact ⟨rfl, HB⟩

end Go.Proofs.Ytkimojjhmllnfaa
