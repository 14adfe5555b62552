/- The law on balanced digits: digits, values, sums, opposite digits, rounding, order and weighings fit together. -/
import Derived.Test.YtdflpocnfodbhaaDgDraw
import Derived.Test.YtdflpocnfodbhaaBaAt
import Derived.Deep.CutBlock
import Derived.Deep.CutRange
import Derived.Deep.DeepCutAuto
set_option linter.unusedVariables false
set_option linter.unusedSimpArgs false
set_option maxRecDepth 100000
namespace Go.Proofs.Ytdflpocnfodbhaa
open Go.ChangeShapes Go.WideShapes Go.ChangeAt Go.RowKit

set_option maxRecDepth 100000 in
set_option maxHeartbeats 16000000 in
theorem lawBalanced (W : World) (a : Option Addr) (len cap : Nat) (zs : List Int) (hz : IsRow .u8 W a len cap zs) :
    Calls Try.prog 6 #[.slice a len cap] W fun e w' => e = .returned (.bool true) ∧ Below W.heap.size W w' := by
  have hv := bytesAt_of hz
  have HV := Lib.hid hv
  have hlen : len ≤ 9223372036854775807 := by
    obtain ⟨_, n, c, zs', e, h1, h2, _⟩ := hv
    injection e with _ e1 _
    unfold maxLen at h2; omega
  clear hz hv
  by_cases hbig : 1048576 < len
  · go_enter Try.func6, Try.ntmps6
    go_wp2
    go_ret
    exact ⟨rfl, Below.refl _ _⟩
  · go_enter Try.func6, Try.ntmps6
    go_wp2_with fail
    refine (lawNum_any _ 0 _ HV.out (by omega)).mono ?_
    rintro e w1 ⟨b0, ⟨hb0, hb1⟩, rfl, c1⟩
    obtain ⟨r, hr⟩ : ∃ r, r = b0.tmod 7 := ⟨_, rfl⟩
    have hr0 : 0 ≤ r ∧ r ≤ 6 := by rw [hr, Int.tmod_eq_emod_of_nonneg hb0]; omega
    have hre : b0.tmod 7 = r := hr.symm
    obtain ⟨h, hh⟩ : ∃ h : Nat, r = (h : Int) - 1 := ⟨(r + 1).toNat, by omega⟩
    have h1 : 1 ≤ h := by omega
    have h7 : h ≤ 7 := by omega
    obtain ⟨B, hB⟩ : ∃ B, B = 2 * (h : Int) + 1 := ⟨_, rfl⟩
    have hBe : 3 + 2 * r = B := by omega
    have hB2 : 3 ≤ B := by omega
    have hB15 : B ≤ 15 := by omega
    have HB := Lib.hid hB
    have hr1 := hr0.1; have hr2 := hr0.2
    clear hr hr0 hh hB
    go_wp2_with fail
    clear hBe hre hr1 hr2 hb0 hb1
    refine (makeNumber_any _ 2 _ (HV.out.below c1) (by omega)).mono ?_
    rintro e w2 ⟨n0, ⟨hn0, hn1⟩, rfl, hc⟩
    have c2 := c1.trans (hc.mono c1.size)
    obtain ⟨n, hn⟩ : ∃ n, n = n0 - 5000 := ⟨_, rfl⟩
    have hn2 : -5000 ≤ n := by omega
    have hn3 : n ≤ 9999995000 := by omega
    have hne : n0 - 5000 = n := hn.symm
    clear c1 hc hn
    go_wp2_with fail
    refine (lawNum_any _ 12 _ (HV.out.below c2) (by omega)).mono ?_
    rintro e w3 ⟨m0, ⟨hm0, hm1⟩, rfl, hc⟩
    have c3 := c2.trans (hc.mono c2.size)
    obtain ⟨m, hm⟩ : ∃ m, m = 300 - m0 := ⟨_, rfl⟩
    have hm2 : -65235 ≤ m := by omega
    have hm3 : m ≤ 300 := by omega
    have hme : 300 - m0 = m := hm.symm
    clear c2 hc hm
    go_wp2_with fail
    clear hne hme hn0 hn1 hm0 hm1
    refine (baDigitsAt (x := n) h1 h7 HB.out (by omega) (by omega)).mono ?_
    rintro e w4 ⟨ad, capd, rfl, rd, ld1, ld2, hc⟩
    have c4 := c3.trans (hc.mono c3.size)
    have LN := Lib.hid (bd_len41 (h := h) (n := n) h1 (by omega) (by omega))
    have LM := Lib.hid (bd_len41 (h := h) (n := m) h1 (by omega) (by omega))
    have LS := Lib.hid (bd_len41 (h := h) (n := n + m) h1 (by omega) (by omega))
    obtain ⟨kd, hkd⟩ : ∃ k, k = (bd h n).length := ⟨_, rfl⟩
    rw [← hkd] at rd ld1 ⊢
    have hkd41 : kd ≤ 41 := by rw [hkd]; exact LN.out
    unfold maxLen at ld2
    have HD := Lib.hid rd
    have HKD := Lib.hid hkd
    clear c3 hc rd hkd
    go_wp2_with fail
    refine (baDigitsAt (x := m) h1 h7 HB.out (by omega) (by omega)).mono ?_
    rintro e w5 ⟨ae, cape, rfl, re, le1, le2, hc⟩
    have c5 := c4.trans (hc.mono c4.size)
    have HD5 := Lib.hid (HD.out.below hc)
    obtain ⟨ke, hke⟩ : ∃ k, k = (bd h m).length := ⟨_, rfl⟩
    rw [← hke] at re le1 ⊢
    unfold maxLen at le2
    have HE := Lib.hid re
    clear c4 hc re hke HD
    go_wp2_with fail
    refine (baValueAt (x := n) h1 h7 HB.out (nrmB_bd h1 n) (by have := LN.out; omega) (bv_bd h1 n) HD5.out (by omega) (by omega)).mono ?_
    rintro e w6 ⟨rfl, hc⟩
    have c6 := c5.trans (hc.mono c5.size)
    have HD6 := Lib.hid (HD5.out.below hc)
    have HE6 := Lib.hid (HE.out.below hc)
    clear c5 hc HD5 HE
    go_wp2_with fail
    refine (baNegateAt h1 h7 (nrmB_bd h1 n) (by have := LN.out; omega) HD6.out).mono ?_
    rintro e w7 ⟨an, capn, rfl, rn, ln1, ln2, hc⟩
    have c7 := c6.trans (hc.mono c6.size)
    have HD7 := Lib.hid (HD6.out.below hc)
    have HE7 := Lib.hid (HE6.out.below hc)
    have HLN := Lib.hid (show ((bd h n).map (fun d => -d)).length ≤ 60 by have := LN.out; rw [List.length_map]; omega)
    obtain ⟨kn, hkn⟩ : ∃ kn, kn = ((bd h n).map (fun d => -d)).length := ⟨_, rfl⟩
    rw [← hkn] at rn ln1 ⊢
    unfold maxLen at ln2
    have HN7 := Lib.hid rn
    clear c6 hc HD6 HE6 rn hkn
    go_wp2_with fail
    refine (baValueAt (x := -n) h1 h7 HB.out (nrmB_neg (nrmB_bd h1 n)) HLN.out (by rw [bv_neg, bv_bd h1]) HN7.out (by omega) (by omega)).mono ?_
    rintro e w8 ⟨rfl, hc⟩
    have c8 := c7.trans (hc.mono c7.size)
    have HD8 := Lib.hid (HD7.out.below hc)
    have HE8 := Lib.hid (HE7.out.below hc)
    clear c7 hc HD7 HE7 HN7 ln1 ln2
    go_wp2_with fail
    refine (baAddAt (x := n) (y := m) h1 h7 HB.out HD8.out HE8.out (by omega) (by omega) (by omega) (by omega) (by omega) (by omega)).mono ?_
    rintro e w9 ⟨as', caps, rfl, rs, ls1, ls2, hc⟩
    have c9 := c8.trans (hc.mono c8.size)
    have HD9 := Lib.hid (HD8.out.below hc)
    have HE9 := Lib.hid (HE8.out.below hc)
    obtain ⟨ks, hks⟩ : ∃ k, k = (bd h (n + m)).length := ⟨_, rfl⟩
    rw [← hks] at rs ls1 ⊢
    unfold maxLen at ls2
    have HS9 := Lib.hid rs
    have HKS := Lib.hid hks
    clear c8 hc HD8 HE8 rs hks
    go_wp2_with fail
    refine (lawNum_any _ 16 _ (HV.out.below c9) (by omega)).mono ?_
    rintro e w10 ⟨k0, ⟨hk0, hk1⟩, rfl, hc⟩
    have c10 := c9.trans (hc.mono c9.size)
    have HD10 := Lib.hid (HD9.out.below hc)
    have HE10 := Lib.hid (HE9.out.below hc)
    have HS10 := Lib.hid (HS9.out.below hc)
    obtain ⟨k, hk⟩ : ∃ k : Nat, k0.tmod 5 = (k : Int) := ⟨(k0.tmod 5).toNat, by rw [Int.tmod_eq_emod_of_nonneg hk0]; omega⟩
    have hk4 : k ≤ 4 := by rw [Int.tmod_eq_emod_of_nonneg hk0] at hk; omega
    clear c9 hc HD9 HE9 HS9
    go_wp2_with fail
    clear hk hk0 hk1
    refine (baDropAt (x := n) (k := k) h1 h7 HB.out (by omega) HD10.out (by omega) (by omega)).mono ?_
    rintro e w11 ⟨ar, capr, rfl, rr, lr1, lr2, hc⟩
    have c11 := c10.trans (hc.mono c10.size)
    have HD11 := Lib.hid (HD10.out.below hc)
    have HE11 := Lib.hid (HE10.out.below hc)
    have HS11 := Lib.hid (HS10.out.below hc)
    have hpow : (2 * (h : Int) + 1) ^ k ≤ 1000000 := by
      have e1 : ((2 * h + 1 : Nat) : Int) = 2 * (h : Int) + 1 := by omega
      have e2 : (2 * h + 1) ^ k ≤ 15 ^ 4 := Nat.le_trans (Nat.pow_le_pow_left (by omega) _) (Nat.pow_le_pow_right (by omega) hk4)
      have e3 : (((2 * h + 1) ^ k : Nat) : Int) = ((2 * h + 1 : Nat) : Int) ^ k := Int.natCast_pow _ _
      have e4 : (15 : Nat) ^ 4 = 50625 := by decide
      rw [e1] at e3
      omega
    obtain ⟨hz1, hz2⟩ := drop_small (n := n) h1 (by omega) (by omega) k hpow
    obtain ⟨hc1, hc2⟩ := cut_half (bd_digits h1 n) k
    have hpp := pow_posB h k
    rw [bv_bd h1] at hc1 hc2
    have HP := Lib.hid (fun W' => lawPower_any (2 * h + 1) k W' (by omega) (by omega) (by omega))
    rw [show ((2 * h + 1 : Nat) : Int) = B by rw [HB.out]; omega] at HP
    rw [← HB.out] at hc1 hc2 hpow hpp
    obtain ⟨P, hP⟩ : ∃ P, P = B ^ k := ⟨_, rfl⟩
    rw [← hP] at hc1 hc2 hpow hpp HP
    obtain ⟨z, hz⟩ : ∃ z, z = bv h ((bd h n).drop k) := ⟨_, rfl⟩
    rw [← hz] at hc1 hc2 hz1 hz2
    have HZ := Lib.hid hz
    have hzp1 : -1000000000000 ≤ z * P := by omega
    have hzp2 : z * P ≤ 1000000000000 := by omega
    have HC := Lib.hid (And.intro hc1 hc2)
    have hkr : ((bd h n).drop k).length ≤ 41 := by have := LN.out; rw [List.length_drop]; omega
    have HLR := Lib.hid (show ((bd h n).drop k).length ≤ 60 by omega)
    obtain ⟨kr, hkr2⟩ : ∃ kr, kr = ((bd h n).drop k).length := ⟨_, rfl⟩
    rw [← hkr2] at rr lr1 hkr ⊢
    have HR := Lib.hid rr
    unfold maxLen at lr2
    clear c10 hc HD10 HE10 HS10 hz hP rr hkr2 hc1 hc2
    go_wp2_with fail
    refine (baValueAt (x := z) h1 h7 HB.out (nrmB_drop (nrmB_bd h1 n) k) HLR.out HZ.out.symm HR.out (by omega) (by omega)).mono ?_
    rintro e w12 ⟨rfl, hc⟩
    have c12 := c11.trans (hc.mono c11.size)
    have HD12 := Lib.hid (HD11.out.below hc)
    have HE12 := Lib.hid (HE11.out.below hc)
    have HS12 := Lib.hid (HS11.out.below hc)
    clear c11 hc HD11 HE11 HS11 HR
    have hq1 : (n != n) = false := by simp
    have hq2 : (-n != -n) = false := by simp
    go_wp2_with fail
    refine (baDigitsAt (x := n + m) h1 h7 HB.out (by omega) (by omega)).mono ?_
    rintro e w13 ⟨at13, capt, rfl, rt, lt1, lt2, hc⟩
    have c13 := c12.trans (hc.mono c12.size)
    have HD13 := Lib.hid (HD12.out.below hc)
    have HE13 := Lib.hid (HE12.out.below hc)
    have HS13 := Lib.hid (HS12.out.below hc)
    rw [← HKS.out] at rt lt1 ⊢
    unfold maxLen at lt2
    have HT13 := Lib.hid rt
    clear c12 hc HD12 HE12 HS12 rt
    go_wp2_with fail
    refine (same_any _ _ (bd h (n + m)) (bd h (n + m)) _ HS13.out HT13.out (by have := LS.out; omega) (by have := LS.out; omega) rfl).mono ?_
    rintro e w14 ⟨rfl, rfl⟩
    clear HS13 HT13 lt1 lt2
    go_wp2_with fail
    refine (baOkAt (x := n) h1 h7 HB.out HD13.out (by omega) (by omega)).mono ?_
    rintro e w15 ⟨rfl, hc⟩
    have c15 := c13.trans (hc.mono c13.size)
    have HD15 := Lib.hid (HD13.out.below hc)
    have HE15 := Lib.hid (HE13.out.below hc)
    clear c13 hc HD13 HE13
    go_wp2_with fail
    refine (HP.out _).mono ?_
    rintro e w' ⟨rfl, rfl⟩
    obtain ⟨hc1, hc2⟩ := HC.out
    obtain ⟨rest, hrest⟩ : ∃ rest, n - z * P = rest := ⟨_, rfl⟩
    rw [hrest] at hc1 hc2
    go_wp2_with fail
    refine (HP.out _).mono ?_
    rintro e w' ⟨rfl, rfl⟩
    have ht1 : ¬ P - 1 < 2 * rest := by omega
    have ht2 : ¬ 2 * rest < 1 - P := by omega
    go_wp2_with fail
    refine (HP.out _).mono ?_
    rintro e w' ⟨rfl, rfl⟩
    go_wp2_with fail
    clear ht1 ht2 hc1 hc2 hrest
    refine (baCompareAt (x := n) (y := m) h1 h7 HB.out HD15.out HE15.out (by omega) (by omega) (by omega) (by omega)).mono ?_
    rintro e w16 ⟨rfl, hc⟩
    have c16 := c15.trans (hc.mono c15.size)
    clear c15 hc HD15 HE15
    have hoo : decide (n < m) = (cmpI n m == -1) ∧ decide (m < n) = (cmpI n m == 1) := by
      rcases Int.lt_trichotomy n m with h4 | h4 | h4
      · rw [cmpI_lt h4, decide_eq_true h4, decide_eq_false (by omega)]; exact ⟨rfl, rfl⟩
      · rw [h4, cmpI_eq, decide_eq_false (by omega)]; exact ⟨rfl, rfl⟩
      · rw [cmpI_gt h4, decide_eq_false (by omega), decide_eq_true h4]; exact ⟨rfl, rfl⟩
    have ho1 := hoo.1; have ho2 := hoo.2
    clear hoo
    obtain ⟨ord, hord⟩ : ∃ o, o = cmpI n m := ⟨_, rfl⟩
    rw [← hord] at ho1 ho2 ⊢
    clear hord
    go_wp2_with fail
    clear ho1 ho2
    refine (makeNumber_any _ 20 _ (HV.out.below c16) (by omega)).mono ?_
    rintro e w17 ⟨x, ⟨hx0, hx1⟩, rfl, hc⟩
    have c17 := c16.trans (hc.mono c16.size)
    clear c16 hc
    go_wp2_with fail
    refine (baWeighAt (x := x) hx0 (by omega)).mono ?_
    rintro e w18 ⟨a1, cc1, a2, cc2, rfl, q1, lq1, lq1m, q2, lq2, lq2m, hc⟩
    have C18 := Lib.hid (c17.trans (hc.mono c17.size))
    have hap := wpow_apart (bd 1 x) 1 (by omega)
    have hsum := wpow_sum (bd 1 x) 1 (bd_digits (h := 1) (by omega) x)
    rw [bv_bd (by omega), Int.one_mul] at hsum
    have hlen2 := wpow_lens (bd 1 x) 1
    have hb1 := fun p hp => And.intro (wpow_ge 1 (bd 1 x) 1 (by omega) p hp) (wpow_le 1 x 1 (by omega) p hp)
    have hb2 := fun p hp => And.intro (wpow_ge (-1) (bd 1 x) 1 (by omega) p hp) (wpow_le (-1) x 1 (by omega) p hp)
    have LX := Lib.hid (bd_len41 (h := 1) (n := x) (by omega) (by omega) (by omega))
    obtain ⟨O, hO⟩ : ∃ O, O = wpow 1 1 (bd 1 x) := ⟨_, rfl⟩
    obtain ⟨V, hV⟩ : ∃ V, V = wpow (-1) 1 (bd 1 x) := ⟨_, rfl⟩
    rw [← hO] at q1 lq1 hap hsum hlen2 hb1 ⊢
    rw [← hV] at q2 lq2 hap hsum hlen2 hb2 ⊢
    unfold maxLen at lq1m lq2m
    have HO := Lib.hid (show ∀ p ∈ O, 1 ≤ p ∧ p ≤ 2 * x - 1 from fun p hp => by have := hb1 p hp; rw [Int.mul_one] at this; omega)
    have HVV := Lib.hid (show ∀ p ∈ V, 1 ≤ p ∧ p ≤ 2 * x - 1 from fun p hp => by have := hb2 p hp; rw [Int.mul_one] at this; omega)
    have HAP := Lib.hid (show ∀ p ∈ O, decide (p ∈ V) = false from fun p hp => decide_eq_false (hap p hp))
    obtain ⟨KL, hKL⟩ : ∃ KL, KL = (bd 1 x).length := ⟨_, rfl⟩
    rw [← hKL] at hlen2 LX
    have HKL := Lib.hid hKL
    have hKL41 : KL ≤ 41 := LX.out
    have hOl : O.length ≤ 41 := by omega
    have hVl : V.length ≤ 41 := by omega
    have HSUM := Lib.hid hsum
    have HL2 := Lib.hid hlen2
    have HHAS := Lib.hid (fun p => has_any _ V p w18 q2 (by omega))
    have HS1 := Lib.hid (lsum_any _ O w18 q1 (by omega) (fun p hp => by have := HO.out p hp; omega))
    have HS2 := Lib.hid (lsum_any _ V w18 q2 (by omega) (fun p hp => by have := HVV.out p hp; omega))
    have HD1 := Lib.hid (baDigitsAt (x := x) (h := 1) (B := 3) (w := w18) (by omega) (by omega) rfl (by omega) (by omega))
    have HD8 := Lib.hid (fun W => baDigitsAt (x := 8) (h := 1) (B := 3) (w := W) (by omega) (by omega) rfl (by omega) (by omega))
    obtain ⟨ao, co, eo, _, _, h3⟩ := q1.ints
    injection eo with eo1 eo2 eo3
    subst eo1
    clear c17 hc hap hsum hlen2 hb1 hb2 hO hV hKL q1 q2 eo2 eo3
    go_wp2_with fail
    go_loop [177] (fun i => ∃ j : Nat, j ≤ O.length ∧ i = .int .i64 j) (fun i => O.length - (intOf i).toNat)
    case atStart => exact ⟨0, Nat.zero_le _, rfl⟩
    case round =>
      obtain ⟨j, hj, rfl⟩ := hrel
      by_cases hlt : j < O.length
      · obtain ⟨b', off, rfl, hbb, hcell⟩ := h3.resolve_left (fun e => by rw [e] at hlt; simp at hlt)
        have hcj := hcell j hlt
        have hm := List.getElem_mem hlt
        have hpo := HO.out _ hm
        have hpa := HAP.out _ hm
        obtain ⟨p, hp⟩ : ∃ p, p = O[j] := ⟨_, rfl⟩
        rw [← hp] at hcj hpo hpa
        have HH := Lib.hid (HHAS.out p)
        rw [hpa] at HH
        have hx1' : 0 < x := by omega
        have hpx : ¬ 3 * x < p := by omega
        clear h3 hcell hm hpa hp
        go_wp2_with fail
        refine HH.out.mono ?_
        rintro e w' ⟨rfl, rfl⟩
        go_wp2_with fail
        go_round
        case rel => exact ⟨j + 1, hlt, by go_num⟩
        case measure => simp [intOf]; omega
      · have hjl : ¬ (j : Int) < O.length := by omega
        have hs1 := HS1.out; have hs2 := HS2.out
        obtain ⟨s1, e1⟩ : ∃ s, s = O.sum := ⟨_, rfl⟩
        obtain ⟨s2, e2⟩ : ∃ s, s = V.sum := ⟨_, rfl⟩
        rw [← e1] at hs1 HSUM
        rw [← e2] at hs2 HSUM
        have hsb1 : 0 ≤ s1 ∧ s1 ≤ 1000000000000000 * 41 := by
          have := sum_take_le (l := O) (B := 1000000000000000) (fun p hp => by have := HO.out p hp; omega) O.length (Nat.le_refl _)
          rw [List.take_length, ← e1] at this
          omega
        have hsb2 : 0 ≤ s2 ∧ s2 ≤ 1000000000000000 * 41 := by
          have := sum_take_le (l := V) (B := 1000000000000000) (fun p hp => by have := HVV.out p hp; omega) V.length (Nat.le_refl _)
          rw [List.take_length, ← e2] at this
          omega
        have hs12 : s1 - s2 = x := HSUM.out
        have HSA := Lib.hid hs1; have HSB := Lib.hid hs2
        have hxx : (x == x) = true := by simp
        have hsl : s1 ≤ 41000000000000000 := by omega
        have hsl2 : s2 ≤ 41000000000000000 := by omega
        have hsl3 := hsb1.1; have hsl4 := hsb2.1
        clear h3 hs1 hs2 e1 e2 hsb1 hsb2 HO HVV HAP HHAS HS1 HS2 hlt
        go_wp2_with fail
        refine HSA.out.mono ?_
        rintro e w' ⟨rfl, rfl⟩
        go_wp2_with fail
        refine HSB.out.mono ?_
        rintro e w' ⟨rfl, rfl⟩
        go_wp2_with fail
        refine HD1.out.mono ?_
        rintro e w19 ⟨a3, c3, rfl, _, l3, l3m, hc⟩
        have C19 := Lib.hid (C18.out.trans (hc.mono C18.out.size))
        rw [← HKL.out] at l3 ⊢
        unfold maxLen at l3m
        have hle : (O.length : Int) + V.length ≤ KL := by have := HL2.out; omega
        clear hc
        go_wp2_with fail
        refine (HD8.out _).mono ?_
        rintro e w20 ⟨a4, c4, rfl, q4, l4, l4m, hc⟩
        have C20 := Lib.hid (C19.out.trans (hc.mono C19.out.size))
        obtain ⟨K8, hK8⟩ : ∃ K8, K8 = (bd 1 8).length := ⟨_, rfl⟩
        rw [← hK8] at q4 l4 ⊢
        have HF := Lib.hid (baFormatAt q4)
        clear hc hK8 q4 l4 l4m
        go_wp2_with fail
        refine HF.out.mono ?_
        rintro e w21 ⟨rfl, hc⟩
        have C21 := Lib.hid (C20.out.trans (hc.mono C20.out.size))
        clear hc
        go_wp2_with fail
        go_ret
        exact ⟨rfl, C21.out⟩

end Go.Proofs.Ytdflpocnfodbhaa
