/- The law on negative bases: digits, values, sums, products, signs, order and ranges fit together. -/
import Derived.Test.YtdflpocnfodbhaaDgDraw
import Derived.Test.YtdflpocnfodbhaaNgAt
import Derived.Deep.CutBlock
import Derived.Deep.CutRange
import Derived.Deep.DeepCutAuto
set_option linter.unusedVariables false
set_option linter.unusedSimpArgs false
set_option maxRecDepth 100000
namespace Go.Proofs.Ytdflpocnfodbhaa
open Go.ChangeShapes Go.WideShapes Go.ChangeAt Go.RowKit

/-- the range of one digit less -/
theorem rng_pred (b : Nat) (hb : 2 ≤ b) (j : Nat) : rlo b j ≤ rlo b (j - 1) ∧ rhi b (j - 1) ≤ rhi b j := by
  cases j with
  | zero => exact ⟨Int.le_refl _, Int.le_refl _⟩
  | succ j => exact rng_mono b hb j

set_option maxRecDepth 100000 in
set_option maxHeartbeats 16000000 in
theorem lawNegative (W : World) (a : Option Addr) (len cap : Nat) (zs : List Int) (hz : IsRow .u8 W a len cap zs) :
    Calls Try.prog 5 #[.slice a len cap] W fun e w' => e = .returned (.bool true) ∧ Below W.heap.size W w' := by
  have hv := bytesAt_of hz
  have HV := Lib.hid hv
  have hlen : len ≤ 9223372036854775807 := by
    obtain ⟨_, n, c, zs', e, h1, h2, _⟩ := hv
    injection e with _ e1 _
    unfold maxLen at h2; omega
  clear hz hv
  by_cases hbig : 1048576 < len
  · go_enter Try.func5, Try.ntmps5
    go_wp2
    go_ret
    exact ⟨rfl, Below.refl _ _⟩
  · go_enter Try.func5, Try.ntmps5
    go_wp2_with fail
    refine (makeBase_any _ 0 _ HV.out (by omega)).mono ?_
    rintro e w1 ⟨b, ⟨hb0, hb1⟩, rfl, c1⟩
    obtain ⟨b, rfl⟩ : ∃ m : Nat, b = m := ⟨b.toNat, by omega⟩
    have hb2 : 2 ≤ b := by omega
    have hb16 : b ≤ 16 := by omega
    clear hb0 hb1
    go_wp2_with fail
    refine (makeNumber_any _ 2 _ (HV.out.below c1) (by omega)).mono ?_
    rintro e w2 ⟨n0, ⟨hn0, hn1⟩, rfl, hc⟩
    have c2 := c1.trans (hc.mono c1.size)
    obtain ⟨n, hn⟩ : ∃ n, n = n0 - 5000 := ⟨_, rfl⟩
    have hn2 : -5000 ≤ n := by omega
    have hn3 : n ≤ 9999995000 := by omega
    have hne : n0 - 5000 = n := hn.symm
    clear c1 hc hn
    go_wp2_with fail
    refine (lawNum_any _ 12 _ (HV.out.below c2) (by omega)).mono ?_
    rintro e w3 ⟨m0, ⟨hm0, hm1⟩, rfl, hc⟩
    have c3 := c2.trans (hc.mono c2.size)
    obtain ⟨m, hm⟩ : ∃ m, m = 300 - m0 := ⟨_, rfl⟩
    have hm2 : -65235 ≤ m := by omega
    have hm3 : m ≤ 300 := by omega
    have hme : 300 - m0 = m := hm.symm
    clear c2 hc hm hbig HV
    go_wp2_with fail
    clear hne hme hn0 hn1 hm0 hm1
    refine (ngDigitsAt (x := n) hb2 hb16 (by omega) (by omega)).mono ?_
    rintro e w4 ⟨ad, capd, rfl, rd, ld1, ld2, hc⟩
    have c4 := c3.trans (hc.mono c3.size)
    have LN := Lib.hid (ng_len42 (n := n) hb2 (by omega) (by omega))
    have HSB := Lib.hid (fun j => rng_iff hb2 j n)
    obtain ⟨k, hk⟩ : ∃ k, k = (ng b n).length := ⟨_, rfl⟩
    rw [← hk] at rd ld1 LN HSB ⊢
    have hk42 : k ≤ 42 := LN.out
    unfold maxLen at ld2
    have HD := Lib.hid rd
    clear c3 hc rd
    have HK := Lib.hid hk
    clear hk
    go_wp2_with fail
    refine (ngDigitsAt (x := m) hb2 hb16 (by omega) (by omega)).mono ?_
    rintro e w5 ⟨ae, cape, rfl, re, le1, le2, hc⟩
    have c5 := c4.trans (hc.mono c4.size)
    have HD5 := Lib.hid (HD.out.below hc)
    obtain ⟨ke, hke⟩ : ∃ k, k = (ng b m).length := ⟨_, rfl⟩
    rw [← hke] at re le1 ⊢
    unfold maxLen at le2
    have HE := Lib.hid re
    clear c4 hc re hke HD
    go_wp2_with fail
    refine (ngValueAt (x := n) hb2 hb16 HD5.out (by omega) (by omega)).mono ?_
    rintro e w6 ⟨rfl, hc⟩
    have c6 := c5.trans (hc.mono c5.size)
    have HD6 := Lib.hid (HD5.out.below hc)
    have HE6 := Lib.hid (HE.out.below hc)
    obtain ⟨_, _, ht1, ht2⟩ := tmod_fix (b := 1000) (by omega) n
    obtain ⟨r, hr⟩ : ∃ r, r = n.tmod ((1000 : Nat) : Int) := ⟨_, rfl⟩
    rw [← hr] at ht1 ht2
    have hre : n.tmod 1000 = r := hr.symm
    have ht1' : -999 ≤ r := by omega
    have ht2' : r ≤ 999 := by omega
    have hp : -65169765 ≤ r * m ∧ r * m ≤ 65169765 := by
      have e1 : (r * m).natAbs = r.natAbs * m.natAbs := Int.natAbs_mul _ _
      have e2 : r.natAbs * m.natAbs ≤ 999 * 65235 := Nat.mul_le_mul (by omega) (by omega)
      omega
    have hp1 := hp.1
    have hp2 := hp.2
    clear c5 hc HD5 HE hp ht1 ht2 hr
    go_wp2_with fail
    refine (ngDigitsAt (x := r) hb2 hb16 (by omega) (by omega)).mono ?_
    rintro e w7 ⟨ar, capr, rfl, rr, lr1, lr2, hc⟩
    have c7 := c6.trans (hc.mono c6.size)
    have HD7 := Lib.hid (HD6.out.below hc)
    have HE7 := Lib.hid (HE6.out.below hc)
    have HR7 := Lib.hid rr
    clear c6 hc HD6 HE6 rr
    go_wp2_with fail
    refine (ngTimesAt (x := r) (y := m) hb2 hb16 HR7.out HE7.out (by omega) (by omega) (by omega) (by omega) (by omega) (by omega)).mono ?_
    rintro e w8 ⟨at8, capt, rfl, rt, lt1, lt2, hc⟩
    have c8 := c7.trans (hc.mono c7.size)
    have HD8 := Lib.hid (HD7.out.below hc)
    have HE8 := Lib.hid (HE7.out.below hc)
    have HT8 := Lib.hid rt
    clear c7 hc HD7 HE7 HR7 rt lr1 lr2
    go_wp2_with fail
    refine (ngValueAt (x := r * m) hb2 hb16 HT8.out (by omega) (by omega)).mono ?_
    rintro e w9 ⟨rfl, hc⟩
    have c9 := c8.trans (hc.mono c8.size)
    have HD9 := Lib.hid (HD8.out.below hc)
    have HE9 := Lib.hid (HE8.out.below hc)
    clear c8 hc HD8 HE8 HT8 lt1 lt2
    go_wp2_with fail
    refine (ngDigitsAt (x := -n) hb2 hb16 (by omega) (by omega)).mono ?_
    rintro e w10 ⟨an, capn, rfl, rn, ln1, ln2, hc⟩
    have c10 := c9.trans (hc.mono c9.size)
    have HD10 := Lib.hid (HD9.out.below hc)
    have HE10 := Lib.hid (HE9.out.below hc)
    have HN10 := Lib.hid rn
    clear c9 hc HD9 HE9 rn
    go_wp2_with fail
    have hC := ngAddAt (x := n) (y := -n) hb2 hb16 HD10.out HN10.out (by omega) (by omega) (by omega) (by omega) (by omega) (by omega)
    rw [show n + -n = 0 by omega, ng_zero] at hC
    refine hC.mono ?_
    rintro e w11 ⟨as', caps, rfl, rs, ls1, ls2, hc⟩
    have c11 := c10.trans (hc.mono c10.size)
    have HD11 := Lib.hid (HD10.out.below hc)
    have HE11 := Lib.hid (HE10.out.below hc)
    clear c10 hc HD10 HE10 HN10 rs hC ln1 ln2
    simp only [List.length_nil]
    have hq1 : (n != n) = false := by simp
    have hq2 : (r * m != r * m) = false := by simp
    go_wp2_with fail
    refine (ngOkAt (x := n) hb2 hb16 HD11.out (by omega) (by omega)).mono ?_
    rintro e w12 ⟨rfl, rfl⟩
    have hS := fun W' (hW : Below w11.heap.size w11 W') => ngSignAt (x := n) (va := .slice ad k capd) (w := W') hb2 hb16 (HD11.out.below hW) (by omega) (by omega)
    have hO := fun W' (hW : Below w11.heap.size w11 W') => ngCompareAt (x := n) (y := m) (va := .slice ad k capd) (vc := .slice ae ke cape) (w := W') hb2 hb16 (HD11.out.below hW) (HE11.out.below hW) (by omega) (by omega) (by omega) (by omega)
    have hR := fun (j : Nat) (hj : j ≤ 9) W' => ngRangeAt (j := j) (w := W') hb2 hb16 hj
    have hP := fun (j : Nat) (hj : j ≤ 9) W' => lawPower_any b j W' hb2 hb16 hj
    have HS := Lib.hid hS; have HO := Lib.hid hO; have HR := Lib.hid hR; have HP := Lib.hid hP
    clear hS hO hR hP HD11 HE11
    have C11 := Lib.hid c11
    clear c11
    go_upto_if 111 with fail
    go_cut [16] (fun s wx => ∃ z : Int, s = .int .i64 z ∧ (0 < n → z = 1) ∧ (¬ 0 < n → z = 0) ∧ wx = w11)
    case first => as_aux_lemma =>
      by_cases h : 0 < n
      · go_wp2_with fail
        go_meet
        case rel => exact ⟨1, rfl, fun _ => rfl, fun h' => absurd h (by omega), rfl⟩
      · go_wp2_with fail
        go_meet
        case rel => exact ⟨0, rfl, fun h' => absurd h' (by omega), fun _ => rfl, rfl⟩
    case rest =>
    obtain ⟨z1, rfl, hz1, hz0, rfl⟩ := hcut
    have HZ := Lib.hid (And.intro hz1 hz0)
    clear hz1 hz0
    go_upto_if 113 with fail
    go_cut [16] (fun s wx => s = .int .i64 (sgnZ n) ∧ wx = wc)
    case first => as_aux_lemma =>
      by_cases h : n < 0
      · go_wp2_with fail
        go_meet
        case rel => exact ⟨by simp [sgnZ, h], rfl⟩
      · by_cases h' : 0 < n
        · go_wp2_with fail
          go_meet
          case rel => exact ⟨by rw [HZ.out.1 h', sgnZ, if_neg (by omega), if_pos h'], rfl⟩
        · go_wp2_with fail
          go_meet
          case rel => exact ⟨by rw [HZ.out.2 (by omega), sgnZ, if_neg (by omega), if_neg (by omega)], rfl⟩
    case rest =>
    obtain ⟨rfl, rfl⟩ := hcut
    go_upto_if 116 with fail
    go_cut [17] (fun s wx => ∃ z : Int, s = .int .i64 z ∧ (n < m → z = -1) ∧ (¬ n < m → z = 0) ∧ wx = wc)
    case first => as_aux_lemma =>
      by_cases h : n < m
      · go_wp2_with fail
        go_meet
        case rel => exact ⟨-1, rfl, fun _ => rfl, fun h' => absurd h (by omega), rfl⟩
      · go_wp2_with fail
        go_meet
        case rel => exact ⟨0, rfl, fun h' => absurd h' (by omega), fun _ => rfl, rfl⟩
    case rest =>
    obtain ⟨z2, rfl, hz1, hz0, rfl⟩ := hcut
    have HZ2 := Lib.hid (And.intro hz1 hz0)
    clear hz1 hz0 HZ
    go_upto_if 119 with fail
    go_cut [17] (fun s wx => s = .int .i64 (cmpI n m) ∧ wx = wc)
    case first => as_aux_lemma =>
      by_cases h : m < n
      · go_wp2_with fail
        go_meet
        case rel => exact ⟨by rw [cmpI_gt h], rfl⟩
      · by_cases h' : n < m
        · go_wp2_with fail
          go_meet
          case rel => exact ⟨by rw [HZ2.out.1 h', cmpI_lt h'], rfl⟩
        · go_wp2_with fail
          go_meet
          case rel => exact ⟨by rw [HZ2.out.2 (by omega), cmpI, if_neg (by omega), if_neg (by omega)], rfl⟩
    case rest =>
    obtain ⟨rfl, rfl⟩ := hcut
    clear HZ2
    have hsg : (0 < n ∧ 0 < k) ∨ (n < 0 ∧ 0 < k) ∨ (n = 0 ∧ k = 0) := by
      have h0 : n ≠ 0 → 0 < k := fun h => by rw [HK.out, ng_step hb2 h]; simp
      rcases Int.lt_trichotomy n 0 with h | h | h
      · exact .inr (.inl ⟨h, h0 (by omega)⟩)
      · exact .inr (.inr ⟨h, by rw [HK.out, h, ng_zero]; rfl⟩)
      · exact .inl ⟨h, h0 (by omega)⟩
    obtain ⟨sg, hsgn⟩ : ∃ s, s = sgnZ n := ⟨_, rfl⟩
    obtain ⟨od, hord⟩ : ∃ s, s = cmpI n m := ⟨_, rfl⟩
    rw [← hsgn] at HS ⊢
    rw [← hord] at HO ⊢
    clear hsgn hord
    rcases hsg with ⟨hs1, hs3⟩ | ⟨hs1, hs3⟩ | ⟨hs1, hs3⟩
    · have hkc : k = 1 ∨ (2 ≤ k ∧ k ≤ 9) ∨ 9 < k := by omega
      rcases hkc with hk | hk | hk
      · as_aux_lemma =>
        have r1 := fun W' => HR.out 1 (by omega) W'
        have r2 := fun W' => HR.out 0 (by omega) W'
        have r3 := fun W' => HP.out 1 (by omega) W'
        rw [show ((1 : Nat) : Int) = (k : Int) by omega] at r1 r3
        rw [show ((0 : Nat) : Int) = 0 by omega] at r2
        obtain ⟨g1, g2⟩ := rng_pred b hb2 1
        rw [show (1 : Nat) - 1 = 0 from rfl] at g1 g2
        have g3 := rng_size b 1
        obtain ⟨g4, g5⟩ := rng_bound hb2 hb16 (show 1 ≤ 9 by omega)
        obtain ⟨g6, g7⟩ := rng_sign b hb2 1
        obtain ⟨g8, g9⟩ := rng_sign b hb2 0
        obtain ⟨g10, g11⟩ := (HSB.out 1).1 (by omega)
        have g12 : ¬ (rlo b 0 ≤ n ∧ n ≤ rhi b 0) := fun h => by have := (HSB.out 0).2 h; omega
        obtain ⟨lo1, e1⟩ : ∃ x, x = rlo b 1 := ⟨_, rfl⟩
        obtain ⟨hi1, e2⟩ : ∃ x, x = rhi b 1 := ⟨_, rfl⟩
        try rw [← e1] at g1
        try rw [← e1] at g3
        try rw [← e1] at g4
        try rw [← e1] at g6
        try rw [← e1] at r1
        try rw [← e1] at g10
        try rw [← e2] at g2
        try rw [← e2] at g3
        try rw [← e2] at g5
        try rw [← e2] at g7
        try rw [← e2] at r1
        try rw [← e2] at g11
        obtain ⟨lo2, e3⟩ : ∃ x, x = rlo b 0 := ⟨_, rfl⟩
        obtain ⟨hi2, e4⟩ : ∃ x, x = rhi b 0 := ⟨_, rfl⟩
        try rw [← e3] at g1
        try rw [← e3] at g8
        try rw [← e3] at r2
        try rw [← e3] at g12
        try rw [← e4] at g2
        try rw [← e4] at g9
        try rw [← e4] at r2
        try rw [← e4] at g12
        obtain ⟨pp, e5⟩ : ∃ x, x = (b : Int) ^ 1 := ⟨_, rfl⟩
        rw [← e5] at g3 r3
        have R1 := Lib.hid r1; have R2 := Lib.hid r2; have R3 := Lib.hid r3
        have hk1 : ¬ (9 : Int) < k := by omega
        have hk2 : ((k : Int) == 0) = false := by simp; omega
        have t1 : ¬ n < lo2 := by omega
        have t2 : hi2 < n := by omega
        have hk3 : ¬ (0 : Int) < (k : Int) - 1 := by omega
        have hg3 : (hi1 - lo1 + 1 == pp) = true := by simp [g3]
        clear r1 r2 r3 e1 e2 e5 e3 e4
        clear hk hs3
        go_wp2_with fail
        refine (R1.out _).mono ?_
        rintro e wa ⟨rfl, hca⟩
        go_wp2_with fail
        refine (R2.out _).mono ?_
        rintro e wb ⟨rfl, hcb⟩
        have hab := hca.trans (hcb.mono hca.size)
        have HAB := Lib.hid hab
        clear hca hcb hab
        go_wp2_with fail
        refine (HS.out _ HAB.out).mono ?_
        rintro e wc ⟨rfl, hcc⟩
        have HAC := Lib.hid (HAB.out.trans (hcc.mono HAB.out.size))
        clear hcc HAB
        go_wp2_with fail
        refine (HO.out _ HAC.out).mono ?_
        rintro e wd ⟨rfl, hcd⟩
        have HAD := Lib.hid (HAC.out.trans (hcd.mono HAC.out.size))
        clear hcd HAC
        go_wp2_with fail
        refine (R3.out _).mono ?_
        rintro e we ⟨rfl, rfl⟩
        go_wp2_with fail
        go_ret
        exact ⟨rfl, C11.out.trans (HAD.out.mono C11.out.size)⟩
      · as_aux_lemma =>
        have r1 := fun W' => HR.out k (by omega) W'
        have r2 := fun W' => HR.out (k - 1) (by omega) W'
        have r3 := fun W' => HP.out k (by omega) W'
        rw [show ((k : Nat) : Int) = (k : Int) by omega] at r1 r3
        rw [show (((k - 1) : Nat) : Int) = ((k : Int) - 1) by omega] at r2
        obtain ⟨g1, g2⟩ := rng_pred b hb2 k
        have g3 := rng_size b k
        obtain ⟨g4, g5⟩ := rng_bound hb2 hb16 (show k ≤ 9 by omega)
        obtain ⟨g6, g7⟩ := rng_sign b hb2 k
        obtain ⟨g8, g9⟩ := rng_sign b hb2 (k - 1)
        obtain ⟨g10, g11⟩ := (HSB.out k).1 (by omega)
        have g12 : ¬ (rlo b (k - 1) ≤ n ∧ n ≤ rhi b (k - 1)) := fun h => by have := (HSB.out (k - 1)).2 h; omega
        obtain ⟨lo1, e1⟩ : ∃ x, x = rlo b k := ⟨_, rfl⟩
        obtain ⟨hi1, e2⟩ : ∃ x, x = rhi b k := ⟨_, rfl⟩
        try rw [← e1] at g1
        try rw [← e1] at g3
        try rw [← e1] at g4
        try rw [← e1] at g6
        try rw [← e1] at r1
        try rw [← e1] at g10
        try rw [← e2] at g2
        try rw [← e2] at g3
        try rw [← e2] at g5
        try rw [← e2] at g7
        try rw [← e2] at r1
        try rw [← e2] at g11
        obtain ⟨lo2, e3⟩ : ∃ x, x = rlo b (k - 1) := ⟨_, rfl⟩
        obtain ⟨hi2, e4⟩ : ∃ x, x = rhi b (k - 1) := ⟨_, rfl⟩
        try rw [← e3] at g1
        try rw [← e3] at g8
        try rw [← e3] at r2
        try rw [← e3] at g12
        try rw [← e4] at g2
        try rw [← e4] at g9
        try rw [← e4] at r2
        try rw [← e4] at g12
        obtain ⟨pp, e5⟩ : ∃ x, x = (b : Int) ^ k := ⟨_, rfl⟩
        rw [← e5] at g3 r3
        have R1 := Lib.hid r1; have R2 := Lib.hid r2; have R3 := Lib.hid r3
        have hk1 : ¬ (9 : Int) < k := by omega
        have hk2 : ((k : Int) == 0) = false := by simp; omega
        have t1 : ¬ n < lo2 := by omega
        have t2 : hi2 < n := by omega
        have hk3 : (0 : Int) < (k : Int) - 1 := by omega
        have hg3 : (hi1 - lo1 + 1 == pp) = true := by simp [g3]
        clear r1 r2 r3 e1 e2 e5 e3 e4
        go_wp2_with fail
        refine (R1.out _).mono ?_
        rintro e wa ⟨rfl, hca⟩
        go_wp2_with fail
        refine (R2.out _).mono ?_
        rintro e wb ⟨rfl, hcb⟩
        have hab := hca.trans (hcb.mono hca.size)
        have HAB := Lib.hid hab
        clear hca hcb hab
        go_wp2_with fail
        refine (HS.out _ HAB.out).mono ?_
        rintro e wc ⟨rfl, hcc⟩
        have HAC := Lib.hid (HAB.out.trans (hcc.mono HAB.out.size))
        clear hcc HAB
        go_wp2_with fail
        refine (HO.out _ HAC.out).mono ?_
        rintro e wd ⟨rfl, hcd⟩
        have HAD := Lib.hid (HAC.out.trans (hcd.mono HAC.out.size))
        clear hcd HAC
        go_wp2_with fail
        refine (R3.out _).mono ?_
        rintro e we ⟨rfl, rfl⟩
        go_wp2_with fail
        go_ret
        exact ⟨rfl, C11.out.trans (HAD.out.mono C11.out.size)⟩
      · as_aux_lemma =>
        have r1 := fun W' => HR.out 9 (by omega) W'
        have r2 := fun W' => HR.out 8 (by omega) W'
        have r3 := fun W' => HP.out 9 (by omega) W'
        rw [show ((9 : Nat) : Int) = 9 by omega] at r1 r3
        rw [show ((8 : Nat) : Int) = 8 by omega] at r2
        obtain ⟨g1, g2⟩ := rng_pred b hb2 9
        rw [show (9 : Nat) - 1 = 8 from rfl] at g1 g2
        have g3 := rng_size b 9
        obtain ⟨g4, g5⟩ := rng_bound hb2 hb16 (show 9 ≤ 9 by omega)
        obtain ⟨g6, g7⟩ := rng_sign b hb2 9
        obtain ⟨g8, g9⟩ := rng_sign b hb2 8
        obtain ⟨lo1, e1⟩ : ∃ x, x = rlo b 9 := ⟨_, rfl⟩
        obtain ⟨hi1, e2⟩ : ∃ x, x = rhi b 9 := ⟨_, rfl⟩
        try rw [← e1] at g1
        try rw [← e1] at g3
        try rw [← e1] at g4
        try rw [← e1] at g6
        try rw [← e1] at r1
        try rw [← e2] at g2
        try rw [← e2] at g3
        try rw [← e2] at g5
        try rw [← e2] at g7
        try rw [← e2] at r1
        obtain ⟨lo2, e3⟩ : ∃ x, x = rlo b 8 := ⟨_, rfl⟩
        obtain ⟨hi2, e4⟩ : ∃ x, x = rhi b 8 := ⟨_, rfl⟩
        try rw [← e3] at g1
        try rw [← e3] at g8
        try rw [← e3] at r2
        try rw [← e4] at g2
        try rw [← e4] at g9
        try rw [← e4] at r2
        obtain ⟨pp, e5⟩ : ∃ x, x = (b : Int) ^ 9 := ⟨_, rfl⟩
        rw [← e5] at g3 r3
        have R1 := Lib.hid r1; have R2 := Lib.hid r2; have R3 := Lib.hid r3
        have hk1 : (9 : Int) < k := by omega
        have hk2 : ((k : Int) == 0) = false := by simp; omega
        have hg3 : (hi1 - lo1 + 1 == pp) = true := by simp [g3]
        clear r1 r2 r3 e1 e2 e5 e3 e4
        go_wp2_with fail
        refine (R1.out _).mono ?_
        rintro e wa ⟨rfl, hca⟩
        go_wp2_with fail
        refine (R2.out _).mono ?_
        rintro e wb ⟨rfl, hcb⟩
        have hab := hca.trans (hcb.mono hca.size)
        have HAB := Lib.hid hab
        clear hca hcb hab
        go_wp2_with fail
        refine (HS.out _ HAB.out).mono ?_
        rintro e wc ⟨rfl, hcc⟩
        have HAC := Lib.hid (HAB.out.trans (hcc.mono HAB.out.size))
        clear hcc HAB
        go_wp2_with fail
        refine (HO.out _ HAC.out).mono ?_
        rintro e wd ⟨rfl, hcd⟩
        have HAD := Lib.hid (HAC.out.trans (hcd.mono HAC.out.size))
        clear hcd HAC
        go_wp2_with fail
        refine (R3.out _).mono ?_
        rintro e we ⟨rfl, rfl⟩
        go_wp2_with fail
        go_ret
        exact ⟨rfl, C11.out.trans (HAD.out.mono C11.out.size)⟩
    · have hkc : k = 1 ∨ (2 ≤ k ∧ k ≤ 9) ∨ 9 < k := by omega
      rcases hkc with hk | hk | hk
      · as_aux_lemma =>
        have r1 := fun W' => HR.out 1 (by omega) W'
        have r2 := fun W' => HR.out 0 (by omega) W'
        have r3 := fun W' => HP.out 1 (by omega) W'
        rw [show ((1 : Nat) : Int) = (k : Int) by omega] at r1 r3
        rw [show ((0 : Nat) : Int) = 0 by omega] at r2
        obtain ⟨g1, g2⟩ := rng_pred b hb2 1
        rw [show (1 : Nat) - 1 = 0 from rfl] at g1 g2
        have g3 := rng_size b 1
        obtain ⟨g4, g5⟩ := rng_bound hb2 hb16 (show 1 ≤ 9 by omega)
        obtain ⟨g6, g7⟩ := rng_sign b hb2 1
        obtain ⟨g8, g9⟩ := rng_sign b hb2 0
        obtain ⟨g10, g11⟩ := (HSB.out 1).1 (by omega)
        have g12 : ¬ (rlo b 0 ≤ n ∧ n ≤ rhi b 0) := fun h => by have := (HSB.out 0).2 h; omega
        obtain ⟨lo1, e1⟩ : ∃ x, x = rlo b 1 := ⟨_, rfl⟩
        obtain ⟨hi1, e2⟩ : ∃ x, x = rhi b 1 := ⟨_, rfl⟩
        try rw [← e1] at g1
        try rw [← e1] at g3
        try rw [← e1] at g4
        try rw [← e1] at g6
        try rw [← e1] at r1
        try rw [← e1] at g10
        try rw [← e2] at g2
        try rw [← e2] at g3
        try rw [← e2] at g5
        try rw [← e2] at g7
        try rw [← e2] at r1
        try rw [← e2] at g11
        obtain ⟨lo2, e3⟩ : ∃ x, x = rlo b 0 := ⟨_, rfl⟩
        obtain ⟨hi2, e4⟩ : ∃ x, x = rhi b 0 := ⟨_, rfl⟩
        try rw [← e3] at g1
        try rw [← e3] at g8
        try rw [← e3] at r2
        try rw [← e3] at g12
        try rw [← e4] at g2
        try rw [← e4] at g9
        try rw [← e4] at r2
        try rw [← e4] at g12
        obtain ⟨pp, e5⟩ : ∃ x, x = (b : Int) ^ 1 := ⟨_, rfl⟩
        rw [← e5] at g3 r3
        have R1 := Lib.hid r1; have R2 := Lib.hid r2; have R3 := Lib.hid r3
        have hk1 : ¬ (9 : Int) < k := by omega
        have hk2 : ((k : Int) == 0) = false := by simp; omega
        have t1 : n < lo2 := by omega
        have hk3 : ¬ (0 : Int) < (k : Int) - 1 := by omega
        have hg3 : (hi1 - lo1 + 1 == pp) = true := by simp [g3]
        clear r1 r2 r3 e1 e2 e5 e3 e4
        clear hk hs3
        go_wp2_with fail
        refine (R1.out _).mono ?_
        rintro e wa ⟨rfl, hca⟩
        go_wp2_with fail
        refine (R2.out _).mono ?_
        rintro e wb ⟨rfl, hcb⟩
        have hab := hca.trans (hcb.mono hca.size)
        have HAB := Lib.hid hab
        clear hca hcb hab
        go_wp2_with fail
        refine (HS.out _ HAB.out).mono ?_
        rintro e wc ⟨rfl, hcc⟩
        have HAC := Lib.hid (HAB.out.trans (hcc.mono HAB.out.size))
        clear hcc HAB
        go_wp2_with fail
        refine (HO.out _ HAC.out).mono ?_
        rintro e wd ⟨rfl, hcd⟩
        have HAD := Lib.hid (HAC.out.trans (hcd.mono HAC.out.size))
        clear hcd HAC
        go_wp2_with fail
        refine (R3.out _).mono ?_
        rintro e we ⟨rfl, rfl⟩
        go_wp2_with fail
        go_ret
        exact ⟨rfl, C11.out.trans (HAD.out.mono C11.out.size)⟩
      · as_aux_lemma =>
        have r1 := fun W' => HR.out k (by omega) W'
        have r2 := fun W' => HR.out (k - 1) (by omega) W'
        have r3 := fun W' => HP.out k (by omega) W'
        rw [show ((k : Nat) : Int) = (k : Int) by omega] at r1 r3
        rw [show (((k - 1) : Nat) : Int) = ((k : Int) - 1) by omega] at r2
        obtain ⟨g1, g2⟩ := rng_pred b hb2 k
        have g3 := rng_size b k
        obtain ⟨g4, g5⟩ := rng_bound hb2 hb16 (show k ≤ 9 by omega)
        obtain ⟨g6, g7⟩ := rng_sign b hb2 k
        obtain ⟨g8, g9⟩ := rng_sign b hb2 (k - 1)
        obtain ⟨g10, g11⟩ := (HSB.out k).1 (by omega)
        have g12 : ¬ (rlo b (k - 1) ≤ n ∧ n ≤ rhi b (k - 1)) := fun h => by have := (HSB.out (k - 1)).2 h; omega
        obtain ⟨lo1, e1⟩ : ∃ x, x = rlo b k := ⟨_, rfl⟩
        obtain ⟨hi1, e2⟩ : ∃ x, x = rhi b k := ⟨_, rfl⟩
        try rw [← e1] at g1
        try rw [← e1] at g3
        try rw [← e1] at g4
        try rw [← e1] at g6
        try rw [← e1] at r1
        try rw [← e1] at g10
        try rw [← e2] at g2
        try rw [← e2] at g3
        try rw [← e2] at g5
        try rw [← e2] at g7
        try rw [← e2] at r1
        try rw [← e2] at g11
        obtain ⟨lo2, e3⟩ : ∃ x, x = rlo b (k - 1) := ⟨_, rfl⟩
        obtain ⟨hi2, e4⟩ : ∃ x, x = rhi b (k - 1) := ⟨_, rfl⟩
        try rw [← e3] at g1
        try rw [← e3] at g8
        try rw [← e3] at r2
        try rw [← e3] at g12
        try rw [← e4] at g2
        try rw [← e4] at g9
        try rw [← e4] at r2
        try rw [← e4] at g12
        obtain ⟨pp, e5⟩ : ∃ x, x = (b : Int) ^ k := ⟨_, rfl⟩
        rw [← e5] at g3 r3
        have R1 := Lib.hid r1; have R2 := Lib.hid r2; have R3 := Lib.hid r3
        have hk1 : ¬ (9 : Int) < k := by omega
        have hk2 : ((k : Int) == 0) = false := by simp; omega
        have t1 : n < lo2 := by omega
        have hk3 : (0 : Int) < (k : Int) - 1 := by omega
        have hg3 : (hi1 - lo1 + 1 == pp) = true := by simp [g3]
        clear r1 r2 r3 e1 e2 e5 e3 e4
        go_wp2_with fail
        refine (R1.out _).mono ?_
        rintro e wa ⟨rfl, hca⟩
        go_wp2_with fail
        refine (R2.out _).mono ?_
        rintro e wb ⟨rfl, hcb⟩
        have hab := hca.trans (hcb.mono hca.size)
        have HAB := Lib.hid hab
        clear hca hcb hab
        go_wp2_with fail
        refine (HS.out _ HAB.out).mono ?_
        rintro e wc ⟨rfl, hcc⟩
        have HAC := Lib.hid (HAB.out.trans (hcc.mono HAB.out.size))
        clear hcc HAB
        go_wp2_with fail
        refine (HO.out _ HAC.out).mono ?_
        rintro e wd ⟨rfl, hcd⟩
        have HAD := Lib.hid (HAC.out.trans (hcd.mono HAC.out.size))
        clear hcd HAC
        go_wp2_with fail
        refine (R3.out _).mono ?_
        rintro e we ⟨rfl, rfl⟩
        go_wp2_with fail
        go_ret
        exact ⟨rfl, C11.out.trans (HAD.out.mono C11.out.size)⟩
      · as_aux_lemma =>
        have r1 := fun W' => HR.out 9 (by omega) W'
        have r2 := fun W' => HR.out 8 (by omega) W'
        have r3 := fun W' => HP.out 9 (by omega) W'
        rw [show ((9 : Nat) : Int) = 9 by omega] at r1 r3
        rw [show ((8 : Nat) : Int) = 8 by omega] at r2
        obtain ⟨g1, g2⟩ := rng_pred b hb2 9
        rw [show (9 : Nat) - 1 = 8 from rfl] at g1 g2
        have g3 := rng_size b 9
        obtain ⟨g4, g5⟩ := rng_bound hb2 hb16 (show 9 ≤ 9 by omega)
        obtain ⟨g6, g7⟩ := rng_sign b hb2 9
        obtain ⟨g8, g9⟩ := rng_sign b hb2 8
        obtain ⟨lo1, e1⟩ : ∃ x, x = rlo b 9 := ⟨_, rfl⟩
        obtain ⟨hi1, e2⟩ : ∃ x, x = rhi b 9 := ⟨_, rfl⟩
        try rw [← e1] at g1
        try rw [← e1] at g3
        try rw [← e1] at g4
        try rw [← e1] at g6
        try rw [← e1] at r1
        try rw [← e2] at g2
        try rw [← e2] at g3
        try rw [← e2] at g5
        try rw [← e2] at g7
        try rw [← e2] at r1
        obtain ⟨lo2, e3⟩ : ∃ x, x = rlo b 8 := ⟨_, rfl⟩
        obtain ⟨hi2, e4⟩ : ∃ x, x = rhi b 8 := ⟨_, rfl⟩
        try rw [← e3] at g1
        try rw [← e3] at g8
        try rw [← e3] at r2
        try rw [← e4] at g2
        try rw [← e4] at g9
        try rw [← e4] at r2
        obtain ⟨pp, e5⟩ : ∃ x, x = (b : Int) ^ 9 := ⟨_, rfl⟩
        rw [← e5] at g3 r3
        have R1 := Lib.hid r1; have R2 := Lib.hid r2; have R3 := Lib.hid r3
        have hk1 : (9 : Int) < k := by omega
        have hk2 : ((k : Int) == 0) = false := by simp; omega
        have hg3 : (hi1 - lo1 + 1 == pp) = true := by simp [g3]
        clear r1 r2 r3 e1 e2 e5 e3 e4
        go_wp2_with fail
        refine (R1.out _).mono ?_
        rintro e wa ⟨rfl, hca⟩
        go_wp2_with fail
        refine (R2.out _).mono ?_
        rintro e wb ⟨rfl, hcb⟩
        have hab := hca.trans (hcb.mono hca.size)
        have HAB := Lib.hid hab
        clear hca hcb hab
        go_wp2_with fail
        refine (HS.out _ HAB.out).mono ?_
        rintro e wc ⟨rfl, hcc⟩
        have HAC := Lib.hid (HAB.out.trans (hcc.mono HAB.out.size))
        clear hcc HAB
        go_wp2_with fail
        refine (HO.out _ HAC.out).mono ?_
        rintro e wd ⟨rfl, hcd⟩
        have HAD := Lib.hid (HAC.out.trans (hcd.mono HAC.out.size))
        clear hcd HAC
        go_wp2_with fail
        refine (R3.out _).mono ?_
        rintro e we ⟨rfl, rfl⟩
        go_wp2_with fail
        go_ret
        exact ⟨rfl, C11.out.trans (HAD.out.mono C11.out.size)⟩
    · as_aux_lemma =>
      have r1 := fun W' => HR.out 0 (by omega) W'
      have r2 := fun W' => HR.out 0 (by omega) W'
      have r3 := fun W' => HP.out 0 (by omega) W'
      rw [show ((0 : Nat) : Int) = (k : Int) by omega] at r1 r3
      rw [show ((0 : Nat) : Int) = 0 by omega] at r2
      obtain ⟨g1, g2⟩ := rng_pred b hb2 0
      rw [show (0 : Nat) - 1 = 0 from rfl] at g1 g2
      have g3 := rng_size b 0
      obtain ⟨g4, g5⟩ := rng_bound hb2 hb16 (show 0 ≤ 9 by omega)
      obtain ⟨g6, g7⟩ := rng_sign b hb2 0
      obtain ⟨g8, g9⟩ := rng_sign b hb2 0
      obtain ⟨g10, g11⟩ := (HSB.out 0).1 (by omega)
      obtain ⟨lo1, e1⟩ : ∃ x, x = rlo b 0 := ⟨_, rfl⟩
      obtain ⟨hi1, e2⟩ : ∃ x, x = rhi b 0 := ⟨_, rfl⟩
      try rw [← e1] at g1
      try rw [← e1] at g3
      try rw [← e1] at g4
      try rw [← e1] at g6
      try rw [← e1] at r1
      try rw [← e1] at g10
      try rw [← e2] at g2
      try rw [← e2] at g3
      try rw [← e2] at g5
      try rw [← e2] at g7
      try rw [← e2] at r1
      try rw [← e2] at g11
      try rw [← e1] at r2 g1 g8
      try rw [← e2] at r2 g2 g9
      obtain ⟨pp, e5⟩ : ∃ x, x = (b : Int) ^ 0 := ⟨_, rfl⟩
      rw [← e5] at g3 r3
      have R1 := Lib.hid r1; have R2 := Lib.hid r2; have R3 := Lib.hid r3
      have hk1 : ¬ (9 : Int) < k := by omega
      have hk2 : ((k : Int) == 0) = true := by simp; omega
      have hk3 : ¬ (0 : Int) < (k : Int) - 1 := by omega
      have hg3 : (hi1 - lo1 + 1 == pp) = true := by simp [g3]
      clear r1 r2 r3 e1 e2 e5
      have hs4 : ¬ 0 < n := by omega
      have hs5 : ¬ n < 0 := by omega
      clear hs1 hs3
      go_wp2_with fail
      refine (R1.out _).mono ?_
      rintro e wa ⟨rfl, hca⟩
      go_wp2_with fail
      refine (R2.out _).mono ?_
      rintro e wb ⟨rfl, hcb⟩
      have hab := hca.trans (hcb.mono hca.size)
      have HAB := Lib.hid hab
      clear hca hcb hab
      go_wp2_with fail
      refine (HS.out _ HAB.out).mono ?_
      rintro e wc ⟨rfl, hcc⟩
      have HAC := Lib.hid (HAB.out.trans (hcc.mono HAB.out.size))
      clear hcc HAB
      go_wp2_with fail
      refine (HO.out _ HAC.out).mono ?_
      rintro e wd ⟨rfl, hcd⟩
      have HAD := Lib.hid (HAC.out.trans (hcd.mono HAC.out.size))
      clear hcd HAC
      go_wp2_with fail
      refine (R3.out _).mono ?_
      rintro e we ⟨rfl, rfl⟩
      go_wp2_with fail
      go_ret
      exact ⟨rfl, C11.out.trans (HAD.out.mono C11.out.size)⟩

end Go.Proofs.Ytdflpocnfodbhaa
