/- The law on signed digits: sparse digits have the least weight, carries lead to them, and lists are counted. -/
import Derived.Test.YtiemhhkoegkleaaDgDraw
import Derived.Test.YtiemhhkoegkleaaSgAt
set_option linter.unusedVariables false
set_option linter.unusedSimpArgs false
set_option maxRecDepth 100000
namespace Go.Proofs.Ytiemhhkoegkleaa
open Go.ChangeShapes Go.WideShapes Go.ChangeAt Go.RowKit

set_option maxRecDepth 100000 in
set_option maxHeartbeats 16000000 in
theorem lawSigned (W : World) (a : Option Addr) (len cap : Nat) (zs : List Int) (hz : IsRow .u8 W a len cap zs) :
    Calls Try.prog 4 #[.slice a len cap] W fun e w' => e = .returned (.bool true) ∧ Below W.heap.size W w' := by
  have hv := bytesAt_of hz
  have HV := Lib.hid hv
  have hlen : len ≤ 9223372036854775807 := by
    obtain ⟨_, n, c, zs', e, h1, h2, _⟩ := hv
    injection e with _ e1 _
    unfold maxLen at h2; omega
  clear hz hv
  by_cases hbig : 1048576 < len
  · go_enter Try.func4, Try.ntmps4
    go_wp2
    go_ret
    exact ⟨rfl, Below.refl _ _⟩
  · go_enter Try.func4, Try.ntmps4
    go_wp2_with fail
    refine (makeSigned_any _ 0 _ HV.out (by omega)).mono ?_
    rintro e w1 ⟨l, vl, hS, rfl, hrl, c1⟩
    have HS := Lib.hid hS
    have HL1 := Lib.hid hrl
    have hl60 := hS.2.1
    have hn1 := hS.2.2.1
    have hn2 := hS.2.2.2
    obtain ⟨n, hn⟩ : ∃ n, n = sv l := ⟨_, rfl⟩
    have HN := Lib.hid hn
    rw [← hn] at hn1 hn2
    obtain ⟨al, cl, rfl, hcl1, hcl2, _⟩ := hrl.ints
    obtain ⟨kl, hkl⟩ : ∃ k, k = l.length := ⟨_, rfl⟩
    rw [← hkl] at HL1 hcl1 hl60 ⊢
    unfold maxLen at hcl2
    clear hS hrl hn hkl
    go_wp2_with fail
    refine (sgValueAt (n := n) HS.out HN.out.symm HL1.out).mono ?_
    rintro e w2 ⟨rfl, hc⟩
    have c2 := c1.trans (hc.mono c1.size)
    have HL2 := Lib.hid (HL1.out.below hc)
    clear c1 hc HL1
    go_wp2_with fail
    refine (sgRewriteAt (n := n) HS.out HN.out.symm HL2.out).mono ?_
    rintro e w3 ⟨ar, cr, rfl, rr, lr1, lr2, hc⟩
    have c3 := c2.trans (hc.mono c2.size)
    have HL3 := Lib.hid (HL2.out.below hc)
    have LN := Lib.hid (spd_len42 hn1 hn2)
    obtain ⟨kr, hkr⟩ : ∃ k, k = (spd n).length := ⟨_, rfl⟩
    rw [← hkr] at rr lr1 ⊢
    have HKR := Lib.hid hkr
    have hkr42 : kr ≤ 42 := by rw [hkr]; exact LN.out
    unfold maxLen at lr2
    have HR3 := Lib.hid rr
    clear c2 hc HL2 rr hkr
    go_wp2_with fail
    refine (sgOkAt HS.out HL3.out).mono ?_
    rintro e w4 ⟨rfl, hc⟩
    have c4 := c3.trans (hc.mono c3.size)
    have HL4 := Lib.hid (HL3.out.below hc)
    have HR4 := Lib.hid (HR3.out.below hc)
    clear c3 hc HL3 HR3
    go_wp2_with fail
    refine (sgSparseAt (n := n) hn1 hn2).mono ?_
    rintro e w5 ⟨as', cs, rfl, rs, ls1, ls2, hc⟩
    have c5 := c4.trans (hc.mono c4.size)
    have HL5 := Lib.hid (HL4.out.below hc)
    have HR5 := Lib.hid (HR4.out.below hc)
    rw [← HKR.out] at rs ls1 ⊢
    unfold maxLen at ls2
    have HS5 := Lib.hid rs
    clear c4 hc HL4 HR4 rs
    go_wp2_with fail
    refine (same_any _ _ (spd n) (spd n) _ HR5.out HS5.out (by have := LN.out; omega) (by have := LN.out; omega) rfl).mono ?_
    rintro e w' ⟨rfl, rfl⟩
    clear HS5 ls1 ls2
    go_wp2_with fail
    refine (sgIsSparseAt (n := n) hn1 hn2 HR5.out).mono ?_
    rintro e w6 ⟨rfl, hc⟩
    have c6 := c5.trans (hc.mono c5.size)
    have HL6 := Lib.hid (HL5.out.below hc)
    have HR6 := Lib.hid (HR5.out.below hc)
    clear c5 hc HL5 HR5
    have hwl : wn n ≤ wt l := by rw [HN.out]; exact wn_least HS.out.1.1
    have hwb : wt l ≤ 60 := Nat.le_trans (wt_le l) HS.out.2.1
    have HWW := Lib.hid (show wt (spd n) = wn n from rfl)
    obtain ⟨q, hq⟩ : ∃ q, q = wt l := ⟨_, rfl⟩
    obtain ⟨r, hr⟩ : ∃ r, r = wn n := ⟨_, rfl⟩
    have HQ := Lib.hid hq; have HRR := Lib.hid hr
    rw [← hq, ← hr] at hwl
    rw [← hq] at hwb
    have hc0 := sgWeightAt (w := w6) HS.out HL6.out
    rw [← hq] at hc0
    have HC0 := Lib.hid hc0
    have HLW := Lib.hid (fun W' => sgLeastAt (n := n) (w := W') hn1 hn2)
    rw [← hr] at HLW
    clear hq hr hc0
    go_wp2_with fail
    refine HC0.out.mono ?_
    rintro e w7 ⟨rfl, hc⟩
    have c7 := c6.trans (hc.mono c6.size)
    have HR7 := Lib.hid (HR6.out.below hc)
    clear c6 hc HR6 HL6 HC0
    go_wp2_with fail
    refine (HLW.out _).mono ?_
    rintro e w8 ⟨rfl, hc⟩
    have c8 := c7.trans (hc.mono c7.size)
    have HR8 := Lib.hid (HR7.out.below hc)
    clear c7 hc HR7
    have hlt1 : ¬ (q : Int) < r := by omega
    have hc0 := sgWeightAt (w := w8) (sgOk_sp (n := n) hn1 hn2) HR8.out
    rw [HWW.out, ← HRR.out] at hc0
    have HC0 := Lib.hid hc0
    have hrr : ((r : Int) != r) = false := by simp
    clear hc0
    go_wp2_with fail
    refine HC0.out.mono ?_
    rintro e w9 ⟨rfl, hc⟩
    have c9 := c8.trans (hc.mono c8.size)
    have HR9 := Lib.hid (HR8.out.below hc)
    clear c8 hc HR8 HC0
    go_wp2_with fail
    refine (HLW.out _).mono ?_
    rintro e w10 ⟨rfl, hc⟩
    have c10 := c9.trans (hc.mono c9.size)
    have HR10 := Lib.hid (HR9.out.below hc)
    clear c9 hc HR9
    go_wp2_with fail
    refine (sgValueAt (n := n) (sgOk_sp (n := n) hn1 hn2) (sv_sp n) HR10.out).mono ?_
    rintro e w11 ⟨rfl, hc⟩
    have c11 := c10.trans (hc.mono c10.size)
    have hnn : (n != n) = false := by simp
    clear c10 hc HR10 hlt1 hrr
    go_wp2_with fail
    refine (lawNum_any _ 40 _ (HV.out.below c11) (by omega)).mono ?_
    rintro e w12 ⟨m0, ⟨hm0, hm1⟩, rfl, hc⟩
    have c12 := c11.trans (hc.mono c11.size)
    obtain ⟨s, hs⟩ : ∃ s, s = m0.tmod 200 := ⟨_, rfl⟩
    have hs0 : 0 ≤ s ∧ s ≤ 199 := by rw [hs, Int.tmod_eq_emod_of_nonneg hm0]; omega
    have hse : m0.tmod 200 = s := hs.symm
    obtain ⟨m, hm⟩ : ∃ m, m = s - 100 := ⟨_, rfl⟩
    have hme : s - 100 = m := hm.symm
    have hm2 : -100 ≤ m := by omega
    have hm3 : m ≤ 99 := by omega
    have hs1 := hs0.1; have hs2 := hs0.2
    clear c11 hc hs hs0 hm hnn
    go_wp2_with fail
    clear hse hme hs1 hs2 hm0 hm1
    have hwh := wt_half (spr_sp m)
    have hpl : (spd m).length ≤ 9 := by have := spd_len 7 m (by omega); simpa using this
    have hwr : wt (spd m) = wn m := rfl
    rw [hwr] at hwh
    have hlm := fun W' => sgLeastAt (n := m) (w := W') (by omega) (by omega)
    have hcge := cnt_sp m
    have hcless := fun (u : Nat) (hu : u < wn m) (p : Nat) => cnt_less (n := m) (w := (u : Int)) (p := p) (by omega)
    have hcn := fun (p u : Nat) => cnt_neg p m u
    have hcle := cnt_le m (spd m).length (wn m)
    have HCT := Lib.hid (fun (p u : Nat) (hp : p ≤ 12) (hu : u ≤ 12) W' => sgCountAt (n := m) (p := p) (u := u) (w := W') (by omega) (by omega) hp hu)
    have HCTN := Lib.hid (fun (p u : Nat) (hp : p ≤ 12) (hu : u ≤ 12) W' => sgCountAt (n := -m) (p := p) (u := u) (w := W') (by omega) (by omega) hp hu)
    obtain ⟨t, ht⟩ : ∃ t, t = wn m := ⟨_, rfl⟩
    obtain ⟨km, hkm⟩ : ∃ k, k = (spd m).length := ⟨_, rfl⟩
    rw [← ht] at hwh hlm hcge hcless hcle
    rw [← hkm] at hwh hpl hcge hcle
    have ht5 : t ≤ 5 := by omega
    obtain ⟨C, hC⟩ : ∃ C, C = cnt m km t := ⟨_, rfl⟩
    have hC1 : 1 ≤ C := by rw [hC]; exact hcge
    have hC2 : C ≤ 19683 := by rw [hC]; exact Nat.le_trans hcle (Nat.le_trans (Nat.pow_le_pow_right (by omega) hpl) (by decide))
    have HC1 := Lib.hid (fun W' => HCT.out km t (by omega) (by omega) W')
    have HC2 := Lib.hid (fun W' => HCTN.out km t (by omega) (by omega) W')
    simp only [hcn] at HC2
    rw [← hC] at HC1 HC2
    have HLM := Lib.hid hlm; have HLESS := Lib.hid hcless; have HKM := Lib.hid hkm
    clear hlm hcless hcge hcle hcn hwr ht hkm hC HCTN
    refine (HLM.out _).mono ?_
    rintro e w13 ⟨rfl, hc⟩
    have c13 := c12.trans (hc.mono c12.size)
    clear c12 hc
    go_wp2_with fail
    refine (sgSparseAt (n := m) (by omega) (by omega)).mono ?_
    rintro e w14 ⟨am, cm, rfl, _, lm1, lm2, hc⟩
    have c14 := c13.trans (hc.mono c13.size)
    rw [← HKM.out] at lm1 ⊢
    unfold maxLen at lm2
    have hkm9 : (km : Int) ≤ 9 := by omega
    have C14 := Lib.hid c14
    clear c13 hc c14
    go_wp2_with fail
    go_loopw [13] (fun i wr => ∃ u : Nat, u ≤ t ∧ i = .int .i64 u ∧ Below W.heap.size W wr) (fun i _ => t - (intOf i).toNat)
    case atStart => exact ⟨0, Nat.zero_le _, rfl, C14.out⟩
    case round =>
      obtain ⟨u, hu, rfl, hB⟩ := hrel
      by_cases hut : u < t
      · have hC := HCT.out (km + 1) u (by omega) (by omega) wr
        rw [HLESS.out u hut (km + 1), show ((km + 1 : Nat) : Int) = (km : Int) + 1 by omega] at hC
        have HC := Lib.hid hC
        have hlt : (u : Int) < t := by omega
        have hu12 : (u : Int) ≤ 12 := by omega
        have HB := Lib.hid hB
        clear hC hB
        go_wp2_with fail
        refine HC.out.mono ?_
        rintro e w15 ⟨rfl, hc⟩
        have HB2 := Lib.hid (HB.out.trans (hc.mono HB.out.size))
        clear hc
        go_wp2_with fail
        go_roundw
        case rel => exact ⟨u + 1, by omega, by go_num, HB2.out⟩
        case measure => simp [intOf]; omega
      · have hge : ¬ (u : Int) < t := by omega
        have C15 := Lib.hid hB
        clear hB hut hu C14
        go_wp2_with fail
        refine (makeNumber_any _ 44 _ (HV.out.below C15.out) (by omega)).mono ?_
        rintro e w16 ⟨x, ⟨hx0, hx1⟩, rfl, hc⟩
        have C16 := Lib.hid (C15.out.trans (hc.mono C15.out.size))
        clear hc
        go_wp2_with fail
        refine (bitsAt (n := x) hx0 (by omega)).mono ?_
        rintro e w17 ⟨bits, hbits, rfl, hc⟩
        have C17 := Lib.hid (C16.out.trans (hc.mono C16.out.size))
        have hxh := wt_half (spr_sp x)
        have hxr : wt (spd x) = wn x := rfl
        rw [hxr] at hxh
        have hxl := spd_len42 (n := x) (by omega) (by omega)
        have hxp := wn_pos x
        have hxq := spd_pos (n := x)
        have HLX := Lib.hid (fun W' => sgLeastAt (n := x) (w := W') (by omega) (by omega))
        have HLN := Lib.hid (fun W' => sgLeastAt (n := -x) (w := W') (by omega) (by omega))
        rw [wn_neg] at HLN
        have HSP := Lib.hid (fun W' => sgSparseAt (n := x) (w := W') (by omega) (by omega))
        have HST := Lib.hid (sgStepsAt (n := x) (w := w17) hx0 (by omega))
        obtain ⟨f, hf⟩ : ∃ f, f = wn x := ⟨_, rfl⟩
        obtain ⟨kx, hkx⟩ : ∃ k, k = (spd x).length := ⟨_, rfl⟩
        rw [← hf] at hbits hxh hxp HLX HLN HST
        rw [← hkx] at hxh hxl hxq HST
        have HKX := Lib.hid hkx
        have hbits2 : (f : Int) ≤ bits := hbits
        have hC1' : (1 : Int) ≤ C := by omega
        have hCC : ((C : Int) == C) = true := by simp
        have hff : ((f : Int) == f) = true := by simp
        clear hc hf hkx hxr hbits
        by_cases hx : x = 0
        · rw [if_pos hx] at HST
          have hxz : (x == 0) = true := by simp [hx]
          have hf2 : 2 * (f : Int) ≤ (kx : Int) + 1 := by omega
          clear hx hxp hxq
          go_wp2_with fail
          refine HST.out.mono ?_
          rintro e w18 ⟨rfl, hc⟩
          have C18 := Lib.hid (C17.out.trans (hc.mono C17.out.size))
          clear hc
          go_wp2_with fail
          refine (HC1.out _).mono ?_
          rintro e w19 ⟨rfl, hc⟩
          have C19 := Lib.hid (C18.out.trans (hc.mono C18.out.size))
          clear hc
          go_wp2_with fail
          refine (HC1.out _).mono ?_
          rintro e w20 ⟨rfl, hc⟩
          have C20 := Lib.hid (C19.out.trans (hc.mono C19.out.size))
          clear hc
          go_wp2_with fail
          refine (HC2.out _).mono ?_
          rintro e w21 ⟨rfl, hc⟩
          have C21 := Lib.hid (C20.out.trans (hc.mono C20.out.size))
          clear hc
          go_wp2_with fail
          refine (HLX.out _).mono ?_
          rintro e w22 ⟨rfl, hc⟩
          have C22 := Lib.hid (C21.out.trans (hc.mono C21.out.size))
          clear hc
          go_wp2_with fail
          refine (HLN.out _).mono ?_
          rintro e w23 ⟨rfl, hc⟩
          have C23 := Lib.hid (C22.out.trans (hc.mono C22.out.size))
          clear hc
          go_wp2_with fail
          refine (HLX.out _).mono ?_
          rintro e w24 ⟨rfl, hc⟩
          have C24 := Lib.hid (C23.out.trans (hc.mono C23.out.size))
          clear hc
          go_wp2_with fail
          refine (HLX.out _).mono ?_
          rintro e w25 ⟨rfl, hc⟩
          have C25 := Lib.hid (C24.out.trans (hc.mono C24.out.size))
          clear hc
          go_wp2_with fail
          refine (HSP.out _).mono ?_
          rintro e w26 ⟨a3, c3, rfl, _, l3, l3m, hc⟩
          have C26 := Lib.hid (C25.out.trans (hc.mono C25.out.size))
          rw [← HKX.out] at l3 ⊢
          unfold maxLen at l3m
          clear hc
          go_wp2_with fail
          go_ret
          exact ⟨rfl, C26.out⟩
        · rw [if_neg hx] at HST
          have hxz : (x == 0) = false := by simp [hx]
          have hf2 : 2 * (f : Int) ≤ (kx : Int) + 1 := by omega
          have hf1 := hxp hx
          have hk1 := hxq hx
          have hst0 : 0 ≤ (kx : Int) + f - 2 := by omega
          have hss : ((kx : Int) + f - 2 == (kx : Int) + f - 2) = true := by simp
          clear hx hxp hxq
          go_wp2_with fail
          refine HST.out.mono ?_
          rintro e w18 ⟨rfl, hc⟩
          have C18 := Lib.hid (C17.out.trans (hc.mono C17.out.size))
          clear hc
          go_wp2_with fail
          refine (HC1.out _).mono ?_
          rintro e w19 ⟨rfl, hc⟩
          have C19 := Lib.hid (C18.out.trans (hc.mono C18.out.size))
          clear hc
          go_wp2_with fail
          refine (HC1.out _).mono ?_
          rintro e w20 ⟨rfl, hc⟩
          have C20 := Lib.hid (C19.out.trans (hc.mono C19.out.size))
          clear hc
          go_wp2_with fail
          refine (HC2.out _).mono ?_
          rintro e w21 ⟨rfl, hc⟩
          have C21 := Lib.hid (C20.out.trans (hc.mono C20.out.size))
          clear hc
          go_wp2_with fail
          refine (HLX.out _).mono ?_
          rintro e w22 ⟨rfl, hc⟩
          have C22 := Lib.hid (C21.out.trans (hc.mono C21.out.size))
          clear hc
          go_wp2_with fail
          refine (HLN.out _).mono ?_
          rintro e w23 ⟨rfl, hc⟩
          have C23 := Lib.hid (C22.out.trans (hc.mono C22.out.size))
          clear hc
          go_wp2_with fail
          refine (HLX.out _).mono ?_
          rintro e w24 ⟨rfl, hc⟩
          have C24 := Lib.hid (C23.out.trans (hc.mono C23.out.size))
          clear hc
          go_wp2_with fail
          refine (HSP.out _).mono ?_
          rintro e w25 ⟨a2, c2, rfl, _, l2, l2m, hc⟩
          have C25 := Lib.hid (C24.out.trans (hc.mono C24.out.size))
          rw [← HKX.out] at l2 ⊢
          unfold maxLen at l2m
          clear hc
          go_wp2_with fail
          refine (HLX.out _).mono ?_
          rintro e w26 ⟨rfl, hc⟩
          have C26 := Lib.hid (C25.out.trans (hc.mono C25.out.size))
          clear hc
          go_wp2_with fail
          refine (HLX.out _).mono ?_
          rintro e w27 ⟨rfl, hc⟩
          have C27 := Lib.hid (C26.out.trans (hc.mono C26.out.size))
          clear hc
          go_wp2_with fail
          refine (HSP.out _).mono ?_
          rintro e w28 ⟨a3, c3, rfl, _, l3, l3m, hc⟩
          have C28 := Lib.hid (C27.out.trans (hc.mono C27.out.size))
          rw [← HKX.out] at l3 ⊢
          unfold maxLen at l3m
          clear hc
          go_wp2_with fail
          go_ret
          exact ⟨rfl, C28.out⟩

end Go.Proofs.Ytiemhhkoegkleaa
