/- The law on mixed places: ranges, places, digits, values, sums, the next number and carries fit together. -/
import Derived.Test.YtiemhhkoegkleaaDgDraw
import Derived.Test.YtiemhhkoegkleaaMxDraw
import Derived.Test.YtiemhhkoegkleaaMxAt
import Derived.Deep.CutBlock
import Derived.Deep.CutRange
import Derived.Deep.DeepCutAuto
set_option linter.unusedVariables false
set_option linter.unusedSimpArgs false
set_option maxRecDepth 100000
namespace Go.Proofs.Ytiemhhkoegkleaa
open Go.ChangeShapes Go.WideShapes Go.ChangeAt Go.RowKit

set_option maxRecDepth 100000 in
set_option maxHeartbeats 16000000 in
theorem lawMixed (W : World) (a : Option Addr) (len cap : Nat) (zs : List Int) (hz : IsRow .u8 W a len cap zs) :
    Calls Try.prog 5 #[.slice a len cap] W fun e w' => e = .returned (.bool true) ∧ Below W.heap.size W w' := by
  have hv := bytesAt_of hz
  have HV := Lib.hid hv
  have hlen : len ≤ 9223372036854775807 := by
    obtain ⟨_, n, c, zs', e, h1, h2, _⟩ := hv
    injection e with _ e1 _
    unfold maxLen at h2; omega
  clear hz hv
  by_cases hbig : 1048576 < len
  · go_enter Try.func5, Try.ntmps5
    go_wp2
    go_ret
    exact ⟨rfl, Below.refl _ _⟩
  · go_enter Try.func5, Try.ntmps5
    go_wp2_with fail
    refine (makeRadices_any _ 0 _ HV.out (by omega)).mono ?_
    rintro e w1 ⟨r, vr, hM, rfl, hrow, c1⟩
    obtain ⟨ar, capr, rfl, hr1, hr2, _⟩ := hrow.ints
    have OK := Lib.hid hM.ok
    have HA := Lib.hid hM.all
    obtain ⟨hR2, hRb⟩ := hM.range
    have hk1 := hM.1; have hk4 := hM.2.1
    have HR := Lib.hid hrow
    obtain ⟨R, hRe⟩ : ∃ R, R = rp r := ⟨_, rfl⟩
    rw [← hRe] at hR2 hRb
    have HRE := Lib.hid hRe
    unfold maxLen at hr2
    clear hrow hM hRe
    go_wp2_with fail
    refine (mxRangeAt OK.out HR.out).mono ?_
    rw [← HRE.out]
    rintro e w2 ⟨rfl, hc⟩
    have c2 := c1.trans (hc.mono c1.size)
    have HR2 := Lib.hid (HR.out.below hc)
    clear c1 hc HR
    go_wp2_with fail
    refine (mxPlacesAt OK.out HR2.out).mono ?_
    rintro e w3 ⟨ap, capp, rfl, hp, hp1, hp2, hc⟩
    have c3 := c2.trans (hc.mono c2.size)
    have HR3 := Lib.hid (HR2.out.below hc)
    have hpl := plF_len r 1
    have HP3 := Lib.hid hp
    rw [hpl] at hp1 ⊢
    unfold maxLen at hp2
    clear c2 hc HR2 hpl hp
    have hR2' : ¬ R < 2 := by omega
    go_wp2_with fail
    refine (mxRadAt OK.out HR3.out).mono ?_
    rintro e w4 ⟨rfl, hc⟩
    have c4 := c3.trans (hc.mono c3.size)
    have HR4 := Lib.hid (HR3.out.below hc)
    have HP4 := Lib.hid (HP3.out.below hc)
    clear c3 hc HR3 HP3
    go_wp2_with fail
    refine (lawNum_any _ 10 _ (HV.out.below c4) (by omega)).mono ?_
    rintro e w5 ⟨n0, ⟨hn0, hn1⟩, rfl, hc⟩
    have c5 := c4.trans (hc.mono c4.size)
    have HR5 := Lib.hid (HR4.out.below hc)
    have HP5 := Lib.hid (HP4.out.below hc)
    have hRz : ¬ R = 0 := by omega
    obtain ⟨n, hn⟩ : ∃ n, n0.tmod R = n := ⟨_, rfl⟩
    have hnb : 0 ≤ n ∧ n < R := by
      rw [← hn, Int.tmod_eq_emod_of_nonneg hn0]
      exact ⟨Int.emod_nonneg _ hRz, Int.emod_lt_of_pos _ (by omega)⟩
    obtain ⟨hnb1, hnb2⟩ := hnb
    clear c4 hc HR4 HP4
    go_wp2_with fail
    clear hn hn0 hn1
    refine (lawNum_any _ 12 _ (HV.out.below c5) (by omega)).mono ?_
    rintro e w6 ⟨m0, ⟨hm0, hm1⟩, rfl, hc⟩
    have c6 := c5.trans (hc.mono c5.size)
    have HR6 := Lib.hid (HR5.out.below hc)
    have HP6 := Lib.hid (HP5.out.below hc)
    obtain ⟨m, hm⟩ : ∃ m, m0.tmod R = m := ⟨_, rfl⟩
    have hmb : 0 ≤ m ∧ m < R := by
      rw [← hm, Int.tmod_eq_emod_of_nonneg hm0]
      exact ⟨Int.emod_nonneg _ hRz, Int.emod_lt_of_pos _ (by omega)⟩
    obtain ⟨hmb1, hmb2⟩ := hmb
    clear c5 hc HR5 HP5
    go_wp2_with fail
    clear hm hm0 hm1
    refine (mxDigitsAt OK.out HR6.out hnb1 (by rw [← HRE.out]; exact hnb2)).mono ?_
    rintro e w7 ⟨aa, capa, rfl, ha, ha1, ha2, hc⟩
    have c7 := c6.trans (hc.mono c6.size)
    have HR7 := Lib.hid (HR6.out.below hc)
    have HP7 := Lib.hid (HP6.out.below hc)
    have HA7 := Lib.hid ha
    rw [md_len] at ha1 ⊢
    unfold maxLen at ha2
    rw [md_len] at HA7
    clear c6 hc HR6 HP6 ha
    go_wp2_with fail
    refine (mxDigitsAt OK.out HR7.out hmb1 (by rw [← HRE.out]; exact hmb2)).mono ?_
    rintro e w8 ⟨ac, capc, rfl, hcr, hcr1, hcr2, hc⟩
    have c8 := c7.trans (hc.mono c7.size)
    have HR8 := Lib.hid (HR7.out.below hc)
    have HP8 := Lib.hid (HP7.out.below hc)
    have HA8 := Lib.hid (HA7.out.below hc)
    have HC8 := Lib.hid hcr
    rw [md_len] at hcr1 HC8 ⊢
    unfold maxLen at hcr2
    clear c7 hc HR7 HP7 HA7 hcr
    have FA := Lib.hid (fit_md HA.out n)
    have FC := Lib.hid (fit_md HA.out m)
    have EN := Lib.hid (show mv (md n r) r = n by rw [mv_md HA.out, ← HRE.out, Int.emod_eq_of_lt hnb1 hnb2])
    have EM := Lib.hid (show mv (md m r) r = m by rw [mv_md HA.out, ← HRE.out, Int.emod_eq_of_lt hmb1 hmb2])
    go_wp2_with fail
    refine (mxAddAt OK.out FA.out FC.out HA8.out HC8.out HR8.out).mono ?_
    rintro e w9 ⟨as', caps, rfl, hs, hs1, hs2, hc⟩
    have c9 := c8.trans (hc.mono c8.size)
    have HR9 := Lib.hid (HR8.out.below hc)
    have HP9 := Lib.hid (HP8.out.below hc)
    have HA9 := Lib.hid (HA8.out.below hc)
    have HC9 := Lib.hid (HC8.out.below hc)
    have HLA := md_len r n
    have HLC := md_len r m
    have HLS := adD_len (md n r) (md m r) r 0 HLA HLC
    rw [HLS] at hs hs1 ⊢
    obtain ⟨FS, ES, cy0, cy1, cyN, hN0⟩ := ad_val (l := md n r) (m := md m r) (r := r) 0 (by omega) (by omega) HA.out FA.out FC.out
    have hvS := mv_range HA.out FS
    rw [EN.out, EM.out] at ES
    have hNle := adN_le (l := md n r) (m := md m r) (r := r) 0 (by omega) (by omega) HA.out FA.out FC.out
    have HS9 := Lib.hid hs
    unfold maxLen at hs2
    have HFS := Lib.hid FS
    obtain ⟨CY, hCY⟩ : ∃ CY, CY = adC 0 (md n r) (md m r) r := ⟨_, rfl⟩
    obtain ⟨NC, hNC⟩ : ∃ NC, NC = adN 0 (md n r) (md m r) r := ⟨_, rfl⟩
    obtain ⟨SV, hSV⟩ : ∃ SV, SV = mv (adD 0 (md n r) (md m r) r) r := ⟨_, rfl⟩
    rw [← hCY] at cy0 cy1 cyN ES ⊢
    rw [← hNC] at cyN hN0 hNle
    rw [← hSV, ← HRE.out] at ES hvS
    have HSV := Lib.hid hSV
    have HNC := Lib.hid hNC
    obtain ⟨RC, hRC⟩ : ∃ RC, RC = CY * R := ⟨_, rfl⟩
    have hRC2 : R * CY = RC := by rw [hRC, Int.mul_comm]
    have hSV1 := hvS.1; have hSV2 := hvS.2
    have hsum1 : SV + RC = n + m := by omega
    have hwRC : IntKind.i64.wrap (CY * R) = RC := by rw [IntKind.wrap_i64, ← hRC]; omega
    have hRCb1 : 0 ≤ RC := by rw [hRC]; exact Int.mul_nonneg cy0 (by omega)
    have hRCb2 : RC ≤ 41472 := by omega
    clear c8 hc HR8 HP8 HA8 HC8 hs hCY hNC hSV hvS FS HLS HLA HLC ES hRC hRC2
    go_wp2_with fail
    refine (mxOkAt OK.out FA.out HA9.out HR9.out).mono ?_
    rintro e w10 ⟨rfl, hc⟩
    have c10 := c9.trans (hc.mono c9.size)
    have HR10 := Lib.hid (HR9.out.below hc)
    have HP10 := Lib.hid (HP9.out.below hc)
    have HA10 := Lib.hid (HA9.out.below hc)
    have HC10 := Lib.hid (HC9.out.below hc)
    have HS10 := Lib.hid (HS9.out.below hc)
    clear c9 hc HR9 HP9 HA9 HC9 HS9
    go_wp2_with fail
    refine (mxValueAt OK.out FA.out HA10.out HR10.out).mono ?_
    rw [EN.out]
    rintro e w11 ⟨rfl, hc⟩
    have c11 := c10.trans (hc.mono c10.size)
    have HR11 := Lib.hid (HR10.out.below hc)
    have HP11 := Lib.hid (HP10.out.below hc)
    have HA11 := Lib.hid (HA10.out.below hc)
    have HC11 := Lib.hid (HC10.out.below hc)
    have HS11 := Lib.hid (HS10.out.below hc)
    have hnn : (n != n) = false := by simp
    clear c10 hc HR10 HP10 HA10 HC10 HS10
    go_wp2_with fail
    refine (mxValueAt OK.out HFS.out HS11.out HR11.out).mono ?_
    rw [← HSV.out]
    rintro e w12 ⟨rfl, hc⟩
    have c12 := c11.trans (hc.mono c11.size)
    have HR12 := Lib.hid (HR11.out.below hc)
    have HP12 := Lib.hid (HP11.out.below hc)
    have HA12 := Lib.hid (HA11.out.below hc)
    have HC12 := Lib.hid (HC11.out.below hc)
    have HS12 := Lib.hid (HS11.out.below hc)
    have htt : (SV + RC != n + m) = false := by rw [hsum1]; simp
    clear c11 hc HR11 HP11 HA11 HC11 HS11
    go_wp2_with fail
    clear htt hnn hsum1 hwRC hRCb1 hRCb2 hSV1 hSV2
    obtain ⟨a1, cc1, e1, _, _, hq1⟩ := HA12.out.ints
    rw [md_len] at e1
    injection e1 with e1 e2 e3
    obtain ⟨a2, cc2, e4, _, _, hq2⟩ := HP12.out.ints
    rw [plF_len] at e4
    injection e4 with e4 e5 e6
    have HMT := Lib.hid (fun k => mv_range (allR_take HA.out k) (fitM_take FA.out k))
    have HPB := Lib.hid (fun k => And.intro (rp_pos (allR_take HA.out k)) (rp_take_le HA.out k))
    have HFT := Lib.hid (fitM_at FA.out)
    have HAB := Lib.hid HA.out
    subst e1 e4
    clear e2 e3 e5 e6
    go_loop [12, 102] (fun s i => ∃ k : Nat, k ≤ r.length ∧ i = .int .i64 k ∧ s = .int .i64 (mv ((md n r).take k) (r.take k))) (fun _ i => r.length - (intOf i).toNat)
    case atStart => exact ⟨0, Nat.zero_le _, rfl, by simp [mv_nil]⟩
    case round =>
      obtain ⟨k, hk, rfl, rfl⟩ := hrel
      by_cases hlt : k < r.length
      · obtain ⟨m0, m1⟩ := HMT.out k
        obtain ⟨g1, g2⟩ := HPB.out k
        have hla : k < (md n r).length := by rw [md_len]; exact hlt
        have hlp : k < (plF 1 r).length := by rw [plF_len]; exact hlt
        obtain ⟨b1, off1, rfl, hbb1, hcell1⟩ := hq1.resolve_left (fun e => by rw [e] at hla; simp at hla)
        obtain ⟨b2, off2, rfl, hbb2, hcell2⟩ := hq2.resolve_left (fun e => by rw [e] at hlp; simp at hlp)
        have hc1 := hcell1 k hla
        have hc2 := hcell2 k hlp
        rw [plF_get, Int.one_mul] at hc2
        obtain ⟨p0, p1⟩ := HFT.out k hla hlt
        have hx := (HAB.out _ (List.getElem_mem hlt)).2
        have HT := Lib.hid (mv_take hla hlt)
        rw [← HRE.out] at g2
        obtain ⟨M, hM⟩ : ∃ M, M = mv ((md n r).take k) (r.take k) := ⟨_, rfl⟩
        obtain ⟨P, hP⟩ : ∃ P, P = rp (r.take k) := ⟨_, rfl⟩
        obtain ⟨d, hd⟩ : ∃ d, d = (md n r)[k] := ⟨_, rfl⟩
        rw [← hM, ← hP, ← hd] at HT
        rw [← hM] at m0 m1 ⊢
        rw [← hP] at g1 g2 m1 hc2
        rw [← hd] at hc1 p0 p1
        have d59 : d ≤ 59 := by omega
        obtain ⟨t0, t1⟩ := term_le p0 d59 g1 (show P ≤ 1000000000000 by omega)
        obtain ⟨t, ht⟩ : ∃ t, t = d * P := ⟨_, rfl⟩
        have hwt : IntKind.i64.wrap (d * P) = t := by rw [IntKind.wrap_i64, ← ht]; omega
        rw [← ht] at t0 t1 HT
        have hlt' : (k : Int) < r.length := by omega
        clear hq1 hq2 hcell1 hcell2 hM hP hd p1 hx ht hla hlp
        go_wp2_with fail
        go_round
        case rel => exact ⟨k + 1, hlt, by go_num, by rw [HT.out]⟩
        case measure => simp [intOf]; omega
      · have hkl : k = r.length := by omega
        subst hkl
        have htot : mv ((md n r).take r.length) (r.take r.length) = n := by
          have : (md n r).take r.length = md n r := by rw [← md_len r n, List.take_length]
          rw [this, List.take_length]; exact EN.out
        rw [htot]
        clear htot
        clear hq1 hq2 HMT HPB HFT HAB hlt
        go_wp2_with fail
        refine (mxNextAt OK.out FA.out HA12.out HR12.out).mono ?_
        rintro e w13 ⟨an, capn, rfl, hnx, hnx1, hnx2, hc⟩
        have c13 := c12.trans (hc.mono c12.size)
        have HR13 := Lib.hid (HR12.out.below hc)
        have HA13 := Lib.hid (HA12.out.below hc)
        have HC13 := Lib.hid (HC12.out.below hc)
        rw [EN.out] at hnx hnx1 ⊢
        rw [md_len] at hnx hnx1 ⊢
        have HN13 := Lib.hid hnx
        unfold maxLen at hnx2
        clear c12 hc HR12 HA12 HC12 HP12 HS12 hnx
        go_wp2_with fail
        refine (makeBase_any _ 20 _ (HV.out.below c13) (by omega)).mono ?_
        rintro e w14 ⟨b, ⟨hb2, hb16⟩, rfl, hc⟩
        have c14 := c13.trans (hc.mono c13.size)
        have HR14 := Lib.hid (HR13.out.below hc)
        have HA14 := Lib.hid (HA13.out.below hc)
        have HC14 := Lib.hid (HC13.out.below hc)
        have HN14 := Lib.hid (HN13.out.below hc)
        obtain ⟨q1, q2, q3, q4⟩ := cube_le hb2 hb16
        obtain ⟨B2, hB2⟩ : ∃ B2, b * b = B2 := ⟨_, rfl⟩
        rw [hB2] at q1 q2 q3 q4
        obtain ⟨B3, hB3⟩ : ∃ B3, B2 * b = B3 := ⟨_, rfl⟩
        rw [hB3] at q3 q4
        have HB3 := Lib.hid (show rp [b, b, b] = B3 by rw [rp3, hB2, hB3])
        have hw2 : IntKind.i64.wrap (b * b) = B2 := by rw [IntKind.wrap_i64, hB2]; omega
        have hw3 : IntKind.i64.wrap (B2 * b) = B3 := by rw [IntKind.wrap_i64, hB3]; omega
        have hB3z : ¬ B3 = 0 := by omega
        have OK3 := Lib.hid (okR3 hb2 hb16)
        have c15 : Below W.heap.size W (w14.alloc (.cells #[.int .i64 b, .int .i64 b, .int .i64 b] 3)) := c14.alloc (c14.size) _
        have hal : Below w14.heap.size w14 (w14.alloc (.cells #[.int .i64 b, .int .i64 b, .int .i64 b] 3)) := (Below.refl _ _).alloc (Nat.le_refl _) _
        have HE := Lib.hid (row3 w14 b)
        have HR15 := Lib.hid (HR14.out.below hal)
        have HA15 := Lib.hid (HA14.out.below hal)
        have HC15 := Lib.hid (HC14.out.below hal)
        have HN15 := Lib.hid (HN14.out.below hal)
        obtain ⟨g3, hg3⟩ : ∃ g3, g3 = w14.heap.size := ⟨_, rfl⟩
        have HG3 := Lib.hid hg3
        rw [← hg3] at HE
        obtain ⟨w15, hw15⟩ : ∃ w15, w15 = w14.alloc (.cells #[.int .i64 b, .int .i64 b, .int .i64 b] 3) := ⟨_, rfl⟩
        rw [← hw15] at c15 HE HR15 HA15 HC15 HN15
        have HW15 := Lib.hid hw15
        clear c13 hc HR13 HA13 HC13 HN13 hB2 hB3 hg3 hw15 c14 hal HR14 HA14 HC14 HN14
        go_wp2_with fail
        rw [← HG3.out, ← HW15.out]
        clear HG3 HW15
        refine (lawNum_any _ 22 _ (HV.out.below c15) (by omega)).mono ?_
        rintro e w16 ⟨x0, ⟨hx0, hx1⟩, rfl, hc⟩
        have c16 := c15.trans (hc.mono c15.size)
        have HR16 := Lib.hid (HR15.out.below hc)
        have HA16 := Lib.hid (HA15.out.below hc)
        have HC16 := Lib.hid (HC15.out.below hc)
        have HN16 := Lib.hid (HN15.out.below hc)
        have HE16 := Lib.hid (HE.out.below hc)
        obtain ⟨x, hx⟩ : ∃ x, x0.tmod B3 = x := ⟨_, rfl⟩
        have hxb : 0 ≤ x ∧ x < B3 := by
          rw [← hx, Int.tmod_eq_emod_of_nonneg hx0]
          exact ⟨Int.emod_nonneg _ hB3z, Int.emod_lt_of_pos _ (by omega)⟩
        obtain ⟨hxb1, hxb2⟩ := hxb
        clear c15 hc HR15 HA15 HC15 HN15 HE
        go_wp2_with fail
        clear hx hx0 hx1
        refine (lawNum_any _ 24 _ (HV.out.below c16) (by omega)).mono ?_
        rintro e w17 ⟨y0, ⟨hy0, hy1⟩, rfl, hc⟩
        have c17 := c16.trans (hc.mono c16.size)
        have HR17 := Lib.hid (HR16.out.below hc)
        have HA17 := Lib.hid (HA16.out.below hc)
        have HC17 := Lib.hid (HC16.out.below hc)
        have HN17 := Lib.hid (HN16.out.below hc)
        have HE17 := Lib.hid (HE16.out.below hc)
        obtain ⟨y, hy⟩ : ∃ y, y0.tmod B3 = y := ⟨_, rfl⟩
        have hyb : 0 ≤ y ∧ y < B3 := by
          rw [← hy, Int.tmod_eq_emod_of_nonneg hy0]
          exact ⟨Int.emod_nonneg _ hB3z, Int.emod_lt_of_pos _ (by omega)⟩
        obtain ⟨hyb1, hyb2⟩ := hyb
        clear c16 hc HR16 HA16 HC16 HN16 HE16
        go_wp2_with fail
        clear hy hy0 hy1 hw2 hw3
        have OA3 := Lib.hid (okR_yes OK3.out).2.2.1
        obtain ⟨r3, hr3⟩ : ∃ r3, r3 = [b, b, b] := ⟨_, rfl⟩
        have HR3E := Lib.hid (show ∀ z ∈ r3, z = b from fun z hz => by rw [hr3] at hz; simpa using hz)
        have hr3l : r3.length = 3 := by rw [hr3]; rfl
        rw [← hr3] at HB3 OK3 OA3 HE17
        clear hr3
        refine (mxDigitsAt OK3.out HE17.out hxb1 (by rw [HB3.out]; exact hxb2)).mono ?_
        rintro e w18 ⟨au, capu, rfl, hu, hu1, hu2, hc⟩
        have c18 := c17.trans (hc.mono c17.size)
        have HR18 := Lib.hid (HR17.out.below hc)
        have HA18 := Lib.hid (HA17.out.below hc)
        have HC18 := Lib.hid (HC17.out.below hc)
        have HN18 := Lib.hid (HN17.out.below hc)
        have HE18 := Lib.hid (HE17.out.below hc)
        rw [md_len, hr3l] at hu hu1 ⊢
        have HU18 := Lib.hid hu
        unfold maxLen at hu2
        clear c17 hc HR17 HA17 HC17 HN17 HE17 hu
        go_wp2_with fail
        refine (mxDigitsAt OK3.out HE18.out hyb1 (by rw [HB3.out]; exact hyb2)).mono ?_
        rintro e w19 ⟨av, capv, rfl, hvv, hv1, hv2, hc⟩
        have c19 := c18.trans (hc.mono c18.size)
        have HR19 := Lib.hid (HR18.out.below hc)
        have HA19 := Lib.hid (HA18.out.below hc)
        have HC19 := Lib.hid (HC18.out.below hc)
        have HN19 := Lib.hid (HN18.out.below hc)
        have HE19 := Lib.hid (HE18.out.below hc)
        have HU19 := Lib.hid (HU18.out.below hc)
        rw [md_len, hr3l] at hvv hv1 ⊢
        have HV19 := Lib.hid hvv
        unfold maxLen at hv2
        clear c18 hc HR18 HA18 HC18 HN18 HE18 HU18 hvv
        have FU := Lib.hid (fit_md OA3.out x)
        have FV := Lib.hid (fit_md OA3.out y)
        have hlu := md_len r3 x
        have hlv := md_len r3 y
        have hlw := adD_len (md x r3) (md y r3) r3 0 hlu hlv
        obtain ⟨FW, _, oy0, oy1, oyN, oN0⟩ := ad_val (l := md x r3) (m := md y r3) (r := r3) 0 (by omega) (by omega) OA3.out FU.out FV.out
        have oNle := adN_le (l := md x r3) (m := md y r3) (r := r3) 0 (by omega) (by omega) OA3.out FU.out FV.out
        have HSUM := ad_sum (B := b) (by omega) (md x r3) (md y r3) r3 0 hlu hlv HR3E.out
        obtain ⟨su0, su1⟩ := sum_fit OA3.out FU.out (by omega)
        obtain ⟨sv0, sv1⟩ := sum_fit OA3.out FV.out (by omega)
        obtain ⟨sw0, sw1⟩ := sum_fit OA3.out FW (by omega)
        have HSU := Lib.hid (fun X hX => lsum_any _ (md x r3) X (HU19.out.below hX) (by omega) (fun d hd => by
          have := in64_fit OA3.out FU.out d hd
          obtain ⟨j, hj, rfl⟩ := List.getElem_of_mem hd
          have h1 := fitM_at FU.out j hj (by omega)
          have h2 := OA3.out _ (List.getElem_mem (show j < r3.length by omega))
          omega))
        have HSVV := Lib.hid (fun X hX => lsum_any _ (md y r3) X (HV19.out.below hX) (by omega) (fun d hd => by
          obtain ⟨j, hj, rfl⟩ := List.getElem_of_mem hd
          have h1 := fitM_at FV.out j hj (by omega)
          have h2 := OA3.out _ (List.getElem_mem (show j < r3.length by omega))
          omega))
        have HSW := Lib.hid (fun v (X : World) (hX : RowAt X v (intsOf (adD 0 (md x r3) (md y r3) r3))) => lsum_any v _ X hX (by omega) (fun d hd => by
          obtain ⟨j, hj, rfl⟩ := List.getElem_of_mem hd
          have h1 := fitM_at FW j hj (by omega)
          have h2 := OA3.out _ (List.getElem_mem (show j < r3.length by omega))
          omega))
        have HFW := Lib.hid FW
        go_wp2_with fail
        refine (mxAddAt OK3.out FU.out FV.out HU19.out HV19.out HE19.out).mono ?_
        rintro e w20 ⟨aw, capw, rfl, hww, hw1, hw2, hc⟩
        have c20 := c19.trans (hc.mono c19.size)
        have HR20 := Lib.hid (HR19.out.below hc)
        have HA20 := Lib.hid (HA19.out.below hc)
        have HC20 := Lib.hid (HC19.out.below hc)
        have HN20 := Lib.hid (HN19.out.below hc)
        have HE20 := Lib.hid (HE19.out.below hc)
        have HU20 := Lib.hid (HU19.out.below hc)
        have HV20 := Lib.hid (HV19.out.below hc)
        rw [hlw, hr3l] at hww hw1 ⊢
        have HW20 := Lib.hid hww
        unfold maxLen at hw2
        have HSU20 := Lib.hid (fun X hX => HSU.out X (keepB hc hX))
        have HSV20 := Lib.hid (fun X hX => HSVV.out X (keepB hc hX))
        clear c19 hc HR19 HA19 HC19 HN19 HE19 HU19 HV19 hww HSU HSVV FW
        obtain ⟨OUT, hOUT⟩ : ∃ OUT, OUT = adC 0 (md x r3) (md y r3) r3 := ⟨_, rfl⟩
        rw [← hOUT] at oy0 oy1 oyN HSUM ⊢
        clear hOUT
        go_wp2_with fail
        refine (mxCarriesAt OK3.out FU.out FV.out HU20.out HV20.out HE20.out).mono ?_
        rintro e w21 ⟨rfl, hc⟩
        have c21 := c20.trans (hc.mono c20.size)
        have HR21 := Lib.hid (HR20.out.below hc)
        have HA21 := Lib.hid (HA20.out.below hc)
        have HC21 := Lib.hid (HC20.out.below hc)
        have HN21 := Lib.hid (HN20.out.below hc)
        have HW21 := Lib.hid (HW20.out.below hc)
        have HSU21 := Lib.hid (fun X hX => HSU20.out X (keepB hc hX))
        have HSV21 := Lib.hid (fun X hX => HSV20.out X (keepB hc hX))
        clear c20 hc HR20 HA20 HC20 HN20 HE20 HU20 HV20 HW20 HSU20 HSV20
        have HSW21 := Lib.hid (fun X hX => HSW.out _ X (HW21.out.below hX))
        obtain ⟨K, hK⟩ : ∃ K, K = adN 0 (md x r3) (md y r3) r3 := ⟨_, rfl⟩
        obtain ⟨su, hsu⟩ : ∃ s, s = (md x r3).sum := ⟨_, rfl⟩
        obtain ⟨sv, hsv⟩ : ∃ s, s = (md y r3).sum := ⟨_, rfl⟩
        obtain ⟨sw, hsw⟩ : ∃ s, s = (adD 0 (md x r3) (md y r3) r3).sum := ⟨_, rfl⟩
        rw [← hK] at oyN oN0 oNle HSUM ⊢
        rw [← hsu] at su0 su1 HSUM HSU21
        rw [← hsv] at sv0 sv1 HSUM HSV21
        rw [← hsw] at sw0 sw1 HSUM HSW21
        have sm1 : SumIs w21 _ su := ⟨HSU21.out⟩
        have sm2 : SumIs w21 _ sv := ⟨HSV21.out⟩
        have sm3 : SumIs w21 _ sw := ⟨HSW21.out⟩
        clear HSU21 HSV21 HSW21
        have FNX := Lib.hid (fit_md HA.out (n + 1))
        have HNV := Lib.hid (fun X (hX : Below w21.heap.size w21 X) => mxValueAt OK.out FNX.out (HN21.out.below hX) (HR21.out.below hX))
        have HCA := Lib.hid (fun X (hX : Below w21.heap.size w21 X) => mxCarriesAt OK.out FA.out FC.out (HA21.out.below hX) (HC21.out.below hX) (HR21.out.below hX))
        have hnv : mv (md (n + 1) r) r = (n + 1) % R := by rw [mv_md HA.out, ← HRE.out]
        rw [← HNC.out] at HCA
        have hz1 : 0 ≤ (n + 1) % R := Int.emod_nonneg _ hRz
        have hz2 : (n + 1) % R < R := Int.emod_lt_of_pos _ (by omega)
        have hz3 : (n + 1).tmod R = (n + 1) % R := Int.tmod_eq_emod_of_nonneg (by omega)
        obtain ⟨Z, hZ⟩ : ∃ Z, Z = (n + 1) % R := ⟨_, rfl⟩
        rw [← hZ] at hnv hz1 hz2 hz3
        rw [hnv] at HNV
        rw [hlu, hr3l] at su1
        rw [hlv, hr3l] at sv1
        rw [hlw, hr3l] at sw1
        rw [hr3l] at oNle
        obtain ⟨BK, hBK⟩ : ∃ BK, BK = (b - 1) * K := ⟨_, rfl⟩
        have hBKb : 0 ≤ BK ∧ BK ≤ 45 := by
          have e1 : (b - 1) * K ≤ 15 * 3 := Int.mul_le_mul (by omega) (by omega) oN0 (by omega)
          have e2 : 0 ≤ (b - 1) * K := Int.mul_nonneg (by omega) oN0
          omega
        have hBK0 := hBKb.1; have hBK1 := hBKb.2
        rw [← hBK] at HSUM
        have hwBK : IntKind.i64.wrap ((b - 1) * K) = BK := by rw [IntKind.wrap_i64, ← hBK]; omega
        have hwbb : IntKind.i64.wrap (b - 1) = b - 1 := by rw [IntKind.wrap_i64]; omega
        have hww1 : IntKind.i64.wrap (su + sv) = su + sv := by rw [IntKind.wrap_i64]; omega
        have hww2 : IntKind.i64.wrap (su + sv - sw) = su + sv - sw := by rw [IntKind.wrap_i64]; omega
        have hww3 : IntKind.i64.wrap (BK + OUT) = BK + OUT := by rw [IntKind.wrap_i64]; omega
        have hww4 : IntKind.i64.wrap (n + 1) = n + 1 := by rw [IntKind.wrap_i64]; omega
        have hww5 : IntKind.i64.wrap Z = Z := by rw [IntKind.wrap_i64]; omega
        have ht1 : (su + sv - sw == BK + OUT) = true := by simp; omega
        have ht2 : decide (OUT ≤ K) = true := by simp; omega
        have ht3 : decide (CY ≤ NC) = true := by simp; omega
        have ht4 : (n == n) = true := by simp
        have ht5 : (Z == Z) = true := by simp
        clear hK hsu hsv hsw hnv hZ hBK hBKb hlu hlv hlw HSUM oyN cyN
        have HC21' := Lib.hid c21
        clear c21
        go_wp2_with fail
        clear OK HA HRE EN EM FA FC HFS HSV HNC HV OK3 OA3 HR3E FU FV HFW HSW HW21 HA21 HC21 HN21 HR21 hr1 hr2 hp1 hp2 ha1 ha2 hcr1 hcr2 hs1 hs2 hnx1 hnx2 hu1 hu2 hv1 hv2 hw1 hw2 hlen hbig

        go_region_held3 (fun X => Below w21.heap.size w21 X) (first | exact (Below.refl _ _).drew | assumption | exact keepB (by assumption) hb22 | exact keepB (by assumption) hb23)
          (first
            | (go_at_call 38; refine (HNV.out _ (by assumption)).mono ?_; rintro e w22 ⟨rfl, hb22⟩)
            | (go_at_call 41; refine (sumIs_calls (by assumption) (by assumption)).mono ?_; rintro e w' ⟨rfl, rfl⟩)
            | (go_at_call 40; refine (HCA.out _ (by assumption)).mono ?_; rintro e w23 ⟨rfl, hb23⟩))
        rename_i hH
        have hB1 := HC21'.out.trans (hH.mono HC21'.out.size)
        go_wp2_with fail
        go_ret
        exact ⟨rfl, hB1⟩

end Go.Proofs.Ytiemhhkoegkleaa
