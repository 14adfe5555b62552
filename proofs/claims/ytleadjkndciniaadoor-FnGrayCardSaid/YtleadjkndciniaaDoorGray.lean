/- The law on Gray codes: neighbours differ in one digit, by the flip; digits of mixed places; cycles and rings. -/
import Derived.Test.YtleadjkndciniaaDoorGrI3
import Derived.Test.YtleadjkndciniaaDoorGrI5
import Derived.Test.YtleadjkndciniaaDoorGrI8
import Derived.Test.YtleadjkndciniaaDoorGrFact
import Derived.Test.YtleadjkndciniaaDoorDgDraw
import Derived.Test.YtleadjkndciniaaDoorLawFns
import Derived.Test.YtleadjkndciniaaDoorMxDraw
set_option linter.unusedVariables false
set_option linter.unusedSimpArgs false
set_option maxRecDepth 100000
namespace Go.Proofs.YtleadjkndciniaaDoor
open Go.ChangeShapes Go.WideShapes Go.ChangeAt Go.RowKit

set_option maxRecDepth 100000 in
set_option maxHeartbeats 32000000 in
theorem lawGray (W : World) (a : Option Addr) (len cap : Nat) (zs : List Int) (hz : IsRow .u8 W a len cap zs) (ht : Tab W) :
    Calls Tryd.prog 3 #[.slice a len cap] W fun e w' => e = .returned (.bool true) ∧ Below W.heap.size W w' := by
  have hv := bytesAt_of hz
  have HV := Lib.hid hv
  have hlen : len ≤ 9223372036854775807 := by
    obtain ⟨_, n, c, zs', e, h1, h2, _⟩ := hv
    injection e with _ e1 _
    unfold maxLen at h2; omega
  have HT := Lib.hid (fun W' (hb : Below W.heap.size W W') => ht.below hb)
  clear hz hv ht
  have HB := Below.refl W.heap.size W
  by_cases hbig : 1048576 < len
  · go_enter Tryd.func3, Tryd.ntmps3
    go_wp2
    go_ret
    exact ⟨rfl, Below.refl _ _⟩
  · go_enter Tryd.func3, Tryd.ntmps3
    go_wp2_with fail
    refine (makeNumber_any _ 0 _ (HV.out.below HB) (by omega)).mono ?_
    rintro e wa ⟨x, ⟨hx0, hx1⟩, rfl, hb⟩
    replace HB := HB.trans (hb.mono HB.size)
    clear hb
    obtain ⟨n, hn⟩ : ∃ n : Nat, 1 + x = n := ⟨(1 + x).toNat, by omega⟩
    obtain ⟨fa, fb, fk, ff, fx, fl, ga, gb⟩ := grF_of (n := n) (by omega) (by omega)
    have CA := Lib.hid (fun W => implGrayOf_any ((n : Int) - 1) W ⟨by omega, by omega⟩)
    rw [fa] at CA
    have CB := Lib.hid (fun W => implGrayOf_any n W ⟨by omega, by omega⟩)
    rw [fb] at CB
    have CK := Lib.hid (fun W' hb => implFlipIndex_any n W' ⟨by omega, by omega⟩ (HT.out W' hb))
    rw [fk] at CK
    have CF := Lib.hid (fun W => implFromGray_any (gc n : Nat) W ⟨by omega, by omega⟩)
    rw [ff] at CF
    have hpw := Nat.pow_le_pow_right (n := 2) (by decide) fl
    have hp0 := Nat.two_pow_pos (loB n)
    have hxr := xor_i64 (gc (n - 1)) (gc n) (by omega) (by omega)
    rw [fx] at hxr
    have hpc : ((2 ^ loB n : Nat) : Int) = (2 : Int) ^ loB n := Int.natCast_pow _ _
    obtain ⟨K, hK⟩ : ∃ K, K = loB n := ⟨_, rfl⟩
    obtain ⟨A, hA⟩ : ∃ A, A = gc (n - 1) := ⟨_, rfl⟩
    obtain ⟨B, hB⟩ : ∃ B, B = gc n := ⟨_, rfl⟩
    rw [← hK] at CK hpw hp0 hxr hpc fl
    rw [← hA] at CA hxr ga
    rw [← hB] at CB CF hxr gb
    obtain ⟨Q, hQ⟩ : ∃ Q, Q = 2 ^ K := ⟨_, rfl⟩
    rw [← hQ] at hpw hp0 hxr hpc
    have hq9 : Q ≤ 8589934592 := by simpa using hpw
    have s2 : IntKind.i64.wrap ((2 : Int) ^ K) = Q := by rw [IntKind.wrap_i64, ← hpc]; omega
    have hn0 : (n : Int) - 1 + 1 = n := by omega
    have hnb : (1 : Int) ≤ n := by omega
    have hnc : (n : Int) ≤ 10000000001 := by omega
    clear fa fb fk ff fx hpw hpc hK hA hB hQ hn0
    go_wp2_with fail
    refine (CA.out _).mono ?_
    rintro e wb ⟨rfl, hb⟩
    replace HB := HB.trans (hb.mono HB.size)
    clear hb
    go_wp2_with fail
    refine (CB.out _).mono ?_
    rintro e wc ⟨rfl, hb⟩
    replace HB := HB.trans (hb.mono HB.size)
    clear hb
    go_wp2_with fail
    refine (CK.out _ HB).mono ?_
    rintro e wd ⟨rfl, hb⟩
    replace HB := HB.trans (hb.mono HB.size)
    clear hb
    go_wp2_with fail
    refine (CF.out _).mono ?_
    rintro e we ⟨rfl, hb⟩
    replace HB := HB.trans (hb.mono HB.size)
    clear hb
    clear CA CB CK CF hxr s2 ga gb fl hp0 hq9
    go_wp2_with fail
    refine (makeRadices_any _ 10 _ (HV.out.below HB) (by omega)).mono ?_
    rintro e wf ⟨r, vr, hR, rfl, hrow, hb⟩
    replace HB := HB.trans (hb.mono HB.size)
    have HR := Lib.hid hrow
    obtain ⟨ar, cr, rfl, _, hcr9, _⟩ := hrow.ints
    clear hrow
    clear hb
    have hok := hR.ok
    have hri : ∀ x ∈ r, in64 x := fun x hx => by have := hR.2.2 x hx; exact ⟨by omega, by omega⟩
    have hr4 := hR.2.1
    have hr1 := hR.1
    have hrg := hR.range
    have CR := Lib.hid (fun W v (h : RowAt W v (intsOf r)) => specRangeOf_any v r W h (by omega) hri)
    rw [show rRangeOf0 r = rp r by rw [rRangeOf0, hok]; rfl] at CR
    obtain ⟨P, hP⟩ : ∃ P, P = rp r := ⟨_, rfl⟩
    rw [← hP] at CR hrg
    have HRF := Lib.hid (And.intro hok (And.intro hri hP))
    have hp1 := hrg.1
    have hp2 := hrg.2
    obtain ⟨LR, hLR⟩ : ∃ L, L = r.length := ⟨_, rfl⟩
    rw [← hLR] at hr4 hr1 HR ⊢
    have HLR := Lib.hid hLR
    unfold maxLen at hcr9
    clear hR hok hri hrg hP hLR
    go_wp2_with fail
    refine (CR.out _ _ HR.out).mono ?_
    rintro e wg ⟨rfl, hb⟩
    replace HR := Lib.hid (HR.out.below hb)
    replace HB := HB.trans (hb.mono HB.size)
    clear hb
    go_wp2_with fail
    refine (lawNum_any _ 24 _ (HV.out.below HB) (by omega)).mono ?_
    rintro e wh ⟨y, ⟨hy0, hy1⟩, rfl, hb⟩
    replace HR := Lib.hid (HR.out.below hb)
    replace HB := HB.trans (hb.mono HB.size)
    clear hb
    obtain ⟨m, hm⟩ : ∃ m, m = y % (P - 1) := ⟨_, rfl⟩
    have hmt : y.tmod (P - 1) = m := by rw [Int.tmod_eq_emod_of_nonneg hy0, hm]
    have hm0 : 0 ≤ m := by rw [hm]; exact Int.emod_nonneg _ (by omega)
    have hm1 : m < P - 1 := by rw [hm]; exact Int.emod_lt_of_pos _ (by omega)
    have hpz : ¬ P - 1 = 0 := by omega
    have hp3 : ¬ P = 1 := by omega
    have hpzb : (P - 1 == 0) = false := by simp; omega
    obtain ⟨hok, hri, hP⟩ := HRF.out
    obtain ⟨X, Y, hG⟩ := grN_of hok hm0 (show m + 1 < rp r by omega)
    have hxi : ∀ z ∈ X, in64 z := fun z hz => by have := hG.bx z hz; exact ⟨by omega, by omega⟩
    have hyi : ∀ z ∈ Y, in64 z := fun z hz => by have := hG.by_ z hz; exact ⟨by omega, by omega⟩
    have hlx := hG.lx
    have hly := hG.ly
    have hLR := HLR.out
    have CX := Lib.hid (fun W v (h : RowAt W v (intsOf r)) => implGrayDigits_any m v r W ⟨by omega, by omega⟩ h (by omega) hri)
    rw [hG.x0] at CX
    have CY := Lib.hid (fun W v (h : RowAt W v (intsOf r)) => implGrayDigits_any (m + 1) v r W ⟨by omega, by omega⟩ h (by omega) hri)
    rw [hG.y0] at CY
    have CD := Lib.hid (fun W v u (h : RowAt W v (intsOf X)) (h' : RowAt W u (intsOf Y)) => implCountDifferent_any v X u Y W h (by omega) hxi h' (by omega) hyi)
    rw [hG.cd] at CD
    have CFX := Lib.hid (fun W v u (h : RowAt W v (intsOf X)) (h' : RowAt W u (intsOf r)) => implFromGrayDigits_any v X u r W h (by omega) hxi h' (by omega) hri)
    rw [hG.fx] at CFX
    have CFY := Lib.hid (fun W v u (h : RowAt W v (intsOf Y)) (h' : RowAt W u (intsOf r)) => implFromGrayDigits_any v Y u r W h (by omega) hyi h' (by omega) hri)
    rw [hG.fy] at CFY
    have HLE := Lib.hid hG.le
    have HBX := Lib.hid hG.bx
    have HBY := Lib.hid hG.by_
    have HLX := Lib.hid (hlx.trans hLR.symm)
    have HLY := Lib.hid (hly.trans hLR.symm)
    rw [hlx.trans hLR.symm] at CX
    rw [hly.trans hLR.symm] at CY
    clear hG hok hri hP hxi hyi hlx hly hm HRF hLR
    go_wp2_with fail
    refine (CX.out _ _ HR.out).mono ?_
    rintro e wi ⟨vx, rfl, ho, hb⟩
    replace HR := Lib.hid (HR.out.below hb)
    replace HB := HB.trans (hb.mono HB.size)
    have HX := Lib.hid (RowAt.of_owns ho)
    obtain ⟨ax, cx, rfl, _, _⟩ := owns_form ho
    clear ho
    clear hb
    go_wp2_with fail
    refine (CY.out _ _ HR.out).mono ?_
    rintro e wj ⟨vy, rfl, ho, hb⟩
    replace HR := Lib.hid (HR.out.below hb)
    replace HX := Lib.hid (HX.out.below hb)
    replace HB := HB.trans (hb.mono HB.size)
    have HY := Lib.hid (RowAt.of_owns ho)
    obtain ⟨ay, cy, rfl, _, _⟩ := owns_form ho
    clear ho
    clear hb
    go_wp2_with fail
    refine (CD.out _ _ _ HX.out HY.out).mono ?_
    rintro e wk ⟨rfl, hb⟩
    replace HR := Lib.hid (HR.out.below hb)
    replace HX := Lib.hid (HX.out.below hb)
    replace HY := Lib.hid (HY.out.below hb)
    replace HB := HB.trans (hb.mono HB.size)
    clear hb
    go_wp2_with fail
    refine (CFX.out _ _ _ HX.out HR.out).mono ?_
    rintro e wl ⟨rfl, hb⟩
    replace HR := Lib.hid (HR.out.below hb)
    replace HX := Lib.hid (HX.out.below hb)
    replace HY := Lib.hid (HY.out.below hb)
    replace HB := HB.trans (hb.mono HB.size)
    clear hb
    go_wp2_with fail
    refine (CFY.out _ _ _ HY.out HR.out).mono ?_
    rintro e wm ⟨rfl, hb⟩
    replace HR := Lib.hid (HR.out.below hb)
    replace HX := Lib.hid (HX.out.below hb)
    replace HY := Lib.hid (HY.out.below hb)
    replace HB := HB.trans (hb.mono HB.size)
    clear hb
    clear CX CY CD CFX CFY HR hpz hpzb hp3
    obtain ⟨a3, c3, e3, _, _, q3⟩ := HX.out.ints
    injection e3 with e3 e5 e4
    clear e5
    subst e3 e4
    obtain ⟨a4, c4, e3, _, _, q4⟩ := HY.out.ints
    injection e3 with e3 e5 e4
    clear e5
    subst e3 e4
    have HQ3 := Lib.hid q3
    have HQ4 := Lib.hid q4
    clear q3 q4
    go_wp2_with fail
    go_loopw [110] (fun i wr => ∃ (k p : Nat), k ≤ LR ∧ i = .int .i64 k ∧ wr = wm.drewN p) (fun i _ => LR - (intOf i).toNat)
    case atStart => exact ⟨0, 0, Nat.zero_le _, rfl, rfl⟩
    case round =>
      obtain ⟨k, p, hk, rfl, rfl⟩ := hrel
      by_cases hlt : k < LR
      · have hkx : k < X.length := by have := HLX.out; omega
        have hky : k < Y.length := by have := HLY.out; omega
        obtain ⟨b3, o3, rfl, hb3, hc3⟩ := HQ3.out.resolve_left (fun e => by rw [e] at hkx; simp at hkx)
        obtain ⟨b4, o4, rfl, hb4, hc4⟩ := HQ4.out.resolve_left (fun e => by rw [e] at hky; simp at hky)
        have c3 := hc3 k hkx
        have c4 := hc4 k hky
        have hle := HLE.out k hkx hky
        have hbx := HBX.out _ (List.getElem_mem hkx)
        have hby := HBY.out _ (List.getElem_mem hky)
        obtain ⟨u, hu⟩ : ∃ u, u = X[k] := ⟨_, rfl⟩
        obtain ⟨v, hv⟩ : ∃ v, v = Y[k] := ⟨_, rfl⟩
        rw [← hu] at c3 hle hbx
        rw [← hv] at c4 hle hby
        have d1 : ¬ 1 < u - v := by omega
        have d2 : ¬ 1 < v - u := by omega
        have w1 : IntKind.i64.wrap (u - v) = u - v := by rw [IntKind.wrap_i64]; omega
        have w2 : IntKind.i64.wrap (v - u) = v - u := by rw [IntKind.wrap_i64]; omega
        have hki : (k : Int) < LR := by omega
        clear hc3 hc4 hu hv hkx hky hle hbx hby
        go_wp2_with fail
        go_quiet (fail)
        go_wp2_with fail
        go_roundw
        case rel => exact ⟨k + 1, _, hlt, by go_num, by simp [World.drewN, Nat.add_assoc]; rfl⟩
        case measure => simp [intOf]; omega
      · have hn9' : ¬ (k : Int) < LR := by omega
        have HBD : Below W.heap.size W (wm.drewN p) := below_drewN HB p
        clear HQ3 HQ4 HX HY hlt
        have HB := HBD
        clear HBD
        go_wp2_with fail
        refine (lawNum_any _ 28 _ (HV.out.below HB) (by omega)).mono ?_
        rintro e wn ⟨t, ⟨ht0, ht1⟩, rfl, hb⟩
        replace HB := HB.trans (hb.mono HB.size)
        clear hb
        obtain ⟨j6, hj, hj5⟩ : ∃ j : Nat, t.tmod 6 = j ∧ j ≤ 5 := ⟨(t % 6).toNat, by rw [Int.tmod_eq_emod_of_nonneg ht0]; omega, by omega⟩
        obtain ⟨q, hq, hq6⟩ : ∃ q : Nat, (1 : Int) + j6 = q ∧ 1 ≤ q ∧ q ≤ 6 := ⟨1 + j6, by omega, by omega⟩
        obtain ⟨y1, y2, y3⟩ := cycle_is hq6.1 hq6.2
        have hci : ∀ z ∈ cyc q, in64 z := fun z hz => by have := cyc_bd hq6.2 z hz; exact ⟨by omega, by omega⟩
        have hpw := Nat.pow_le_pow_right (n := 2) (by decide) hq6.2
        have hpc : ((2 ^ q : Nat) : Int) = (2 : Int) ^ q := Int.natCast_pow _ _
        have CG := Lib.hid (fun W' hb => implGrayCycle_any q W' ⟨by omega, by omega⟩ (HT.out W' hb))
        rw [y1] at CG
        have CI := Lib.hid (fun W v (h : RowAt W v (intsOf (cyc q))) => implIsGrayCycle_any v (cyc q) q W h (by rw [y3]; omega) hci ⟨by omega, by omega⟩)
        rw [y2] at CI
        rw [y3] at CG
        obtain ⟨C, hC⟩ : ∃ C, C = cyc q := ⟨_, rfl⟩
        obtain ⟨Q2, hQ2⟩ : ∃ Q, Q = 2 ^ q := ⟨_, rfl⟩
        rw [← hC] at CG CI y3
        rw [← hQ2] at CG hpw hpc y3
        have s3 : IntKind.i64.wrap ((2 : Int) ^ q) = Q2 := by rw [IntKind.wrap_i64, ← hpc]; omega
        have hq1 := hq6.1
        have hq7 := hq6.2
        have HC3 := Lib.hid y3
        clear y1 y2 y3 hci hpc hC hQ2 hq6
        go_wp2_with fail
        refine (CG.out _ HB).mono ?_
        rintro e wo ⟨vc, rfl, ho, hb⟩
        replace HB := HB.trans (hb.mono HB.size)
        have HC := Lib.hid (RowAt.of_owns ho)
        obtain ⟨ac, cc, rfl, _, _⟩ := owns_form ho
        clear ho
        clear hb
        go_wp2_with fail
        refine (lawNum_any _ 30 _ (HV.out.below HB) (by omega)).mono ?_
        rintro e wp ⟨z, ⟨hz0, hz1⟩, rfl, hb⟩
        replace HC := Lib.hid (HC.out.below hb)
        replace HB := HB.trans (hb.mono HB.size)
        clear hb
        obtain ⟨s, hs, hs9⟩ : ∃ s : Nat, z.tmod 1024 = s ∧ s < 1024 := ⟨(z % 1024).toNat, by rw [Int.tmod_eq_emod_of_nonneg hz0]; omega, by omega⟩
        obtain ⟨rn, ru, rb, rl, rx⟩ := grR_of hs9
        have hx1' := xor_i64 s 1 (by omega) (by omega)
        rw [show ((1 : Nat) : Int) = 1 from rfl] at hx1'
        have CU := Lib.hid (fun W => implRingSteps_any ((s ^^^ 1 : Nat) : Int) 10 W ⟨by omega, by omega⟩ ⟨by omega, by omega⟩)
        rw [ru] at CU
        have CN := Lib.hid (fun W => implRingSteps_any (s : Int) 10 W ⟨by omega, by omega⟩ ⟨by omega, by omega⟩)
        rw [rn] at CN
        have CZ := Lib.hid (fun W => implRingSteps_any 0 10 W ⟨by omega, by omega⟩ ⟨by omega, by omega⟩)
        rw [ring_zero] at CZ
        have CT := Lib.hid (fun W => implRingSteps_any 512 10 W ⟨by omega, by omega⟩ ⟨by omega, by omega⟩)
        rw [ring_top] at CT
        obtain ⟨S1, hS1⟩ : ∃ S, S = s ^^^ 1 := ⟨_, rfl⟩
        obtain ⟨U, hU⟩ : ∃ U, U = ug s ^^^ 1 := ⟨_, rfl⟩
        obtain ⟨N0, hN0⟩ : ∃ N, N = ug s := ⟨_, rfl⟩
        rw [← hU] at rb CU
        rw [← hS1] at hx1' CU rx
        rw [← hN0] at rb CN rl
        clear rn ru hS1 hU hN0 hz0 hz1
        go_wp2_with fail
        refine (CU.out _).mono ?_
        rintro e wq ⟨rfl, hb⟩
        replace HC := Lib.hid (HC.out.below hb)
        replace HB := HB.trans (hb.mono HB.size)
        clear hb
        go_wp2_with fail
        refine (CN.out _).mono ?_
        rintro e wr ⟨rfl, hb⟩
        replace HC := Lib.hid (HC.out.below hb)
        replace HB := HB.trans (hb.mono HB.size)
        clear hb
        go_wp2_with fail
        refine (CI.out _ _ HC.out).mono ?_
        rintro e ws ⟨rfl, hb⟩
        replace HC := Lib.hid (HC.out.below hb)
        replace HB := HB.trans (hb.mono HB.size)
        clear hb
        have hnz : ¬ (N0 : Int) < 0 := by omega
        rcases rb with rb | rb
        · skip
          have hub : ((U : Int) == (N0 : Int) + 1) = true := by simp; omega
          have hu1 : (U : Int) = (N0 : Int) + 1 := by omega
          clear rb
          go_wp2_with fail
          refine (CZ.out _).mono ?_
          rintro e wt ⟨rfl, hb⟩
          replace HB := HB.trans (hb.mono HB.size)
          clear hb
          go_wp2_with fail
          refine (CT.out _).mono ?_
          rintro e wu ⟨rfl, hb⟩
          replace HB := HB.trans (hb.mono HB.size)
          clear hb
          go_wp2_with fail
          go_ret
          exact ⟨rfl, HB⟩
        · skip
          have hub : ((U : Int) == (N0 : Int) + 1) = false := by simp; omega
          have hu0 : ¬ (U : Int) = (N0 : Int) + 1 := by omega
          have hu1 : ((U : Int) == (N0 : Int) - 1) = true := by simp; omega
          have hu2 : (U : Int) = (N0 : Int) - 1 := by omega
          clear rb
          go_wp2_with fail
          refine (CZ.out _).mono ?_
          rintro e wt ⟨rfl, hb⟩
          replace HB := HB.trans (hb.mono HB.size)
          clear hb
          go_wp2_with fail
          refine (CT.out _).mono ?_
          rintro e wu ⟨rfl, hb⟩
          replace HB := HB.trans (hb.mono HB.size)
          clear hb
          go_wp2_with fail
          go_ret
          exact ⟨rfl, HB⟩

end Go.Proofs.YtleadjkndciniaaDoor
