/- Long numbers: the model's square roots. -/
import Derived.Test.YtdflpocnfodbhabLgMul
import Derived.Test.YtdflpocnfodbhabLgPub
import Derived.Deep.RegionHeld3
set_option linter.unusedVariables false
set_option linter.unusedSimpArgs false
set_option maxRecDepth 100000
namespace Go.Proofs.Ytdflpocnfodbhab
open Go.ChangeShapes Go.WideShapes Go.ChangeAt Go.RowKit

theorem root_start {b n m : Nat} {a : List Int} (hb : 2 ≤ b) (h : AllD b a) (hm : a.length ≤ 2 * m) : vl b a < (0 + b ^ m) * (0 + b ^ m) := by
  have h1 := vl_lt_pow hb h
  have h2 : b ^ a.length ≤ b ^ (2 * m) := Nat.pow_le_pow_right (by omega) hm
  have h3 : b ^ (2 * m) = b ^ m * b ^ m := by rw [show 2 * m = m + m by omega, Nat.pow_add]
  rw [Nat.zero_add]; omega
theorem vl_set {b : Nat} {P : List Int} {j : Nat} {d : Nat} (h : AllD b P) (hj : j < P.length) (hd : d + 1 < b) (hp : P[j] = (d : Int)) : vl b (P.set j ((d : Int) + 1)) = vl b P + b ^ j := by
  have h1 := vl_cast h
  have h2 := vl_cast (allD_set (j := j) h (v := (d : Int) + 1) (by omega) (by omega))
  have h3 := hv_set (b : Int) P j ((d : Int) + 1) hj
  rw [hp, show ((d : Int) + 1 - d) = 1 by omega, Int.mul_one] at h3
  have h4 : ((b ^ j : Nat) : Int) = (b : Int) ^ j := Int.natCast_pow _ _
  omega
theorem set_back {P : List Int} {j : Nat} {v u : Int} (hj : j < P.length) (hp : P[j] = u) : (P.set j v).set j u = P := by
  rw [List.set_set, ← hp, List.set_getElem_self]
theorem cmp_pos {n m : Nat} : (0 < cmpN n m) ↔ m < n := by
  unfold cmpN
  split
  · constructor <;> intro h <;> omega
  · split
    · constructor <;> intro h <;> omega
    · constructor <;> intro h <;> omega
theorem conv_len_set {b : Nat} {P : List Int} (h : AllD b P) (hb : 2 ≤ b) : (dg b (vl b P)).length ≤ P.length := dg_len_pow hb (vl_lt_pow hb h)
theorem root_end {b R d j : Nat} (hd : d + 1 = b) : R + d * b ^ j + b ^ j = R + b ^ (j + 1) := by
  subst hd
  rw [Nat.pow_succ, Nat.mul_add, Nat.mul_one, Nat.mul_comm ((d + 1) ^ j) d]
  omega

set_option maxHeartbeats 4000000 in
theorem specRootDigits_any (va : Value) (a : List Int) (b : Int) (w : World) (hra : RowAt w va (intsOf a)) (hl : a.length ≤ 1048576) (hia : ∀ n ∈ a, in64 n) (hb : in64 b) :
    Calls Try.prog 25 #[va, .int .i64 b] w fun e w' => ∃ v, e = .returned (.tuple #[v, .bool (rRootDigits1 a b)]) ∧ w'.ownsRow w.heap.size 3 1 v (rRootDigits0 a b).length (intsOf (rRootDigits0 a b)) ∧ Below w.heap.size w w' := by
  have H1 := Lib.hid (specDigitsOk_any va a b w hra hl hia hb)
  have HRA := Lib.hid hra
  obtain ⟨aa, cap, rfl, h1, h2, h3⟩ := hra.ints
  unfold maxLen at h2
  obtain ⟨i0, hi, hz0, hz1, hz2⟩ := info_parts infoInt
  clear hra h3 hb
  cases h : okD a b
  · rw [h] at H1
    have E1 := Lib.hid (show rRootDigits1 a b = false from h)
    have E0 := Lib.hid (show rRootDigits0 a b = [] by rw [rRootDigits0, E1.out]; rfl)
    clear h
    go_enter Try.func25, Try.ntmps25
    go_wp2_with fail
    refine H1.out.mono ?_
    rintro e w' ⟨rfl, rfl⟩
    go_wp2_with fail
    go_ret2
    exact ⟨_, by rw [E1.out]; rfl, by rw [E0.out]; exact World.ownsRow_nil _ _ _ _, Below.refl _ _⟩
  · rw [h] at H1
    obtain ⟨b, rfl, hb2, hb16, hNa, hla⟩ := nat_of_ok h
    obtain ⟨A, hA⟩ : ∃ A, A = vl b a := ⟨_, rfl⟩
    have E1 := Lib.hid (show rRootDigits1 a b = true from h)
    have E0 := Lib.hid (show rRootDigits0 a b = dg b (isq A) by rw [rRootDigits0, E1.out, vlI_nat, dgI_nat, hA]; rfl)
    obtain ⟨m, hm⟩ : ∃ m, m = (a.length + 1) / 2 := ⟨_, rfl⟩
    have HST := Lib.hid (root_start (n := 0) (m := m) hb2 hNa.1 (by omega))
    rw [← hA] at HST
    have hm2 : ((a.length : Int) + 1) / 2 = (m : Int) := by omega
    have hm3 : ((a.length : Int) + 1).tdiv 2 = (m : Int) := by rw [Int.tdiv_eq_ediv_of_nonneg (by omega)]; omega
    have hm9 : m ≤ 30 := by omega
    have HCM := Lib.hid (fun v (n : Nat) W (hB : Below w.heap.size w W) (hr : RowAt W v (intsOf (dg b n))) (hl : (dg b n).length ≤ 1048576) => specCompare_any v _ (dg b n) a b W hb2 (nrm_dg hb2 n) hNa hr (HRA.out.below hB) hl (by omega))
    have HTI := Lib.hid (fun v (n : Nat) W (hr : RowAt W v (intsOf (dg b n))) (hl : (dg b n).length ≤ 30) => specTimes_any v v (dg b n) (dg b n) b W hb2 hb16 (nrm_dg hb2 n).1 (nrm_dg hb2 n).1 hr hr (by omega) (by omega))
    simp only [vl_dg hb2] at HCM HTI
    rw [← hA] at HCM
    have HML := Lib.hid (fun n (h : (dg b n).length ≤ 30) => show (dg b (n * n)).length ≤ 60 by
      have := mul_len hb2 (nrm_dg hb2 n).1 (nrm_dg hb2 n).1
      rw [vl_dg hb2] at this
      omega)
    have HM := Lib.hid hm
    clear h hNa hia hA hm
    go_enter Try.func25, Try.ntmps25
    go_wp2_with fail
    refine H1.out.mono ?_
    rintro e w' ⟨rfl, rfl⟩
    go_wp2_with (at_make; refine wpList_make_full _ rfl _ _ 22 rfl w.heap.size 3 i0 (.int .i64 0) 1 Try.underlying22 hi hz0 hz1 _ _ _ _ m rfl rfl rfl rfl ?c1 ?c2 ?c3 ?_)
    case c1 => rw [hz2]; omega
    case c2 => unfold maxLen; omega
    case c3 => exact Nat.le_refl _
    intro w1 hown hgrow
    have hown1 : w1.ownsRow w.heap.size 3 1 (.slice (some ⟨w.heap.size, 0, none⟩) m m) m (intsOf (List.replicate m 0)) := by
      rw [toList_madeCells_one] at hown; rw [intsOf_zeros]; simpa using hown
    have hB1 : Below w.heap.size w w1 := (Below.refl _ _).grown hgrow (Nat.le_refl _) (fun k hk => by cases hk)
    have HO1 := Lib.hid hown1
    clear hown hgrow hown1
    go_wp2_with fail
    go_loopg [7] m (fun g t wr => ∃ (O : List Int), g ≤ m ∧ t = .int .i64 ((g : Int) - 1) ∧ O.length = m ∧ AllD b O ∧ (∀ j (hj : j < O.length), j < g → O[j] = 0) ∧ vl b O * vl b O ≤ A ∧ A < (vl b O + b ^ g) * (vl b O + b ^ g) ∧ wr.ownsRow w.heap.size 3 1 (.slice (some ⟨w.heap.size, 0, none⟩) m m) m (intsOf O) ∧ Below w.heap.size w wr)
    case atStart =>
      have hz : vl b (List.replicate m 0) = 0 := by
        rw [vl, hv_zeros b (fun d hd => (List.mem_replicate.1 hd).2)]; rfl
      refine ⟨List.replicate m 0, Nat.le_refl _, rfl, by simp, fun d hd => ?_, fun j hj _ => by simp, ?_, ?_, HO1.out, hB1⟩
      · have := (List.mem_replicate.1 hd).2; subst this; omega
      · rw [hz]; exact Nat.zero_le _
      · rw [hz]; exact HST.out
    case round =>
      obtain ⟨O, hg9, rfl, hOl, hOA, hOz, hle, hlt, hown, hB⟩ := hrel
      clear hB1 HO1
      cases gk with
      | zero =>
        have hR : vl b O = isq A := isq_eq hle (by simpa using hlt)
        rw [← hOl] at hown
        have HTC := Lib.hid (specTrim_at _ _ O b w.heap.size wr hb2 hOA hown (by omega))
        rw [hR, hOl] at HTC
        clear hR hOA hown hOz hOl hle hlt
        go_wp2_with fail
        refine HTC.out.mono ?_
        rintro e w' ⟨rfl, ho, rfl⟩
        have HO := Lib.hid ho
        clear ho
        go_wp2_with fail
        go_ret2
        exact ⟨_, by rw [E1.out]; rfl, by rw [E0.out]; exact HO.out, hB⟩
      | succ j =>
        rw [show ((j + 1 : Nat) : Int) - 1 = (j : Int) by omega]
        have hjO : j < O.length := by omega
        have HP0 := Lib.hid (show O[j] = ((1 : Nat) : Int) - 1 by rw [hOz j hjO (by omega)]; rfl)
        have HZ0 := Lib.hid (show ∀ i (hi : i < O.length), i < j → O[i] = 0 from fun i hi h => hOz i hi (by omega))
        obtain ⟨R, hR⟩ : ∃ R, R = vl b O := ⟨_, rfl⟩
        rw [← hR] at hle hlt
        have HVR := Lib.hid hR
        have HR0 := Lib.hid (show vl b O = R + (1 - 1) * b ^ j by rw [← hR]; simp)
        have HO := Lib.hid hown; have HOA := Lib.hid hOA; have HOL := Lib.hid hOl
        have HLE := Lib.hid hle; have HLT := Lib.hid hlt
        have HB := Lib.hid hB
        clear hOz hR hown hOA hOl hle hlt
        go_wp2_with fail
        go_loopg [8] (b - 1) (fun g t wi => ∃ (d : Nat) (P : List Int), 1 ≤ d ∧ d ≤ b ∧ g = b - d ∧ t = .int .i64 d ∧ P.length = m ∧ AllD b P ∧ (∀ i (hi : i < P.length), i < j → P[i] = 0) ∧ (∀ hj : j < P.length, P[j] = (d : Int) - 1) ∧ vl b P = R + (d - 1) * b ^ j ∧ vl b P * vl b P ≤ A ∧ wi.ownsRow w.heap.size 3 1 (.slice (some ⟨w.heap.size, 0, none⟩) m m) m (intsOf P) ∧ Below w.heap.size w wi)
        case atStart => exact ⟨1, O, Nat.le_refl _, by omega, rfl, rfl, HOL.out, HOA.out, HZ0.out, fun _ => HP0.out, HR0.out, by rw [← HVR.out]; exact HLE.out, HO.out, HB.out⟩
        case round =>
          obtain ⟨d, P, hd1, hdb, rfl, rfl, hPl, hPA, hPz, hPj, hPv, hPle, hown, hBi⟩ := hrel
          clear hB
          obtain ⟨e, rfl⟩ : ∃ e, d = e + 1 := ⟨d - 1, by omega⟩
          have hjP : j < P.length := by omega
          have hpj : P[j] = (e : Int) := by rw [hPj hjP]; omega
          rw [show e + 1 - 1 = e by omega] at hPv
          have HPZ := Lib.hid hPz; have HPA := Lib.hid hPA; have HPV := Lib.hid hPv; have HPL := Lib.hid hPl; have HPLE := Lib.hid hPle
          by_cases hdb' : e + 1 < b
          · obtain ⟨q, hq⟩ : ∃ q : Int, q = (e : Int) + 1 := ⟨_, rfl⟩
            rw [show ((e + 1 : Nat) : Int) = q by omega]
            have hqb : q < b := by omega
            have hq0 : 0 ≤ q := by omega
            have hcp : wr.cell? ⟨w.heap.size, j, none⟩ = some (.int .i64 e) := by
              rw [hown.cellAt j (by omega), intsOf_get hjP, hpj]
            have hfp : wr.frozen? ⟨w.heap.size, j, none⟩ = false := hown.frozenAt j
            have hsd := (hown.stored j (.int .i64 q)).1
            rw [intsOf_set] at hsd
            have hjm : (j : Int) < m := by omega
            have hX := vl_set hPA hjP (show e + 1 < b from hdb') hpj
            rw [← hq] at hX
            have HPD := Lib.hid (allD_set (j := j) hPA hq0 (show q ≤ (b : Int) - 1 by omega))
            have HSB := Lib.hid (set_back (v := q) hjP hpj)
            have HQ := Lib.hid hq
            obtain ⟨P', hP'⟩ : ∃ P', P' = P.set j q := ⟨_, rfl⟩
            rw [← hP'] at hsd hX HPD HSB
            have hPl' : P'.length = m := by rw [hP', List.length_set]; exact hPl
            have HPZ' := Lib.hid (show ∀ i (hi : i < P'.length), i < j → P'[i] = 0 from fun i hi h => by
              subst hP'
              rw [List.getElem_set, if_neg (by omega)]; exact hPz i (by simpa using hi) h)
            have HPJ' := Lib.hid (show ∀ hj : j < P'.length, P'[j] = q from fun hj => by subst hP'; simp)
            obtain ⟨V, hV⟩ : ∃ V, V = wr.setCell ⟨w.heap.size, j, none⟩ (.int .i64 q) := ⟨_, rfl⟩
            have hVs : V.heap.size = wr.heap.size := by rw [hV]; simp
            have hBV : Below w.heap.size w V := by rw [hV]; exact hBi.setCell (p := ⟨w.heap.size, j, none⟩) (Nat.le_refl _) _
            rw [← hV] at hsd
            obtain ⟨X, hXX⟩ : ∃ X, X = vl b P + b ^ j := ⟨_, rfl⟩
            rw [← hXX] at hX
            have HXX := Lib.hid hXX; have HX := Lib.hid hX
            have HVV := Lib.hid hV
            have hlit : ((wr.setCell ⟨w.heap.size, j, none⟩ (.int .i64 q)).alloc (.cells #[] 3)).ownsRow wr.heap.size 3 1 (.slice (some ⟨wr.heap.size, 0, none⟩) 0 0) 0 [] := by
              rw [← hV, ← hVs]; exact World.ownsRow_lit V #[] 0 (Nat.le_refl _) (by decide) rfl
            have HCL := Lib.hid (show ∀ i u, (intsOf P')[i]? = some u → ((wr.setCell ⟨w.heap.size, j, none⟩ (.int .i64 q)).alloc (.cells #[] 3)).cell? ⟨w.heap.size, i, none⟩ = some u by
              rw [← hV]; exact owns_cells (hsd.alloc _))
            have HOV := Lib.hid hsd
            have hszV := hBV.size
            clear hown hPv hPle hPA hPz hPj hPl hq hpj hP' hX hXX hBi hV hsd
            go_wp2_with (at_builtin; refine wpList_append_own _ rfl _ _ 22 rfl wr.heap.size 3 i0 (.int .i64 0) 1 8 Try.underlying22 hi hz0 hz1 hz2 rfl (by decide) _ _ _ rfl hlit ⟨w.heap.size, 0, none⟩ m m (intsOf P') rfl ?e0 ?e1 ?e2 ?e3 ?e4 ?e5 ?_)
            case e0 => simp [intsOf, hPl']
            case e1 => first | exact HCL.out | exact fun i u hu => by rw [add_zero_addr]; exact HCL.out i u hu
            case e2 => exact intsOf_one _
            case e3 => unfold maxLen; omega
            case e4 => omega
            case e5 => simp
            intro v' w3 hown' hgrow hnl
            rw [← HVV.out] at hgrow
            have hb3 : Below V.heap.size V w3 := ((Below.refl V.heap.size V).alloc (Nat.le_refl _) (.cells #[] 3)).grown hgrow (by simp) (fun k hk => by simp [Value.ownBlock] at hk; omega)
            obtain ⟨g1, c1, rfl⟩ := owns_some hown' (by first | exact hnl | exact fun e => absurd (hnl.1 e).1 (by simp))
            have ho1 : w3.ownsRow wr.heap.size 3 1 (.slice (some ⟨g1, 0, none⟩) P'.length c1) P'.length (intsOf P') := by simpa [hPl'] using hown'
            have hB3 := hBV.trans (hb3.mono hszV)
            have hsz3 := hB3.size
            have HT1 := Lib.hid (specTrim_at _ c1 P' b wr.heap.size w3 hb2 HPD.out ho1 (by omega))
            rw [HX.out, hPl'] at HT1
            have hXl : (dg b X).length ≤ 30 := by
              have := conv_len_set HPD.out hb2
              rw [HX.out] at this; omega
            have HB3 := Lib.hid hb3
            clear hown' hgrow hnl ho1 hb3 hlit
            go_wp2_with fail
            refine HT1.out.mono ?_
            rintro e w' ⟨rfl, ho1, rfl⟩
            have HT2 := Lib.hid (HTI.out _ X w3 (RowAt.of_owns ho1) hXl)
            clear ho1
            go_wp2_with fail
            refine HT2.out.mono ?_
            rintro e w4 ⟨v4, rfl, ho4, hb4⟩
            have hB4 := hB3.trans (hb4.mono hsz3)
            have HC4 := Lib.hid (HCM.out v4 (X * X) w4 hB4 (RowAt.of_owns ho4) (by have := HML.out X hXl; omega))
            have HB34 := Lib.hid (HB3.out.trans (hb4.mono HB3.out.size))
            clear ho4 hb4
            have hs4 := hB4.size
            by_cases hgt : A < X * X
            · have hcm : 0 < cmpN (X * X) A := cmp_pos.2 hgt
              obtain ⟨z, hz⟩ : ∃ z, z = cmpN (X * X) A := ⟨_, rfl⟩
              rw [← hz] at HC4 hcm
              have HGT := Lib.hid hgt
              clear hz hgt
              go_wp2_with fail
              refine HC4.out.mono ?_
              rintro e' w5 ⟨rfl, hb5⟩
              have hB5 := hB4.trans (hb5.mono hs4)
              have hO5 := owns_below HOV.out (HB34.out.trans (hb5.mono HB34.out.size))
              have hcp5 : w5.cell? ⟨w.heap.size, j, none⟩ = some (.int .i64 q) := by
                rw [hO5.cellAt j (by omega), intsOf_get (show j < P'.length by omega), HPJ'.out]
              have hfp5 : w5.frozen? ⟨w.heap.size, j, none⟩ = false := hO5.frozenAt j
              have hsd5 := (hO5.stored j (.int .i64 (q - 1))).1
              rw [intsOf_set, show q - 1 = (e : Int) by have := HQ.out; omega, HSB.out] at hsd5
              have HE5 := Lib.hid (show q - 1 = (e : Int) by have := HQ.out; omega)
              have HSD5 := Lib.hid hsd5
              have hB6 : Below w.heap.size w (w5.setCell ⟨w.heap.size, j, none⟩ (.int .i64 (q - 1))) := hB5.setCell (p := ⟨w.heap.size, j, none⟩) (Nat.le_refl _) _
              have HB6 := Lib.hid hB6
              clear hO5 hsd5 hb5 hB6
              go_wp2_with fail
              go_roundg j
              case measure => omega
              case rel => exact ⟨P, by omega, by go_num, HPL.out, HPA.out, HPZ.out, HPLE.out, by rw [← HXX.out]; exact HGT.out, by rw [HE5.out]; exact HSD5.out, HB6.out⟩
            · have hcm : ¬ 0 < cmpN (X * X) A := fun h => hgt (cmp_pos.1 h)
              obtain ⟨z, hz⟩ : ∃ z, z = cmpN (X * X) A := ⟨_, rfl⟩
              rw [← hz] at HC4 hcm
              have HGT := Lib.hid (show X * X ≤ A by omega)
              clear hz hgt
              go_wp2_with fail
              refine HC4.out.mono ?_
              rintro e' w5 ⟨rfl, hb5⟩
              have hB5 := hB4.trans (hb5.mono hs4)
              have HO5 := Lib.hid (owns_below HOV.out (HB34.out.trans (hb5.mono HB34.out.size)))
              have HVN := Lib.hid (show vl b P' = R + (e + 1 + 1 - 1) * b ^ j by
                rw [HX.out, HXX.out, HPV.out, show e + 1 + 1 - 1 = e + 1 from rfl, Nat.succ_mul, Nat.add_assoc])
              have HLX := Lib.hid (show vl b P' * vl b P' ≤ A by rw [HX.out]; exact HGT.out)
              clear hb5
              go_wp2_with fail
              go_roundg (b - (e + 1 + 1))
              case measure => omega
              case rel => exact ⟨e + 1 + 1, P', by omega, by omega, rfl, by have := HQ.out; go_num, hPl', HPD.out, HPZ'.out, fun hj => by rw [HPJ'.out hj]; have := HQ.out; omega, HVN.out, HLX.out, HO5.out, hB5⟩
          · have n1 : ¬ (e : Int) + 1 < b := by omega
            have HLJ := Lib.hid (show A < (vl b P + b ^ j) * (vl b P + b ^ j) by
              rw [hPv, root_end (show e + 1 = b by omega)]; exact HLT.out)
            have HOW := Lib.hid hown
            clear hPz hPA hPv hPle hPj hown
            go_wp2_with fail
            go_roundg j
            case measure => omega
            case rel => exact ⟨P, by omega, by go_num, HPL.out, HPA.out, HPZ.out, HPLE.out, HLJ.out, HOW.out, hBi⟩

end Go.Proofs.Ytdflpocnfodbhab
