/- Negative bases: the program's signs, ranges and comparisons. -/
import Derived.Test.YtkkgihlakilknaaNgNext
set_option linter.unusedVariables false
set_option linter.unusedSimpArgs false
namespace Go.Proofs.Ytkkgihlakilknaa
open Go.ChangeShapes Go.WideShapes Go.ChangeAt Go.RowKit

/-- the sign of a place -/
def psg (k : Nat) : Int := if k % 2 = 0 then 1 else -1

theorem place_any (k : Nat) (w : World) (hk : k ≤ 1000000) :
    Calls Try.prog 44 #[.int .i64 k] w fun e w' => e = .returned (.int .i64 (psg k)) ∧ w = w' := by
  have hm : ((k : Int).tmod 2) = ((k % 2 : Nat) : Int) := by rw [Int.tmod_eq_emod_of_nonneg (by omega)]; omega
  have hr : (k : Int) % 2 = ((k % 2 : Nat) : Int) := by omega
  rcases Nat.mod_two_eq_zero_or_one k with h | h
  · have HV := Lib.hid (show psg k = 1 by rw [psg, if_pos h])
    rw [h] at hm hr
    clear h
    go_enter Try.func44, Try.ntmps44
    go_wp2
    go_ret
    exact ⟨by rw [HV.out]; rfl, rfl⟩
  · have HV := Lib.hid (show psg k = -1 by rw [psg, if_neg (by omega)])
    rw [h] at hm hr
    clear h
    go_enter Try.func44, Try.ntmps44
    go_wp2
    go_ret
    exact ⟨by rw [HV.out]; rfl, rfl⟩

set_option maxHeartbeats 1000000 in
theorem implNegaSign_any (v : Value) (l : List Int) (b : Int) (w : World) (hr : RowAt w v (intsOf l)) (hl : l.length ≤ 1048576) (hi : ∀ n ∈ l, in64 n) (hb : in64 b) :
    Calls Try.prog 20 #[v, .int .i64 b] w fun e w' => e = .returned (.int .i64 (rNegaSign0 l b)) ∧ Below w.heap.size w w' := by
  have H1 := Lib.hid (implDigitsOk_any v l b w hr hl hi hb)
  obtain ⟨a, cap, rfl, h1, h2, h3⟩ := hr.ints
  unfold maxLen at h2
  clear h3 hr
  cases h : okD l b
  · rw [h] at H1
    have E0 := Lib.hid (show rNegaSign0 l b = -2 by rw [rNegaSign0, h]; rfl)
    clear h
    go_enter Try.func20, Try.ntmps20
    go_wp2_with (go_at_call 18; refine H1.out.mono ?_; rintro e w' ⟨rfl, rfl⟩)
    go_ret
    exact ⟨by rw [E0.out]; rfl, Below.refl _ _⟩
  · rw [h] at H1
    obtain ⟨b, rfl, hb2, hb16, hN, hla⟩ := nat_of_ok h
    have HE := Lib.hid (show rNegaSign0 l b = sgn (nv b l) by rw [rNegaSign0, h, nvI_nat]; rfl)
    obtain ⟨n, hn⟩ : ∃ n, n = l.length := ⟨_, rfl⟩
    have HK0 := Lib.hid (fun h0 : n = 0 => show rNegaSign0 l b = 0 by rw [HE.out, List.eq_nil_of_length_eq_zero (hn.symm.trans h0)]; rfl)
    have HKS := Lib.hid (fun (k : Nat) (hk : n = k + 1) => show rNegaSign0 l b = psg k by
      rw [HE.out, psg]
      split
      · exact sgn_odd hb2 hN (by omega)
      · exact sgn_even hb2 hN (fun e => by rw [e] at hn; simp at hn; omega) (by omega))
    rw [← hn] at H1 h1 hla ⊢
    clear h hN hi hb hn hl
    by_cases h0 : n = 0
    · subst h0
      have E0 := Lib.hid (HK0.out rfl)
      go_enter Try.func20, Try.ntmps20
      go_wp2_with (go_at_call 18; refine H1.out.mono ?_; rintro e w' ⟨rfl, rfl⟩)
      go_ret
      exact ⟨by rw [E0.out]; rfl, Below.refl _ _⟩
    · obtain ⟨k, hk⟩ : ∃ k, n = k + 1 := ⟨n - 1, by omega⟩
      have E0 := Lib.hid (HKS.out k hk)
      have HP := Lib.hid (place_any k w (by omega))
      have hq : ((n : Int) == 0) = false := by simp; omega
      have hs1 : (n : Int) - 1 = k := by omega
      have hn1 : ¬ (n : Int) = 0 := by omega
      have hn2 : (n : Int) ≤ 60 := by omega
      clear hk h0
      go_enter Try.func20, Try.ntmps20
      go_wp2_with (first
        | (go_at_call 18; refine H1.out.mono ?_; rintro e w' ⟨rfl, rfl⟩)
        | (go_at_call 44; refine HP.out.mono ?_; rintro e w' ⟨rfl, rfl⟩))
      go_ret
      exact ⟨by rw [E0.out]; rfl, Below.refl _ _⟩

set_option maxHeartbeats 4000000 in
theorem implNegaRange_any (k b : Int) (w : World) (hk : in64 k) (hb : in64 b) :
    Calls Try.prog 19 #[.int .i64 k, .int .i64 b] w fun e w' => e = .returned (.tuple #[.int .i64 (rNegaRange0 k b), .int .i64 (rNegaRange1 k b)]) ∧ Below w.heap.size w w' := by
  have H1 := Lib.hid (implBaseOk_any b w hb)
  have HI := Lib.hid (And.intro hk hb)
  obtain ⟨hk1, hk2⟩ := hk
  clear hb
  cases h : okB b
  · rw [h] at H1
    have E0 := Lib.hid (show rNegaRange0 k b = 0 ∧ rNegaRange1 k b = 0 by rw [rNegaRange0, rNegaRange1, h]; exact ⟨rfl, rfl⟩)
    clear h
    go_enter Try.func19, Try.ntmps19
    go_wp2_with (go_at_call 38; refine H1.out.mono ?_; rintro e w' ⟨rfl, rfl⟩)
    go_ret2
    exact ⟨by rw [E0.out.1, E0.out.2]; rfl, Below.refl _ _⟩
  · rw [h] at H1
    cases h2 : inB k 0 9
    · have E0 := Lib.hid (show rNegaRange0 k b = 0 ∧ rNegaRange1 k b = 0 by rw [rNegaRange0, rNegaRange1, h, h2]; exact ⟨rfl, rfl⟩)
      have hcase : k < 0 ∨ (¬ k < 0 ∧ 9 < k) := by simp only [inB, Bool.and_eq_false_iff, decide_eq_false_iff_not] at h2; omega
      clear h h2
      rcases hcase with h3 | ⟨h3, h4⟩
      all_goals
        go_enter Try.func19, Try.ntmps19
        go_wp2_with (go_at_call 38; refine H1.out.mono ?_; rintro e w' ⟨rfl, rfl⟩)
        go_ret2
        exact ⟨by rw [E0.out.1, E0.out.2]; rfl, Below.refl _ _⟩
    · obtain ⟨hb2, hb16⟩ := okB_yes h
      obtain ⟨hk0, hk9⟩ := inB_yes h2
      obtain ⟨b, rfl⟩ : ∃ b' : Nat, b = b' := ⟨b.toNat, by omega⟩
      obtain ⟨k, rfl⟩ : ∃ k' : Nat, k = k' := ⟨k.toNat, by omega⟩
      have E0 := Lib.hid (show rNegaRange0 k b = rlo b k ∧ rNegaRange1 k b = rhi b k by rw [rNegaRange0, rNegaRange1, h, h2]; exact ⟨rfl, rfl⟩)
      clear h h2
      go_enter Try.func19, Try.ntmps19
      go_wp2_with (go_at_call 38; refine H1.out.mono ?_; rintro e w' ⟨rfl, rfl⟩)
      go_loop [6, 7, 8, 21] (fun lo hi p i => ∃ (j : Nat), j ≤ k ∧ i = .int .i64 j ∧ lo = .int .i64 (rlo b j) ∧ hi = .int .i64 (rhi b j) ∧ p = .int .i64 (pw b j)) (fun _ _ _ i => k - (intOf i).toNat)
      case atStart => exact ⟨0, Nat.zero_le _, rfl, rfl, rfl, by simp [pw]⟩
      case round =>
        obtain ⟨j, hj, rfl, rfl, rfl, rfl⟩ := hrel
        by_cases hlt : j < k
        · have hps := pw_succ b j
          have hpp := pow_pos' (b := b) (by omega) j
          have hpb := pow_small (b := b) (by omega) (show j ≤ 9 by omega)
          have hrb := rng_bound (b := b) (by omega) (by omega) (show j ≤ 9 by omega)
          have hrs := rng_sign b (by omega) j
          have HLO := Lib.hid (show rlo b (j + 1) = if j % 2 = 0 then rlo b j else rlo b j - (b - 1) * (b : Int) ^ j from rfl)
          have HHI := Lib.hid (show rhi b (j + 1) = if j % 2 = 0 then rhi b j + (b - 1) * (b : Int) ^ j else rhi b j from rfl)
          obtain ⟨lo, hlo⟩ : ∃ lo, lo = rlo b j := ⟨_, rfl⟩
          obtain ⟨hi, hhi⟩ : ∃ hi, hi = rhi b j := ⟨_, rfl⟩
          obtain ⟨P, hP⟩ : ∃ P, P = (b : Int) ^ j := ⟨_, rfl⟩
          rw [← hlo] at hrb hrs HLO ⊢
          rw [← hhi] at hrb hrs HHI ⊢
          rw [← hP] at hpp hpb HLO HHI
          have hm0 : 0 < ((b : Int) - 1) * P := Int.mul_pos (by omega) (by omega)
          have hm1 : ((b : Int) - 1) * P ≤ 15 * 68719476736 := Int.mul_le_mul (by omega) hpb (by omega) (by omega)
          have hlt' : (j : Int) < k := by omega
          have hn1 : P * b ≤ 68719476736 * 16 := Int.mul_le_mul hpb (by omega) (by omega) (by omega)
          have hn2 : 0 ≤ P * b := Int.mul_nonneg (by omega) (by omega)
          rcases Nat.mod_two_eq_zero_or_one j with hp | hp
          · have hpw : pw b j = P := by rw [pw, if_pos hp, hP]
            rw [hpw] at hps ⊢
            rw [if_pos hp] at HLO HHI
            have hn0 : P * -(b : Int) = -(P * b) := Int.mul_neg _ _
            have hn3 : -P * (b : Int) = -(P * b) := Int.neg_mul _ _
            have hn4 : ¬ ((b : Int) - 1) * P < 0 := by omega
            rw [hn3] at hps
            have HPS := Lib.hid hps
            have HN0 := Lib.hid hn0
            clear hlo hhi hP hpw hps hp hn3
            go_wp2_with fail
            go_round
            case rel => exact ⟨j + 1, by omega, by go_num, by rw [HLO.out] <;> first | rfl | simp, by rw [HHI.out] <;> first | rfl | simp, by rw [HPS.out]⟩
            case measure => simp [intOf]; omega
          · have hpw : pw b j = -P := by rw [pw, if_neg (by omega), hP]
            rw [hpw] at hps ⊢
            rw [if_neg (by omega)] at HLO HHI
            have hn3 : ((b : Int) - 1) * -P = -(((b : Int) - 1) * P) := Int.mul_neg _ _
            have hn4 : lo + ((b : Int) - 1) * -P = lo - ((b : Int) - 1) * P := by rw [hn3]; omega
            have hn6 : ((b : Int) - 1) * -P < 0 := by rw [hn3]; omega
            have hn7 : ¬ 0 < ((b : Int) - 1) * -P := by omega
            have hn8 : -P * -(b : Int) = P * b := Int.neg_mul_neg _ _
            rw [Int.neg_neg] at hps
            have HPS := Lib.hid hps
            clear hlo hhi hP hpw hps hp
            go_wp2_with fail
            go_round
            case rel => exact ⟨j + 1, by omega, by go_num, by rw [HLO.out] <;> first | rfl | (rw [← hn4]; rfl) | simp, by rw [HHI.out] <;> first | rfl | simp, by rw [HPS.out]⟩
            case measure => simp [intOf]; omega
        · have hjk : j = k := by omega
          subst hjk
          obtain ⟨lo, hlo⟩ : ∃ lo, lo = rlo b j := ⟨_, rfl⟩
          obtain ⟨hi, hhi⟩ : ∃ hi, hi = rhi b j := ⟨_, rfl⟩
          obtain ⟨P, hP⟩ : ∃ P, P = pw b j := ⟨_, rfl⟩
          rw [← hlo, ← hhi] at E0
          rw [← hlo, ← hhi, ← hP]
          have hlt' : ¬ (j : Int) < j := by omega
          clear hlo hhi hP
          go_wp2_with fail
          go_ret2
          exact ⟨by rw [E0.out.1, E0.out.2]; rfl, Below.refl _ _⟩

theorem cmpZ_eq (x y : Int) : cmpZ x y = cmpI x y := rfl

set_option maxHeartbeats 4000000 in
theorem implNegaCompare_any (va : Value) (a : List Int) (vc : Value) (c : List Int) (b : Int) (w : World) (hra : RowAt w va (intsOf a)) (hl : a.length ≤ 1048576) (hia : ∀ n ∈ a, in64 n) (hrc : RowAt w vc (intsOf c)) (hl' : c.length ≤ 1048576) (hic : ∀ n ∈ c, in64 n) (hb : in64 b) :
    Calls Try.prog 21 #[va, vc, .int .i64 b] w fun e w' => e = .returned (.int .i64 (rNegaCompare0 a c b)) ∧ Below w.heap.size w w' := by
  have H1 := Lib.hid (implDigitsOk_any va a b w hra hl hia hb)
  have H2 := Lib.hid (implDigitsOk_any vc c b w hrc hl' hic hb)
  have HRA := Lib.hid hra; have HRC := Lib.hid hrc
  obtain ⟨aa, cap, rfl, h1, h2, h3⟩ := hra.ints
  obtain ⟨ac, cap', rfl, h1', h2', h3'⟩ := hrc.ints
  unfold maxLen at h2 h2'
  clear h3 h3' hra hrc
  have HNO := Lib.hid (fun h : (okD a b && okD c b) = false => show rNegaCompare0 a c b = -2 by rw [rNegaCompare0, h, if_neg (by simp)])
  cases ha : okD a b
  · rw [ha] at H1
    have E0 := Lib.hid (HNO.out (by rw [ha]; rfl))
    clear ha
    go_enter Try.func21, Try.ntmps21
    go_wp2_with fail
    refine H1.out.mono ?_
    rintro e w' ⟨rfl, rfl⟩
    go_wp2_with fail
    go_ret
    exact ⟨by rw [E0.out]; rfl, Below.refl _ _⟩
  · rw [ha] at H1
    cases hc : okD c b
    · rw [hc] at H2
      have E0 := Lib.hid (HNO.out (by rw [ha, hc]; rfl))
      clear ha hc
      go_enter Try.func21, Try.ntmps21
      go_wp2_with fail
      refine H1.out.mono ?_
      rintro e w' ⟨rfl, rfl⟩
      go_wp2_with fail
      refine H2.out.mono ?_
      rintro e w' ⟨rfl, rfl⟩
      go_wp2_with fail
      go_ret
      exact ⟨by rw [E0.out]; rfl, Below.refl _ _⟩
    · rw [hc] at H2
      obtain ⟨n, rfl, hn2, hn16, hNa, hla⟩ := nat_of_ok ha
      have hNc := okD_nrm hc
      have hlc := (okD_yes hc).2.1
      have E0 := Lib.hid (show rNegaCompare0 a c n = cmpI (nv n a) (nv n c) by rw [rNegaCompare0, ha, hc, nvI_nat, nvI_nat]; rfl)
      have HNA := Lib.hid hNa; have HNC := Lib.hid hNc
      have HQA := Lib.hid (fun k (hk : k ≤ 2000000) => implAt_any _ a k w HRA.out hl hk)
      have HQC := Lib.hid (fun k (hk : k ≤ 2000000) => implAt_any _ c k w HRC.out hl' hk)
      have HCM := Lib.hid (fun x y => cmpInt_any x y w)
      have HPL := Lib.hid (fun k hk => place_any k w hk)
      obtain ⟨M, hM⟩ : ∃ M, M = max a.length c.length := ⟨_, rfl⟩
      have hMa : a.length ≤ M := by omega
      have hMc : c.length ≤ M := by omega
      have hM9 : M ≤ 60 := by omega
      have hcase : (((a.length : Nat) : Int) < c.length ∧ (c.length : Int) = M) ∨ (¬ ((a.length : Nat) : Int) < c.length ∧ (a.length : Int) = M) := by omega
      clear ha hc hNa hNc hia hic hM hb HNO
      rcases hcase with ⟨hlt, hn0⟩ | ⟨hlt, hn0⟩
      all_goals
        go_enter Try.func21, Try.ntmps21
        go_wp2_with fail
        refine H1.out.mono ?_
        rintro e w' ⟨rfl, rfl⟩
        go_wp2_with fail
        refine H2.out.mono ?_
        rintro e w' ⟨rfl, rfl⟩
        go_wp2_with fail
        go_loop [7] (fun i => ∃ k : Nat, k ≤ M ∧ i = .int .i64 ((k : Int) - 1) ∧ nv n (a.drop k) = nv n (c.drop k)) (fun i => (intOf i + 1).toNat)
        case atStart => exact ⟨M, Nat.le_refl _, by first | rfl | (rw [hn0]) | (rw [← hn0]), by rw [List.drop_of_length_le hMa, List.drop_of_length_le hMc]⟩
        case round =>
          obtain ⟨k, hk, rfl, heq⟩ := hrel
          cases k with
          | zero =>
            rw [List.drop_zero, List.drop_zero] at heq
            have E1 := Lib.hid (show rNegaCompare0 a c n = 0 by rw [E0.out, heq, cmpI_eq])
            clear heq
            go_wp2_with fail
            go_ret
            exact ⟨by rw [E1.out]; rfl, Below.refl _ _⟩
          | succ j =>
            rw [show ((j + 1 : Nat) : Int) - 1 = (j : Int) by omega]
            have HA1 := Lib.hid (HQA.out j (by omega))
            have HC1 := Lib.hid (HQC.out j (by omega))
            have HP1 := Lib.hid (HPL.out j (by omega))
            have ea := nv_at n a j
            have ec := nv_at n c j
            have hpl := nv_place (k := j) hn2 HNA.out.1 HNC.out.1 heq
            have hpg := nv_place (k := j) hn2 HNC.out.1 HNA.out.1 heq.symm
            rw [heq] at ea
            obtain ⟨x, hx⟩ : ∃ x, x = at0 a j := ⟨_, rfl⟩
            obtain ⟨y, hy⟩ : ∃ y, y = at0 c j := ⟨_, rfl⟩
            rw [← hx] at ea hpl hpg HA1
            rw [← hy] at ec hpl hpg HC1
            by_cases hxy : x = y
            · subst hxy
              have HE := Lib.hid (show nv n (a.drop j) = nv n (c.drop j) by rw [ea, ec])
              have HK := Lib.hid (HCM.out x x)
              rw [show cmpZ x x = 0 from cmpI_eq x] at HK
              clear hx hy ea ec hpl hpg heq
              go_wp2_with fail
              refine HA1.out.mono ?_
              rintro e w' ⟨rfl, rfl⟩
              go_wp2_with fail
              refine HC1.out.mono ?_
              rintro e w' ⟨rfl, rfl⟩
              go_wp2_with fail
              refine HK.out.mono ?_
              rintro e w' ⟨rfl, rfl⟩
              go_wp2_with fail
              go_round
              case rel => exact ⟨j, by omega, by go_num, HE.out⟩
              case measure => simp [intOf]
            · have key : ∃ s t : Int, cmpZ x y = s ∧ psg j = t ∧ s * t = rNegaCompare0 a c n ∧ (s = 1 ∨ s = -1) ∧ (t = 1 ∨ t = -1) := by
                refine ⟨_, _, rfl, rfl, ?_, ?_, ?_⟩
                · rw [E0.out, cmpZ_eq]
                  rcases Int.lt_or_gt_of_ne hxy with h3 | h3
                  · obtain ⟨i1, i2⟩ := hpl h3
                    rw [cmpI_lt h3, psg]
                    split
                    · rename_i hp; rw [cmpI_lt (i1 hp)]; rfl
                    · rename_i hp; rw [cmpI_gt (i2 (by omega))]; rfl
                  · obtain ⟨i1, i2⟩ := hpg h3
                    rw [cmpI_gt h3, psg]
                    split
                    · rename_i hp; rw [cmpI_gt (i1 hp)]; rfl
                    · rename_i hp; rw [cmpI_lt (i2 (by omega))]; rfl
                · rw [cmpZ_eq]
                  rcases Int.lt_or_gt_of_ne hxy with h3 | h3
                  · right; exact cmpI_lt h3
                  · left; exact cmpI_gt h3
                · unfold psg; split
                  · exact .inl rfl
                  · exact .inr rfl
              obtain ⟨s, t, hs, ht, hst, hs1, ht1⟩ := key
              have HK := Lib.hid (HCM.out x y)
              rw [hs] at HK
              rw [ht] at HP1
              have HST := Lib.hid hst
              clear hx hy ea ec hpl hpg heq hs ht hxy hst
              rcases hs1 with rfl | rfl <;> rcases ht1 with rfl | rfl
              all_goals
                go_wp2_with fail
                refine HA1.out.mono ?_
                rintro e w' ⟨rfl, rfl⟩
                go_wp2_with fail
                refine HC1.out.mono ?_
                rintro e w' ⟨rfl, rfl⟩
                go_wp2_with fail
                refine HK.out.mono ?_
                rintro e w' ⟨rfl, rfl⟩
                go_wp2_with fail
                refine HP1.out.mono ?_
                rintro e w' ⟨rfl, rfl⟩
                go_wp2_with fail
                go_ret
                exact ⟨by rw [← HST.out]; rfl, Below.refl _ _⟩

end Go.Proofs.Ytkkgihlakilknaa
