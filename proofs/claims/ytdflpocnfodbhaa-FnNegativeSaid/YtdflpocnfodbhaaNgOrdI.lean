/- Negative bases: the program's signs, ranges and comparisons. -/
import Derived.Test.YtdflpocnfodbhaaDgImp
import Derived.Test.YtdflpocnfodbhaaLgR
import Derived.Test.YtdflpocnfodbhaaNgM
import Derived.Test.YtdflpocnfodbhaaNgOrd
import Derived.Deep.RegionHeld3
set_option linter.unusedVariables false
set_option linter.unusedSimpArgs false
set_option maxRecDepth 100000
namespace Go.Proofs.Ytdflpocnfodbhaa
open Go.ChangeShapes Go.WideShapes Go.ChangeAt Go.RowKit

/-- the sign of a place -/
def psg (k : Nat) : Int := if k % 2 = 0 then 1 else -1

theorem place_any (k : Nat) (w : World) (hk : k ≤ 1000000) :
    Calls Try.prog 103 #[.int .i64 k] w fun e w' => e = .returned (.int .i64 (psg k)) ∧ w = w' := by
  have hm : ((k : Int).tmod 2) = ((k % 2 : Nat) : Int) := by rw [Int.tmod_eq_emod_of_nonneg (by omega)]; omega
  have hr : (k : Int) % 2 = ((k % 2 : Nat) : Int) := by omega
  rcases Nat.mod_two_eq_zero_or_one k with h | h
  · have HV := Lib.hid (show psg k = 1 by rw [psg, if_pos h])
    rw [h] at hm hr
    clear h
    go_enter Try.func103, Try.ntmps103
    go_wp2
    go_ret
    exact ⟨by rw [HV.out]; rfl, rfl⟩
  · have HV := Lib.hid (show psg k = -1 by rw [psg, if_neg (by omega)])
    rw [h] at hm hr
    clear h
    go_enter Try.func103, Try.ntmps103
    go_wp2
    go_ret
    exact ⟨by rw [HV.out]; rfl, rfl⟩

set_option maxHeartbeats 1000000 in
theorem implNegaSign_any (v : Value) (l : List Int) (b : Int) (w : World) (hr : RowAt w v (intsOf l)) (hl : l.length ≤ 1048576) (hi : ∀ n ∈ l, in64 n) (hb : in64 b) :
    Calls Try.prog 42 #[v, .int .i64 b] w fun e w' => e = .returned (.int .i64 (rNegaSign0 l b)) ∧ Below w.heap.size w w' := by
  have H1 := Lib.hid (implDigitsOk_any v l b w hr hl hi hb)
  obtain ⟨a, cap, rfl, h1, h2, h3⟩ := hr.ints
  unfold maxLen at h2
  clear h3 hr
  cases h : okD l b
  · rw [h] at H1
    have E0 := Lib.hid (show rNegaSign0 l b = -2 by rw [rNegaSign0, h]; rfl)
    clear h
    go_enter Try.func42, Try.ntmps42
    go_wp2_with (go_at_call 20; refine H1.out.mono ?_; rintro e w' ⟨rfl, rfl⟩)
    go_ret
    exact ⟨by rw [E0.out]; rfl, Below.refl _ _⟩
  · rw [h] at H1
    obtain ⟨b, rfl, hb2, hb16, hN, hla⟩ := nat_of_ok h
    have HE := Lib.hid (show rNegaSign0 l b = sgnZ (nv b l) by rw [rNegaSign0, h, nvI_nat]; rfl)
    obtain ⟨n, hn⟩ : ∃ n, n = l.length := ⟨_, rfl⟩
    have HK0 := Lib.hid (fun h0 : n = 0 => show rNegaSign0 l b = 0 by rw [HE.out, List.eq_nil_of_length_eq_zero (hn.symm.trans h0)]; rfl)
    have HKS := Lib.hid (fun (k : Nat) (hk : n = k + 1) => show rNegaSign0 l b = psg k by
      rw [HE.out, psg]
      split
      · exact sgnZ_odd hb2 hN (by omega)
      · exact sgnZ_even hb2 hN (fun e => by rw [e] at hn; simp at hn; omega) (by omega))
    rw [← hn] at H1 h1 hla ⊢
    clear h hN hi hb hn hl
    by_cases h0 : n = 0
    · subst h0
      have E0 := Lib.hid (HK0.out rfl)
      go_enter Try.func42, Try.ntmps42
      go_wp2_with (go_at_call 20; refine H1.out.mono ?_; rintro e w' ⟨rfl, rfl⟩)
      go_ret
      exact ⟨by rw [E0.out]; rfl, Below.refl _ _⟩
    · obtain ⟨k, hk⟩ : ∃ k, n = k + 1 := ⟨n - 1, by omega⟩
      have E0 := Lib.hid (HKS.out k hk)
      have HP := Lib.hid (place_any k w (by omega))
      have hq : ((n : Int) == 0) = false := by simp; omega
      have hs1 : (n : Int) - 1 = k := by omega
      have hn1 : ¬ (n : Int) = 0 := by omega
      have hn2 : (n : Int) ≤ 60 := by omega
      clear hk h0
      go_enter Try.func42, Try.ntmps42
      go_wp2_with (first
        | (go_at_call 20; refine H1.out.mono ?_; rintro e w' ⟨rfl, rfl⟩)
        | (go_at_call 103; refine HP.out.mono ?_; rintro e w' ⟨rfl, rfl⟩))
      go_ret
      exact ⟨by rw [E0.out]; rfl, Below.refl _ _⟩

set_option maxHeartbeats 4000000 in
theorem implNegaRange_any (k b : Int) (w : World) (hk : in64 k) (hb : in64 b) :
    Calls Try.prog 41 #[.int .i64 k, .int .i64 b] w fun e w' => e = .returned (.tuple #[.int .i64 (rNegaRange0 k b), .int .i64 (rNegaRange1 k b)]) ∧ Below w.heap.size w w' := by
  have H1 := Lib.hid (implBaseOk_any b w hb)
  have HI := Lib.hid (And.intro hk hb)
  obtain ⟨hk1, hk2⟩ := hk
  clear hb
  cases h : okB b
  · rw [h] at H1
    have E0 := Lib.hid (show rNegaRange0 k b = 0 ∧ rNegaRange1 k b = 0 by rw [rNegaRange0, rNegaRange1, h]; exact ⟨rfl, rfl⟩)
    clear h
    go_enter Try.func41, Try.ntmps41
    go_wp2_with (go_at_call 21; refine H1.out.mono ?_; rintro e w' ⟨rfl, rfl⟩)
    go_ret2
    exact ⟨by rw [E0.out.1, E0.out.2]; rfl, Below.refl _ _⟩
  · rw [h] at H1
    cases h2 : inB k 0 9
    · have E0 := Lib.hid (show rNegaRange0 k b = 0 ∧ rNegaRange1 k b = 0 by rw [rNegaRange0, rNegaRange1, h, h2]; exact ⟨rfl, rfl⟩)
      have hcase : k < 0 ∨ (¬ k < 0 ∧ 9 < k) := by simp only [inB, Bool.and_eq_false_iff, decide_eq_false_iff_not] at h2; omega
      clear h h2
      rcases hcase with h3 | ⟨h3, h4⟩
      all_goals
        go_enter Try.func41, Try.ntmps41
        go_wp2_with (go_at_call 21; refine H1.out.mono ?_; rintro e w' ⟨rfl, rfl⟩)
        go_ret2
        exact ⟨by rw [E0.out.1, E0.out.2]; rfl, Below.refl _ _⟩
    · obtain ⟨hb2, hb16⟩ := okB_yes h
      obtain ⟨hk0, hk9⟩ := inB_yes h2
      obtain ⟨b, rfl⟩ : ∃ b' : Nat, b = b' := ⟨b.toNat, by omega⟩
      obtain ⟨k, rfl⟩ : ∃ k' : Nat, k = k' := ⟨k.toNat, by omega⟩
      have E0 := Lib.hid (show rNegaRange0 k b = rlo b k ∧ rNegaRange1 k b = rhi b k by rw [rNegaRange0, rNegaRange1, h, h2]; exact ⟨rfl, rfl⟩)
      clear h h2
      go_enter Try.func41, Try.ntmps41
      go_wp2_with (go_at_call 21; refine H1.out.mono ?_; rintro e w' ⟨rfl, rfl⟩)
      go_loop [6, 7, 8, 21] (fun lo hi p i => ∃ (j : Nat), j ≤ k ∧ i = .int .i64 j ∧ lo = .int .i64 (rlo b j) ∧ hi = .int .i64 (rhi b j) ∧ p = .int .i64 (pw b j)) (fun _ _ _ i => k - (intOf i).toNat)
      case atStart => exact ⟨0, Nat.zero_le _, rfl, rfl, rfl, by simp [pw]⟩
      case round =>
        obtain ⟨j, hj, rfl, rfl, rfl, rfl⟩ := hrel
        by_cases hlt : j < k
        · have hps := pw_succ b j
          have hpp := pow_pos' (b := b) (by omega) j
          have hpb := pow_small (b := b) (by omega) (show j ≤ 9 by omega)
          have hrb := rng_bound (b := b) (by omega) (by omega) (show j ≤ 9 by omega)
          have hrs := rng_sign b (by omega) j
          have HLO := Lib.hid (show rlo b (j + 1) = if j % 2 = 0 then rlo b j else rlo b j - (b - 1) * (b : Int) ^ j from rfl)
          have HHI := Lib.hid (show rhi b (j + 1) = if j % 2 = 0 then rhi b j + (b - 1) * (b : Int) ^ j else rhi b j from rfl)
          obtain ⟨lo, hlo⟩ : ∃ lo, lo = rlo b j := ⟨_, rfl⟩
          obtain ⟨hi, hhi⟩ : ∃ hi, hi = rhi b j := ⟨_, rfl⟩
          obtain ⟨P, hP⟩ : ∃ P, P = (b : Int) ^ j := ⟨_, rfl⟩
          rw [← hlo] at hrb hrs HLO ⊢
          rw [← hhi] at hrb hrs HHI ⊢
          rw [← hP] at hpp hpb HLO HHI
          have hm0 : 0 < ((b : Int) - 1) * P := Int.mul_pos (by omega) (by omega)
          have hm1 : ((b : Int) - 1) * P ≤ 15 * 68719476736 := Int.mul_le_mul (by omega) hpb (by omega) (by omega)
          have hlt' : (j : Int) < k := by omega
          have hn1 : P * b ≤ 68719476736 * 16 := Int.mul_le_mul hpb (by omega) (by omega) (by omega)
          have hn2 : 0 ≤ P * b := Int.mul_nonneg (by omega) (by omega)
          rcases Nat.mod_two_eq_zero_or_one j with hp | hp
          · have hpw : pw b j = P := by rw [pw, if_pos hp, hP]
            rw [hpw] at hps ⊢
            rw [if_pos hp] at HLO HHI
            have hn0 : P * -(b : Int) = -(P * b) := Int.mul_neg _ _
            have hn3 : -P * (b : Int) = -(P * b) := Int.neg_mul _ _
            have hn4 : ¬ ((b : Int) - 1) * P < 0 := by omega
            rw [hn3] at hps
            have HPS := Lib.hid hps
            have HN0 := Lib.hid hn0
            clear hlo hhi hP hpw hps hp hn3
            go_wp2_with fail
            go_round
            case rel => exact ⟨j + 1, by omega, by go_num, by rw [HLO.out] <;> first | rfl | simp, by rw [HHI.out] <;> first | rfl | simp, by rw [HPS.out]⟩
            case measure => simp [intOf]; omega
          · have hpw : pw b j = -P := by rw [pw, if_neg (by omega), hP]
            rw [hpw] at hps ⊢
            rw [if_neg (by omega)] at HLO HHI
            have hn3 : ((b : Int) - 1) * -P = -(((b : Int) - 1) * P) := Int.mul_neg _ _
            have hn4 : lo + ((b : Int) - 1) * -P = lo - ((b : Int) - 1) * P := by rw [hn3]; omega
            have hn6 : ((b : Int) - 1) * -P < 0 := by rw [hn3]; omega
            have hn7 : ¬ 0 < ((b : Int) - 1) * -P := by omega
            have hn8 : -P * -(b : Int) = P * b := Int.neg_mul_neg _ _
            rw [Int.neg_neg] at hps
            have HPS := Lib.hid hps
            clear hlo hhi hP hpw hps hp
            go_wp2_with fail
            go_round
            case rel => exact ⟨j + 1, by omega, by go_num, by rw [HLO.out] <;> first | rfl | (rw [← hn4]; rfl) | simp, by rw [HHI.out] <;> first | rfl | simp, by rw [HPS.out]⟩
            case measure => simp [intOf]; omega
        · have hjk : j = k := by omega
          subst hjk
          obtain ⟨lo, hlo⟩ : ∃ lo, lo = rlo b j := ⟨_, rfl⟩
          obtain ⟨hi, hhi⟩ : ∃ hi, hi = rhi b j := ⟨_, rfl⟩
          obtain ⟨P, hP⟩ : ∃ P, P = pw b j := ⟨_, rfl⟩
          rw [← hlo, ← hhi] at E0
          rw [← hlo, ← hhi, ← hP]
          have hlt' : ¬ (j : Int) < j := by omega
          clear hlo hhi hP
          go_wp2_with fail
          go_ret2
          exact ⟨by rw [E0.out.1, E0.out.2]; rfl, Below.refl _ _⟩

end Go.Proofs.Ytdflpocnfodbhaa
