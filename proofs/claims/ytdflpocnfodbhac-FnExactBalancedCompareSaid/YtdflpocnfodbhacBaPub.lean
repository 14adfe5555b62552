/- Balanced digits: the model's public functions of digits and values. -/
import Derived.Test.YtdflpocnfodbhacLgSpec
import Derived.Test.YtdflpocnfodbhacBaSpec
set_option linter.unusedVariables false
set_option linter.unusedSimpArgs false
set_option maxRecDepth 100000
namespace Go.Proofs.Ytdflpocnfodbhac
open Go.ChangeShapes Go.WideShapes Go.ChangeAt Go.RowKit

theorem specBalancedOk_any (v : Value) (l : List Int) (b : Int) (w : World) (hr : RowAt w v (intsOf l)) (hl : l.length ≤ 1048576) (hi : ∀ n ∈ l, in64 n) (hb : in64 b) :
    Calls Try.prog 43 #[v, .int .i64 b] w fun e w' => e = .returned (.bool (rBalancedOk0 l b)) ∧ Below w.heap.size w w' := by
  refine (specBal_eq v l b w hr hl hi hb).mono ?_
  rintro e w' ⟨rfl, rfl⟩
  exact ⟨rfl, Below.refl _ _⟩

set_option maxHeartbeats 4000000 in
theorem specBalancedCompare_any (va : Value) (a : List Int) (vc : Value) (c : List Int) (b : Int) (w : World) (hra : RowAt w va (intsOf a)) (hl : a.length ≤ 1048576) (hia : ∀ n ∈ a, in64 n) (hrc : RowAt w vc (intsOf c)) (hl' : c.length ≤ 1048576) (hic : ∀ n ∈ c, in64 n) (hb : in64 b) :
    Calls Try.prog 21 #[va, vc, .int .i64 b] w fun e w' => e = .returned (.int .i64 (rBalancedCompare0 a c b)) ∧ Below w.heap.size w w' := by
  have H1 := Lib.hid (specBal_eq va a b w hra hl hia hb)
  have H2 := Lib.hid (specBal_eq vc c b w hrc hl' hic hb)
  have HRA := Lib.hid hra; have HRC := Lib.hid hrc
  obtain ⟨aa, cap, rfl, h1, h2, h3⟩ := hra.ints
  obtain ⟨ac, cap', rfl, h1', h2', h3'⟩ := hrc.ints
  unfold maxLen at h2 h2'
  clear h3 h3' hra hrc
  cases h : okW a b
  · rw [h] at H1
    have E0 := Lib.hid (show rBalancedCompare0 a c b = -2 by rw [rBalancedCompare0, h]; rfl)
    clear h
    go_enter Try.func21, Try.ntmps21
    go_wp2_with fail
    refine H1.out.mono ?_
    rintro e w' ⟨rfl, rfl⟩
    go_wp2_with fail
    go_ret
    exact ⟨by rw [E0.out]; rfl, Below.refl _ _⟩
  · rw [h] at H1
    cases hc : okW c b
    · rw [hc] at H2
      have E0 := Lib.hid (show rBalancedCompare0 a c b = -2 by rw [rBalancedCompare0, h, hc]; rfl)
      clear h hc
      go_enter Try.func21, Try.ntmps21
      go_wp2_with fail
      refine H1.out.mono ?_
      rintro e w' ⟨rfl, rfl⟩
      go_wp2_with fail
      refine H2.out.mono ?_
      rintro e w' ⟨rfl, rfl⟩
      go_wp2_with fail
      go_ret
      exact ⟨by rw [E0.out]; rfl, Below.refl _ _⟩
    · rw [hc] at H2
      obtain ⟨n, hbe, hn1, hn7, hNa, hla⟩ := okW_yes h
      obtain ⟨n', hbe', _, _, hNc, hlc⟩ := okW_yes hc
      obtain rfl : n = n' := by omega
      have E0 := Lib.hid (show rBalancedCompare0 a c b = cmpI (bv n a) (bv n c) by rw [rBalancedCompare0, h, hc, hbe, hOf_eq]; rfl)
      have HNA := Lib.hid hNa; have HNC := Lib.hid hNc
      have HQA := Lib.hid (fun k (hk : k ≤ 2000000) => specAt_any _ a k w HRA.out hl hk)
      have HQC := Lib.hid (fun k (hk : k ≤ 2000000) => specAt_any _ c k w HRC.out hl' hk)
      obtain ⟨M, hM⟩ : ∃ M, M = max a.length c.length := ⟨_, rfl⟩
      have hMa : a.length ≤ M := by omega
      have hMc : c.length ≤ M := by omega
      have hM9 : M ≤ 60 := by omega
      have hcase : (a.length < c.length ∧ (c.length : Int) = M) ∨ (¬ a.length < c.length ∧ (a.length : Int) = M) := by omega
      clear h hc hNa hNc hia hic hM hb hbe hbe'
      rcases hcase with ⟨hlt, hn0⟩ | ⟨hlt, hn0⟩
      all_goals
        go_enter Try.func21, Try.ntmps21
        go_wp2_with fail
        refine H1.out.mono ?_
        rintro e w' ⟨rfl, rfl⟩
        go_wp2_with fail
        refine H2.out.mono ?_
        rintro e w' ⟨rfl, rfl⟩
        go_wp2_with fail
        go_loop [7] (fun i => ∃ k : Nat, k ≤ M ∧ i = .int .i64 ((k : Int) - 1) ∧ bv n (a.drop k) = bv n (c.drop k)) (fun i => (intOf i + 1).toNat)
        case atStart => exact ⟨M, Nat.le_refl _, by first | rfl | (rw [hn0]) | (rw [← hn0]), by rw [List.drop_of_length_le hMa, List.drop_of_length_le hMc]⟩
        case round =>
          obtain ⟨k, hk, rfl, heq⟩ := hrel
          cases k with
          | zero =>
            rw [List.drop_zero, List.drop_zero] at heq
            have E1 := Lib.hid (show rBalancedCompare0 a c b = 0 by rw [E0.out, heq, cmpI_eq])
            clear heq
            go_wp2_with fail
            go_ret
            exact ⟨by rw [E1.out]; rfl, Below.refl _ _⟩
          | succ j =>
            rw [show ((j + 1 : Nat) : Int) - 1 = (j : Int) by omega]
            have HA1 := Lib.hid (HQA.out j (by omega))
            have HC1 := Lib.hid (HQC.out j (by omega))
            have ea := bv_at n a j
            have ec := bv_at n c j
            have hpl := bv_place (k := j) HNA.out.1 HNC.out.1 heq
            have hpg := bv_place (k := j) HNC.out.1 HNA.out.1 heq.symm
            rw [heq] at ea
            obtain ⟨x, hx⟩ : ∃ x, x = at0 a j := ⟨_, rfl⟩
            obtain ⟨y, hy⟩ : ∃ y, y = at0 c j := ⟨_, rfl⟩
            rw [← hx] at ea hpl hpg HA1
            rw [← hy] at ec hpl hpg HC1
            by_cases hxy : x < y
            · have E1 := Lib.hid (show rBalancedCompare0 a c b = -1 by rw [E0.out, cmpI_lt (hpl hxy)])
              clear hx hy ea ec hpl hpg heq
              go_wp2_with fail
              refine HA1.out.mono ?_
              rintro e w' ⟨rfl, rfl⟩
              go_wp2_with fail
              refine HC1.out.mono ?_
              rintro e w' ⟨rfl, rfl⟩
              go_wp2_with fail
              go_ret
              exact ⟨by rw [E1.out]; rfl, Below.refl _ _⟩
            · by_cases hyx : y < x
              · have E1 := Lib.hid (show rBalancedCompare0 a c b = 1 by rw [E0.out, cmpI_gt (hpg hyx)])
                clear hx hy ea ec hpl hpg heq
                go_wp2_with fail
                refine HA1.out.mono ?_
                rintro e w' ⟨rfl, rfl⟩
                go_wp2_with fail
                refine HC1.out.mono ?_
                rintro e w' ⟨rfl, rfl⟩
                go_wp2_with fail
                go_ret
                exact ⟨by rw [E1.out]; rfl, Below.refl _ _⟩
              · have HE := Lib.hid (show bv n (a.drop j) = bv n (c.drop j) by rw [ea, ec, show x = y by omega])
                clear hx hy ea ec hpl hpg heq
                go_wp2_with fail
                refine HA1.out.mono ?_
                rintro e w' ⟨rfl, rfl⟩
                go_wp2_with fail
                refine HC1.out.mono ?_
                rintro e w' ⟨rfl, rfl⟩
                go_wp2_with fail
                go_round
                case rel => exact ⟨j, by omega, by go_num, HE.out⟩
                case measure => simp [intOf]

end Go.Proofs.Ytdflpocnfodbhac
