/- Fibonacci places: the model's the number of lists of a number. -/
import Derived.Test.YtkimojjhmllnfaaFbDig
set_option linter.unusedVariables false
set_option linter.unusedSimpArgs false
set_option maxRecDepth 100000
namespace Go.Proofs.Ytkimojjhmllnfaa
open Go.ChangeShapes Go.WideShapes Go.ChangeAt Go.RowKit


theorem cnt_zero : ∀ k, cnt k 0 = 1
  | 0 => rfl
  | k + 1 => by rw [cnt, if_neg (by have := fp_pos k; omega), cnt_zero k]
theorem cnt_big : ∀ k n, fp (k + 1) < n + 2 → cnt k n = 0
  | 0, n, h => by
    have h1 : fp (0 + 1) = 2 := rfl
    rw [cnt, if_neg (by omega)]
  | k + 1, n, h => by
    have e := fp_s k
    rw [show k + 1 + 1 = k + 2 by omega] at h
    have p := fp_pos k
    rw [cnt, cnt_big k n (by omega)]
    by_cases hf : fp k ≤ n
    · rw [if_pos hf, cnt_big k (n - fp k) (by omega)]
    · rw [if_neg hf]
theorem cnt_le : ∀ k n, cnt k n ≤ 2 ^ k
  | 0, n => by rw [cnt]; split <;> simp
  | k + 1, n => by
    have h1 := cnt_le k (n - fp k)
    have h2 := cnt_le k n
    rw [cnt, Nat.pow_succ]
    split <;> omega
def cntI (k : Nat) (n : Int) : Int := if n < 0 then 0 else cnt k n.toNat
theorem cntI_bd {k : Nat} (hk : k ≤ 50) (n : Int) : 0 ≤ cntI k n ∧ cntI k n ≤ 1125899906842624 := by
  unfold cntI
  have h1 := cnt_le k n.toNat
  have h2 : 2 ^ k ≤ 2 ^ 50 := Nat.pow_le_pow_right (by decide) hk
  have h3 : 2 ^ 50 = 1125899906842624 := by decide
  split <;> omega
theorem cntI_step {j : Nat} {n F : Int} (hF : F = fp j) (h0 : 0 < n) : cntI (j + 1) n = cntI j (n - F) + cntI j n := by
  unfold cntI
  rw [if_neg (by omega), cnt]
  by_cases h : fp j ≤ n.toNat
  · rw [if_pos h, if_neg (by omega), if_neg (by omega), show (n - F).toNat = n.toNat - fp j by omega]; simp
  · rw [if_neg h, if_pos (by omega), if_neg (by omega)]; simp

set_option maxHeartbeats 1000000 in
theorem specCount_any : ∀ (k : Nat) (n : Int) (w : World), k ≤ 50 → n ≤ 100000 → -10000000000000 ≤ n →
    Calls Try.prog 64 #[.int .i64 n, .int .i64 ((k : Int) - 1)] w fun e w' => e = .returned (.int .i64 (cntI k n)) ∧ w = w' := by
  intro k
  induction k with
  | zero =>
    intro n w hk hn hm
    rcases Int.lt_trichotomy n 0 with h | h | h
    · have E := Lib.hid (show cntI 0 n = 0 by rw [cntI, if_pos h])
      go_enter Try.func64, Try.ntmps64
      go_wp2_with fail
      go_ret
      exact ⟨by rw [E.out]; rfl, rfl⟩
    · subst h
      go_enter Try.func64, Try.ntmps64
      go_wp2_with fail
      go_ret
      exact ⟨rfl, rfl⟩
    · have E := Lib.hid (show cntI 0 n = 0 by rw [cntI, if_neg (by omega), cnt, if_neg (by omega)]; rfl)
      have h9 : ¬ n < 0 := by omega
      go_enter Try.func64, Try.ntmps64
      go_wp2_with fail
      go_ret
      exact ⟨by rw [E.out]; rfl, rfl⟩
  | succ j ih =>
    intro n w hk hn hm
    rw [show ((j + 1 : Nat) : Int) - 1 = (j : Int) by omega]
    have h8 : ¬ (j : Int) < 0 := by omega
    rcases Int.lt_trichotomy n 0 with h | h | h
    · have E := Lib.hid (show cntI (j + 1) n = 0 by rw [cntI, if_pos h])
      clear ih
      go_enter Try.func64, Try.ntmps64
      go_wp2_with fail
      go_ret
      exact ⟨by rw [E.out]; rfl, rfl⟩
    · subst h
      have E := Lib.hid (show cntI (j + 1) 0 = 1 by rw [cntI, if_neg (by omega)]; show ((cnt (j + 1) 0 : Nat) : Int) = 1; rw [cnt_zero]; rfl)
      clear ih
      go_enter Try.func64, Try.ntmps64
      go_wp2_with fail
      go_ret
      exact ⟨by rw [E.out]; rfl, rfl⟩
    · have h9 : ¬ n < 0 := by omega
      have HP2 := Lib.hid (fun W => specPlace_any (j + 2) W (by omega))
      have HP0 := Lib.hid (fun W => specPlace_any j W (by omega))
      have b2 := fp_60 (show j + 2 ≤ 60 by omega)
      have b0 := fp_60 (show j ≤ 60 by omega)
      have p2 := fp_pos (j + 2)
      have HBG := Lib.hid (cnt_big (j + 1) n.toNat)
      rw [show j + 1 + 1 = j + 2 by omega] at HBG
      obtain ⟨G, hG⟩ : ∃ G, G = fp (j + 2) := ⟨_, rfl⟩
      rw [← hG] at HP2 b2 p2 HBG
      have hj2 : ((j + 2 : Nat) : Int) = (j : Int) + 2 := by omega
      rw [hj2] at HP2
      clear hj2
      by_cases hc : (G : Int) - 2 < n
      · have E := Lib.hid (show cntI (j + 1) n = 0 by rw [cntI, if_neg (by omega), HBG.out (by omega)]; rfl)
        clear ih hG
        go_enter Try.func64, Try.ntmps64
        go_wp2_with fail
        refine (HP2.out _).mono ?_
        rintro e w' ⟨rfl, rfl⟩
        go_wp2_with fail
        go_ret
        exact ⟨by rw [E.out]; rfl, rfl⟩
      · obtain ⟨F, hF⟩ : ∃ F, F = fp j := ⟨_, rfl⟩
        have E := Lib.hid (cntI_step (j := j) (n := n) (F := (F : Int)) (by rw [hF]) h)
        rw [← hF] at HP0 b0
        have HIH := Lib.hid (fun m W h1 h2 => ih m W (by omega) h1 h2)
        have HIH2 := Lib.hid (fun m W h1 h2 => ih m W (by omega) h1 h2)
        have c1 := cntI_bd (show j ≤ 50 by omega) (n - F)
        have c2 := cntI_bd (show j ≤ 50 by omega) n
        clear ih hG hF
        go_enter Try.func64, Try.ntmps64
        go_wp2_with fail
        refine (HP2.out _).mono ?_
        rintro e w' ⟨rfl, rfl⟩
        go_wp2_with fail
        refine (HP0.out _).mono ?_
        rintro e w' ⟨rfl, rfl⟩
        go_wp2_with fail
        refine (HIH.out (n - F) _ (by omega) (by omega)).mono ?_
        rintro e w' ⟨rfl, rfl⟩
        obtain ⟨C1, hC1⟩ : ∃ C, C = cntI j (n - F) := ⟨_, rfl⟩
        rw [← hC1] at c1 E ⊢
        clear hC1
        go_wp2_with fail
        refine (HIH2.out n _ (by omega) (by omega)).mono ?_
        rintro e w' ⟨rfl, rfl⟩
        obtain ⟨C2, hC2⟩ : ∃ C, C = cntI j n := ⟨_, rfl⟩
        rw [← hC2] at c2 E ⊢
        clear hC2
        go_wp2_with fail
        go_ret
        exact ⟨by rw [E.out]; rfl, rfl⟩

/-- the sparse digits of a small number are few -/
theorem sp_few {n : Nat} (h : n ≤ 100000000) : (sp n).length ≤ 50 := by
  have e : (sp n).length = (trT (gs 58 n)).length := by rw [sp, List.length_reverse]
  rw [e]
  have hb := trT_b01 (gs_b01 58 n)
  have ht := trT_top (gs 58 n)
  have hl : fp 56 ≤ fp 58 := fp_mono (by omega)
  have hv : vT (trT (gs 58 n)) = n := by rw [trT_val, gs_val (by rw [fp_56] at hl; omega)]
  by_cases hne : trT (gs 58 n) = []
  · rw [hne]; simp
  · obtain ⟨t, ht⟩ := top_one hb ht hne
    rw [ht, vT_one] at hv
    rw [ht, List.length_cons]
    rcases Nat.lt_or_ge t.length 50 with h5 | h5
    · omega
    · have h6 := fp_mono h5
      have h7 := fp_50
      omega
def rCountFib0 (n : Int) : Int := if inB n 0 100000 then cnt (sp n.toNat).length n.toNat else -1
def rShiftFib0 (n : Int) : Int := if inB n 0 100000000 then vL 1 (sp n.toNat) else -1

theorem specCountFib_any (n : Int) (w : World) (hn : in64 n) :
    Calls Try.prog 43 #[.int .i64 n] w fun e w' => e = .returned (.int .i64 (rCountFib0 n)) ∧ Below w.heap.size w w' := by
  have HS := Lib.hid (fun W => sIn_any n 0 100000 W)
  cases h : inB n 0 100000
  · rw [h] at HS
    have E0 := Lib.hid (show rCountFib0 n = -1 by rw [rCountFib0, h]; rfl)
    clear h
    go_enter Try.func43, Try.ntmps43
    go_wp2_with fail
    refine (HS.out _).mono ?_
    rintro e w' ⟨rfl, rfl⟩
    go_wp2_with fail
    go_ret
    exact ⟨by rw [E0.out]; rfl, Below.refl _ _⟩
  · rw [h] at HS
    obtain ⟨n0, n1⟩ := inB_yes h
    obtain ⟨N, rfl⟩ : ∃ N : Nat, n = N := ⟨n.toNat, by omega⟩
    have HP := Lib.hid (specSp_any N w (by omega))
    have hl := sp_few (show N ≤ 100000000 by omega)
    have E0 := Lib.hid (show rCountFib0 N = cntI (sp N).length N by rw [rCountFib0, h, cntI, if_pos rfl, if_neg (by omega)]; rfl)
    obtain ⟨L, hL⟩ : ∃ L, L = sp N := ⟨_, rfl⟩
    rw [← hL] at HP hl E0
    have HC := Lib.hid (fun W => specCount_any L.length N W hl (by omega) (by omega))
    clear h hL
    go_enter Try.func43, Try.ntmps43
    go_wp2_with fail
    refine (HS.out _).mono ?_
    rintro e w' ⟨rfl, rfl⟩
    go_wp2_with fail
    refine HP.out.mono ?_
    rintro e w1 ⟨v1, rfl, hO, hB⟩
    obtain ⟨a3, c3, e3, _, _⟩ := owns_form hO
    obtain ⟨ln3, hln3⟩ : ∃ ln, ln = L.length := ⟨_, rfl⟩
    rw [← hln3] at e3 HC E0 hl
    subst e3
    clear hO hln3
    go_wp2_with fail
    refine (HC.out _).mono ?_
    rintro e w2 ⟨rfl, rfl⟩
    go_wp2_with fail
    go_ret
    exact ⟨by rw [E0.out]; rfl, hB⟩

end Go.Proofs.Ytkimojjhmllnfaa
