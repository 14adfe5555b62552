/- Negative bases: the model's signs, ranges and comparisons. -/
import Derived.Test.YtdflpocnfodbhabLgPub
import Derived.Test.YtdflpocnfodbhabNgSpec
set_option linter.unusedVariables false
set_option linter.unusedSimpArgs false
set_option maxRecDepth 100000
namespace Go.Proofs.Ytdflpocnfodbhab
open Go.ChangeShapes Go.WideShapes Go.ChangeAt Go.RowKit

theorem specNegaValue_any (v : Value) (l : List Int) (b : Int) (w : World) (hr : RowAt w v (intsOf l)) (hl : l.length ≤ 1048576) (hi : ∀ n ∈ l, in64 n) (hb : in64 b) :
    Calls Try.prog 29 #[v, .int .i64 b] w fun e w' => e = .returned (.tuple #[.int .i64 (rNegaValue0 l b), .bool (rNegaValue1 l b)]) ∧ Below w.heap.size w w' := by
  refine (specNegaVal_eq v l b w hr hl hi hb).mono ?_
  rintro e w' ⟨rfl, rfl⟩
  exact ⟨rfl, Below.refl _ _⟩

set_option maxHeartbeats 1000000 in
theorem specNegaSign_any (v : Value) (l : List Int) (b : Int) (w : World) (hr : RowAt w v (intsOf l)) (hl : l.length ≤ 1048576) (hi : ∀ n ∈ l, in64 n) (hb : in64 b) :
    Calls Try.prog 35 #[v, .int .i64 b] w fun e w' => e = .returned (.int .i64 (rNegaSign0 l b)) ∧ Below w.heap.size w w' := by
  have H1 := Lib.hid (specDigitsOk_any v l b w hr hl hi hb)
  obtain ⟨a, cap, rfl, h1, h2, h3⟩ := hr.ints
  unfold maxLen at h2
  clear h3 hr
  cases h : okD l b
  · rw [h] at H1
    have E0 := Lib.hid (show rNegaSign0 l b = -2 by rw [rNegaSign0, h]; rfl)
    clear h
    go_enter Try.func35, Try.ntmps35
    go_wp2_with fail
    refine H1.out.mono ?_
    rintro e w' ⟨rfl, rfl⟩
    go_wp2_with fail
    go_ret
    exact ⟨by rw [E0.out]; rfl, Below.refl _ _⟩
  · rw [h] at H1
    obtain ⟨b, rfl, hb2, hb16, hN, hla⟩ := nat_of_ok h
    have HE := Lib.hid (show rNegaSign0 l b = sgnZ (nv b l) by rw [rNegaSign0, h, nvI_nat]; rfl)
    obtain ⟨n, hn⟩ : ∃ n, n = l.length := ⟨_, rfl⟩
    have HK0 := Lib.hid (fun h0 : n = 0 => show rNegaSign0 l b = 0 by rw [HE.out, List.eq_nil_of_length_eq_zero (hn.symm.trans h0)]; rfl)
    have HK1 := Lib.hid (fun h0 : n % 2 = 1 => show rNegaSign0 l b = 1 by rw [HE.out, sgnZ_odd hb2 hN (by rw [← hn]; exact h0)])
    have HK2 := Lib.hid (fun (h0 : n ≠ 0) (h1 : n % 2 = 0) => show rNegaSign0 l b = -1 by rw [HE.out, sgnZ_even hb2 hN (fun e => h0 (by rw [hn, e]; rfl)) (by rw [← hn]; exact h1)])
    rw [← hn] at H1 h1 hla ⊢
    clear h hN hi hb hn hl
    by_cases h0 : n = 0
    · have E0 := Lib.hid (HK0.out h0)
      have hq : ((n : Int) == 0) = true := by simp [h0]
      clear h0
      go_enter Try.func35, Try.ntmps35
      go_wp2_with fail
      refine H1.out.mono ?_
      rintro e w' ⟨rfl, rfl⟩
      go_wp2_with fail
      go_ret
      exact ⟨by rw [E0.out]; rfl, Below.refl _ _⟩
    · have hq : ((n : Int) == 0) = false := by simpa using h0
      have hm : ((n : Int).tmod 2) = ((n % 2 : Nat) : Int) := by rw [Int.tmod_eq_emod_of_nonneg (by omega)]; omega
      have hm2 : ((n : Int) % 2) = ((n % 2 : Nat) : Int) := by omega
      rcases Nat.mod_two_eq_zero_or_one n with hp | hp
      · have E0 := Lib.hid (HK2.out h0 hp)
        rw [hp] at hm hm2
        clear h0 hp
        go_enter Try.func35, Try.ntmps35
        go_wp2_with fail
        refine H1.out.mono ?_
        rintro e w' ⟨rfl, rfl⟩
        go_wp2_with fail
        go_ret
        exact ⟨by rw [E0.out]; rfl, Below.refl _ _⟩
      · have E0 := Lib.hid (HK1.out hp)
        rw [hp] at hm hm2
        clear h0 hp
        go_enter Try.func35, Try.ntmps35
        go_wp2_with fail
        refine H1.out.mono ?_
        rintro e w' ⟨rfl, rfl⟩
        go_wp2_with fail
        go_ret
        exact ⟨by rw [E0.out]; rfl, Below.refl _ _⟩

/-- the power's sign -/
def pw (b : Nat) (k : Nat) : Int := if k % 2 = 0 then (b : Int) ^ k else -((b : Int) ^ k)
theorem pw_succ (b k : Nat) : pw b (k + 1) = -(pw b k) * b := by
  unfold pw
  rcases Nat.mod_two_eq_zero_or_one k with h | h
  · rw [if_neg (by omega), if_pos h, Int.pow_succ, Int.neg_mul]
  · rw [if_pos (by omega), if_neg (by omega), Int.neg_neg, Int.pow_succ]


set_option maxHeartbeats 4000000 in
theorem specNegaCompare_any (va : Value) (a : List Int) (vc : Value) (c : List Int) (b : Int) (w : World) (hra : RowAt w va (intsOf a)) (hl : a.length ≤ 1048576) (hia : ∀ n ∈ a, in64 n) (hrc : RowAt w vc (intsOf c)) (hl' : c.length ≤ 1048576) (hic : ∀ n ∈ c, in64 n) (hb : in64 b) :
    Calls Try.prog 37 #[va, vc, .int .i64 b] w fun e w' => e = .returned (.int .i64 (rNegaCompare0 a c b)) ∧ Below w.heap.size w w' := by
  have H2 := Lib.hid (specTwo_any va vc a c b w hra hl hia hrc hl' hic hb)
  have HRA := Lib.hid hra; have HRC := Lib.hid hrc
  obtain ⟨aa, cap, rfl, h1, h2, h3⟩ := hra.ints
  obtain ⟨ac, cap', rfl, h1', h2', h3'⟩ := hrc.ints
  unfold maxLen at h2 h2'
  clear h3 h3' hra hrc
  cases h : (okD a b && okD c b)
  · rw [h] at H2
    have E0 := Lib.hid (show rNegaCompare0 a c b = -2 by rw [rNegaCompare0, h]; rfl)
    clear h
    go_enter Try.func37, Try.ntmps37
    go_wp2_with fail
    refine H2.out.mono ?_
    rintro e w' ⟨rfl, rfl⟩
    go_wp2_with fail
    go_ret
    exact ⟨by rw [E0.out]; rfl, Below.refl _ _⟩
  · rw [h] at H2
    have h' := h
    simp only [Bool.and_eq_true] at h'
    obtain ⟨n, rfl, hn2, hn16, hNa, hla⟩ := nat_of_ok h'.1
    have hNc := okD_nrm h'.2
    have hlc := (okD_yes h'.2).2.1
    have E0 := Lib.hid (show rNegaCompare0 a c n = cmpI (nv n a) (nv n c) by rw [rNegaCompare0, h, nvI_nat, nvI_nat]; rfl)
    have HNA := Lib.hid hNa; have HNC := Lib.hid hNc
    have HQA := Lib.hid (fun k (hk : k ≤ 2000000) => specAt_any _ a k w HRA.out hl hk)
    have HQC := Lib.hid (fun k (hk : k ≤ 2000000) => specAt_any _ c k w HRC.out hl' hk)
    obtain ⟨M, hM⟩ : ∃ M, M = max a.length c.length := ⟨_, rfl⟩
    have hMa : a.length ≤ M := by omega
    have hMc : c.length ≤ M := by omega
    have hM9 : M ≤ 60 := by omega
    have hcase : (a.length < c.length ∧ (c.length : Int) = M) ∨ (¬ a.length < c.length ∧ (a.length : Int) = M) := by omega
    clear h h' hNa hNc hia hic hM hb
    rcases hcase with ⟨hlt, hn0⟩ | ⟨hlt, hn0⟩
    all_goals
      go_enter Try.func37, Try.ntmps37
      go_wp2_with fail
      refine H2.out.mono ?_
      rintro e w' ⟨rfl, rfl⟩
      go_wp2_with fail
      go_loop [7] (fun i => ∃ k : Nat, k ≤ M ∧ i = .int .i64 ((k : Int) - 1) ∧ nv n (a.drop k) = nv n (c.drop k)) (fun i => (intOf i + 1).toNat)
      case atStart => exact ⟨M, Nat.le_refl _, by first | rfl | (rw [hn0]) | (rw [← hn0]), by rw [List.drop_of_length_le hMa, List.drop_of_length_le hMc]⟩
      case round =>
        obtain ⟨k, hk, rfl, heq⟩ := hrel
        cases k with
        | zero =>
          rw [List.drop_zero, List.drop_zero] at heq
          have E1 := Lib.hid (show rNegaCompare0 a c n = 0 by rw [E0.out, heq, cmpI_eq])
          clear heq
          go_wp2_with fail
          go_ret
          exact ⟨by rw [E1.out]; rfl, Below.refl _ _⟩
        | succ j =>
          rw [show ((j + 1 : Nat) : Int) - 1 = (j : Int) by omega]
          have HA1 := Lib.hid (HQA.out j (by omega))
          have HC1 := Lib.hid (HQC.out j (by omega))
          have ea := nv_at n a j
          have ec := nv_at n c j
          have hpl := nv_place (k := j) hn2 HNA.out.1 HNC.out.1 heq
          have hpg := nv_place (k := j) hn2 HNC.out.1 HNA.out.1 heq.symm
          rw [heq] at ea
          obtain ⟨x, hx⟩ : ∃ x, x = at0 a j := ⟨_, rfl⟩
          obtain ⟨y, hy⟩ : ∃ y, y = at0 c j := ⟨_, rfl⟩
          rw [← hx] at ea hpl hpg HA1
          rw [← hy] at ec hpl hpg HC1
          have hm : ((j : Int).tmod 2) = ((j % 2 : Nat) : Int) := by rw [Int.tmod_eq_emod_of_nonneg (by omega)]; omega
          have hm2 : ((j : Int) % 2) = ((j % 2 : Nat) : Int) := by omega
          by_cases hxy : x = y
          · subst hxy
            have HE := Lib.hid (show nv n (a.drop j) = nv n (c.drop j) by rw [ea, ec])
            clear hx hy ea ec hpl hpg heq
            go_wp2_with fail
            refine HA1.out.mono ?_
            rintro e w' ⟨rfl, rfl⟩
            go_wp2_with fail
            refine HC1.out.mono ?_
            rintro e w' ⟨rfl, rfl⟩
            go_wp2_with fail
            go_round
            case rel => exact ⟨j, by omega, by go_num, HE.out⟩
            case measure => simp [intOf]
          · have hq : (x == y) = false := by simpa using hxy
            have HXY := Lib.hid hxy
            rcases Nat.mod_two_eq_zero_or_one j with hp | hp <;> rw [hp] at hm hm2 <;> by_cases hlt2 : x < y
            · have E1 := Lib.hid (show rNegaCompare0 a c n = -1 by rw [E0.out, cmpI_lt ((hpl hlt2).1 hp)])
              have hd : decide (x < y) = true := decide_eq_true hlt2
              clear hx hy ea ec hpl hpg heq hp hxy
              go_wp2_with fail
              refine HA1.out.mono ?_
              rintro e w' ⟨rfl, rfl⟩
              go_wp2_with fail
              refine HC1.out.mono ?_
              rintro e w' ⟨rfl, rfl⟩
              go_wp2_with fail
              go_ret
              exact ⟨by rw [E1.out]; rfl, Below.refl _ _⟩
            · have E1 := Lib.hid (show rNegaCompare0 a c n = 1 by rw [E0.out, cmpI_gt ((hpg (by omega)).1 hp)])
              have hd : decide (x < y) = false := decide_eq_false hlt2
              clear hx hy ea ec hpl hpg heq hp hxy
              go_wp2_with fail
              refine HA1.out.mono ?_
              rintro e w' ⟨rfl, rfl⟩
              go_wp2_with fail
              refine HC1.out.mono ?_
              rintro e w' ⟨rfl, rfl⟩
              go_wp2_with fail
              go_ret
              exact ⟨by rw [E1.out]; rfl, Below.refl _ _⟩
            · have E1 := Lib.hid (show rNegaCompare0 a c n = 1 by rw [E0.out, cmpI_gt ((hpl hlt2).2 hp)])
              have hd : decide (x < y) = true := decide_eq_true hlt2
              clear hx hy ea ec hpl hpg heq hp hxy
              go_wp2_with fail
              refine HA1.out.mono ?_
              rintro e w' ⟨rfl, rfl⟩
              go_wp2_with fail
              refine HC1.out.mono ?_
              rintro e w' ⟨rfl, rfl⟩
              go_wp2_with fail
              go_ret
              exact ⟨by rw [E1.out]; rfl, Below.refl _ _⟩
            · have E1 := Lib.hid (show rNegaCompare0 a c n = -1 by rw [E0.out, cmpI_lt ((hpg (by omega)).2 hp)])
              have hd : decide (x < y) = false := decide_eq_false hlt2
              clear hx hy ea ec hpl hpg heq hp hxy
              go_wp2_with fail
              refine HA1.out.mono ?_
              rintro e w' ⟨rfl, rfl⟩
              go_wp2_with fail
              refine HC1.out.mono ?_
              rintro e w' ⟨rfl, rfl⟩
              go_wp2_with fail
              go_ret
              exact ⟨by rw [E1.out]; rfl, Below.refl _ _⟩

end Go.Proofs.Ytdflpocnfodbhab
