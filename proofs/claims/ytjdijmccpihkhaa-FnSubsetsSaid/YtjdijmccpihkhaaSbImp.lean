/- Binomial places and subsets: what the program's functions without channels answer: coefficients, the test, rank and mask. -/
import Derived.Test.YtjdijmccpihkhaaLgCmp
import Derived.Test.YtjdijmccpihkhaaSbMask
import Derived.Test.YtjdijmccpihkhaaWithin
set_option linter.unusedVariables false
set_option linter.unusedSimpArgs false
set_option maxRecDepth 100000
namespace Go.Proofs.Ytjdijmccpihkhaa
open Go.ChangeShapes Go.WideShapes Go.ChangeAt Go.RowKit

theorem bn_up : ∀ n i : Nat, (n + 1 - i) * bn (n + 1) i = (n + 1) * bn n i := by
  intro n
  induction n with
  | zero =>
    intro i
    rcases i with _ | _ | i
    · rfl
    · rfl
    · rw [bn_zero (show 0 + 1 < i + 1 + 1 by omega), bn_zero (show 0 < i + 1 + 1 by omega), Nat.mul_zero, Nat.mul_zero]
  | succ n ih =>
    intro i
    cases i with
    | zero => simp [bn_0]
    | succ j =>
      have h2 := bn_mul (n + 1) j
      rcases Nat.lt_or_ge j (n + 1) with hj | hj
      · have h3 := bn_mul n j
        have h4 := ih j
        -- (j+1) * bn (n+1) (j+1) = (n+1) * bn n j = (n+1-j) * bn (n+1) j
        rw [← h3] at h4
        have e : n + 1 + 1 - (j + 1) = n + 1 - j := by omega
        rw [e, bn_s (n + 1) j, Nat.mul_add, h4, ← Nat.add_mul]
        congr 1; omega
      · rw [bn_zero (show n + 1 < j + 1 by omega), show n + 1 + 1 - (j + 1) = 0 by omega, Nat.zero_mul, Nat.mul_zero]
/-- the next coefficient in a row -/
theorem bn_right (n i : Nat) : (i + 1) * bn n (i + 1) = (n - i) * bn n i := by
  cases n with
  | zero => rw [bn_zero (show 0 < i + 1 by omega), Nat.zero_sub, Nat.zero_mul, Nat.mul_zero]
  | succ n => rw [bn_mul, bn_up]
theorem bn_rightI (n i : Nat) : (bn n i : Int) * ((n : Int) - i) = (bn n (i + 1) : Int) * ((i : Int) + 1) := by
  rcases Nat.lt_or_ge n i with h | h
  · rw [bn_zero h, bn_zero (show n < i + 1 by omega), Int.natCast_zero, Int.zero_mul, Int.zero_mul]
  · have := bn_right n i
    have h2 : ((n : Int) - i) = ((n - i : Nat) : Int) := by omega
    have h3 : ((i : Int) + 1) = ((i + 1 : Nat) : Int) := rfl
    rw [h2, h3, ← Int.natCast_mul, ← Int.natCast_mul, Nat.mul_comm, ← this, Nat.mul_comm]

set_option maxHeartbeats 1000000 in
theorem implBn_any (n k : Nat) (w : World) (hn : n ≤ 30) (hk : k ≤ 30) :
    Calls Try.prog 18 #[.int .i64 n, .int .i64 k] w fun e w' => e = .returned (.int .i64 (bn n k)) ∧ w = w' := by
  have HB := Lib.hid (fun (j : Nat) => bn_30 (n := n) (k := j) hn)
  have HN := Lib.hid (fun (j : Nat) => bn_rightI n j)
  have H0 := Lib.hid (fun (j : Nat) (h : n < j) => bn_zero h)
  go_enter Try.func18, Try.ntmps18
  go_wp2
  go_loop [5, 22] (fun x i => ∃ j : Nat, j ≤ k ∧ i = .int .i64 j ∧ x = .int .i64 (bn n j)) (fun _ i => k + 1 - (intOf i).toNat)
  case atStart => exact ⟨0, Nat.zero_le _, rfl, by rw [bn_0]; rfl⟩
  case round =>
    obtain ⟨j, hj, rfl, rfl⟩ := hrel
    have hx := HB.out j
    by_cases hlt : j < k
    · have hN := HN.out j
      have hy := HB.out (j + 1)
      have hz : n < j → bn n j = 0 := H0.out j
      obtain ⟨X, hX⟩ : ∃ X, X = bn n j := ⟨_, rfl⟩
      rw [← hX] at hx hN hz ⊢
      obtain ⟨Y, hY⟩ : ∃ Y, Y = bn n (j + 1) := ⟨_, rfl⟩
      rw [← hY] at hN hy
      obtain ⟨T, hT⟩ : ∃ T : Int, T = (X : Int) * ((n : Int) - j) := ⟨_, rfl⟩
      have hTb : 0 ≤ T ∧ T ≤ 1073741824 * 31 := by
        rw [hT]
        rcases Nat.lt_or_ge n j with h | h
        · rw [hz h]; simp
        · have e : ((n : Int) - j) = ((n - j : Nat) : Int) := by omega
          rw [e, ← Int.natCast_mul]
          have : X * (n - j) ≤ 1073741824 * 31 := Nat.mul_le_mul hx (by omega)
          omega
      have hwt : IntKind.i64.wrap ((X : Int) * ((n : Int) - j)) = T := by rw [IntKind.wrap_i64, ← hT]; omega
      have hq : T.tdiv ((j : Int) + 1) = Y := by
        rw [hT, hN, Int.mul_tdiv_cancel _ (by omega)]
      have HY := Lib.hid hY
      clear hT hN hX hY hz
      have hjn : ¬ (j : Int) + 1 = 0 := by omega
      obtain ⟨t0, t1⟩ := hTb
      go_wp2
      go_round
      case rel => exact ⟨j + 1, hlt, by go_num, by rw [← HY.out]⟩
      case measure => simp [intOf]; omega
    · have hjk : j = k := by omega
      subst hjk
      obtain ⟨X, hX⟩ : ∃ X, X = bn n j := ⟨_, rfl⟩
      rw [← hX] at hx ⊢
      have HX := Lib.hid hX
      clear hX
      go_wp2
      go_ret
      exact ⟨by rw [HX.out]; rfl, rfl⟩

set_option maxHeartbeats 1000000 in
theorem implBinomial_any (n k : Int) (w : World) (hn : in64 n) (hk : in64 k) :
    Calls Try.prog 18 #[.int .i64 n, .int .i64 k] w fun e w' => e = .returned (.int .i64 (rBinomial0 n k)) ∧ Below w.heap.size w w' := by
  obtain ⟨hn0, hn1⟩ := hn
  obtain ⟨hk0, hk1⟩ := hk
  cases h : inB n 0 30 && inB k 0 30
  · have E0 := Lib.hid (show rBinomial0 n k = -1 by rw [rBinomial0, h]; rfl)
    have hc : n < 0 ∨ (¬ n < 0 ∧ 30 < n) ∨ (¬ n < 0 ∧ ¬ 30 < n ∧ k < 0) ∨ (¬ n < 0 ∧ ¬ 30 < n ∧ ¬ k < 0 ∧ 30 < k) := by
      simp [inB] at h; omega
    clear h
    rcases hc with h1 | ⟨h1, h2⟩ | ⟨h1, h2, h3⟩ | ⟨h1, h2, h3, h4⟩
    all_goals
      go_enter Try.func18, Try.ntmps18
      go_wp2
      go_ret
      exact ⟨by rw [E0.out]; rfl, Below.refl _ _⟩
  · obtain ⟨h1, h2⟩ : inB n 0 30 = true ∧ inB k 0 30 = true := by simpa using h
    obtain ⟨n0, n1⟩ := inB_yes h1
    obtain ⟨k0, k1⟩ := inB_yes h2
    obtain ⟨a, rfl⟩ : ∃ a : Nat, n = a := ⟨n.toNat, by omega⟩
    obtain ⟨b, rfl⟩ : ∃ b : Nat, k = b := ⟨k.toNat, by omega⟩
    refine (implBn_any a b w (by omega) (by omega)).mono ?_
    rintro e w' ⟨rfl, rfl⟩
    exact ⟨by rw [show rBinomial0 a b = bn a b by rw [rBinomial0, h]; rfl], Below.refl _ _⟩

/-! ### the test -/
theorem asc_not {l : List Int} {k : Nat} (hk : k + 1 < l.length) (h : l[k + 1] ≤ l[k]) : ¬ Asc l := fun h3 => by
  have := List.pairwise_iff_getElem.1 h3 k (k + 1) (by omega) hk (by omega)
  omega

theorem drew2 (w : World) (m n : Nat) : (w.drewN m).drewN n = w.drewN (m + n) := by simp [World.drewN, Nat.add_assoc]

set_option maxHeartbeats 2000000 in
theorem asc_any (v : Value) (l : List Int) (w : World) (hr : RowAt w v (intsOf l)) (hl : l.length ≤ 1048577) :
    Calls Try.prog 40 #[v] w fun e w' => e = .returned (.bool (decide (Asc l))) ∧ ∃ q, w' = w.drewN q := by
  obtain ⟨a, cap, rfl, h1, h2, h3⟩ := hr.ints
  unfold maxLen at h2
  clear hr
  obtain ⟨RES, hRES⟩ : ∃ RES, RES = decide (Asc l) := ⟨_, rfl⟩
  rw [← hRES]
  have HR := Lib.hid hRES
  clear hRES
  go_enter Try.func40, Try.ntmps40
  go_wp2
  go_loopw [3] (fun i wr => ∃ (k q : Nat), 1 ≤ k ∧ k ≤ l.length + 1 ∧ i = .int .i64 k ∧ Asc (l.take k) ∧ wr = w.drewN q) (fun i _ => l.length + 1 - (intOf i).toNat)
  case atStart =>
    refine ⟨1, 0, Nat.le_refl _, by omega, rfl, ?_, rfl⟩
    rcases l with _ | ⟨x, l⟩ <;> simp [Asc]
  case round =>
    obtain ⟨k, q, hk1, hk, rfl, hasc, rfl⟩ := hrel
    have HAS := Lib.hid hasc
    clear hasc
    by_cases hlt : k < l.length
    · obtain ⟨b', off, rfl, hbb, hcell⟩ := h3.resolve_left (fun e => by rw [e] at hlt; simp at hlt)
      have hw1 : IntKind.i64.wrap ((k : Int) - 1) = ((k - 1 : Nat) : Int) := by rw [IntKind.wrap_i64]; omega
      obtain ⟨p, hp⟩ : ∃ p, p = k - 1 := ⟨_, rfl⟩
      have hpl : p < l.length := by omega
      have hc := hcell k hlt
      have hc0 := hcell p hpl
      rw [← hp] at hw1
      have hi1 : (k : Int) < (l.length : Int) := by omega
      have hi0 : (p : Int) < (l.length : Int) := by omega
      obtain ⟨x, hx⟩ : ∃ x, x = l[k] := ⟨_, rfl⟩
      obtain ⟨y, hy⟩ : ∃ y, y = l[p] := ⟨_, rfl⟩
      by_cases hle : l[k] ≤ l[p]
      · have HK := Lib.hid (show ¬ Asc l from fun h3 => by
          have := List.pairwise_iff_getElem.1 h3 p k hpl hlt (by omega)
          omega)
        rw [← hx] at hc hle
        rw [← hy] at hc0 hle
        clear h3 hcell hx hy hp
        go_wp2
        go_quiet (fail)
        go_wp2
        go_ret
        exact ⟨by rw [HR.out, decide_eq_false HK.out]; rfl, _, drew2 _ _ _⟩
      · have HN2 := Lib.hid (show Asc (l.take (k + 1)) by
          obtain ⟨j, rfl⟩ : ∃ j, k = j + 1 := ⟨k - 1, by omega⟩
          obtain rfl : p = j := by omega
          exact asc_take hlt HAS.out (by omega))
        have HK1 := Lib.hid (show k + 1 ≤ l.length + 1 by omega)
        rw [← hx] at hc hle
        rw [← hy] at hc0 hle
        clear h3 hcell hx hy hp
        go_wp2
        go_quiet (fail)
        go_wp2
        exact ⟨⟨k + 1, _, by omega, HK1.out, by go_num, HN2.out, rfl⟩, by simp [intOf]; omega⟩
    · have HK := Lib.hid (show Asc l by
        have h4 := HAS.out
        rwa [List.take_of_length_le (by omega)] at h4)
      have hn9 : ¬ (k : Int) < l.length := by omega
      clear h3
      go_wp2
      go_ret
      exact ⟨by rw [HR.out, decide_eq_true HK.out]; rfl, _, rfl⟩

set_option maxHeartbeats 2000000 in
theorem implSb_any (v : Value) (l : List Int) (m : Int) (w : World) (hr : RowAt w v (intsOf l)) (hl : l.length ≤ 1048577) (hm : in64 m) :
    Calls Try.prog 17 #[v, .int .i64 m] w fun e w' => e = .returned (.bool (okS l m)) ∧ ∃ q, w' = w.drewN q := by
  obtain ⟨hm0, hm1⟩ := hm
  have HW := Lib.hid (fun W (hr : RowAt W v (intsOf l)) => allIn_any v l 0 (m - 1) W hr hl)
  have HA := Lib.hid (fun W (hr : RowAt W v (intsOf l)) => asc_any v l W hr hl)
  have HR := Lib.hid hr
  by_cases c1 : 0 ≤ m
  · by_cases c2 : m ≤ 20
    · have E := Lib.hid (show okS l m = (allIn l 0 (m - 1) && decide (Asc l)) by
        rw [okS, show inB m 0 20 = true by simp [inB, c1, c2]]; rfl)
      obtain ⟨a, cap, rfl, h1, h2, h3⟩ := hr.ints
      clear hr h3
      have HW1 := Lib.hid (HW.out w HR.out)
      have HA1 := Lib.hid (HA.out w HR.out)
      cases h : allIn l 0 (m - 1)
      · rw [h] at HW1
        rw [h] at E
        clear h
        go_enter Try.func17, Try.ntmps17
        go_wp2_with (go_at_call 39; refine HW1.out.mono ?_; rintro e w' ⟨rfl, rfl⟩)
        go_ret
        exact ⟨by rw [E.out]; rfl, 0, rfl⟩
      · rw [h] at HW1
        rw [h] at E
        obtain ⟨Y, hY⟩ : ∃ Y, Y = decide (Asc l) := ⟨_, rfl⟩
        rw [← hY] at HA1 E
        clear h hY
        go_enter Try.func17, Try.ntmps17
        go_wp2_with fail
        refine HW1.out.mono ?_
        rintro e w' ⟨rfl, rfl⟩
        go_wp2_with fail
        refine HA1.out.mono ?_
        rintro e w' ⟨rfl, q, rfl⟩
        go_wp2_with fail
        go_ret
        exact ⟨by rw [E.out]; rfl, _, rfl⟩
    · have E := Lib.hid (okS_m (l := l) (show inB m 0 20 = false by simp [inB]; omega))
      clear hr
      go_enter Try.func17, Try.ntmps17
      go_wp2
      go_ret
      exact ⟨by rw [E.out]; rfl, 0, rfl⟩
  · have E := Lib.hid (okS_m (l := l) (show inB m 0 20 = false by simp [inB]; omega))
    clear hr
    go_enter Try.func17, Try.ntmps17
    go_wp2
    go_ret
    exact ⟨by rw [E.out]; rfl, 0, rfl⟩

theorem implSubsetOk_any (v : Value) (l : List Int) (m : Int) (w : World) (hr : RowAt w v (intsOf l)) (hl : l.length ≤ 1048576) (hi : ∀ n ∈ l, in64 n) (hm : in64 m) :
    Calls Try.prog 17 #[v, .int .i64 m] w fun e w' => e = .returned (.bool (rSubsetOk0 l m)) ∧ Below w.heap.size w w' := by
  refine (implSb_any v l m w hr (by omega) hm).mono ?_
  rintro e w' ⟨rfl, q, rfl⟩
  exact ⟨rfl, below_drewN (Below.refl _ _) q⟩

/-! ### rank and mask -/
set_option maxHeartbeats 2000000 in
theorem implSbRank_any (v : Value) (l : List Int) (w : World) (hr : RowAt w v (intsOf l)) (hl : l.length ≤ 1048577) :
    Calls Try.prog 13 #[v] w fun e w' => e = .returned (.int .i64 (rSubsetRank0 l)) ∧ ∃ q, w' = w.drewN q := by
  have HS := Lib.hid (implSb_any v l 20 w hr hl ⟨by decide, by decide⟩)
  obtain ⟨a, cap, rfl, h1, h2, h3⟩ := hr.ints
  unfold maxLen at h2
  clear hr
  cases h : okS l 20
  · rw [h] at HS
    have E0 := Lib.hid (show rSubsetRank0 l = -1 by rw [rSubsetRank0, h]; rfl)
    clear h h3
    go_enter Try.func13, Try.ntmps13
    go_wp2_with fail
    refine HS.out.mono ?_
    rintro e w' ⟨rfl, q, rfl⟩
    go_wp2_with fail
    go_ret
    exact ⟨by rw [E0.out]; rfl, _, rfl⟩
  · rw [h] at HS
    have E0 := Lib.hid (show rSubsetRank0 l = rk l by rw [rSubsetRank0, h]; rfl)
    have HSM := Lib.hid (fun k => rk_small (okS_take h k))
    have HX := Lib.hid (okS_yes h).2.1
    have hl20 := okS_len (m := 20) h
    have HB := Lib.hid (fun (x k : Nat) (hx : x ≤ 30) (hk : k ≤ 30) W => implBn_any x k W hx hk)
    clear h
    go_enter Try.func13, Try.ntmps13
    go_wp2_with fail
    refine HS.out.mono ?_
    rintro e w' ⟨rfl, q, rfl⟩
    go_wp2_with fail
    go_loop [3, 11] (fun s i => ∃ k : Nat, k ≤ l.length ∧ i = .int .i64 k ∧ s = .int .i64 (rk (l.take k))) (fun _ i => l.length - (intOf i).toNat)
    case atStart => exact ⟨0, Nat.zero_le _, rfl, by simp [rk, rkD]⟩
    case round =>
      obtain ⟨k, hk, rfl, rfl⟩ := hrel
      have hs := HSM.out k
      by_cases hlt : k < l.length
      · obtain ⟨b', off, rfl, hbb, hcell⟩ := h3.resolve_left (fun e => by rw [e] at hlt; simp at hlt)
        have hc : (w.drewN q).cell? ⟨b', off + k, none⟩ = some (.int .i64 l[k]) := hcell k hlt
        obtain ⟨x0, x1⟩ := HX.out _ (List.getElem_mem hlt)
        have hs2 := HSM.out (k + 1)
        have hsn := rk_snoc (l.take k) l[k]
        rw [← List.take_succ_eq_append_getElem hlt, List.length_take, Nat.min_eq_left hk] at hsn
        obtain ⟨x, hx⟩ : ∃ x : Nat, l[k] = x := ⟨l[k].toNat, by omega⟩
        rw [hx] at hc hsn x1
        rw [Int.toNat_natCast] at hsn
        have HBX := Lib.hid (fun W => HB.out x (k + 1) (by omega) (by omega) W)
        obtain ⟨B, hB⟩ : ∃ B, B = bn x (k + 1) := ⟨_, rfl⟩
        rw [← hB] at hsn HBX
        obtain ⟨S, hS⟩ : ∃ S, S = rk (l.take k) := ⟨_, rfl⟩
        rw [← hS] at hsn hs ⊢
        have HSN := Lib.hid hsn
        have hB2 : S + B < 1048576 := by omega
        have hkc : (((k + 1 : Nat) : Nat) : Int) = (k : Int) + 1 := rfl
        simp only [hkc] at HBX
        clear h3 hcell hx hB hS hsn hs2 x0
        go_wp2_with (go_at_call 18; refine (HBX.out _).mono ?_; rintro e w' ⟨rfl, rfl⟩)
        go_round
        case rel => exact ⟨k + 1, hlt, by go_num, by rw [HSN.out]; go_num⟩
        case measure => simp [intOf]; omega
      · have hkl : k = l.length := by omega
        have HE := Lib.hid (show rk (l.take k) = rk l by rw [hkl, List.take_length])
        obtain ⟨S, hS⟩ : ∃ S, S = rk (l.take k) := ⟨_, rfl⟩
        rw [← hS] at HE hs ⊢
        have hn9 : ¬ (k : Int) < l.length := by omega
        clear h3 hS
        go_wp2_with fail
        go_ret
        exact ⟨by rw [E0.out, ← HE.out]; rfl, _, rfl⟩

theorem implSubsetRank_any (v : Value) (l : List Int) (w : World) (hr : RowAt w v (intsOf l)) (hl : l.length ≤ 1048576) (hi : ∀ n ∈ l, in64 n) :
    Calls Try.prog 13 #[v] w fun e w' => e = .returned (.int .i64 (rSubsetRank0 l)) ∧ Below w.heap.size w w' := by
  refine (implSbRank_any v l w hr (by omega)).mono ?_
  rintro e w' ⟨rfl, q, rfl⟩
  exact ⟨rfl, below_drewN (Below.refl _ _) q⟩

set_option maxHeartbeats 2000000 in
theorem implMask_any (v : Value) (l : List Int) (w : World) (hr : RowAt w v (intsOf l)) (hl : l.length ≤ 1048577) :
    Calls Try.prog 20 #[v] w fun e w' => e = .returned (.int .i64 (rMaskOf0 l)) ∧ ∃ q, w' = w.drewN q := by
  have HS := Lib.hid (implSb_any v l 20 w hr hl ⟨by decide, by decide⟩)
  obtain ⟨a, cap, rfl, h1, h2, h3⟩ := hr.ints
  unfold maxLen at h2
  clear hr
  cases h : okS l 20
  · rw [h] at HS
    have E0 := Lib.hid (show rMaskOf0 l = -1 by rw [rMaskOf0, h]; rfl)
    clear h h3
    go_enter Try.func20, Try.ntmps20
    go_wp2_with fail
    refine HS.out.mono ?_
    rintro e w' ⟨rfl, q, rfl⟩
    go_wp2_with fail
    go_ret
    exact ⟨by rw [E0.out]; rfl, _, rfl⟩
  · rw [h] at HS
    have E0 := Lib.hid (show rMaskOf0 l = mk l by rw [rMaskOf0, h]; rfl)
    have HSM := Lib.hid (fun k => mk_small (okS_take h k))
    have HX := Lib.hid (okS_yes h).2.1
    have hl20 := okS_len (m := 20) h
    clear h
    go_enter Try.func20, Try.ntmps20
    go_wp2_with fail
    refine HS.out.mono ?_
    rintro e w' ⟨rfl, q, rfl⟩
    go_wp2_with fail
    go_loop [3, 11] (fun s i => ∃ k : Nat, k ≤ l.length ∧ i = .int .i64 k ∧ s = .int .i64 (mk (l.take k))) (fun _ i => l.length - (intOf i).toNat)
    case atStart => exact ⟨0, Nat.zero_le _, rfl, by simp [mk]⟩
    case round =>
      obtain ⟨k, hk, rfl, rfl⟩ := hrel
      have hs := HSM.out k
      by_cases hlt : k < l.length
      · obtain ⟨b', off, rfl, hbb, hcell⟩ := h3.resolve_left (fun e => by rw [e] at hlt; simp at hlt)
        have hc : (w.drewN q).cell? ⟨b', off + k, none⟩ = some (.int .i64 l[k]) := hcell k hlt
        obtain ⟨x0, x1⟩ := HX.out _ (List.getElem_mem hlt)
        have hs2 := HSM.out (k + 1)
        have hsn := mk_snoc (l.take k) l[k]
        rw [← List.take_succ_eq_append_getElem hlt] at hsn
        obtain ⟨x, hx⟩ : ∃ x : Nat, l[k] = x := ⟨l[k].toNat, by omega⟩
        rw [hx] at hc hsn x1
        rw [Int.toNat_natCast] at hsn
        obtain ⟨p1, p2⟩ := pow_sm (x := x) (by omega)
        have hpc : ((2 ^ x : Nat) : Int) = (2 : Int) ^ x := Int.natCast_pow _ _
        obtain ⟨Q, hQ⟩ : ∃ Q, Q = 2 ^ x := ⟨_, rfl⟩
        rw [← hQ] at hsn p1 p2 hpc
        have s2 : IntKind.i64.wrap ((2 : Int) ^ x) = Q := by rw [IntKind.wrap_i64, ← hpc]; omega
        obtain ⟨S, hS⟩ : ∃ S, S = mk (l.take k) := ⟨_, rfl⟩
        rw [← hS] at hsn hs ⊢
        have HSN := Lib.hid hsn
        have hB2 : S + Q < 1048576 := by omega
        clear h3 hcell hx hQ hS hsn hs2 x0 hpc
        go_wp2_with fail
        go_round
        case rel => exact ⟨k + 1, hlt, by go_num, by rw [HSN.out]; go_num⟩
        case measure => simp [intOf]; omega
      · have hkl : k = l.length := by omega
        have HE := Lib.hid (show mk (l.take k) = mk l by rw [hkl, List.take_length])
        obtain ⟨S, hS⟩ : ∃ S, S = mk (l.take k) := ⟨_, rfl⟩
        rw [← hS] at HE hs ⊢
        have hn9 : ¬ (k : Int) < l.length := by omega
        clear h3 hS
        go_wp2_with fail
        go_ret
        exact ⟨by rw [E0.out, ← HE.out]; rfl, _, rfl⟩

theorem implMaskOf_any (v : Value) (l : List Int) (w : World) (hr : RowAt w v (intsOf l)) (hl : l.length ≤ 1048576) (hi : ∀ n ∈ l, in64 n) :
    Calls Try.prog 20 #[v] w fun e w' => e = .returned (.int .i64 (rMaskOf0 l)) ∧ Below w.heap.size w w' := by
  refine (implMask_any v l w hr (by omega)).mono ?_
  rintro e w' ⟨rfl, q, rfl⟩
  exact ⟨rfl, below_drewN (Below.refl _ _) q⟩


end Go.Proofs.Ytjdijmccpihkhaa
