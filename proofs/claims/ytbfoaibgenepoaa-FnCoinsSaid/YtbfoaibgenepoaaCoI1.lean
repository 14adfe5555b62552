/- Places of coins, the program: the test of coins, values of digits. -/
import Derived.Test.YtbfoaibgenepoaaCoSpec
import Derived.Test.YtbfoaibgenepoaaWithin
set_option linter.unusedVariables false
set_option linter.unusedSimpArgs false
set_option maxRecDepth 100000
namespace Go.Proofs.Ytbfoaibgenepoaa
open Go.ChangeShapes Go.WideShapes Go.ChangeAt Go.RowKit

theorem drew2C (w : World) (m n : Nat) : (w.drewN m).drewN n = w.drewN (m + n) := by simp [World.drewN, Nat.add_assoc]
theorem ascB_not {l : List Int} {j : Nat} (hk : j + 1 < l.length) (h : l[j + 1] ≤ l[j]) : ascB l = false := by
  cases e : ascB l
  · rfl
  · have h1 := ascB_pre (j + 2) e
    rw [ascB_take hk, Bool.and_eq_true, decide_eq_true_eq] at h1
    omega

set_option maxHeartbeats 2000000 in
theorem ascI_any (v : Value) (l : List Int) (w : World) (hr : RowAt w v (intsOf l)) (hl : l.length ≤ 1048577) :
    Calls Try.prog 53 #[v] w fun e w' => e = .returned (.bool (ascB l)) ∧ ∃ q, w' = w.drewN q := by
  obtain ⟨a, cap, rfl, h1, h2, h3⟩ := hr.ints
  unfold maxLen at h2
  clear hr
  obtain ⟨RES, hRES⟩ : ∃ RES, RES = ascB l := ⟨_, rfl⟩
  rw [← hRES]
  have HR := Lib.hid hRES
  clear hRES
  go_enter Try.func53, Try.ntmps53
  go_wp2
  go_loopw [3] (fun i wr => ∃ (k q : Nat), 1 ≤ k ∧ k ≤ l.length + 1 ∧ i = .int .i64 k ∧ ascB (l.take k) = true ∧ wr = w.drewN q) (fun i _ => l.length + 1 - (intOf i).toNat)
  case atStart =>
    refine ⟨1, 0, Nat.le_refl _, by omega, rfl, ?_, rfl⟩
    rcases l with _ | ⟨x, l⟩ <;> simp [ascB]
  case round =>
    obtain ⟨k, q, hk1, hk, rfl, hasc, rfl⟩ := hrel
    have HAS := Lib.hid hasc
    clear hasc
    by_cases hlt : k < l.length
    · obtain ⟨b', off, rfl, hbb, hcell⟩ := h3.resolve_left (fun e => by rw [e] at hlt; simp at hlt)
      have hw1 : IntKind.i64.wrap ((k : Int) - 1) = ((k - 1 : Nat) : Int) := by rw [IntKind.wrap_i64]; omega
      obtain ⟨p, hp⟩ : ∃ p, p = k - 1 := ⟨_, rfl⟩
      have hpl : p < l.length := by omega
      have hc := hcell k hlt
      have hc0 := hcell p hpl
      rw [← hp] at hw1
      have hi1 : (k : Int) < (l.length : Int) := by omega
      have hi0 : (p : Int) < (l.length : Int) := by omega
      obtain ⟨x, hx⟩ : ∃ x, x = l[k] := ⟨_, rfl⟩
      obtain ⟨y, hy⟩ : ∃ y, y = l[p] := ⟨_, rfl⟩
      by_cases hle : l[k] ≤ l[p]
      · have HK := Lib.hid (show ascB l = false by
          obtain ⟨j, rfl⟩ : ∃ j, k = j + 1 := ⟨k - 1, by omega⟩
          obtain rfl : p = j := by omega
          exact ascB_not hlt hle)
        rw [← hx] at hc hle
        rw [← hy] at hc0 hle
        clear h3 hcell hx hy hp
        go_wp2
        go_quiet (fail)
        go_wp2
        go_ret
        exact ⟨by rw [HR.out, HK.out]; rfl, _, drew2C _ _ _⟩
      · have HN2 := Lib.hid (show ascB (l.take (k + 1)) = true by
          obtain ⟨j, rfl⟩ : ∃ j, k = j + 1 := ⟨k - 1, by omega⟩
          obtain rfl : p = j := by omega
          rw [ascB_take hlt, HAS.out, decide_eq_true (by omega)]; rfl)
        have HK1 := Lib.hid (show k + 1 ≤ l.length + 1 by omega)
        rw [← hx] at hc hle
        rw [← hy] at hc0 hle
        clear h3 hcell hx hy hp
        go_wp2
        go_quiet (fail)
        go_wp2
        exact ⟨⟨k + 1, _, by omega, HK1.out, by go_num, HN2.out, rfl⟩, by simp [intOf]; omega⟩
    · have HK := Lib.hid (show ascB l = true by
        have h4 := HAS.out
        rwa [List.take_of_length_le (by omega)] at h4)
      have hn9 : ¬ (k : Int) < l.length := by omega
      clear h3
      go_wp2
      go_ret
      exact ⟨by rw [HR.out, HK.out]; rfl, _, rfl⟩

theorem okC_in {l : List Int} (h0 : 0 < l.length) (h1 : l.length ≤ 10) (h2 : l[0] = 1) : okC l = (allIn l 1 1000 && ascB l) := by
  have e : l.head? = some 1 := by cases l with
    | nil => simp at h0
    | cons a t => simp at h2; simp [h2]
  rw [okC, decide_eq_true ⟨by omega, h1⟩, e]; rfl

set_option maxHeartbeats 2000000 in
theorem implCo_any (v : Value) (l : List Int) (w : World) (hr : RowAt w v (intsOf l)) (hl : l.length ≤ 1048577) :
    Calls Try.prog 19 #[v] w fun e w' => e = .returned (.bool (okC l)) ∧ ∃ q, w' = w.drewN q := by
  have HW := Lib.hid (allIn_any v l 1 1000 w hr hl)
  have HA := Lib.hid (ascI_any v l w hr hl)
  obtain ⟨a, cap, rfl, h1, h2, h3⟩ := hr.ints
  unfold maxLen at h2
  clear hr
  obtain ⟨RES, hRES⟩ : ∃ RES, RES = okC l := ⟨_, rfl⟩
  rw [← hRES]
  have HR := Lib.hid hRES
  clear hRES
  by_cases c1 : l.length < 1
  · have HK := Lib.hid (okC_len (l := l) (fun h => by omega))
    have hle : (l.length : Int) < 1 := by omega
    clear h3
    go_enter Try.func19, Try.ntmps19
    go_wp2_with fail
    go_ret
    exact ⟨by rw [HR.out, HK.out]; rfl, 0, rfl⟩
  by_cases c2 : 10 < l.length
  · have HK := Lib.hid (okC_len (l := l) (fun h => by omega))
    have hle : ¬ (l.length : Int) < 1 := by omega
    have hgt : (10 : Int) < l.length := by omega
    clear h3
    go_enter Try.func19, Try.ntmps19
    go_wp2_with fail
    go_ret
    exact ⟨by rw [HR.out, HK.out]; rfl, 0, rfl⟩
  have hle : ¬ (l.length : Int) < 1 := by omega
  have hgt : ¬ (10 : Int) < l.length := by omega
  have h0 : 0 < l.length := by omega
  have h0I : (0 : Int) < l.length := by omega
  obtain ⟨b', off, rfl, hbb, hcell⟩ := h3.resolve_left (fun e => by rw [e] at h0; simp at h0)
  have hc := hcell 0 h0
  rw [Nat.add_zero] at hc
  by_cases hone : l[0] = 1
  · have HK := Lib.hid (okC_in h0 (by omega) hone)
    rw [hone] at hc
    clear h3 hcell hone
    cases h : allIn l 1 1000
    · rw [h] at HW HK
      clear h
      go_enter Try.func19, Try.ntmps19
      go_wp2_with fail
      refine HW.out.mono ?_
      rintro e w' ⟨rfl, rfl⟩
      go_wp2_with fail
      go_ret
      exact ⟨by rw [HR.out, HK.out]; rfl, 0, rfl⟩
    · rw [h] at HW HK
      obtain ⟨Y, hY⟩ : ∃ Y, Y = ascB l := ⟨_, rfl⟩
      rw [← hY] at HA HK
      clear h hY
      go_enter Try.func19, Try.ntmps19
      go_wp2_with fail
      refine HW.out.mono ?_
      rintro e w' ⟨rfl, rfl⟩
      go_wp2_with fail
      refine HA.out.mono ?_
      rintro e w' ⟨rfl, q, rfl⟩
      go_wp2_with fail
      go_ret
      exact ⟨by rw [HR.out, HK.out]; rfl, _, rfl⟩
  · have HK := Lib.hid (okC_head h0 hone)
    obtain ⟨x, hx⟩ : ∃ x, x = l[0] := ⟨_, rfl⟩
    rw [← hx] at hc hone
    have hxq : (x == 1) = false := by simpa using hone
    clear h3 hcell hx hone
    go_enter Try.func19, Try.ntmps19
    go_wp2_with fail
    go_ret
    exact ⟨by rw [HR.out, HK.out]; rfl, 0, rfl⟩

theorem implCoinsOk_any (v : Value) (l : List Int) (w : World) (hr : RowAt w v (intsOf l)) (hl : l.length ≤ 1048576) (hi : ∀ n ∈ l, in64 n) :
    Calls Try.prog 19 #[v] w fun e w' => e = .returned (.bool (rCoinsOk0 l)) ∧ Below w.heap.size w w' := by
  refine (implCo_any v l w hr (by omega)).mono ?_
  rintro e w' ⟨rfl, q, rfl⟩
  exact ⟨rfl, below_drewN (Below.refl _ _) _⟩

theorem search_any (n : Int) (v : Value) (l : List Int) (w : World) (hr : RowAt w v (intsOf l)) (hl : l.length ≤ 1048577) :
    Calls Try.prog 43 #[.int .i64 n, v] w fun e w' => e = .returned (.bool (okC l && inB n 0 400)) ∧ ∃ q, w' = w.drewN q := by
  have HC := Lib.hid (implCo_any v l w hr hl)
  obtain ⟨a, cap, rfl, h1, h2, h3⟩ := hr.ints
  clear hr h3
  cases h : okC l
  · rw [h] at HC
    clear h
    go_enter Try.func43, Try.ntmps43
    go_wp2_with fail
    refine HC.out.mono ?_
    rintro e w' ⟨rfl, q, rfl⟩
    go_wp2_with fail
    go_ret
    exact ⟨rfl, _, rfl⟩
  · rw [h] at HC
    clear h
    by_cases c1 : 0 ≤ n
    · have E := Lib.hid (show inB n 0 400 = decide (n ≤ 400) by simp [inB, c1])
      go_enter Try.func43, Try.ntmps43
      go_wp2_with fail
      refine HC.out.mono ?_
      rintro e w' ⟨rfl, q, rfl⟩
      go_wp2_with fail
      all_goals (go_ret; exact ⟨by rw [E.out]; rfl, _, rfl⟩)
    · have E := Lib.hid (show inB n 0 400 = false by simp [inB, c1])
      have hn : ¬ 0 ≤ n := c1
      have hn' : n < 0 := by omega
      go_enter Try.func43, Try.ntmps43
      go_wp2_with fail
      refine HC.out.mono ?_
      rintro e w' ⟨rfl, q, rfl⟩
      go_wp2_with fail
      go_ret
      exact ⟨by rw [E.out]; rfl, _, rfl⟩

theorem cv_all {d l : List Int} (h : allIn d 0 100000 = false) : cvOk d l = false := by
  have : decide (∀ x ∈ d, 0 ≤ x ∧ x ≤ 100000) = false := h
  rw [cvOk, this, Bool.and_false, Bool.and_false]

set_option maxHeartbeats 4000000 in
theorem implCv_any (vd v : Value) (d l : List Int) (w : World) (hrd : RowAt w vd (intsOf d)) (hr : RowAt w v (intsOf l)) (hld : d.length ≤ 1048577) (hl : l.length ≤ 1048577) :
    Calls Try.prog 20 #[vd, v] w fun e w' => e = .returned (.int .i64 (rCoinsValue0 d l)) ∧ ∃ q, w' = w.drewN q := by
  have HC := Lib.hid (implCo_any v l w hr hl)
  have HW := Lib.hid (fun q => allIn_any vd d 0 100000 (w.drewN q) (show RowAt (w.drewN q) vd (intsOf d) from hrd.below (below_drewN (Below.refl _ _) q)) hld)
  obtain ⟨a, cap, rfl, h1, h2, h3⟩ := hr.ints
  obtain ⟨ad, capd, rfl, g1, g2, g3⟩ := hrd.ints
  unfold maxLen at h2 g2
  clear hr hrd
  obtain ⟨RES, hRES⟩ : ∃ RES, RES = rCoinsValue0 d l := ⟨_, rfl⟩
  rw [← hRES]
  have HR := Lib.hid hRES
  clear hRES
  cases hc : okC l
  · rw [hc] at HC
    have HK := Lib.hid (cv_not (d := d) (l := l) (by rw [cvOk, hc]; rfl))
    clear hc h3 g3
    go_enter Try.func20, Try.ntmps20
    go_wp2_with fail
    refine HC.out.mono ?_
    rintro e w' ⟨rfl, q, rfl⟩
    go_wp2_with fail
    go_ret
    exact ⟨by rw [HR.out, HK.out]; rfl, _, rfl⟩
  rw [hc] at HC
  by_cases hlen : d.length = l.length
  · cases hall : allIn d 0 100000
    · have HK := Lib.hid (cv_not (cv_all (l := l) hall))
      rw [hall] at HW
      rw [hlen] at HW ⊢
      clear hc h3 g3 hall hlen
      go_enter Try.func20, Try.ntmps20
      go_wp2_with fail
      refine HC.out.mono ?_
      rintro e w' ⟨rfl, q, rfl⟩
      go_wp2_with fail
      refine (HW.out _).mono ?_
      rintro e w' ⟨rfl, rfl⟩
      go_wp2_with fail
      go_ret
      exact ⟨by rw [HR.out, HK.out]; rfl, _, rfl⟩
    · have HD := Lib.hid (allIn_yes hall)
      have hco := okC_yes hc
      have HLB := Lib.hid hco.bd
      have hl10 := hco.len
      have HLEN := Lib.hid hlen
      have HE := Lib.hid (show dotI d l = rCoinsValue0 d l by
        have e : decide (∀ x ∈ d, 0 ≤ x ∧ x ≤ 100000) = true := hall
        rw [rCoinsValue0, cvOk, hc, decide_eq_true hlen, e]; rfl)
      rw [hall] at HW
      rw [hlen] at HW ⊢
      clear hc hco hall
      go_enter Try.func20, Try.ntmps20
      go_wp2_with fail
      refine HC.out.mono ?_
      rintro e w' ⟨rfl, q, rfl⟩
      clear hlen
      go_wp2_with fail
      refine (HW.out _).mono ?_
      rintro e w' ⟨rfl, rfl⟩
      go_wp2_with fail
      go_loop [5, 25] (fun n i => ∃ k : Nat, k ≤ l.length ∧ i = .int .i64 k ∧ n = .int .i64 (dotI (d.take k) (l.take k))) (fun _ i => l.length - (intOf i).toNat)
      case atStart => exact ⟨0, Nat.zero_le _, rfl, rfl⟩
      case round =>
        obtain ⟨k, hk, rfl, rfl⟩ := hrel
        by_cases hlt : k < l.length
        · have hltd : k < d.length := by have := HLEN.out; omega
          obtain ⟨b', off, rfl, hbb, hcell⟩ := h3.resolve_left (fun e => by rw [e] at hlt; simp at hlt)
          obtain ⟨bd, offd, rfl, hbbd, hcelld⟩ := g3.resolve_left (fun e => by rw [e] at hltd; simp at hltd)
          have hc := hcell k hlt
          have hcd := hcelld k hltd
          have hx := HLB.out _ (List.getElem_mem hlt)
          have hy := HD.out _ (List.getElem_mem hltd)
          have hsm := dotI_small (d := d) (l := l) (k := k) (fun x hx => HD.out x (List.mem_of_mem_take hx)) HLB.out (by have := HLEN.out; omega)
          have HT := Lib.hid (dotI_take hltd hlt)
          clear h3 g3 hcell hcelld
          obtain ⟨N, hNe⟩ : ∃ N, N = dotI (d.take k) (l.take k) := ⟨_, rfl⟩
          obtain ⟨y, hye⟩ : ∃ y, y = d[k] := ⟨_, rfl⟩
          obtain ⟨x, hxe⟩ : ∃ x, x = l[k] := ⟨_, rfl⟩
          rw [← hNe] at hsm HT ⊢
          rw [← hye] at hcd HT hy
          rw [← hxe] at hc hx HT
          have hp0 : 0 ≤ y * x := Int.mul_nonneg hy.1 (by omega)
          have hp1 : y * x ≤ 100000 * 1000 := Int.mul_le_mul hy.2 hx.2 (by omega) (by decide)
          have hs0 := hsm.1
          have hs9 := hsm.2
          obtain ⟨M, hM⟩ : ∃ M, y * x = M := ⟨_, rfl⟩
          rw [hM] at hp0 hp1 HT
          have wM : IntKind.i64.wrap M = M := by rw [IntKind.wrap_i64]; omega
          have wN : IntKind.i64.wrap (N + M) = N + M := by rw [IntKind.wrap_i64]; omega
          clear hNe hye hxe hsm hx hy
          go_wp2_with fail
          go_round
          case rel => exact ⟨k + 1, hlt, by go_num, by rw [HT.out]⟩
          case measure => simp [intOf]; omega
        · have hkl : k = l.length := by omega
          have HE2 := Lib.hid (show dotI (d.take k) (l.take k) = rCoinsValue0 d l by
            rw [← HE.out, hkl, List.take_length, List.take_of_length_le (by have := HLEN.out; omega)])
          obtain ⟨N, hNe⟩ : ∃ N, N = dotI (d.take k) (l.take k) := ⟨_, rfl⟩
          rw [← hNe] at HE2 ⊢
          have hn9 : ¬ (k : Int) < l.length := by omega
          clear h3 g3 hNe hkl
          go_wp2
          go_ret
          exact ⟨by rw [HR.out, ← HE2.out]; rfl, _, rfl⟩
  · have HK := Lib.hid (cv_not (d := d) (l := l) (by rw [cvOk, decide_eq_false hlen]; simp))
    have hlq : ((d.length : Int) == l.length) = false := by simp; omega
    have hlJ : ¬ (d.length : Int) = l.length := by omega
    clear hc h3 g3 hlen
    go_enter Try.func20, Try.ntmps20
    go_wp2_with fail
    refine HC.out.mono ?_
    rintro e w' ⟨rfl, q, rfl⟩
    go_wp2_with fail
    go_ret
    exact ⟨by rw [HR.out, HK.out]; rfl, _, rfl⟩

theorem implCoinsValue_any (vd : Value) (d : List Int) (v : Value) (l : List Int) (w : World) (hrd : RowAt w vd (intsOf d)) (hld : d.length ≤ 1048576) (hid : ∀ n ∈ d, in64 n) (hr : RowAt w v (intsOf l)) (hl : l.length ≤ 1048576) (hi : ∀ n ∈ l, in64 n) :
    Calls Try.prog 20 #[vd, v] w fun e w' => e = .returned (.int .i64 (rCoinsValue0 d l)) ∧ Below w.heap.size w w' := by
  refine (implCv_any vd v d l w hrd hr (by omega) (by omega)).mono ?_
  rintro e w' ⟨rfl, q, rfl⟩
  exact ⟨rfl, below_drewN (Below.refl _ _) _⟩

end Go.Proofs.Ytbfoaibgenepoaa
