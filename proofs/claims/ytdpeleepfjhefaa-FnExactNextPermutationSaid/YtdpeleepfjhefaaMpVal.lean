/- Factorial places and permutations: the model's values and Lehmer's digits. -/
import Derived.Test.YtdpeleepfjhefaaMpSpec
import Derived.Deep.CutBlock
import Derived.Deep.CutRange
import Derived.Deep.DeepCutAuto
import Derived.OwnWalk
set_option linter.unusedVariables false
set_option linter.unusedSimpArgs false
set_option maxRecDepth 100000
namespace Go.Proofs.Ytdpeleepfjhefaa
open Go.ChangeShapes Go.WideShapes Go.ChangeAt Go.RowKit

theorem okD8_yes {l : List Int} (h : okD8 l = true) : 1 ≤ l.length ∧ l.length ≤ 8 ∧ ∀ j (h : j < l.length), 0 ≤ l[j] ∧ l[j] ≤ j := by
  simp only [okD8, Bool.and_eq_true, decide_eq_true_eq] at h
  exact h
theorem okD8_len {l : List Int} (h : inB (l.length : Int) 1 8 = false) : okD8 l = false := by
  cases e : okD8 l
  · rfl
  · obtain ⟨h1, h2, _⟩ := okD8_yes e
    rw [show inB (l.length : Int) 1 8 = true by simp [inB]; omega] at h; simp at h
theorem okD8_at {l : List Int} {k : Nat} (hk : k < l.length) (h : inB l[k] 0 k = false) : okD8 l = false := by
  cases e : okD8 l
  · rfl
  · have := (okD8_yes e).2.2 k hk
    rw [show inB l[k] 0 k = true by simp [inB]; omega] at h; simp at h
theorem mvf_take {l : List Int} {k : Nat} (hk : k < l.length) : mv (l.take (k + 1)) (fr (k + 1)) = mv (l.take k) (fr k) + l[k] * fct k := by
  have h1 : k < (fr (k + 1)).length := by rw [fr_len]; omega
  have := mv_take (l := l) (r := fr (k + 1)) hk h1
  rw [fr_take (Nat.le_refl (k + 1)), fr_take (show k ≤ k + 1 by omega), rp_fr] at this
  exact this
theorem fit8 {l : List Int} : ∀ k, k ≤ l.length → (∀ j (h : j < l.length), j < k → 0 ≤ l[j] ∧ l[j] ≤ j) → FitM (l.take k) (fr k)
  | 0, _, _ => by simp [FitM, fr]
  | k + 1, h, hj => by
    rw [List.take_succ_eq_append_getElem (show k < l.length by omega), fr_succ]
    have := hj k (by omega) (by omega)
    exact fitM_snoc (fit8 k (by omega) (fun j h1 h2 => hj j h1 (by omega))) ⟨this.1, by omega⟩

set_option maxHeartbeats 4000000 in
theorem specFactorialValue_any (v : Value) (l : List Int) (w : World) (hr : RowAt w v (intsOf l)) (hl : l.length ≤ 1048576) (hi : ∀ n ∈ l, in64 n) :
    Calls Try.prog 31 #[v] w fun e w' => e = .returned (.int .i64 (rFactorialValue0 l)) ∧ Below w.heap.size w w' := by
  have HS := Lib.hid (fun W => sIn_any (l.length : Int) 1 8 W)
  obtain ⟨a, cap, rfl, h1, h2, h3⟩ := hr.ints
  unfold maxLen at h2
  clear hr hi
  cases h : inB (l.length : Int) 1 8
  · rw [h] at HS
    have HK := Lib.hid (show rFactorialValue0 l = -1 by rw [rFactorialValue0, okD8_len h]; rfl)
    clear h h3
    go_enter Try.func31, Try.ntmps31
    go_wp2_with fail
    refine (HS.out _).mono ?_
    rintro e w' ⟨rfl, rfl⟩
    go_wp2_with fail
    go_ret
    exact ⟨by rw [HK.out]; rfl, Below.refl _ _⟩
  · rw [h] at HS
    obtain ⟨n1, n8⟩ := inB_yes h
    clear h
    have HF := Lib.hid (fun k (hk : k ≤ 8) W => specFct_any k W (by omega))
    have HFL := Lib.hid (fun k (hk : k ≤ 8) => fct_le (show k ≤ 12 by omega))
    go_enter Try.func31, Try.ntmps31
    go_wp2_with fail
    refine (HS.out _).mono ?_
    rintro e w' ⟨rfl, rfl⟩
    go_wp2_with fail
    go_loop [3, 12] (fun s i => ∃ k : Nat, k ≤ l.length ∧ i = .int .i64 k ∧ s = .int .i64 (mv (l.take k) (fr k)) ∧ ∀ j (h : j < l.length), j < k → 0 ≤ l[j] ∧ l[j] ≤ j) (fun _ i => l.length - (intOf i).toNat)
    case atStart => exact ⟨0, Nat.zero_le _, rfl, by simp [mv_nil], fun j h1 h2 => by omega⟩
    case round =>
      obtain ⟨k, hk, rfl, rfl, hall⟩ := hrel
      obtain ⟨m0, m1⟩ := mv_rangeP (allP_fr k) (fit8 k hk hall)
      rw [rp_fr] at m1
      obtain ⟨f1, f2⟩ := HFL.out k (by omega)
      have HALL := Lib.hid hall
      clear hall
      by_cases hlt : k < l.length
      · obtain ⟨b', off, rfl, hbb, hcell⟩ := h3.resolve_left (fun e => by rw [e] at hlt; simp at hlt)
        have hc := hcell k hlt
        have HSX := Lib.hid (fun W => sIn_any l[k] 0 k W)
        cases hd : inB l[k] 0 k
        · rw [hd] at HSX
          have HK := Lib.hid (show rFactorialValue0 l = -1 by rw [rFactorialValue0, okD8_at hlt hd]; rfl)
          obtain ⟨x, hx⟩ : ∃ x, x = l[k] := ⟨_, rfl⟩
          rw [← hx] at hc HSX
          clear h3 hcell hd hx
          go_wp2_with (go_at_call 48; refine (HSX.out _).mono ?_; rintro e w' ⟨rfl, rfl⟩)
          go_ret
          exact ⟨by rw [HK.out]; rfl, Below.refl _ _⟩
        · rw [hd] at HSX
          obtain ⟨x0, x1⟩ := inB_yes hd
          have HT := Lib.hid (mvf_take hlt)
          have HNX := Lib.hid (show ∀ j (h : j < l.length), j < k + 1 → 0 ≤ l[j] ∧ l[j] ≤ j from fun j h1 h2 => by
            by_cases e : j = k
            · subst e; exact ⟨x0, x1⟩
            · exact HALL.out j h1 (by omega))
          have HFK := Lib.hid (fun W => HF.out k (by omega) W)
          obtain ⟨x, hx⟩ : ∃ x, x = l[k] := ⟨_, rfl⟩
          obtain ⟨M, hM⟩ : ∃ M, M = mv (l.take k) (fr k) := ⟨_, rfl⟩
          obtain ⟨F, hFe⟩ : ∃ F, F = fct k := ⟨_, rfl⟩
          rw [← hx, ← hM, ← hFe] at HT
          rw [← hx] at hc HSX x0 x1
          rw [← hM] at m0 m1 ⊢
          rw [← hFe] at f1 f2 m1 HFK
          have t1 : x * F ≤ 8 * 479001600 := Int.mul_le_mul (by omega) f2 (by omega) (by omega)
          have t0 : 0 ≤ x * F := Int.mul_nonneg x0 (by omega)
          obtain ⟨t, ht⟩ : ∃ t, t = x * F := ⟨_, rfl⟩
          have hwt : IntKind.i64.wrap (x * F) = t := by rw [IntKind.wrap_i64, ← ht]; omega
          rw [← ht] at t0 t1 HT
          clear h3 hcell hd hx hM hFe ht
          go_wp2_with (first
            | (go_at_call 48; refine (HSX.out _).mono ?_; rintro e w' ⟨rfl, rfl⟩)
            | (go_at_call 49; refine (HFK.out _).mono ?_; rintro e w' ⟨rfl, rfl⟩))
          go_round
          case rel => exact ⟨k + 1, hlt, by go_num, by rw [HT.out], HNX.out⟩
          case measure => simp [intOf]; omega
      · have hkl : k = l.length := by omega
        have HK := Lib.hid (show rFactorialValue0 l = mv (l.take k) (fr k) by
          have h1 := HALL.out
          rw [hkl] at h1 ⊢
          rw [rFactorialValue0, show okD8 l = true by
            simp only [okD8, Bool.and_eq_true, decide_eq_true_eq]
            exact ⟨by omega, by omega, fun j h => h1 j h (by omega)⟩, List.take_length]; rfl)
        obtain ⟨M, hM⟩ : ∃ M, M = mv (l.take k) (fr k) := ⟨_, rfl⟩
        rw [← hM] at HK m0 m1 ⊢
        have hn9 : ¬ (k : Int) < l.length := by omega
        clear h3 hM
        go_wp2_with fail
        go_ret
        exact ⟨by rw [HK.out]; rfl, Below.refl _ _⟩

end Go.Proofs.Ytdpeleepfjhefaa
