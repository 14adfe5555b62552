/- Balanced digits: the model's tests, digits and values. -/
import Derived.Test.YtdflpocnfodbhacRow
import Derived.Test.YtdflpocnfodbhacBaM
import Derived.Test.YtdflpocnfodbhacDgSpec
import Derived.Test.YtdflpocnfodbhacNgSpec
set_option linter.unusedVariables false
set_option linter.unusedSimpArgs false
set_option maxRecDepth 100000
namespace Go.Proofs.Ytdflpocnfodbhac
open Go.ChangeShapes Go.WideShapes Go.ChangeAt Go.RowKit

theorem spec5Base_any (b : Int) (w : World) (hb : in64 b) :
    Calls Try.prog 65 #[.int .i64 b] w fun e w' => e = .returned (.bool (okE b)) ∧ w = w' := by
  have HS := Lib.hid (sIn_any b 3 15 w)
  cases h : inB b 3 15
  · have HK := Lib.hid (show okE b = false by simp [okE, h])
    rw [h] at HS
    clear h
    go_enter Try.func65, Try.ntmps65
    go_wp2_with fail
    refine HS.out.mono ?_
    rintro e w' ⟨rfl, rfl⟩
    go_wp2_with fail
    go_ret
    exact ⟨ret_bool HK.out.symm, rfl⟩
  · have h' := inB_yes h
    have ht : b.tmod 2 = b % 2 := Int.tmod_eq_emod_of_nonneg (by omega)
    have h0 : 0 ≤ b := by omega
    rw [h] at HS
    have hpar : b % 2 = 0 ∨ b % 2 = 1 := by omega
    rcases hpar with hp | hp
    · have HK := Lib.hid (show okE b = false by simp [okE, hp])
      rw [hp] at ht
      clear h h'
      go_enter Try.func65, Try.ntmps65
      go_wp2_with fail
      refine HS.out.mono ?_
      rintro e w' ⟨rfl, rfl⟩
      go_wp2_with fail
      go_ret
      exact ⟨ret_bool HK.out.symm, rfl⟩
    · have HK := Lib.hid (show okE b = true by simp [okE, h, hp])
      rw [hp] at ht
      clear h h'
      go_enter Try.func65, Try.ntmps65
      go_wp2_with fail
      refine HS.out.mono ?_
      rintro e w' ⟨rfl, rfl⟩
      go_wp2_with fail
      go_ret
      exact ⟨ret_bool HK.out.symm, rfl⟩

set_option maxHeartbeats 2000000 in
theorem specBal_eq (v : Value) (l : List Int) (b : Int) (w : World) (hr : RowAt w v (intsOf l)) (hl : l.length ≤ 1048576) (hi : ∀ n ∈ l, in64 n) (hb : in64 b) :
    Calls Try.prog 43 #[v, .int .i64 b] w fun e w' => e = .returned (.bool (okW l b)) ∧ w = w' := by
  obtain ⟨a, cap, rfl, h1, h2, h3⟩ := hr.ints
  unfold maxLen at h2
  have HI := Lib.hid hi
  have HC := Lib.hid (fun W => spec5Base_any b W hb)
  clear hi
  cases hok : okE b
  · have HK := Lib.hid (okW_base (l := l) hok)
    rw [hok] at HC
    clear hok
    go_enter Try.func43, Try.ntmps43
    go_wp2_with (go_at_call 65; refine (HC.out _).mono ?_; rintro e w' ⟨rfl, rfl⟩)
    go_ret
    exact ⟨ret_bool HK.out.symm, rfl⟩
  · obtain ⟨h, hbe, hh1, hh7⟩ := okE_yes hok
    have q1 : b / 2 = (h : Int) := by omega
    have q2 : b.tdiv 2 = (h : Int) := by rw [Int.tdiv_eq_ediv_of_nonneg (by omega)]; exact q1
    rw [hok] at HC
    have HOK := Lib.hid hok
    have HBE := Lib.hid hbe
    clear hok hbe hb
    by_cases h60 : 60 < l.length
    · have HK := Lib.hid (okW_long (b := b) h60)
      go_enter Try.func43, Try.ntmps43
      go_wp2_with (go_at_call 65; refine (HC.out _).mono ?_; rintro e w' ⟨rfl, rfl⟩)
      go_ret
      exact ⟨ret_bool HK.out.symm, rfl⟩
    · have h60' : l.length ≤ 60 := by omega
      go_enter Try.func43, Try.ntmps43
      go_wp2_with (go_at_call 65; refine (HC.out _).mono ?_; rintro e w' ⟨rfl, rfl⟩)
      go_loop [17] (fun i => ∃ k : Nat, k ≤ l.length ∧ i = .int .i64 k ∧ ∀ j (hj : j < l.length), j < k → -(h : Int) ≤ l[j] ∧ l[j] ≤ h) (fun i => l.length - (intOf i).toNat)
      case atStart => exact ⟨0, Nat.zero_le _, rfl, fun j hj k => by omega⟩
      case round =>
        obtain ⟨k, hk, rfl, hall⟩ := hrel
        have HA := Lib.hid hall; clear hall
        by_cases hlt : k < l.length
        · obtain ⟨b', off, rfl, hbb, hcell⟩ := h3.resolve_left (fun e => by rw [e] at hlt; simp at hlt)
          have hc := hcell k hlt
          have hin := HI.out _ (List.getElem_mem hlt)
          clear h3 hcell
          cases hd : inB l[k] (-(h : Int)) h
          · have HK := Lib.hid (okW_at (b := b) hlt (by rw [q1]; exact hd))
            have HS := Lib.hid (fun W => sIn_any l[k] (-(h : Int)) h W)
            rw [hd] at HS
            clear hd
            go_wp2_with (go_at_call 52; refine (HS.out _).mono ?_; rintro e w' ⟨rfl, rfl⟩)
            go_ret
            exact ⟨ret_bool HK.out.symm, rfl⟩
          · have HD := Lib.hid (inB_yes hd)
            have HS := Lib.hid (fun W => sIn_any l[k] (-(h : Int)) h W)
            rw [hd] at HS
            clear hd
            go_wp2_with (go_at_call 52; refine (HS.out _).mono ?_; rintro e w' ⟨rfl, rfl⟩)
            go_round
            case rel =>
              refine ⟨k + 1, hlt, by go_num, fun j hj' hj => ?_⟩
              by_cases e : j = k
              · subst e; exact HD.out
              · exact HA.out j hj' (by omega)
            case measure => simp [intOf]; omega
        · have HE := Lib.hid (okW_end (l := l) HOK.out h60' (fun d hd => by
            obtain ⟨j, hj, rfl⟩ := List.getElem_of_mem hd
            rw [q1]
            exact HA.out j hj (by omega)))
          by_cases h0 : l.length = 0
          · have hnil : l = [] := List.eq_nil_of_length_eq_zero h0
            have HF := Lib.hid (show okW l b = true by rw [HE.out]; simp [hnil])
            have hz : ((l.length : Int) == 0) = true := by simp [hnil]
            clear h3 hnil h0
            go_wp2
            go_ret
            exact ⟨ret_bool HF.out.symm, rfl⟩
          · obtain ⟨m, hm⟩ : ∃ m, l.length = m + 1 := ⟨l.length - 1, by omega⟩
            obtain ⟨b', off, rfl, hbb, hcell⟩ := h3.resolve_left (fun e => by rw [e] at h0; simp at h0)
            have hml : m < l.length := by omega
            have hc := hcell m hml
            have HF := Lib.hid (show okW l b = (l[m] != 0) by
              rw [HE.out]; exact last_test hm hml)
            have hz : ((m : Int) + 1 == 0) = false := beq_false_of_ne (by omega)
            have hpos : (1 : Int) ≤ l.length := by omega
            have hix : ((l.length : Int) - 1).toNat = m := by omega
            clear h3 hcell
            go_wp2
            go_ret
            exact ⟨ret_bool HF.out.symm, rfl⟩

/-- the digit as Go takes it: the remainder, put into its bounds -/
theorem bal_fix {h : Nat} (hh : 1 ≤ h) {n r d : Int} (hr : r = n.tmod (2 * h + 1)) (hdd : d = (n + h) % (2 * h + 1) - h) :
    -(2 * (h : Int)) ≤ r ∧ r ≤ 2 * h ∧ ((h : Int) < r → r - (2 * h + 1) = d) ∧ (r < -(h : Int) → r + (2 * h + 1) = d) ∧ (r ≤ h → -(h : Int) ≤ r → r = d) := by
  have hb : 2 ≤ 2 * h + 1 := by omega
  obtain ⟨t1, t2, t3, t4⟩ := tmod_fix (b := 2 * h + 1) hb n
  have ec : ((2 * h + 1 : Nat) : Int) = 2 * (h : Int) + 1 := by omega
  rw [ec] at t1 t2 t3 t4
  rw [← hr] at t1 t2 t3 t4
  have e2 : 0 ≤ n % (2 * (h : Int) + 1) := Int.emod_nonneg _ (by omega)
  have e3 : n % (2 * (h : Int) + 1) < 2 * h + 1 := Int.emod_lt_of_pos _ (by omega)
  have e4 : (n + h) % (2 * (h : Int) + 1) = (n % (2 * h + 1) + h) % (2 * h + 1) := by rw [Int.emod_add_emod]
  rw [e4] at hdd
  obtain ⟨s, hs⟩ : ∃ s, s = n % (2 * (h : Int) + 1) := ⟨_, rfl⟩
  rw [← hs] at t1 t2 e2 e3 hdd
  have k1 : s ≤ h → d = s := fun hx => by rw [hdd, Int.emod_eq_of_lt (by omega) (by omega)]; omega
  have k2 : (h : Int) < s → d = s - (2 * h + 1) := fun hx => by
    rw [hdd, show s + (h : Int) = (s - h - 1) + (2 * h + 1) * 1 by omega, Int.add_mul_emod_self_left, Int.emod_eq_of_lt (by omega) (by omega)]; omega
  refine ⟨by omega, by omega, fun hx => ?_, fun hx => ?_, fun hx hy => ?_⟩
  · have := t2 (by omega)
    rw [k2 (by omega)]; omega
  · have := t1 (by omega)
    rw [k1 (by omega)]; omega
  · by_cases hneg : r < 0
    · have := t1 hneg
      rw [k2 (by omega)]; omega
    · have := t2 hneg
      rw [k1 (by omega)]; omega
theorem bal_exact {h : Nat} (hh : 1 ≤ h) (n : Int) : (n - ((n + h) % (2 * h + 1) - h)).tdiv (2 * h + 1) = (n + h) / (2 * h + 1) := by
  obtain ⟨h1, _, _⟩ := bd_facts hh n
  rw [show n - ((n + h) % (2 * (h : Int) + 1) - h) = (2 * h + 1) * ((n + h) / (2 * h + 1)) by omega]
  exact Int.mul_tdiv_cancel_left _ (by omega)

end Go.Proofs.Ytdflpocnfodbhac
