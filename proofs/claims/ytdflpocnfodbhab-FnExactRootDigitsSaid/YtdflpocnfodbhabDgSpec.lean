/- Digits: the model's functions. -/
import Derived.Test.YtdflpocnfodbhabRow
import Derived.Test.YtdflpocnfodbhabDgS
set_option linter.unusedVariables false
set_option linter.unusedSimpArgs false
set_option maxRecDepth 100000
namespace Go.Proofs.Ytdflpocnfodbhab
open Go.ChangeShapes Go.WideShapes Go.ChangeAt Go.RowKit

theorem sIn_any (n lo hi : Int) (w : World) :
    Calls Try.prog 50 #[.int .i64 n, .int .i64 lo, .int .i64 hi] w fun e w' => e = .returned (.bool (inB n lo hi)) ∧ w = w' := by
  by_cases h : lo ≤ n
  · go_enter Try.func50, Try.ntmps50
    go_wp2
    all_goals (go_ret; exact ⟨ret_bool (by simp [inB, h]), rfl⟩)
  · have h' : n < lo := by omega
    go_enter Try.func50, Try.ntmps50
    go_wp2
    all_goals (go_ret; exact ⟨ret_bool (by simp [inB]; omega), rfl⟩)

theorem specBaseOk_any (b : Int) (w : World) (hb : in64 b) :
    Calls Try.prog 56 #[.int .i64 b] w fun e w' => e = .returned (.bool (okB b)) ∧ w = w' := by
  go_enter Try.func56, Try.ntmps56
  go_wp2_with (go_at_call 50; refine (sIn_any _ _ _ _).mono ?_; rintro e w' ⟨rfl, rfl⟩)
  go_ret
  exact ⟨rfl, rfl⟩

theorem okD_base {l : List Int} {b : Int} (h : okB b = false) : okD l b = false := by simp [okD, h]
theorem okD_long {l : List Int} {b : Int} (h : 60 < l.length) : okD l b = false := by
  have : ¬ l.length ≤ 60 := by omega
  simp [okD, this]
theorem okD_at {l : List Int} {b : Int} {k : Nat} (hk : k < l.length) (h : inB l[k] 0 (b - 1) = false) : okD l b = false := by
  have : ¬ (∀ d ∈ l, 0 ≤ d ∧ d ≤ b - 1) := fun g => by
    have := g l[k] (List.getElem_mem hk)
    simp [inB] at h; omega
  simp only [okD, decide_eq_false this, Bool.and_false, Bool.false_and]
theorem okD_end {l : List Int} {b : Int} (h1 : okB b = true) (h2 : l.length ≤ 60) (h3 : ∀ d ∈ l, 0 ≤ d ∧ d ≤ b - 1) : okD l b = decide (l = [] ∨ l.getLast? ≠ some 0) := by
  simp only [okD, h1, decide_eq_true h2, decide_eq_true h3, Bool.true_and]

theorem last_test {l : List Int} {m : Nat} (hm : l.length = m + 1) (h : m < l.length) :
    decide (l = [] ∨ l.getLast? ≠ some 0) = (l[m] != 0) := by
  have e : l.getLast? = some l[m] := by
    rw [List.getLast?_eq_getElem?]; simp [hm]
  have n : l ≠ [] := fun e => by rw [e] at h; simp at h
  rw [e]
  by_cases hz : l[m] = 0 <;> simp [hz, n]

set_option maxHeartbeats 2000000 in
theorem specDigitsOk_any (v : Value) (l : List Int) (b : Int) (w : World) (hr : RowAt w v (intsOf l)) (hl : l.length ≤ 1048576) (hi : ∀ n ∈ l, in64 n) (hb : in64 b) :
    Calls Try.prog 49 #[v, .int .i64 b] w fun e w' => e = .returned (.bool (okD l b)) ∧ w = w' := by
  obtain ⟨a, cap, rfl, h1, h2, h3⟩ := hr.ints
  unfold maxLen at h2
  have HI := Lib.hid hi
  have HB := Lib.hid hb
  clear hi hb
  cases hok : okB b
  · have HK := Lib.hid (okD_base (l := l) hok)
    have HC := Lib.hid (fun W => specBaseOk_any b W HB.out)
    rw [hok] at HC
    clear hok
    go_enter Try.func49, Try.ntmps49
    go_wp2_with (go_at_call 56; refine (HC.out _).mono ?_; rintro e w' ⟨rfl, rfl⟩)
    go_ret
    exact ⟨ret_bool HK.out.symm, rfl⟩
  · obtain ⟨hb2, hb16⟩ := okB_yes hok
    have HC := Lib.hid (fun W => specBaseOk_any b W HB.out)
    rw [hok] at HC
    have HOK := Lib.hid hok
    clear hok
    by_cases h60 : 60 < l.length
    · have HK := Lib.hid (okD_long (b := b) h60)
      go_enter Try.func49, Try.ntmps49
      go_wp2_with (go_at_call 56; refine (HC.out _).mono ?_; rintro e w' ⟨rfl, rfl⟩)
      go_ret
      exact ⟨ret_bool HK.out.symm, rfl⟩
    · have h60' : l.length ≤ 60 := by omega
      go_enter Try.func49, Try.ntmps49
      go_wp2_with (go_at_call 56; refine (HC.out _).mono ?_; rintro e w' ⟨rfl, rfl⟩)
      go_loop [17] (fun i => ∃ k : Nat, k ≤ l.length ∧ i = .int .i64 k ∧ ∀ j (h : j < l.length), j < k → 0 ≤ l[j] ∧ l[j] ≤ b - 1) (fun i => l.length - (intOf i).toNat)
      case atStart => exact ⟨0, Nat.zero_le _, rfl, fun j h k => by omega⟩
      case round =>
        obtain ⟨k, hk, rfl, hall⟩ := hrel
        have HA := Lib.hid hall; clear hall
        by_cases hlt : k < l.length
        · obtain ⟨b', off, rfl, hbb, hcell⟩ := h3.resolve_left (fun e => by rw [e] at hlt; simp at hlt)
          have hc := hcell k hlt
          have hin := HI.out _ (List.getElem_mem hlt)
          clear h3 hcell
          cases hd : inB l[k] 0 (b - 1)
          · have HK := Lib.hid (okD_at hlt hd)
            have HS := Lib.hid (fun W => sIn_any l[k] 0 (b - 1) W)
            rw [hd] at HS
            clear hd
            go_wp2_with (go_at_call 50; refine (HS.out _).mono ?_; rintro e w' ⟨rfl, rfl⟩)
            go_ret
            exact ⟨ret_bool HK.out.symm, rfl⟩
          · have HD := Lib.hid (inB_yes hd)
            have HS := Lib.hid (fun W => sIn_any l[k] 0 (b - 1) W)
            rw [hd] at HS
            clear hd
            go_wp2_with (go_at_call 50; refine (HS.out _).mono ?_; rintro e w' ⟨rfl, rfl⟩)
            go_round
            case rel =>
              refine ⟨k + 1, hlt, by go_num, fun j h hj => ?_⟩
              by_cases e : j = k
              · subst e; exact HD.out
              · exact HA.out j h (by omega)
            case measure => simp [intOf]; omega
        · have HE := Lib.hid (okD_end (l := l) HOK.out h60' (fun d hd => by
            obtain ⟨j, hj, rfl⟩ := List.getElem_of_mem hd
            exact HA.out j hj (by omega)))
          by_cases h0 : l.length = 0
          · have hnil : l = [] := List.eq_nil_of_length_eq_zero h0
            have HF := Lib.hid (show okD l b = true by rw [HE.out]; simp [hnil])
            have hz : ((l.length : Int) == 0) = true := by simp [hnil]
            clear h3 hnil h0
            go_wp2
            go_ret
            exact ⟨ret_bool HF.out.symm, rfl⟩
          · obtain ⟨m, hm⟩ : ∃ m, l.length = m + 1 := ⟨l.length - 1, by omega⟩
            obtain ⟨b', off, rfl, hbb, hcell⟩ := h3.resolve_left (fun e => by rw [e] at h0; simp at h0)
            have hml : m < l.length := by omega
            have hc := hcell m hml
            have HF := Lib.hid (show okD l b = (l[m] != 0) by
              rw [HE.out]; exact last_test hm hml)
            have hz : ((m : Int) + 1 == 0) = false := beq_false_of_ne (by omega)
            have hpos : (1 : Int) ≤ l.length := by omega
            have hix : ((l.length : Int) - 1).toNat = m := by omega
            clear h3 hcell
            go_wp2
            go_ret
            exact ⟨ret_bool HF.out.symm, rfl⟩

end Go.Proofs.Ytdflpocnfodbhab
