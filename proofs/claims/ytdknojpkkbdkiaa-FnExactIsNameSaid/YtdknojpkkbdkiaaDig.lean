/- IsDigits: the program's and the model's answer is that all bytes are from 48 to 57 and there is one. -/
import Derived.Test.YtdknojpkkbdkiaaBase
set_option linter.unusedVariables false
namespace Go.Proofs.Ytdknojpkkbdkiaa
open Go.ChangeShapes Go.WideShapes Go.ChangeAt Go.RowKit

/-- is this a decimal digit -/
def digB (c : Int) : Bool := decide (48 ≤ c) && decide (c ≤ 57)
theorem digB_yes {c : Int} (h : digB c = true) : 48 ≤ c ∧ c ≤ 57 := by simpa [digB] using h
theorem digB_no {c : Int} (h : ¬ digB c = true) : c < 48 ∨ 57 < c := by simp [digB] at h; omega
theorem digB_mk {c : Int} (h : 48 ≤ c ∧ c ≤ 57) : digB c = true := by simpa [digB] using h

/-- all bytes are digits, and there is one -/
def isDig (s : ByteArray) : Bool := decide (0 < s.size ∧ ∀ i (h : i < s.size), digB (s[i].toNat) = true)

theorem isDigitRune_any (r : Int) (w : World) :
    Calls Try.prog 26 #[.int .i32 r] w fun e w' => e = .returned (.bool (digB r)) ∧ w = w' := by
  by_cases h : digB r = true
  · obtain ⟨h2, h3⟩ := digB_yes h
    rw [h]; clear h
    go_enter Try.func26, Try.ntmps26
    go_wp2
    go_ret
    exact ⟨rfl, rfl⟩
  · have h1 := digB_no h
    rw [show digB r = false by simpa using h]; clear h
    by_cases h2 : r < 48
    · clear h1
      go_enter Try.func26, Try.ntmps26
      go_wp2
      go_ret
      exact ⟨rfl, rfl⟩
    · have h3 : 57 < r := by omega
      clear h1
      go_enter Try.func26, Try.ntmps26
      go_wp2
      go_ret
      exact ⟨ret_bool (by simp; omega), rfl⟩

theorem digB_decode (s : ByteArray) (pos : Nat) (h : pos < s.size) : digB (Utf8.decode s pos).1 = digB (s[pos].toNat) ∧ (digB (s[pos].toNat) = true → (Utf8.decode s pos).2 = 1) := by
  by_cases ha : (s[pos]'h).toNat < 128
  · rw [decode_ascii s pos h ha]; exact ⟨rfl, fun _ => rfl⟩
  · have := (decode_high s pos h (by omega)).1
    have e1 : digB (s[pos].toNat) = false := by simp [digB]; omega
    have e2 : digB (Utf8.decode s pos).1 = false := by simp [digB]; omega
    rw [e1, e2]; simp

set_option maxHeartbeats 400000 in
theorem implIsDigits_any (s : ByteArray) (w : World) :
    Calls Try.prog 10 #[.string s] w fun e w' => e = .returned (.bool (isDig s)) ∧ Below w.heap.size w w' := by
  go_enter Try.func10, Try.ntmps10
  go_wp2
  go_loopw [] (fun w' => ∃ pos : Nat, pos ≤ s.size ∧ w' = w.iter s pos ∧ ∀ i (h : i < s.size), i < pos → digB (s[i].toNat) = true) (fun w' => s.size - w'.iterPos w.heap.size)
  case atStart => exact ⟨0, by omega, rfl, fun i h k => by omega⟩
  case round =>
    obtain ⟨pos, hle, rfl, hall⟩ := hrel
    have HA := Lib.hid hall; clear hall
    by_cases hp : pos < s.size
    · have hnx : ∀ ty, (Instr.next (.pointer (some ⟨w.heap.size, 0, none⟩)) true ty).run Try.prog (w.iter s pos) = _ := fun ty => run_next_any w s pos ty hp
      obtain ⟨d1, d2⟩ := digB_decode s pos hp
      by_cases hd : digB (s[pos].toNat) = true
      · have d2' := d2 hd; rw [hd] at d1; clear d2
        have HD := Lib.hid hd; clear hd
        go_wp2_with (go_at_call 26; refine (isDigitRune_any _ _).mono ?_; rintro e w' ⟨rfl, rfl⟩)
        go_roundw
        case rel =>
          refine ⟨pos + 1, by omega, rfl, fun i h k => ?_⟩
          by_cases e : i = pos
          · subst e; exact HD.out
          · exact HA.out i h (by omega)
        case measure => simp; omega
      · have hd' : digB (s[pos].toNat) = false := by simpa using hd
        rw [hd'] at d1
        have hf : isDig s = false := by
          simp only [isDig, decide_eq_false_iff_not]; intro ⟨_, h⟩; exact hd (h pos hp)
        have HF := Lib.hid hf
        clear d2 hd hd' hf
        go_wp2_with (go_at_call 26; refine (isDigitRune_any _ _).mono ?_; rintro e w' ⟨rfl, rfl⟩)
        go_ret
        exact ⟨ret_bool HF.out.symm, below_iter _ _ _⟩
    · have hnx : ∀ ty, (Instr.next (.pointer (some ⟨w.heap.size, 0, none⟩)) true ty).run Try.prog (w.iter s pos) = _ := fun ty => run_next_end w s pos ty hp
      go_wp2
      go_ret
      refine ⟨ret_bool ?_, below_iter _ _ _⟩
      rw [toList_isEmpty]
      simp only [isDig]
      by_cases h0 : s.size = 0
      · simp [h0]
      · have : 0 < s.size := by omega
        simp only [h0, this, true_and, decide_false, Bool.not_false]
        exact (decide_eq_true (fun i h => HA.out i h (by omega))).symm

set_option maxHeartbeats 400000 in
theorem specIsDigits_any (s : ByteArray) (w : World) (hs : s.size ≤ maxLen) :
    Calls Try.prog 9 #[.string s] w fun e w' => e = .returned (.bool (isDig s)) ∧ w = w' := by
  unfold maxLen at hs
  go_enter Try.func9, Try.ntmps9
  go_wp2
  go_loop [3] (fun i => ∃ k : Nat, k ≤ s.size ∧ i = .int .i64 k ∧ ∀ i (h : i < s.size), i < k → digB (s[i].toNat) = true) (fun i => s.size - (intOf i).toNat)
  case atStart => exact ⟨0, by omega, rfl, fun i h k => by omega⟩
  case round =>
    obtain ⟨k, hle, rfl, hall⟩ := hrel
    have HA := Lib.hid hall; clear hall
    by_cases hp : k < s.size
    · by_cases hd : digB (s[k].toNat) = true
      · obtain ⟨d1, d2⟩ := digB_yes hd
        have HD := Lib.hid hd; clear hd
        go_wp2
        go_round
        case rel =>
          refine ⟨k + 1, by omega, by go_num, fun i h j => ?_⟩
          by_cases e : i = k
          · subst e; exact HD.out
          · exact HA.out i h (by omega)
        case measure => simp [intOf]; omega
      · have hf : isDig s = false := by
          simp only [isDig, decide_eq_false_iff_not]; intro ⟨_, h⟩; exact hd (h k hp)
        have HF := Lib.hid hf
        have h1 := digB_no hd
        clear hf hd
        by_cases h2 : (s[k].toNat : Int) < 48
        · clear h1
          go_wp2
          go_ret
          exact ⟨ret_bool HF.out.symm, rfl⟩
        · have h3 : 57 < (s[k].toNat : Int) := by omega
          clear h1
          go_wp2
          go_ret
          exact ⟨ret_bool HF.out.symm, rfl⟩
    · have HP := Lib.hid hp
      go_wp2
      go_ret
      refine ⟨ret_bool ?_, rfl⟩
      simp only [isDig]
      by_cases h0 : s.size = 0
      · simp [h0]
      · have : 0 < s.size := by omega
        simp only [this, true_and, decide_true]
        exact (decide_eq_true (fun i h => HA.out i h (by have := HP.out; omega))).symm

set_option maxHeartbeats 400000 in
theorem lawIsDigits (s : ByteArray) (w : World) (hs : s.size ≤ maxLen) :
    Calls Try.prog 3 #[.string s] w fun e w' => e = .returned (.bool true) ∧ Below w.heap.size w w' := by
  have hs' := hs
  unfold maxLen at hs'
  go_enter Try.func3, Try.ntmps3
  go_wp2_with (first | (go_at_call 9; refine (specIsDigits_any _ _ hs).mono ?_; rintro e w' ⟨rfl, rfl⟩) | (go_at_call 10; refine (implIsDigits_any _ _).mono ?_; rintro e w' ⟨rfl, hb⟩))
  · go_ret; exact ⟨rfl, Below.refl _ _⟩
  · go_ret; exact ⟨rfl, hb⟩

end Go.Proofs.Ytdknojpkkbdkiaa
