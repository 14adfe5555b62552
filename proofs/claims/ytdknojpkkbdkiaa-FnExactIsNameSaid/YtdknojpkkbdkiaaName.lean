/- IsName: the program's answer is that there are 1 to 8 bytes, each a letter, or a digit that is not the first. -/
import Derived.Test.YtdknojpkkbdkiaaDigRune
set_option linter.unusedVariables false
namespace Go.Proofs.Ytdknojpkkbdkiaa
open Go.ChangeShapes Go.WideShapes Go.ChangeAt Go.RowKit

def letB (c : Int) : Bool := decide (97 ≤ c) && decide (c ≤ 122)
theorem letB_yes {c : Int} (h : letB c = true) : 97 ≤ c ∧ c ≤ 122 := by simpa [letB] using h
theorem letB_no {c : Int} (h : letB c = false) : c < 97 ∨ 122 < c := by simp [letB] at h; omega
def okAt (i : Nat) (c : Int) : Bool := letB c || (decide (0 < i) && digB c)

def isNam (s : ByteArray) : Bool := decide (1 ≤ s.size ∧ s.size ≤ 8 ∧ ∀ i (h : i < s.size), okAt i (s[i].toNat) = true)

theorem isLetterRune_any (r : Int) (w : World) :
    Calls Try.prog 28 #[.int .i32 r] w fun e w' => e = .returned (.bool (letB r)) ∧ w = w' := by
  by_cases h : letB r = true
  · obtain ⟨h2, h3⟩ := letB_yes h
    rw [h]; clear h
    go_enter Try.func28, Try.ntmps28
    go_wp2
    go_ret
    exact ⟨rfl, rfl⟩
  · have h' : letB r = false := by simpa using h
    have h1 := letB_no h'
    rw [h']; clear h h'
    by_cases h2 : r < 97
    · clear h1
      go_enter Try.func28, Try.ntmps28
      go_wp2
      go_ret
      exact ⟨rfl, rfl⟩
    · have h3 : 122 < r := by omega
      clear h1
      go_enter Try.func28, Try.ntmps28
      go_wp2
      go_ret
      exact ⟨ret_bool (by simp; omega), rfl⟩

theorem letB_decode (s : ByteArray) (pos : Nat) (h : pos < s.size) : letB (Utf8.decode s pos).1 = letB (s[pos].toNat) ∧ (letB (s[pos].toNat) = true → (Utf8.decode s pos).2 = 1) := by
  by_cases ha : (s[pos]'h).toNat < 128
  · rw [decode_ascii s pos h ha]; exact ⟨rfl, fun _ => rfl⟩
  · have := (decode_high s pos h (by omega)).1
    have e1 : letB (s[pos].toNat) = false := by simp [letB]; omega
    have e2 : letB (Utf8.decode s pos).1 = false := by simp [letB]; omega
    rw [e1, e2]; simp

theorem isNam_short {s : ByteArray} (h : ¬ (1 ≤ s.size ∧ s.size ≤ 8)) : isNam s = false := by
  simp only [isNam, decide_eq_false_iff_not]; intro ⟨a, b, _⟩; exact h ⟨a, b⟩
theorem isNam_at {s : ByteArray} {k : Nat} (hk : k < s.size) (h : okAt k (s[k].toNat) = false) : isNam s = false := by
  simp only [isNam, decide_eq_false_iff_not]; intro ⟨_, _, g⟩; rw [g k hk] at h; cases h
theorem isNam_yes {s : ByteArray} (h1 : 1 ≤ s.size) (h2 : s.size ≤ 8) (h : ∀ i (h : i < s.size), okAt i (s[i].toNat) = true) : isNam s = true := decide_eq_true ⟨h1, h2, h⟩
theorem okAt_let {i : Nat} {c : Int} (h : letB c = true) : okAt i c = true := by simp [okAt, h]
theorem okAt_dig {i : Nat} {c : Int} (h0 : 0 < i) (h : digB c = true) : okAt i c = true := by simp [okAt, h, h0]
theorem okAt_zero {c : Int} (h : letB c = false) : okAt 0 c = false := by simp [okAt, h]
theorem okAt_no {i : Nat} {c : Int} (h : letB c = false) (g : digB c = false) : okAt i c = false := by simp [okAt, h, g]

set_option maxHeartbeats 800000 in
theorem implIsName_any (s : ByteArray) (w : World) (hs : s.size ≤ maxLen) :
    Calls Try.prog 12 #[.string s] w fun e w' => e = .returned (.bool (isNam s)) ∧ Below w.heap.size w w' := by
  unfold maxLen at hs
  by_cases h0 : s.size = 0
  · have hf := isNam_short (s := s) (by omega)
    have he : s.toList.isEmpty = true := by rw [toList_isEmpty]; simpa using h0
    rw [hf]; clear hf
    go_enter Try.func12, Try.ntmps12
    go_wp2
    go_ret
    exact ⟨rfl, Below.refl _ _⟩
  have he : s.toList.isEmpty = false := by rw [toList_isEmpty]; simpa using h0
  by_cases h8 : 8 < s.size
  · have hf := isNam_short (s := s) (by omega)
    rw [hf]; clear hf
    go_enter Try.func12, Try.ntmps12
    go_wp2
    go_ret
    exact ⟨rfl, Below.refl _ _⟩
  have h8' : (s.size : Int) ≤ 8 := by omega
  go_enter Try.func12, Try.ntmps12
  go_wp2
  go_loopw [] (fun w' => ∃ pos : Nat, pos ≤ s.size ∧ w' = w.iter s pos ∧ ∀ i (h : i < s.size), i < pos → okAt i (s[i].toNat) = true) (fun w' => s.size - w'.iterPos w.heap.size)
  case atStart => exact ⟨0, by omega, rfl, fun i h k => by omega⟩
  case round =>
    obtain ⟨pos, hle, rfl, hall⟩ := hrel
    have HA := Lib.hid hall; clear hall
    by_cases hp : pos < s.size
    · have hnx : ∀ ty, (Instr.next (.pointer (some ⟨w.heap.size, 0, none⟩)) true ty).run Try.prog (w.iter s pos) = _ := fun ty => run_next_any w s pos ty hp
      obtain ⟨d1, d2⟩ := digB_decode s pos hp
      obtain ⟨l1, l2⟩ := letB_decode s pos hp
      have step : okAt pos (s[pos].toNat) = true → ∀ i (h : i < s.size), i < pos + 1 → okAt i (s[i].toNat) = true := fun ho i h k => by
        by_cases e : i = pos
        · subst e; exact ho
        · exact HA.out i h (by omega)
      have ST := Lib.hid step; clear step HA
      cases hl : letB (s[pos].toNat)
      · rw [hl] at l1; clear l2
        have HL := Lib.hid hl; clear hl
        by_cases hz : pos = 0
        · subst hz
          have HF := Lib.hid (isNam_at hp (okAt_zero HL.out)); clear d1 d2 ST
          go_wp2_with (first | (go_at_call 28; refine (isLetterRune_any _ _).mono ?_; rintro e w' ⟨rfl, rfl⟩) | (go_at_call 26; refine (isDigitRune_any _ _).mono ?_; rintro e w' ⟨rfl, rfl⟩))
          go_ret
          exact ⟨ret_bool HF.out.symm, below_iter _ _ _⟩
        · have hz' : ((pos : Int) == 0) = false := by simp; omega
          clear hz
          cases hd : digB (s[pos].toNat)
          · rw [hd] at d1; clear d2
            have HF := Lib.hid (isNam_at hp (okAt_no HL.out hd)); clear hd ST
            go_wp2_with (first | (go_at_call 28; refine (isLetterRune_any _ _).mono ?_; rintro e w' ⟨rfl, rfl⟩) | (go_at_call 26; refine (isDigitRune_any _ _).mono ?_; rintro e w' ⟨rfl, rfl⟩))
            go_ret
            exact ⟨ret_bool HF.out.symm, below_iter _ _ _⟩
          · rw [hd] at d1; have d2' := d2 hd; clear d2
            have hpos : 0 < pos := by simp at hz'; omega
            have HO := Lib.hid (ST.out (okAt_dig hpos hd)); clear hd
            go_wp2_with (first | (go_at_call 28; refine (isLetterRune_any _ _).mono ?_; rintro e w' ⟨rfl, rfl⟩) | (go_at_call 26; refine (isDigitRune_any _ _).mono ?_; rintro e w' ⟨rfl, rfl⟩))
            go_roundw
            case rel => exact ⟨pos + 1, by omega, rfl, HO.out⟩
            case measure => simp; omega
      · rw [hl] at l1; have l2' := l2 hl; clear l2 d1 d2
        have HO := Lib.hid (ST.out (okAt_let hl)); clear hl
        go_wp2_with (first | (go_at_call 28; refine (isLetterRune_any _ _).mono ?_; rintro e w' ⟨rfl, rfl⟩) | (go_at_call 26; refine (isDigitRune_any _ _).mono ?_; rintro e w' ⟨rfl, rfl⟩))
        go_roundw
        case rel => exact ⟨pos + 1, by omega, rfl, HO.out⟩
        case measure => simp; omega
    · have hnx : ∀ ty, (Instr.next (.pointer (some ⟨w.heap.size, 0, none⟩)) true ty).run Try.prog (w.iter s pos) = _ := fun ty => run_next_end w s pos ty hp
      have HT := Lib.hid (isNam_yes (by omega) (by omega) fun i h => HA.out i h (by omega))
      go_wp2
      go_ret
      exact ⟨ret_bool HT.out.symm, below_iter _ _ _⟩

end Go.Proofs.Ytdknojpkkbdkiaa
