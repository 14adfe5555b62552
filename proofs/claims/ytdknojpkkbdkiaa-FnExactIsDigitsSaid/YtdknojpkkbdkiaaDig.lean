/- IsDigits: the program. -/
import Derived.Test.YtdknojpkkbdkiaaDigRune
import Derived.Test.YtdknojpkkbdkiaaDigSpec
set_option linter.unusedVariables false
namespace Go.Proofs.Ytdknojpkkbdkiaa
open Go.ChangeShapes Go.WideShapes Go.ChangeAt Go.RowKit

set_option maxHeartbeats 400000 in
theorem implIsDigits_any (s : ByteArray) (w : World) :
    Calls Try.prog 10 #[.string s] w fun e w' => e = .returned (.bool (isDig s)) ∧ Below w.heap.size w w' := by
  go_enter Try.func10, Try.ntmps10
  go_wp2
  go_loopw [] (fun w' => ∃ pos : Nat, pos ≤ s.size ∧ w' = w.iter s pos ∧ ∀ i (h : i < s.size), i < pos → digB (s[i].toNat) = true) (fun w' => s.size - w'.iterPos w.heap.size)
  case atStart => exact ⟨0, by omega, rfl, fun i h k => by omega⟩
  case round =>
    obtain ⟨pos, hle, rfl, hall⟩ := hrel
    have HA := Lib.hid hall; clear hall
    by_cases hp : pos < s.size
    · have hnx : ∀ ty, (Instr.next (.pointer (some ⟨w.heap.size, 0, none⟩)) true ty).run Try.prog (w.iter s pos) = _ := fun ty => run_next_any w s pos ty hp
      obtain ⟨d1, d2⟩ := digB_decode s pos hp
      by_cases hd : digB (s[pos].toNat) = true
      · have d2' := d2 hd; rw [hd] at d1; clear d2
        have HD := Lib.hid hd; clear hd
        go_wp2_with (go_at_call 26; refine (isDigitRune_any _ _).mono ?_; rintro e w' ⟨rfl, rfl⟩)
        go_roundw
        case rel =>
          refine ⟨pos + 1, by omega, rfl, fun i h k => ?_⟩
          by_cases e : i = pos
          · subst e; exact HD.out
          · exact HA.out i h (by omega)
        case measure => simp; omega
      · have hd' : digB (s[pos].toNat) = false := by simpa using hd
        rw [hd'] at d1
        have hf : isDig s = false := by
          simp only [isDig, decide_eq_false_iff_not]; intro ⟨_, h⟩; exact hd (h pos hp)
        have HF := Lib.hid hf
        clear d2 hd hd' hf
        go_wp2_with (go_at_call 26; refine (isDigitRune_any _ _).mono ?_; rintro e w' ⟨rfl, rfl⟩)
        go_ret
        exact ⟨ret_bool HF.out.symm, below_iter _ _ _⟩
    · have hnx : ∀ ty, (Instr.next (.pointer (some ⟨w.heap.size, 0, none⟩)) true ty).run Try.prog (w.iter s pos) = _ := fun ty => run_next_end w s pos ty hp
      go_wp2
      go_ret
      refine ⟨ret_bool ?_, below_iter _ _ _⟩
      rw [toList_isEmpty]
      simp only [isDig]
      by_cases h0 : s.size = 0
      · simp [h0]
      · have : 0 < s.size := by omega
        simp only [h0, this, true_and, decide_false, Bool.not_false]
        exact (decide_eq_true (fun i h => HA.out i h (by omega))).symm

end Go.Proofs.Ytdknojpkkbdkiaa
