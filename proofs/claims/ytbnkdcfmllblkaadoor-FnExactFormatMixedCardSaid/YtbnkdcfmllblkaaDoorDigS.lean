/- IsDigits: the model's answer is that all bytes are from 48 to 57 and there is one. -/
import Derived.Test.YtbnkdcfmllblkaaDoorBase
set_option linter.unusedVariables false
set_option linter.unusedSimpArgs false
namespace Go.Proofs.YtbnkdcfmllblkaaDoor
open Go.ChangeShapes Go.WideShapes Go.ChangeAt Go.RowKit

/-- is this a decimal digit -/
def digB (c : Int) : Bool := decide (48 ≤ c) && decide (c ≤ 57)
theorem digB_yes {c : Int} (h : digB c = true) : 48 ≤ c ∧ c ≤ 57 := by simpa [digB] using h
theorem digB_no {c : Int} (h : ¬ digB c = true) : c < 48 ∨ 57 < c := by simp [digB] at h; omega
theorem digB_mk {c : Int} (h : 48 ≤ c ∧ c ≤ 57) : digB c = true := by simpa [digB] using h

/-- all bytes are digits, and there is one -/
def isDig (s : ByteArray) : Bool := decide (0 < s.size ∧ ∀ i (h : i < s.size), digB (s[i].toNat) = true)

theorem digB_decode (s : ByteArray) (pos : Nat) (h : pos < s.size) : digB (Utf8.decode s pos).1 = digB (s[pos].toNat) ∧ (digB (s[pos].toNat) = true → (Utf8.decode s pos).2 = 1) := by
  by_cases ha : (s[pos]'h).toNat < 128
  · rw [decode_ascii s pos h ha]; exact ⟨rfl, fun _ => rfl⟩
  · have := (decode_high s pos h (by omega)).1
    have e1 : digB (s[pos].toNat) = false := by simp [digB]; omega
    have e2 : digB (Utf8.decode s pos).1 = false := by simp [digB]; omega
    rw [e1, e2]; simp

end Go.Proofs.YtbnkdcfmllblkaaDoor
