/- SplitAny: the pieces between the bytes that occur in a text. -/
import Derived.Test.YtbnkdcfmllblkaaDoorRow
set_option linter.unusedVariables false
set_option linter.unusedSimpArgs false
namespace Go.Proofs.YtbnkdcfmllblkaaDoor
open Go.ChangeShapes Go.WideShapes Go.ChangeAt Go.RowKit

/-- does the byte c occur among the first k bytes of b -/
def occB (b : ByteArray) (k : Nat) (c : UInt8) : Bool := (b.data.toList.take k).contains c
theorem occB_zero (b : ByteArray) (c : UInt8) : occB b 0 c = false := by simp [occB]
theorem data_get (b : ByteArray) (k : Nat) (h : k < b.size) : b.data.toList[k]'(by rw [size_data]; exact h) = b[k] := by
  simp only [Array.getElem_toList]; rfl
theorem occB_succ {b : ByteArray} {k : Nat} (h : k < b.size) (c : UInt8) : occB b (k + 1) c = (occB b k c || c == b[k]) := by
  have h' : k < b.data.toList.length := by rw [size_data]; exact h
  simp only [occB]
  rw [List.take_succ_eq_append_getElem h', data_get b k h]
  simp
  rfl

/-- the pieces that end before byte i, and where the next one begins -/
def sp (s b : ByteArray) : Nat → List ByteArray × Nat
  | 0 => ([], 0)
  | i + 1 => if occB b b.size (s.data.toList.getD i 0) then ((sp s b i).1 ++ [s.extract (sp s b i).2 i], i + 1) else sp s b i
def pieces (s b : ByteArray) : List ByteArray := (sp s b s.size).1 ++ [s.extract (sp s b s.size).2 s.size]

theorem sp_from (s b : ByteArray) : ∀ i, (sp s b i).2 ≤ i
  | 0 => Nat.le_refl _
  | i + 1 => by
    have := sp_from s b i
    simp only [sp]; split
    · exact Nat.le_refl _
    · omega
theorem sp_len (s b : ByteArray) : ∀ i, (sp s b i).1.length ≤ i
  | 0 => Nat.le_refl _
  | i + 1 => by
    have := sp_len s b i
    simp only [sp]; split
    · simp; omega
    · omega
theorem getD_byte {s : ByteArray} {i : Nat} (h : i < s.size) : s.data.toList.getD i 0 = s[i] := by
  have h' : i < s.data.toList.length := by rw [size_data]; exact h
  rw [List.getD_eq_getElem?_getD, List.getElem?_eq_getElem h', data_get s i h]; rfl
theorem sp_yes {s b : ByteArray} {i : Nat} (h : i < s.size) (ho : occB b b.size s[i] = true) : sp s b (i + 1) = ((sp s b i).1 ++ [s.extract (sp s b i).2 i], i + 1) := by
  simp only [sp]; rw [getD_byte h, if_pos ho]
theorem sp_no {s b : ByteArray} {i : Nat} (h : i < s.size) (ho : occB b b.size s[i] = false) : sp s b (i + 1) = sp s b i := by
  simp only [sp]; rw [getD_byte h, if_neg (by simp [ho])]
theorem occB_hit {b : ByteArray} {k : Nat} (h : k < b.size) {c : UInt8} (e : c = b[k]) : occB b b.size c = true := by
  have h' : k < b.data.toList.length := by rw [size_data]; exact h
  simp only [occB]
  rw [← size_data, List.take_length, List.contains_iff_mem, e, ← data_get b k h]
  exact List.getElem_mem h'
theorem toNat_ne {a b : UInt8} (h : a ≠ b) : ((a.toNat : Int) == (b.toNat : Int)) = false := by
  simp only [beq_eq_false_iff_ne, ne_eq]
  intro e
  exact h (UInt8.toNat_inj.1 (by omega))


theorem pieces_len (s b : ByteArray) : (pieces s b).length ≤ s.size + 1 := by
  have := sp_len s b s.size
  simp [pieces]; omega

end Go.Proofs.YtbnkdcfmllblkaaDoor
