/- Join and PadZeros: the texts with 'by' between them; leading zeros. -/
import Derived.Test.YtbnkdcfmllblkaaDoorRow
import Derived.Test.YtbnkdcfmllblkaaDoorShelf
import Derived.Test.YtbnkdcfmllblkaaDoorBld
set_option linter.unusedVariables false
set_option linter.unusedSimpArgs false
namespace Go.Proofs.YtbnkdcfmllblkaaDoor
open Go.ChangeShapes Go.WideShapes Go.ChangeAt Go.RowKit

/-- the first k texts with 'by' between them -/
def jn (b : ByteArray) (l : List ByteArray) : Nat → List UInt8
  | 0 => []
  | k + 1 => (if 0 < k then jn b l k ++ b.data.toList else jn b l k) ++ (l.getD k ByteArray.empty).data.toList

theorem jn_mono (b : ByteArray) (l : List ByteArray) (k : Nat) : (jn b l k).length ≤ (jn b l (k + 1)).length := by
  simp only [jn]; split <;> simp <;> omega
theorem jn_le (b : ByteArray) (l : List ByteArray) {k m : Nat} (h : k ≤ m) : (jn b l k).length ≤ (jn b l m).length := by
  induction h with
  | refl => exact Nat.le_refl _
  | step _ ih => exact Nat.le_trans ih (jn_mono _ _ _)
theorem jn_pos (b : ByteArray) (l : List ByteArray) {k : Nat} (h : 0 < k) (hk : k < l.length) : jn b l (k + 1) = jn b l k ++ b.data.toList ++ l[k].data.toList := by
  simp [jn, h, List.getD, hk]
theorem jn_zero (b : ByteArray) (l : List ByteArray) (hk : 0 < l.length) : jn b l (0 + 1) = l[0].data.toList := by
  simp [jn, List.getD, hk]

set_option maxHeartbeats 1000000 in
theorem joinTexts_any (by' : ByteArray) (v : Value) (l : List ByteArray) (w : World) (hrow : RowAt w v (strsOf l)) (hlen : (jn by' l l.length).length ≤ 140737488355328) :
    Calls Tryd.prog 29 #[.string by', v] w fun e w' => e = .returned (.string (bs (jn by' l l.length))) ∧ Below w.heap.size w w' := by
  obtain ⟨a, cap, rfl, h1, h2, h3⟩ := hrow.strs
  unfold maxLen at h2
  have h0 : Lib.IsBuilder 56 5 w.heap.size w.heap.size [] (w.alloc (.cells #[.pointer none, .slice none 0 0] 56)) := Lib.fresh_isBuilder _ _ w
  have b0 : Below w.heap.size w (w.alloc (.cells #[.pointer none, .slice none 0 0] 56)) := (Below.refl _ w).alloc (Nat.le_refl _) _
  go_enter Tryd.func29, Tryd.ntmps29
  go_wp2
  go_loopw [10] (fun i wr => ∃ k : Nat, k ≤ l.length ∧ i = .int .i64 k ∧ Lib.IsBuilder 56 5 w.heap.size w.heap.size (Lib.byteCells (jn by' l k)) wr ∧ Below w.heap.size w wr) (fun i _ => l.length - (intOf i).toNat)
  case atStart => exact ⟨0, Nat.zero_le _, rfl, h0, b0⟩
  case round =>
    obtain ⟨k, hk, rfl, hI, hB⟩ := hrel
    have hsz := hB.size
    by_cases hlt : k < l.length
    · have hne : l ≠ [] := fun e => by rw [e] at hlt; simp at hlt
      obtain ⟨b, off, rfl, hb, hcell⟩ := h3.resolve_left hne
      have hc : wr.cell? ⟨b, off + k, none⟩ = some (.string l[k]) := by rw [hB.cell (p := ⟨b, off + k, none⟩) hb]; exact hcell k hlt
      have m1 := jn_le by' l (Nat.le_of_lt hlt)
      have m2 := jn_le by' l (show k + 1 ≤ l.length from hlt)
      by_cases hz : k = 0
      · subst hz
        have e1 := jn_zero by' l hlt
        rw [e1] at m2
        have E1 := Lib.hid e1; clear e1 h3 hcell
        simp only [Nat.add_zero] at hc
        go_wp2_with (go_at_call 34; refine (writeString_any w.heap.size w.heap.size (Lib.byteCells []) _ _ hI (by rw [size_data] at m2; simp [Lib.byteCells]; omega) hsz).mono ?_)
        rintro e W1 ⟨rfl, q1, q2⟩
        go_wp2
        go_roundw
        case rel => exact ⟨1, hlt, rfl, by rw [E1.out]; exact .inr q1, hB.trans q2⟩
        case measure => simp [intOf]; omega
      · have hpos : 0 < k := by omega
        have e1 := jn_pos by' l hpos hlt
        rw [e1] at m2
        simp only [List.length_append, size_data] at m2
        have E1 := Lib.hid e1; clear e1 h3 hcell hz
        go_wp2_with (go_at_call 34; refine (writeString_any w.heap.size w.heap.size _ by' _ hI (by rw [Lib.byteCells_length]; omega) hsz).mono ?_)
        rintro e W1 ⟨rfl, q1, q2⟩
        have q1' : Lib.IsBuilder 56 5 w.heap.size w.heap.size (Lib.byteCells (jn by' l k ++ by'.data.toList)) W1 := by
          rw [Lib.byteCells_append]; exact .inr q1
        have hB1 := hB.trans q2
        clear q1 q2
        go_wp2_with (go_at_call 34; refine (writeString_any w.heap.size w.heap.size _ _ _ q1' (by rw [Lib.byteCells_length, List.length_append, size_data]; omega) hB1.size).mono ?_)
        rintro e W2 ⟨rfl, q3, q4⟩
        go_wp2
        go_roundw
        case rel => exact ⟨k + 1, hlt, by go_num, by rw [E1.out, Lib.byteCells_append]; exact .inr q3, hB1.trans q4⟩
        case measure => simp [intOf]; omega
    · have hkl : k = l.length := by omega
      subst hkl
      clear h3
      go_wp2_with (go_at_call 35; refine (Tryd.Builder_String_any w.heap.size w.heap.size _ _ hI hsz).mono ?_)
      rintro e W1 ⟨rfl, q1⟩
      go_wp2
      go_ret
      exact ⟨rfl, hB.trans q1⟩

end Go.Proofs.YtbnkdcfmllblkaaDoor
