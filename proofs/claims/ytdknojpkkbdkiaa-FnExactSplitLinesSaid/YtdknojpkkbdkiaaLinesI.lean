/- SplitLines: the program. -/
import Derived.Test.YtdknojpkkbdkiaaLinesS
import Derived.Test.YtdknojpkkbdkiaaSplit2
set_option linter.unusedVariables false
namespace Go.Proofs.Ytdknojpkkbdkiaa
open Go.ChangeShapes Go.WideShapes Go.ChangeAt Go.RowKit

set_option maxHeartbeats 1000000 in
theorem implLines_any (s : ByteArray) (w : World) (hs : s.size ≤ 1048576) :
    Calls Try.prog 19 #[.string s] w fun e w' => ∃ v, e = .returned v ∧ w'.ownsRow w.heap.size 9 1 v (lines s).length (strsOf (lines s)) ∧ Below w.heap.size w w' := by
  have hb : nl.size ≤ 1048576 := by decide
  have hL := sp_len s nl s.size
  have HP := Lib.hid (show pieces s nl = (sp s nl s.size).1 ++ [s.extract (sp s nl s.size).2 s.size] from rfl)
  have HQ := Lib.hid (show lines s = if (s.extract (sp s nl s.size).2 s.size).size = 0 then (sp s nl s.size).1 else pieces s nl from rfl)
  obtain ⟨L, F, hLF⟩ : ∃ L F, sp s nl s.size = (L, F) := ⟨_, _, rfl⟩
  rw [hLF] at hL HP HQ
  simp only at hL HP HQ
  clear hLF
  obtain ⟨y, hy⟩ : ∃ y, y = s.extract F s.size := ⟨_, rfl⟩
  rw [← hy] at HP HQ
  clear hy
  go_enter Try.func19, Try.ntmps19
  go_wp2_with (go_at_call 14; refine (implSplitAny_any s nl _ hs hb).mono ?_)
  rintro e w1 ⟨v0, rfl, o0, b1⟩
  rw [HP.out] at o0
  simp only [List.length_append, List.length_cons, List.length_nil, Nat.zero_add] at o0
  obtain ⟨g, cap, rfl, hc1, hc2⟩ := owns_shape o0
  unfold maxLen at hc2
  have hc : w1.cell? ⟨g, L.length, none⟩ = some (.string y) := by
    rw [o0.cellAt L.length (by omega), List.getElem?_eq_getElem (by simp [strsOf])]
    simp [strsOf]
  by_cases h0 : y.size = 0
  · have he : y.toList.isEmpty = true := by rw [toList_isEmpty]; simpa using h0
    have HL := Lib.hid (show lines s = L by rw [HQ.out, if_pos h0])
    have HO := Lib.hid o0; clear o0 h0
    go_wp2
    go_ret
    refine ⟨_, rfl, ?_, b1⟩
    rw [HL.out]
    have o := HO.out
    rw [strsOf, List.map_append] at o
    exact owns_cut o
  · have he : y.toList.isEmpty = false := by rw [toList_isEmpty]; simpa using h0
    have HL := Lib.hid (show lines s = L ++ [y] by rw [HQ.out, if_neg h0, HP.out])
    have HO := Lib.hid o0; clear o0 h0
    go_wp2
    go_ret
    refine ⟨_, rfl, ?_, b1⟩
    rw [HL.out]
    simpa using HO.out

end Go.Proofs.Ytdknojpkkbdkiaa
