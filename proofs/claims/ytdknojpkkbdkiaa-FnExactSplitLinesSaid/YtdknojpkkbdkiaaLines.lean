/- SplitLines: the model and the law. -/
import Derived.Test.YtdknojpkkbdkiaaLinesI
import Derived.Test.YtdknojpkkbdkiaaSplitLaw
set_option linter.unusedVariables false
namespace Go.Proofs.Ytdknojpkkbdkiaa
open Go.ChangeShapes Go.WideShapes Go.ChangeAt Go.RowKit

set_option maxHeartbeats 1000000 in
theorem specLines_any (s : ByteArray) (w : World) (hs : s.size ≤ 1048576) :
    Calls Try.prog 18 #[.string s] w fun e w' => ∃ v, e = .returned v ∧ w'.ownsRow w.heap.size 9 1 v (lines s).length (strsOf (lines s)) ∧ Below w.heap.size w w' := by
  have hb : nl.size ≤ 1048576 := by decide
  have hL := sp_len s nl s.size
  have HP := Lib.hid (show pieces s nl = (sp s nl s.size).1 ++ [s.extract (sp s nl s.size).2 s.size] from rfl)
  have HQ := Lib.hid (show lines s = if (s.extract (sp s nl s.size).2 s.size).size = 0 then (sp s nl s.size).1 else pieces s nl from rfl)
  obtain ⟨L, F, hLF⟩ : ∃ L F, sp s nl s.size = (L, F) := ⟨_, _, rfl⟩
  rw [hLF] at hL HP HQ
  simp only at hL HP HQ
  clear hLF
  obtain ⟨y, hy⟩ : ∃ y, y = s.extract F s.size := ⟨_, rfl⟩
  rw [← hy] at HP HQ
  clear hy
  go_enter Try.func18, Try.ntmps18
  go_wp2_with (go_at_call 13; refine (specSplitAny_any s nl _ hs hb).mono ?_)
  rintro e w1 ⟨v0, rfl, o0, b1⟩
  rw [HP.out] at o0
  simp only [List.length_append, List.length_cons, List.length_nil, Nat.zero_add] at o0
  obtain ⟨g, cap, rfl, hc1, hc2⟩ := owns_shape o0
  unfold maxLen at hc2
  have hc : w1.cell? ⟨g, L.length, none⟩ = some (.string y) := by
    rw [o0.cellAt L.length (by omega), List.getElem?_eq_getElem (by simp [strsOf])]
    simp [strsOf]
  by_cases h0 : y.size = 0
  · have he : y.toList.isEmpty = true := by rw [toList_isEmpty]; simpa using h0
    have HL := Lib.hid (show lines s = L by rw [HQ.out, if_pos h0])
    have HO := Lib.hid o0; clear o0 h0
    go_wp2
    go_ret
    refine ⟨_, rfl, ?_, b1⟩
    rw [HL.out]
    have o := HO.out
    rw [strsOf, List.map_append] at o
    exact owns_cut o
  · have he : y.toList.isEmpty = false := by rw [toList_isEmpty]; simpa using h0
    have HL := Lib.hid (show lines s = L ++ [y] by rw [HQ.out, if_neg h0, HP.out])
    have HO := Lib.hid o0; clear o0 h0
    go_wp2
    go_ret
    refine ⟨_, rfl, ?_, b1⟩
    rw [HL.out]
    simpa using HO.out

theorem lines_len (s : ByteArray) : (lines s).length ≤ s.size + 1 := by
  have := sp_len s nl s.size
  have := pieces_len s nl
  simp only [lines]; split <;> omega

set_option maxHeartbeats 2000000 in
theorem lawSplitLines (s : ByteArray) (hsm : s.size ≤ maxLen) (W : World) :
    Calls Try.prog 6 #[.string s] W fun e w' => e = .returned (.bool true) ∧ Below W.heap.size W w' := by
  unfold maxLen at hsm
  by_cases hbig : 1048576 < s.size
  · go_enter Try.func6, Try.ntmps6
    go_wp2
    go_ret
    exact ⟨rfl, Below.refl _ _⟩
  have hs : s.size ≤ 1048576 := by omega
  have hn := lines_len s
  have hn' : (lines s).length ≤ 1048577 := by omega
  clear hn
  go_enter Try.func6, Try.ntmps6
  go_wp2_with (go_at_call 18; refine (specLines_any s _ hs).mono ?_)
  rintro e w1 ⟨v0, rfl, o0, b1⟩
  go_wp2_with (go_at_call 19; refine (implLines_any s _ hs).mono ?_)
  rintro e w2 ⟨v1, rfl, o1, b2⟩
  have b12 := b1.trans (b2.mono b1.size)
  have o02 := owns_below o0 b2
  go_wp2_with (go_at_call 15; refine (eqStringS_any _ _ (lines s) (lines s) _ (RowAt.of_owns o1) (RowAt.of_owns o02)).mono ?_; rintro e w3 ⟨rfl, b3⟩)
  have b13 := b12.trans (b3.mono b12.size)
  have o13 := owns_below o1 b3
  have o03 := owns_below o02 b3
  refine (markStringS_any _ _ _ _ _ o13 hn').mono ?_
  rintro e w4 ⟨rfl, o14, g4⟩
  have o04 := owns_apart o03 o0 o13 (Nat.le_refl _) g4
  have b14 := below_marked b13 g4 o13 b13.size b1.size
  go_wp2_with (go_at_call 17; refine (heldStringS_any _ _ _ (RowAt.of_owns o14) hn').mono ?_; rintro e w5 ⟨rfl, b5⟩)
  have b15 := b14.trans (b5.mono b14.size)
  have o05 := owns_below o04 b5
  have o15 := owns_below o14 b5
  refine (implLines_any s _ hs).mono ?_
  rintro e w6 ⟨v2, rfl, o2, b6⟩
  have b16 := b15.trans (b6.mono b15.size)
  have o06 := owns_below o05 b6
  have o16 := owns_below o15 b6
  go_wp2_with (go_at_call 15; refine (eqStringS_any _ _ (lines s) (lines s) _ (RowAt.of_owns o2) (RowAt.of_owns o06)).mono ?_; rintro e w7 ⟨rfl, b7⟩)
  have b17 := b16.trans (b7.mono b16.size)
  have o17 := owns_below o16 b7
  refine (heldStringS_any _ _ _ (RowAt.of_owns o17) hn').mono ?_
  rintro e w8 ⟨rfl, b8⟩
  have b18 := b17.trans (b8.mono b17.size)
  go_wp2
  go_ret
  exact ⟨rfl, b18⟩

end Go.Proofs.Ytdknojpkkbdkiaa
