/- Balanced digits: the program's text of digits. -/
import Derived.Test.YtdflpocnfodbhacBaFmt
import Derived.Test.YtdflpocnfodbhacBaI1b
import Derived.Test.YtdflpocnfodbhacBaBack
import Derived.Test.YtdflpocnfodbhacBldB
set_option linter.unusedVariables false
set_option linter.unusedSimpArgs false
set_option maxRecDepth 100000
namespace Go.Proofs.Ytdflpocnfodbhac
open Go.ChangeShapes Go.WideShapes Go.ChangeAt Go.RowKit

attribute [local go_sem] Oper.semAt_some wide_fn wide_depth

/-- the program's characters of digits -/
theorem charsB_get {d : Int} (h0 : -1 ≤ d) (h1 : d ≤ 1) (hh : (d + 1).toNat < (⟨#[45, 48, 43]⟩ : ByteArray).size) :
    (⟨#[45, 48, 43]⟩ : ByteArray)[(d + 1).toNat] = sgB d := by
  have : d = -1 ∨ d = 0 ∨ d = 1 := by omega
  rcases this with rfl | rfl | rfl <;> rfl
/-- the characters of digits, the greatest place first -/
def chB (pre : List (Sig 1)) : List UInt8 := pre.map fun x => sgB x.1
theorem chB_snoc (pre : List (Sig 1)) (x : Sig 1) : chB (pre ++ [x]) = chB pre ++ [sgB x.1] := by
  simp only [chB, List.map_append, List.map_cons, List.map_nil]
theorem chB_txt {ys : List (Sig 1)} {l : List Int} (h : ys.map Subtype.val = l.reverse) : chB ys = txtB l := by
  rw [txtB, ← List.map_reverse, ← h, List.map_map]; rfl

set_option maxRecDepth 100000 in
set_option maxHeartbeats 4000000 in
theorem implFormatBalanced_any (v : Value) (l : List Int) (w : World) (hr : RowAt w v (intsOf l)) (hl : l.length ≤ 1048576) (hi : ∀ n ∈ l, in64 n) :
    Calls Try.prog 26 #[v] w fun e w' => e = .returned (.string (rFormatBalanced0 l)) ∧ Below w.heap.size w w' := by
  have HC := Lib.hid (implBal_eq v l 3 w hr hl hi (by unfold in64; omega))
  have HR := Lib.hid hr
  obtain ⟨a, cap, rfl, h1, h2, h3⟩ := hr.ints
  clear h3 hr hi
  cases h : okW l 3
  · rw [h] at HC
    rw [show rFormatBalanced0 l = bs [] by simp [rFormatBalanced0, h]]
    clear h
    go_enter Try.func26, Try.ntmps26
    go_wp2_with (go_at_call 46; refine HC.out.mono ?_; rintro e w1 ⟨rfl, rfl⟩)
    go_ret
    exact ⟨rfl, Below.refl _ _⟩
  · rw [h] at HC
    obtain ⟨g, hbe, hg1, hg7, hN, hl60⟩ := okW_yes h
    obtain rfl : g = 1 := by omega
    have HF := Lib.hid (show rFormatBalanced0 l = if l = [] then bs [48] else bs (txtB l) by rw [rFormatBalanced0, if_pos h])
    have HD := Lib.hid (show ∀ d ∈ l, -((1 : Nat) : Int) ≤ d ∧ d ≤ ((1 : Nat) : Int) from fun d hh => hN.1 d hh)
    clear h hN hbe
    by_cases h0 : l.length = 0
    · have hz : ((l.length : Int) == 0) = true := by simpa using h0
      have HX := Lib.hid (show rFormatBalanced0 l = bs [48] by rw [HF.out, if_pos (List.eq_nil_of_length_eq_zero h0)])
      clear h0
      go_enter Try.func26, Try.ntmps26
      go_wp2_with (go_at_call 46; refine HC.out.mono ?_; rintro e w1 ⟨rfl, rfl⟩)
      go_ret
      exact ⟨by rw [HX.out]; rfl, Below.refl _ _⟩
    · have hz : ((l.length : Int) == 0) = false := by simpa using h0
      have HX := Lib.hid (show rFormatBalanced0 l = bs (txtB l) by rw [HF.out, if_neg (fun e => h0 (by rw [e]; rfl))])
      have HNE := Lib.hid (show l ≠ [] from fun e => h0 (by rw [e]; rfl))
      clear h0
      refine (callsIn_wide (n := 0)).1 ?_
      refine callsIn_of_wp_marks Try.func26 rfl trivial ?_ rfl
      simp only [Try.ntmps26, List.size_toArray, List.length_cons, List.length_nil, Nat.reduceAdd, Nat.reduceSub, Array.replicate_succ, Array.replicate_zero, List.push_toArray, List.append_toArray, List.nil_append, List.cons_append]
      gi_wp2_with (first | (gi_at_call 46; refine (callsIn_wide.2 HC.out).mono ?_; rintro e w1 ⟨rfl, rfl⟩) | (gi_at_call 53; refine (callsIn_wide.2 (lastB_any 1 _ l _ w (by omega) HD.out HR.out ((Below.refl _ _).alloc (Nat.le_refl _) _))).mono ?_; rintro e w1 ⟨rfl, hB1, hs1, hseq⟩; have HS1 := Lib.hid hs1; have HQ := Lib.hid hseq; clear hs1 hseq))
      have hs1 := HS1.out
      rw [World.size_alloc] at hs1
      have hw1 : w.heap.size + 2 = w1.heap.size := by omega
      have HW1 := Lib.hid hw1
      have hB0 : Below w.heap.size w w1 := ((Below.refl _ _).alloc (Nat.le_refl _) (.cells #[.pointer none, .slice none 0 0] 53)).trans (hB1.mono (by simp))
      have hI0 : BldR (w1.heap.size + 6) w.heap.size [] w1 := ⟨by omega, _, _, .inl rfl, (hB1.block _ (by simp)).trans (World.alloc_heap_new w _), World.ownsRow_nil _ _ _ _⟩
      have hq := HQ.out
      rw [World.size_alloc] at hq
      clear hs1 hB1
      refine rangeW (gf := 71) (lb := #[.pointer (some ⟨w.heap.size + 1, 0, none⟩)]) rfl lastB_enters hq Below.trans (below_kb (by omega)) (Below.refl _ _) (fun _ => rfl)
        (fun pre W => BldR (w1.heap.size + 6) w.heap.size (chB pre) W ∧ Below w.heap.size w W) (fun _ _ _ => False)
        (OwnFrom.and (Own.from (fun s A C row hs hg hr => hs.kept hg hr) _) (ownFrom_below (Nat.le_refl _) (by omega))) (fun _ _ _ _ _ hs _ _ => hs) ⟨hI0, hB0⟩
        (fun x => { tmps := #[.slice a l.length cap, undef, .string ⟨#[]⟩, .pointer (some ⟨w.heap.size, 0, none⟩), .int .i64 x.1, .slice a l.length cap, .bool true, .bool false, .slice a l.length cap, .int .i64 l.length, .bool false, .slice a l.length cap, .func (.func 71) #[] #[.pointer (some ⟨w.heap.size + 1, 0, none⟩)], .int .i64 x.1, undef, undef, undef, undef, undef], defers := [] }) ?assign ?body ?done ?stop
      case assign =>
        intro q x W K hK
        gi_wp2
        exact hK
      case body =>
        rintro q pre x W ⟨hI, hB⟩ hlen hsz hbk
        have hx := x.2
        have hx1 : -1 ≤ x.1 := by have := hx.1; omega
        have hx2 : x.1 ≤ 1 := by have := hx.2; omega
        have HS := Lib.hid (chB_snoc pre x)
        have hpl : (chB pre).length ≤ 1000000 := by simp only [chB, List.length_map]; omega
        have HI := Lib.hid hI
        have HSZ := Lib.hid hsz
        clear hI
        gi_wp2_with fail
        rw [charsB_get hx1 hx2]
        refine (CallsIn.inRound q (callsIn_wide.2 (writeByte_any _ _ _ (sgB x.1) W HI.out hpl (by omega)))).mono ?_
        rintro e W1 ⟨rfl, hI1, hB1, hA1⟩
        have hI2 := Lib.hid hI1; have hB2 := Lib.hid hB1; have hA2 := Lib.hid hA1
        clear hI1 hB1 hA1
        gi_wp2_with fail
        exact ⟨hA2.out _ _ (by omega) (by omega), hB2.out, by rw [HS.out]; exact hI2.out, hB.trans hB2.out⟩
      case done =>
        rintro D ys W hD hys ⟨hI, hB⟩ hK
        have HT := Lib.hid (chB_txt hys)
        have HI := Lib.hid hI
        have hsz := hB.size
        have hne : chB ys ≠ [] := fun e => HNE.out (List.eq_nil_of_length_eq_zero (by
          rw [← List.length_reverse, ← hys, List.length_map, ← (show (chB ys).length = ys.length by simp only [chB, List.length_map]), e]; rfl))
        have hcl : (chB ys).length ≤ 1000000 := by
          rw [chB_txt hys, txtB_length]; omega
        clear hI
        gi_wp2_with fail
        refine (callsIn_wide.2 (string_any _ w.heap.size w.heap.size _ W HI.out hne (Nat.le_refl _) hcl)).mono ?_
        rintro e W1 ⟨rfl, hB1, hk1⟩
        have hK1 := hk1 D _ hK rfl
        gi_wp2_with fail
        refine ⟨by simp, .inl ⟨_, _, rfl, run_takeDeferred hK1, ?_⟩⟩
        refine ⟨_, results_tmp rfl _ _ _, ?_, (hB.trans hB1).trans (below_putObj _ (by omega) (by have := heap_lt_of_some hK1; omega))⟩
        rw [HX.out, ← HT.out]; rfl
      case stop =>
        rintro D c pre W _ _ h _
        exact h.elim

end Go.Proofs.Ytdflpocnfodbhac
