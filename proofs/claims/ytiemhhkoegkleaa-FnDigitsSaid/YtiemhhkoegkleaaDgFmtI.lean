/- Digits: the program's text of digits. -/
import Derived.Test.YtiemhhkoegkleaaDgCol
import Derived.Test.YtiemhhkoegkleaaDgFmt
import Derived.Test.YtiemhhkoegkleaaBldB
set_option linter.unusedVariables false
set_option linter.unusedSimpArgs false
set_option maxRecDepth 100000
namespace Go.Proofs.Ytiemhhkoegkleaa
open Go.ChangeShapes Go.WideShapes Go.ChangeAt Go.RowKit

attribute [local go_sem] Oper.semAt_some wide_fn wide_depth

/-- the program's characters of digits -/
theorem chars_get {d : Int} (h0 : 0 ≤ d) (h1 : d ≤ 15) (hh : d.toNat < (⟨#[48, 49, 50, 51, 52, 53, 54, 55, 56, 57, 97, 98, 99, 100, 101, 102]⟩ : ByteArray).size) :
    (⟨#[48, 49, 50, 51, 52, 53, 54, 55, 56, 57, 97, 98, 99, 100, 101, 102]⟩ : ByteArray)[d.toNat] = sgc d := by
  obtain ⟨k, rfl⟩ : ∃ k : Nat, d = k := ⟨d.toNat, by omega⟩
  have : k = 0 ∨ k = 1 ∨ k = 2 ∨ k = 3 ∨ k = 4 ∨ k = 5 ∨ k = 6 ∨ k = 7 ∨ k = 8 ∨ k = 9 ∨ k = 10 ∨ k = 11 ∨ k = 12 ∨ k = 13 ∨ k = 14 ∨ k = 15 := by omega
  rcases this with rfl | rfl | rfl | rfl | rfl | rfl | rfl | rfl | rfl | rfl | rfl | rfl | rfl | rfl | rfl | rfl <;> rfl
/-- the characters of digits, the greatest place first -/
def chs (pre : List Dig) : List UInt8 := pre.map fun x => sgc x.1
theorem chs_snoc (pre : List Dig) (x : Dig) : chs (pre ++ [x]) = chs pre ++ [sgc x.1] := by
  simp only [chs, List.map_append, List.map_cons, List.map_nil]
theorem chs_txt {ys : List Dig} {l : List Int} (h : ys.map Subtype.val = l.reverse) : chs ys = txt l := by
  rw [txt, ← List.map_reverse, ← h, List.map_map]; rfl

set_option maxRecDepth 100000 in
set_option maxHeartbeats 4000000 in
theorem implFormatDigits_any (v : Value) (l : List Int) (b : Int) (w : World) (hr : RowAt w v (intsOf l)) (hl : l.length ≤ 1048576) (hi : ∀ n ∈ l, in64 n) (hb : in64 b) :
    Calls Try.prog 18 #[v, .int .i64 b] w fun e w' => e = .returned (.string (rFormatDigits0 l b)) ∧ Below w.heap.size w w' := by
  have HC := Lib.hid (implDigitsOk_any v l b w hr hl hi hb)
  have HR := Lib.hid hr
  obtain ⟨a, cap, rfl, h1, h2, h3⟩ := hr.ints
  clear h3 hr hi hb
  cases h : okD l b
  · rw [h] at HC
    rw [show rFormatDigits0 l b = bs [] by simp [rFormatDigits0, h]]
    clear h
    go_enter Try.func18, Try.ntmps18
    go_wp2_with (go_at_call 13; refine HC.out.mono ?_; rintro e w1 ⟨rfl, rfl⟩)
    go_ret
    exact ⟨rfl, Below.refl _ _⟩
  · rw [h] at HC
    obtain ⟨⟨hb2, hb16⟩, hl60, hd, _⟩ := okD_yes h
    have HF := Lib.hid (show rFormatDigits0 l b = if l = [] then bs [48] else bs (txt l) by rw [rFormatDigits0, if_pos h])
    have HD := Lib.hid (show ∀ d ∈ l, 0 ≤ d ∧ d ≤ 15 from fun d hh => by have := hd d hh; omega)
    clear h hd
    by_cases h0 : l.length = 0
    · have hz : ((l.length : Int) == 0) = true := by simpa using h0
      have HX := Lib.hid (show rFormatDigits0 l b = bs [48] by rw [HF.out, if_pos (List.eq_nil_of_length_eq_zero h0)])
      clear h0
      go_enter Try.func18, Try.ntmps18
      go_wp2_with (go_at_call 13; refine HC.out.mono ?_; rintro e w1 ⟨rfl, rfl⟩)
      go_ret
      exact ⟨by rw [HX.out]; rfl, Below.refl _ _⟩
    · have hz : ((l.length : Int) == 0) = false := by simpa using h0
      have HX := Lib.hid (show rFormatDigits0 l b = bs (txt l) by rw [HF.out, if_neg (fun e => h0 (by rw [e]; rfl))])
      have HNE := Lib.hid (show l ≠ [] from fun e => h0 (by rw [e]; rfl))
      clear h0
      refine (callsIn_wide (n := 0)).1 ?_
      refine callsIn_of_wp_marks Try.func18 rfl trivial ?_ rfl
      simp only [Try.ntmps18, List.size_toArray, List.length_cons, List.length_nil, Nat.reduceAdd, Nat.reduceSub, Array.replicate_succ, Array.replicate_zero, List.push_toArray, List.append_toArray, List.nil_append, List.cons_append]
      gi_wp2_with (first | (gi_at_call 13; refine (callsIn_wide.2 HC.out).mono ?_; rintro e w1 ⟨rfl, rfl⟩) | (gi_at_call 52; refine (callsIn_wide.2 (last_any _ l _ w (by omega) HD.out HR.out ((Below.refl _ _).alloc (Nat.le_refl _) _))).mono ?_; rintro e w1 ⟨rfl, hB1, hs1, hseq⟩; have HS1 := Lib.hid hs1; have HQ := Lib.hid hseq; clear hs1 hseq))
      have hs1 := HS1.out
      rw [World.size_alloc] at hs1
      have hw1 : w.heap.size + 2 = w1.heap.size := by omega
      have HW1 := Lib.hid hw1
      have hB0 : Below w.heap.size w w1 := ((Below.refl _ _).alloc (Nat.le_refl _) (.cells #[.pointer none, .slice none 0 0] 68)).trans (hB1.mono (by simp))
      have hI0 : BldR (w1.heap.size + 6) w.heap.size [] w1 := ⟨by omega, _, _, .inl rfl, (hB1.block _ (by simp)).trans (World.alloc_heap_new w _), World.ownsRow_nil _ _ _ _⟩
      have hq := HQ.out
      rw [World.size_alloc] at hq
      clear hs1 hB1
      refine rangeW (gf := 82) (lb := #[.pointer (some ⟨w.heap.size + 1, 0, none⟩)]) rfl last_enters hq Below.trans (below_kb (by omega)) (Below.refl _ _) (fun _ => rfl)
        (fun pre W => BldR (w1.heap.size + 6) w.heap.size (chs pre) W ∧ Below w.heap.size w W) (fun _ _ _ => False)
        (OwnFrom.and (Own.from (fun s A C row hs hg hr => hs.kept hg hr) _) (ownFrom_below (Nat.le_refl _) (by omega))) (fun _ _ _ _ _ hs _ _ => hs) ⟨hI0, hB0⟩
        (fun x => { tmps := #[.slice a l.length cap, .int .i64 b, undef, undef, .string ⟨#[]⟩, .pointer (some ⟨w.heap.size, 0, none⟩), .int .i64 x.1, .slice a l.length cap, .int .i64 b, .bool true, .bool false, .slice a l.length cap, .int .i64 l.length, .bool false, .slice a l.length cap, .func (.func 82) #[] #[.pointer (some ⟨w.heap.size + 1, 0, none⟩)], .int .i64 x.1, undef, undef, undef, undef], defers := [] }) ?assign ?body ?done ?stop
      case assign =>
        intro q x W K hK
        gi_wp2
        exact hK
      case body =>
        rintro q pre x W ⟨hI, hB⟩ hlen hsz hbk
        have hx := x.2
        have HS := Lib.hid (chs_snoc pre x)
        have hpl : (chs pre).length ≤ 1000000 := by simp only [chs, List.length_map]; omega
        have HI := Lib.hid hI
        have HSZ := Lib.hid hsz
        clear hI
        gi_wp2_with fail
        rw [chars_get hx.1 hx.2]
        refine (CallsIn.inRound q (callsIn_wide.2 (writeByte_any _ _ _ (sgc x.1) W HI.out hpl (by omega)))).mono ?_
        rintro e W1 ⟨rfl, hI1, hB1, hA1⟩
        have hI2 := Lib.hid hI1; have hB2 := Lib.hid hB1; have hA2 := Lib.hid hA1
        clear hI1 hB1 hA1
        gi_wp2_with fail
        exact ⟨hA2.out _ _ (by omega) (by omega), hB2.out, by rw [HS.out]; exact hI2.out, hB.trans hB2.out⟩
      case done =>
        rintro D ys W hD hys ⟨hI, hB⟩ hK
        have HT := Lib.hid (chs_txt hys)
        have HI := Lib.hid hI
        have hsz := hB.size
        have hne : chs ys ≠ [] := fun e => HNE.out (List.eq_nil_of_length_eq_zero (by
          rw [← List.length_reverse, ← hys, List.length_map, ← (show (chs ys).length = ys.length by simp only [chs, List.length_map]), e]; rfl))
        have hcl : (chs ys).length ≤ 1000000 := by
          rw [chs_txt hys, txt_length]; omega
        clear hI
        gi_wp2_with fail
        refine (callsIn_wide.2 (string_any _ w.heap.size w.heap.size _ W HI.out hne (Nat.le_refl _) hcl)).mono ?_
        rintro e W1 ⟨rfl, hB1, hk1⟩
        have hK1 := hk1 D _ hK rfl
        gi_wp2_with fail
        refine ⟨by simp, .inl ⟨_, _, rfl, run_takeDeferred hK1, ?_⟩⟩
        refine ⟨_, results_tmp rfl _ _ _, ?_, (hB.trans hB1).trans (below_putObj _ (by omega) (by have := heap_lt_of_some hK1; omega))⟩
        rw [HX.out, ← HT.out]; rfl
      case stop =>
        rintro D c pre W _ _ h _
        exact h.elim

end Go.Proofs.Ytiemhhkoegkleaa
