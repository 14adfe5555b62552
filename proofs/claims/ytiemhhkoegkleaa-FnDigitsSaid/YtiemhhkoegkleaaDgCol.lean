/- Digits: the program's functions that collect the digits of a number, or make a number of digits. -/
import Derived.Test.YtiemhhkoegkleaaDgCnt
import Derived.Test.YtiemhhkoegkleaaDgBack
set_option linter.unusedVariables false
set_option linter.unusedSimpArgs false
set_option maxRecDepth 100000
namespace Go.Proofs.Ytiemhhkoegkleaa
open Go.ChangeShapes Go.WideShapes Go.ChangeAt Go.RowKit

attribute [local go_sem] Oper.semAt_some wide_fn wide_depth

/-- the cells of digits -/
def cellsD (pre : List Dig) : List Value := intsOf (pre.map Subtype.val)
theorem cellsD_snoc (pre : List Dig) (x : Dig) : cellsD (pre ++ [x]) = cellsD pre ++ [Value.int .i64 x.1] := by
  simp only [cellsD, intsOf, List.map_append, List.map_cons, List.map_nil]

set_option maxRecDepth 100000 in
set_option maxHeartbeats 4000000 in
theorem appendSeq_any (gf n₀ N : Nat) (lb : Array Value) (X : List Int) (w : World) (hN : N ≤ 1000000) (hn₀ : n₀ ≤ w.heap.size)
    (eg : ∀ args w, (callFunc gf args).run Try.prog w = .ok (.enter gf args) w)
    (hseq : SeqW Try.prog gf lb (fun x : Dig => #[Value.int .i64 x.1]) (Below n₀) 0 (fun ys => ys.map Subtype.val = X) (fun pre => pre.map Subtype.val <+: X) N w) :
    Calls Try.prog 81 #[.slice none 0 0, .func (.func gf) #[] lb] w fun e w' =>
      ∃ v, e = .returned v ∧ w'.ownsRow w.heap.size 3 1 v X.length (intsOf X) ∧ Below w.heap.size w w' := by
  obtain ⟨i0, hi, hz0, hz1, hz2⟩ := info_parts infoInt
  refine (callsIn_wide (n := 0)).1 ?_
  refine callsIn_of_wp_marks Try.func81 rfl trivial ?_ rfl
  simp only [Try.ntmps81, List.size_toArray, List.length_cons, List.length_nil, Nat.reduceAdd, Nat.reduceSub, Array.replicate_succ, Array.replicate_zero, List.push_toArray, List.append_toArray, List.nil_append, List.cons_append]
  gi_wp2
  have bO := Boxed.new w 24 (.slice none 0 0)
  have hB0 : Below w.heap.size w (w.alloc (.cells #[.slice none 0 0] 24)) := (Below.refl _ w).alloc (Nat.le_refl _) _
  refine rangeW (gf := gf) (lb := lb) rfl eg hseq Below.trans (below_kb (by simp; omega)) hB0 (fun _ => rfl)
    (fun pre W => (∃ v, Boxed W w.heap.size 24 v ∧ W.ownsRow w.heap.size 3 1 v pre.length (cellsD pre) ∧ True) ∧ Below w.heap.size w W)
    (fun _ _ _ => False)
    (OwnFrom.and (Own.from (holdsRow_own w.heap.size w.heap.size 24 3 1 (fun pre : List Dig => pre.length) cellsD (fun _ _ => True)) _) (ownFrom_below (Nat.le_refl _) (by simp)))
    (fun _ _ _ _ _ hs _ _ => hs)
    ⟨⟨_, bO, World.ownsRow_nil _ _ _ _, trivial⟩, hB0⟩
    (fun x => { tmps := #[.slice none 0 0, .func (.func gf) #[] lb, .pointer (some ⟨w.heap.size, 0, none⟩), undef, .slice none 0 0, .int .i64 x.1, .func (.func gf) #[] lb, .int .i64 x.1, undef, undef, undef, undef, undef], defers := [] }) ?assign ?body ?done ?stop
  case assign =>
    intro l x W K hK
    gi_wp2
    exact hK
  case body =>
    rintro l pre x W ⟨⟨v, hv, hrow, _⟩, hB⟩ hlt hsz hbk
    have hc := hv.cell
    have HS := Lib.hid (cellsD_snoc pre x)
    have HBK := Lib.hid hbk
    clear hbk
    gi_wp2_with (gi_at_builtin; refine wpListIn_append_own _ rfl _ _ 24 rfl w.heap.size 3 i0 (.int .i64 0) 1 8 Try.underlying24 hi hz0 hz1 hz2 rfl (by decide) _ _ _ rfl (hrow.alloc _) ⟨W.heap.size, 0, none⟩ 1 1 [.int .i64 x.1] rfl rfl (one_cell _ _ _) (by simp [Value.oneCell']) (by unfold maxLen; omega) (by omega) (by have := hB.size; simp; omega) ?_; intro v' w1 hown' hgrow _; obtain ⟨g', cap', rfl⟩ := ownsRow_succ hown'; obtain ⟨hv1, hv2, hr2, hk2, hb2⟩ := hv.appended (by decide) hrow hB.size (Nat.le_refl _) hown' hgrow; have hc1 := hv1.cell; have hf1 := hv1.frozen)
    refine ⟨?_, hb2.mono hn₀, ⟨_, hv2, by rw [HS.out]; simpa using hr2, trivial⟩, hB.trans hb2⟩
    exact HBK.out.area hk2
  case done =>
    rintro D ys W hD hys ⟨⟨v, hv, hrow, _⟩, hB⟩ hK
    have hc := hv.cell
    gi_wp2
    refine ⟨by simp, .inl ⟨_, _, rfl, run_takeDeferred hK, ?_⟩⟩
    refine ⟨_, results_tmp rfl _ _ _, v, rfl, ?_, hB.trans (below_putObj _ (by simp at hD; omega) (by have := heap_lt_of_some hK; simp at hD; omega))⟩
    have := ownsRow_putObj hrow (.deferred none) hK rfl
    rw [cellsD, hys] at this
    rw [← hys, List.length_map, hys]; exact this
  case stop =>
    rintro D c pre W _ _ h _
    exact h.elim

theorem collect_any (gf n₀ N : Nat) (lb : Array Value) (X : List Int) (w : World) (hN : N ≤ 1000000) (hn₀ : n₀ ≤ w.heap.size)
    (eg : ∀ args w, (callFunc gf args).run Try.prog w = .ok (.enter gf args) w)
    (hseq : SeqW Try.prog gf lb (fun x : Dig => #[Value.int .i64 x.1]) (Below n₀) 0 (fun ys => ys.map Subtype.val = X) (fun pre => pre.map Subtype.val <+: X) N w) :
    Calls Try.prog 50 #[.func (.func gf) #[] lb] w fun e w' =>
      ∃ v, e = .returned v ∧ w'.ownsRow w.heap.size 3 1 v X.length (intsOf X) ∧ Below w.heap.size w w' := by
  have HC := Lib.hid (appendSeq_any gf n₀ N lb X w hN hn₀ eg hseq)
  clear hseq eg
  go_enter Try.func50, Try.ntmps50
  go_wp2_with (go_at_call 81; refine HC.out.mono ?_; rintro e w1 ⟨v, rfl, hown, hB⟩)
  go_ret
  exact ⟨_, rfl, hown, hB⟩

set_option maxHeartbeats 2000000 in
theorem implDigitsOf_any (n b : Int) (w : World) (hn : in64 n) (hb : in64 b) :
    Calls Try.prog 10 #[.int .i64 n, .int .i64 b] w fun e w' => ∃ v, e = .returned v ∧ w'.ownsRow w.heap.size 3 1 v (rDigitsOf0 n b).length (intsOf (rDigitsOf0 n b)) ∧ Below w.heap.size w w' := by
  cases h : okN n b
  · have HC := Lib.hid (each_no n b w hn hb h)
    rw [show rDigitsOf0 n b = [] by simp [rDigitsOf0, h]]
    clear h hn hb
    go_enter Try.func10, Try.ntmps10
    go_wp2_with (go_at_call 49; refine HC.out.mono ?_; rintro e w1 ⟨rfl, hB⟩)
    go_ret
    exact ⟨_, rfl, World.ownsRow_nil _ _ _ _, hB⟩
  · obtain ⟨n, b, rfl, rfl, hb2, hb16, hn12⟩ := okN_nats h
    have HE := Lib.hid (show rDigitsOf0 n b = dg b n by rw [rDigitsOf0, if_pos h]; rfl)
    have h40 := dg_len40 hb2 hn12
    clear h hn hb
    go_enter Try.func10, Try.ntmps10
    go_wp2_with fail
    refine (each_yes n b _ hb2 hb16 hn12).mono ?_
    rintro e w1 ⟨rfl, hB, hs1, hseq⟩
    have HQ := Lib.hid hseq
    have HS1 := Lib.hid hs1
    clear hseq hs1
    go_wp2_with fail
    refine (collect_any _ _ _ _ _ _ (by omega) (Nat.le_of_eq HS1.out.symm) each_enters HQ.out).mono ?_
    rintro e w2 ⟨v, rfl, hown, hB2⟩
    go_wp2
    go_ret
    refine ⟨_, rfl, ?_, hB.trans (hB2.mono hB.size)⟩
    rw [HE.out]; exact owns_mono hown hB.size

set_option maxHeartbeats 2000000 in
theorem implReverseNumber_any (n b : Int) (w : World) (hn : in64 n) (hb : in64 b) :
    Calls Try.prog 16 #[.int .i64 n, .int .i64 b] w fun e w' => e = .returned (.tuple #[.int .i64 (rReverseNumber0 n b), .bool (rReverseNumber1 n b)]) ∧ Below w.heap.size w w' := by
  cases h : okN n b
  · have HC := Lib.hid (each_no n b w hn hb h)
    rw [show rReverseNumber0 n b = 0 by simp [rReverseNumber0, h], show rReverseNumber1 n b = false by simp [rReverseNumber1, h]]
    clear h hn hb
    go_enter Try.func16, Try.ntmps16
    go_wp2_with (go_at_call 49; refine HC.out.mono ?_; rintro e w1 ⟨rfl, hB⟩)
    go_ret2
    exact ⟨rfl, hB⟩
  · obtain ⟨n, b, rfl, rfl, hb2, hb16, hn12⟩ := okN_nats h
    have H0 := Lib.hid (show rReverseNumber0 n b = numV b (dg b n) by rw [rReverseNumber0, if_pos h]; rfl)
    have H1 := Lib.hid (show rReverseNumber1 n b = numOk b (dg b n) by rw [rReverseNumber1, h, Bool.true_and]; rfl)
    have HX := Lib.hid (fun d hd => (dg_15 (n := n) hb2 hb16 d hd).1)
    clear h hn hb
    go_enter Try.func16, Try.ntmps16
    go_wp2_with fail
    refine (each_yes n b _ hb2 hb16 hn12).mono ?_
    rintro e w1 ⟨rfl, hB, hs1, hseq⟩
    have HQ := Lib.hid hseq
    have HS1 := Lib.hid hs1
    clear hseq hs1
    go_wp2_with fail
    refine (number_any _ _ _ _ _ _ _ _ (by omega) (by omega) HX.out (Nat.le_of_eq HS1.out.symm) each_enters HQ.out).mono ?_
    rintro e w2 ⟨rfl, hB2⟩
    go_wp2
    go_ret2
    exact ⟨by rw [H0.out, H1.out]; rfl, hB.trans (hB2.mono hB.size)⟩

theorem last_enters : ∀ args w, (callFunc 82 args).run Try.prog w = .ok (.enter 82 args) w :=
  enters_of Try.func82 (by kernel_rfl) rfl

set_option maxHeartbeats 2000000 in
theorem implValueOf_any (v : Value) (l : List Int) (b : Int) (w : World) (hr : RowAt w v (intsOf l)) (hl : l.length ≤ 1048576) (hi : ∀ n ∈ l, in64 n) (hb : in64 b) :
    Calls Try.prog 11 #[v, .int .i64 b] w fun e w' => e = .returned (.tuple #[.int .i64 (rValueOf0 l b), .bool (rValueOf1 l b)]) ∧ Below w.heap.size w w' := by
  have HC := Lib.hid (implDigitsOk_any v l b w hr hl hi hb)
  have HR := Lib.hid hr
  obtain ⟨a, cap, rfl, h1, h2, h3⟩ := hr.ints
  clear h3 hr hi hb
  cases h : okD l b
  · rw [h] at HC
    rw [show rValueOf0 l b = 0 by simp [rValueOf0, h], show rValueOf1 l b = false by simp [rValueOf1, h]]
    clear h
    go_enter Try.func11, Try.ntmps11
    go_wp2_with (go_at_call 13; refine HC.out.mono ?_; rintro e w1 ⟨rfl, rfl⟩)
    go_ret2
    exact ⟨rfl, Below.refl _ _⟩
  · rw [h] at HC
    obtain ⟨⟨hb2, hb16⟩, hl60, hd, _⟩ := okD_yes h
    have H0 := Lib.hid (show rValueOf0 l b = numV b l.reverse by rw [rValueOf0, if_pos h, numV, List.reverse_reverse])
    have H1 := Lib.hid (show rValueOf1 l b = numOk b l.reverse by rw [rValueOf1, h, Bool.true_and, numOk, List.reverse_reverse])
    have HD := Lib.hid (show ∀ d ∈ l, 0 ≤ d ∧ d ≤ 15 from fun d hh => by have := hd d hh; omega)
    have HX := Lib.hid (show ∀ d ∈ l.reverse, 0 ≤ d from fun d hh => (hd d (List.mem_reverse.1 hh)).1)
    clear h hd
    go_enter Try.func11, Try.ntmps11
    go_wp2_with fail
    refine HC.out.mono ?_
    rintro e w1 ⟨rfl, rfl⟩
    go_wp2_with fail
    refine (last_any _ l _ _ (by omega) HD.out HR.out (Below.refl _ _)).mono ?_
    rintro e w1 ⟨rfl, hB, hs1, hseq⟩
    have HQ := Lib.hid hseq
    have HS1 := Lib.hid hs1
    clear hseq hs1
    go_wp2_with fail
    refine (number_any _ _ _ _ _ _ _ _ (by omega) (by omega) HX.out hB.size last_enters HQ.out).mono ?_
    rintro e w2 ⟨rfl, hB2⟩
    go_wp2
    go_ret2
    exact ⟨by rw [H0.out, H1.out]; rfl, hB.trans (hB2.mono hB.size)⟩

end Go.Proofs.Ytiemhhkoegkleaa
