/- Digits: the program's functions that range over the digits of a number. -/
import Derived.Test.YtcjdimeofcckeaaDgLeaf
import Derived.Test.YtcjdimeofcckeaaDgImp
set_option linter.unusedVariables false
set_option linter.unusedSimpArgs false
namespace Go.Proofs.Ytcjdimeofcckeaa
open Go.ChangeShapes Go.WideShapes Go.ChangeAt Go.RowKit

attribute [local go_sem] Oper.semAt_some wide_fn wide_depth

theorem each_enters : ∀ args w, (callFunc 68 args).run Try.prog w = .ok (.enter 68 args) w :=
  enters_of Try.func68 (by kernel_rfl) rfl

theorem dsum_bound : ∀ pre : List Dig, 0 ≤ (pre.map Subtype.val).sum ∧ (pre.map Subtype.val).sum ≤ 15 * pre.length
  | [] => by simp
  | x :: pre => by
    have := dsum_bound pre
    have := x.2
    simp only [List.map_cons, List.sum_cons, List.length_cons]; omega

set_option maxRecDepth 100000 in
set_option maxHeartbeats 4000000 in
theorem implDigitSum_any (n b : Int) (w : World) (hn : in64 n) (hb : in64 b) :
    Calls Try.prog 25 #[.int .i64 n, .int .i64 b] w fun e w' => e = .returned (.int .i64 (rDigitSum0 n b)) ∧ Below w.heap.size w w' := by
  cases h : okN n b
  · have HC := Lib.hid (each_no n b w hn hb h)
    rw [show rDigitSum0 n b = -1 by simp [rDigitSum0, h]]
    clear h hn hb
    go_enter Try.func25, Try.ntmps25
    go_wp2_with (go_at_call 55; refine HC.out.mono ?_; rintro e w1 ⟨rfl, hB⟩)
    go_ret
    exact ⟨rfl, hB⟩
  · obtain ⟨n, b, rfl, rfl, hb2, hb16, hn12⟩ := okN_nats h
    have HE := Lib.hid (show rDigitSum0 n b = (dg b n).sum by rw [rDigitSum0, if_pos h]; rfl)
    clear h hn hb
    refine (callsIn_wide (n := 0)).1 ?_
    refine callsIn_of_wp_marks Try.func25 rfl trivial ?_ rfl
    simp only [Try.ntmps25, List.size_toArray, List.length_cons, List.length_nil, Nat.reduceAdd, Nat.reduceSub, Array.replicate_succ, Array.replicate_zero, List.push_toArray, List.append_toArray, List.nil_append, List.cons_append]
    gi_wp2_with (gi_at_call 55; refine (callsIn_wide.2 (each_yes n b _ hb2 hb16 hn12)).mono ?_; rintro e w1 ⟨rfl, hB1, hs1, hseq⟩; have HS1 := Lib.hid hs1; have hle1 := Nat.le_of_eq hs1.symm; clear hs1)
    have h40 := dg_len40 hb2 hn12
    have b0 := Boxed.new w1 3 (.int .i64 0)
    have hB0 : Below w.heap.size w (w1.alloc (.cells #[.int .i64 0] 3)) := hB1.alloc hB1.size _
    refine rangeW (gf := 68) (lb := #[.pointer (some ⟨w.heap.size, 0, none⟩), .pointer (some ⟨w.heap.size + 1, 0, none⟩)]) rfl each_enters hseq Below.trans (below_kb (by simp; omega)) ((Below.refl _ _).alloc (Nat.le_refl _) _) (fun _ => rfl)
      (fun pre W => (Boxed W w1.heap.size 3 (.int .i64 (pre.map Subtype.val).sum)) ∧ Below w.heap.size w W) (fun _ _ _ => False)
      (OwnFrom.and (Own.from (boxed_own _ _ (fun s : List Dig => _)) _) (ownFrom_below (Nat.le_refl _) (by simp; omega))) (fun _ _ _ _ _ hs _ _ => hs) ⟨b0, hB0⟩
      (fun x => { tmps := #[.int .i64 n, .int .i64 b, undef, undef, .int .i64 0, eachFn w.heap.size, .bool true, .pointer (some ⟨w1.heap.size, 0, none⟩), .int .i64 x.1, .tuple #[eachFn w.heap.size, .bool true], .int .i64 n, .int .i64 b, .tuple #[eachFn w.heap.size, .bool true], eachFn w.heap.size, .bool true, .bool true, .bool false, eachFn w.heap.size, .int .i64 x.1, undef, undef, undef, undef], defers := [] }) ?assign ?body ?done ?stop
    case assign =>
      intro l x W K hK
      gi_wp2
      exact hK
    case body =>
      rintro l pre x W ⟨bx, hB⟩ hlen hsz _
      simp only [World.size_alloc] at hsz ⊢
      have hx := x.2
      obtain ⟨s0, s1⟩ := dsum_bound pre
      have HS := Lib.hid (show (pre.map Subtype.val).sum + x.1 = ((pre ++ [x]).map Subtype.val).sum by rw [List.map_append, List.sum_append]; simp only [List.map_cons, List.map_nil, List.sum_cons, List.sum_nil]; omega)
      obtain ⟨s, hs⟩ : ∃ s, s = (pre.map Subtype.val).sum := ⟨_, rfl⟩
      rw [← hs] at bx s0 s1 HS
      clear hs
      have cx := bx.cell; have fx := bx.frozen
      have BX := Lib.hid bx
      clear bx
      gi_wp2
      exact ⟨Area.setCell _ _ (.inl (by simp)), (Below.refl _ _).setCell (p := ⟨w1.heap.size, 0, none⟩) (by simp; omega) _, by rw [← HS.out]; exact BX.out.set _, hB.setCell (p := ⟨w1.heap.size, 0, none⟩) (by simp; omega) _⟩
    case done =>
      rintro D ys W hD hys ⟨bx, hB⟩ hK
      have hD' : w1.heap.size + 1 ≤ D := by simpa using hD
      have cx := bx.cell
      gi_wp2
      refine ⟨by simp, .inl ⟨_, _, rfl, run_takeDeferred hK, ?_⟩⟩
      refine ⟨_, results_tmp rfl _ _ _, ?_, hB.trans (below_putObj _ (by omega) (by have := heap_lt_of_some hK; omega))⟩
      rw [HE.out, ← hys]; rfl
    case stop =>
      rintro D c pre W _ _ h _
      exact h.elim

end Go.Proofs.Ytcjdimeofcckeaa
