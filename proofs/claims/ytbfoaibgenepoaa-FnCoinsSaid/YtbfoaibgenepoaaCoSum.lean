/- The program's sum over an iterator of numbers up to 100000, and the library's iterator over a list from its first element on. -/
import Derived.Test.YtbfoaibgenepoaaRf
set_option linter.unusedVariables false
set_option linter.unusedSimpArgs false
set_option maxRecDepth 100000
namespace Go.Proofs.Ytbfoaibgenepoaa
open Go.ChangeShapes Go.WideShapes Go.ChangeAt Go.RowKit

abbrev DgC := { x : Int // 0 ≤ x ∧ x ≤ 100000 }

attribute [local go_sem] Oper.semAt_some wide_fn wide_depth

theorem sumD_boundC : ∀ pre : List DgC, 0 ≤ (pre.map Subtype.val).sum ∧ (pre.map Subtype.val).sum ≤ 100000 * pre.length
  | [] => by simp
  | x :: pre => by
    have := sumD_boundC pre
    have := x.2
    simp only [List.map_cons, List.sum_cons, List.length_cons]; omega

set_option maxRecDepth 100000 in
set_option maxHeartbeats 4000000 in
theorem sumOf_anyC (gf n₀ m : Nat) (lb : Array Value) (X : List Int) (w : World) (hX : X.length ≤ 1000000) (hn₀ : n₀ ≤ w.heap.size)
    (eg : ∀ args w, (callFunc gf args).run Try.prog w = .ok (.enter gf args) w)
    (hseq : SeqW Try.prog gf lb (fun x : DgC => #[Value.int .i64 x.1]) (Below n₀) m (fun ys => ys.map Subtype.val = X) (fun pre => pre.map Subtype.val <+: X) X.length w) :
    Calls Try.prog 45 #[.func (.func gf) #[] lb] w fun e w' => e = .returned (.int .i64 X.sum) ∧ Below w.heap.size w w' := by
  refine (callsIn_wide (n := 0)).1 ?_
  refine callsIn_of_wp_marks Try.func45 rfl trivial ?_ rfl
  simp only [Try.ntmps45, List.size_toArray, List.length_cons, List.length_nil, Nat.reduceAdd, Nat.reduceSub, Array.replicate_succ, Array.replicate_zero, List.push_toArray, List.append_toArray, List.nil_append, List.cons_append]
  gi_wp2
  have b0 := Boxed.new w 3 (.int .i64 0)
  have hB0 : Below w.heap.size w (w.alloc (.cells #[.int .i64 0] 3)) := (Below.refl _ w).alloc (Nat.le_refl _) _
  refine rangeW (gf := gf) (lb := lb) rfl eg hseq Below.trans (below_kb (by simp; omega)) hB0 (fun _ => rfl)
    (fun pre W => (Boxed W w.heap.size 3 (.int .i64 (pre.map Subtype.val).sum)) ∧ Below w.heap.size w W) (fun _ _ _ => False)
    (OwnFrom.and (Own.from (boxed_own _ _ (fun s : List DgC => _)) _) (ownFrom_below (Nat.le_refl _) (by simp))) (fun _ _ _ _ _ hs _ _ => hs) ⟨b0, hB0⟩
    (fun x => { tmps := #[.func (.func gf) #[] lb, undef, .int .i64 0, .pointer (some ⟨w.heap.size, 0, none⟩), .int .i64 x.1, .func (.func gf) #[] lb, .int .i64 x.1, undef, undef, undef, undef], defers := [] }) ?assign ?body ?done ?stop
  case assign =>
    intro l x W K hK
    gi_wp2
    exact hK
  case body =>
    rintro l pre x W ⟨bx, hB⟩ hlen hsz _
    simp only [World.size_alloc] at hsz ⊢
    have hx := x.2
    obtain ⟨s0, s1⟩ := sumD_boundC pre
    have HS := Lib.hid (show (pre.map Subtype.val).sum + x.1 = ((pre ++ [x]).map Subtype.val).sum by rw [List.map_append, List.sum_append]; simp only [List.map_cons, List.map_nil, List.sum_cons, List.sum_nil]; omega)
    obtain ⟨s, hs⟩ : ∃ s, s = (pre.map Subtype.val).sum := ⟨_, rfl⟩
    rw [← hs] at bx s0 s1 HS
    clear hs
    have cx := bx.cell; have fx := bx.frozen
    have BX := Lib.hid bx
    clear bx
    gi_wp2
    exact ⟨Area.setCell _ _ (.inl (by simp)), (Below.refl _ _).setCell (p := ⟨w.heap.size, 0, none⟩) (by simp; omega) _, by rw [← HS.out]; exact BX.out.set _, hB.setCell (p := ⟨w.heap.size, 0, none⟩) (by simp) _⟩
  case done =>
    rintro D ys W hD hys ⟨bx, hB⟩ hK
    have hD' : w.heap.size + 1 ≤ D := by simpa using hD
    have cx := bx.cell
    gi_wp2
    refine ⟨by simp, .inl ⟨_, _, rfl, run_takeDeferred hK, ?_⟩⟩
    refine ⟨_, results_tmp rfl _ _ _, ?_, hB.trans (below_putObj _ (by omega) (by have := heap_lt_of_some hK; omega))⟩
    rw [← hys]; rfl
  case stop =>
    rintro D c pre W _ _ h _
    exact h.elim

set_option maxRecDepth 100000 in
set_option maxHeartbeats 2000000 in
theorem values1_seqC (Bs n₀ : Nat) (v : Value) (l : List Int) (w w0 : World) (hl : l.length ≤ 1000000) (hd : ∀ d ∈ l, 0 ≤ d ∧ d ≤ 100000) (hBs : Bs < w.heap.size) (hn₀ : n₀ ≤ w.heap.size)
    (hr : RowAt w0 v (intsOf l)) (hb0 : Below w0.heap.size w0 w) (h0n : w0.heap.size ≤ n₀) (hcs : w.cell? ⟨Bs, 0, none⟩ = some v) :
    SeqW Try.prog 69 #[.pointer (some ⟨Bs, 0, none⟩)] (fun x : DgC => #[Value.int .i64 x.1]) (Below n₀) 0
      (fun ys => ys.map Subtype.val = l) (fun pre => pre.map Subtype.val <+: l) l.length w := by
  intro li J Jx W hW hJ hJx hY h0
  obtain ⟨a, cap, rfl, h1, h2, h3⟩ := hr.ints
  unfold maxLen at h2
  have hcs' := (hW.cell (p := ⟨Bs, 0, none⟩) (show Bs < _ by omega)).trans hcs
  have hbW := hb0.trans (hW.mono hb0.size)
  clear hcs
  have hsz := hW.size
  refine callsIn_of_wp Try.func69 rfl trivial ?_ rfl
  simp only [Try.ntmps69, List.size_toArray, List.length_cons, List.length_nil, Nat.reduceAdd, Nat.reduceSub, Array.replicate_succ, Array.replicate_zero, List.push_toArray, List.append_toArray, List.nil_append, List.cons_append]
  gi_wp2
  gi_loopw [7] (fun i wr => ∃ (k : Nat) (pre : List DgC), k ≤ l.length ∧ i = .int .i64 k ∧ pre.map Subtype.val = l.take k ∧ J pre wr ∧ Below n₀ W wr ∧ W.heap.size ≤ wr.heap.size) (fun i _ => l.length - (intOf i).toNat)
  case atStart => exact ⟨0, [], Nat.zero_le _, rfl, by simp, h0, Below.refl _ _, Nat.le_refl _⟩
  case round =>
    obtain ⟨k, pre, hk, rfl, hp, hJs, hB, hwr⟩ := hrel
    by_cases hkl : k < l.length
    · obtain ⟨b', off, rfl, hbb, hcell⟩ := h3.resolve_left (fun e => by rw [e] at hkl; simp at hkl)
      have hc : wr.cell? ⟨b', off + k, none⟩ = some (.int .i64 l[k]) := by
        rw [hB.cell (p := ⟨b', off + k, none⟩) (show b' < n₀ by omega), hbW.cell (p := ⟨b', off + k, none⟩) hbb]; exact hcell k hkl
      have hdj := hd _ (List.getElem_mem hkl)
      have hpl : pre.length < l.length := by
        have := congrArg List.length hp
        simp at this; omega
      obtain ⟨fn, tmps, assign, body, hy, hR⟩ := hY pre ⟨l[k], hdj⟩ wr hJs hpl hwr
      dsimp only at hy
      have HP := Lib.hid (show (pre ++ [(⟨l[k], hdj⟩ : DgC)]).map Subtype.val = l.take (k + 1) by
        rw [List.map_append, hp, List.take_succ_eq_append_getElem hkl]; rfl)
      clear h3 hcell hp
      gi_wp2
      refine hR.mono ?_
      rintro e W3 ⟨hk3, (⟨rfl, hJ3, hb3⟩ | ⟨rfl, hJx3⟩)⟩
      · gi_wp2
        go_roundw
        case rel => exact ⟨k + 1, _, by omega, by go_num, HP.out, hJ3, hB.trans hb3, Nat.le_trans hwr hb3.size⟩
        case measure => simp [intOf]; omega
      · gi_wp2
        refine bodyPost_ret (results_none rfl _ _ _) rfl ?_
        exact ⟨⟨_, rfl⟩, .inr ⟨_, by rw [HP.out]; exact List.take_prefix _ _, hJx3⟩⟩
    · have hp' : pre.map Subtype.val = l := by rw [hp, List.take_of_length_le (by omega)]
      clear h3 hp
      gi_wp2
      go_end0
      exact ⟨⟨_, rfl⟩, .inl ⟨pre, hp', hJs⟩⟩

theorem values_anyC (v : Value) (l : List Int) (w w0 : World) (hl : l.length ≤ 1000000) (hd : ∀ d ∈ l, 0 ≤ d ∧ d ≤ 100000) (hr : RowAt w0 v (intsOf l)) (hb0 : Below w0.heap.size w0 w) :
    Calls Try.prog 46 #[v] w fun e w' => e = .returned (.func (.func 69) #[] #[.pointer (some ⟨w.heap.size, 0, none⟩)]) ∧ Below w.heap.size w w' ∧ w'.heap.size = w.heap.size + 1 ∧
      SeqW Try.prog 69 #[.pointer (some ⟨w.heap.size, 0, none⟩)] (fun x : DgC => #[Value.int .i64 x.1]) (Below w0.heap.size) 0
      (fun ys => ys.map Subtype.val = l) (fun pre => pre.map Subtype.val <+: l) l.length w' := by
  have HR := Lib.hid hr
  obtain ⟨a, cap, rfl, h1, h2, h3⟩ := hr.ints
  clear h3 hr
  obtain ⟨w2, hw2⟩ : ∃ w2, w2 = w.alloc (.cells #[.slice a l.length cap] 23) := ⟨_, rfl⟩
  have b0 := Boxed.new w 23 (.slice a l.length cap)
  rw [← hw2] at b0
  have hbb : Below w.heap.size w w2 := by rw [hw2]; exact (Below.refl _ _).alloc (Nat.le_refl _) _
  have hs : w2.heap.size = w.heap.size + 1 := by rw [hw2]; simp
  have HS := Lib.hid (And.intro hbb (And.intro hs (values1_seqC w.heap.size w0.heap.size _ l w2 w0 hl hd (by omega) (by have := hb0.size; omega) HR.out (hb0.trans (hbb.mono hb0.size)) (Nat.le_refl _) b0.cell)))
  have HW := Lib.hid hw2
  clear hw2 b0 hbb hs
  go_enter Try.func46, Try.ntmps46
  go_wp2
  go_ret
  rw [← HW.out]
  exact ⟨rfl, HS.out⟩

theorem values_entersC : ∀ args w, (callFunc 69 args).run Try.prog w = .ok (.enter 69 args) w :=
  enters_of Try.func69 (by kernel_rfl) rfl

/-- the sum of a list of digits -/
theorem sumVals_anyC (Bs n₀ : Nat) (l : List Int) (w w0 : World) (hl : l.length ≤ 1000000) (hn₀ : n₀ ≤ w.heap.size)
    (hseq : SeqW Try.prog 69 #[.pointer (some ⟨Bs, 0, none⟩)] (fun x : DgC => #[Value.int .i64 x.1]) (Below n₀) 0 (fun ys => ys.map Subtype.val = l) (fun pre => pre.map Subtype.val <+: l) l.length w) :
    Calls Try.prog 45 #[.func (.func 69) #[] #[.pointer (some ⟨Bs, 0, none⟩)]] w fun e w' => e = .returned (.int .i64 l.sum) ∧ Below w.heap.size w w' :=
  sumOf_anyC _ n₀ 0 _ l w hl hn₀ values_entersC hseq

end Go.Proofs.Ytbfoaibgenepoaa
