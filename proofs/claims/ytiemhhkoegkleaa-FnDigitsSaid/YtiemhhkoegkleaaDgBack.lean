/- Digits: the program's iterator over a list from its last element on, which ranges over the library's. -/
import Derived.Test.YtiemhhkoegkleaaDgIt
set_option linter.unusedVariables false
set_option linter.unusedSimpArgs false
set_option maxRecDepth 100000
namespace Go.Proofs.Ytiemhhkoegkleaa
open Go.ChangeShapes Go.WideShapes Go.ChangeAt Go.RowKit

attribute [local go_sem] Oper.semAt_some wide_fn wide_depth

/-- a position and a digit -/
abbrev IxDig := Int × Dig

set_option maxRecDepth 100000 in
set_option maxHeartbeats 2000000 in
theorem back1_seq (Bs n₀ : Nat) (v : Value) (l : List Int) (w w0 : World) (hl : l.length ≤ 1000000) (hd : ∀ d ∈ l, 0 ≤ d ∧ d ≤ 15) (hBs : Bs < w.heap.size) (hn₀ : n₀ ≤ w.heap.size)
    (hr : RowAt w0 v (intsOf l)) (hb0 : Below w0.heap.size w0 w) (h0n : w0.heap.size ≤ n₀) (hcs : w.cell? ⟨Bs, 0, none⟩ = some v) :
    SeqW Try.prog 95 #[.pointer (some ⟨Bs, 0, none⟩)] (fun x : IxDig => #[Value.int .i64 x.1, Value.int .i64 x.2.1]) (KpA n₀ Bs 1) 0
      (fun ys => ys.map (fun x => x.2.1) = l.reverse) (fun pre => pre.map (fun x => x.2.1) <+: l.reverse) l.length w := by
  intro li J Jx W hW hJ hJx hY h0
  obtain ⟨a, cap, rfl, h1, h2, h3⟩ := hr.ints
  unfold maxLen at h2
  have hcs' := (hW.cell (p := ⟨Bs, 0, none⟩) (show Bs < _ by omega)).trans hcs
  have hbW := hb0.trans (hW.mono hb0.size)
  clear hcs
  have hsz := hW.size
  refine callsIn_of_wp Try.func95 rfl trivial ?_ rfl
  simp only [Try.ntmps95, List.size_toArray, List.length_cons, List.length_nil, Nat.reduceAdd, Nat.reduceSub, Array.replicate_succ, Array.replicate_zero, List.push_toArray, List.append_toArray, List.nil_append, List.cons_append]
  gi_wp2
  gi_loopw [3] (fun i wr => ∃ (k : Nat) (pre : List IxDig), k ≤ l.length ∧ i = .int .i64 ((k : Int) - 1) ∧ pre.map (fun x => x.2.1) = (l.drop k).reverse ∧ J pre wr ∧ KpA n₀ Bs 1 W wr ∧ W.heap.size ≤ wr.heap.size) (fun i _ => (intOf i + 1).toNat)
  case atStart => exact ⟨l.length, [], Nat.le_refl _, rfl, by simp, h0, ⟨Below.refl _ _, Area.refl _ _ _⟩, Nat.le_refl _⟩
  case round =>
    obtain ⟨k, pre, hk, rfl, hp, hJs, hB, hwr⟩ := hrel
    have hcs2 := (World.cell?_of_block (a := ⟨Bs, 0, none⟩) (hB.2 Bs (Nat.le_refl _) (by omega))).trans hcs'
    cases k with
    | zero =>
      rw [List.drop_zero] at hp
      clear h3
      gi_wp2
      go_end0
      exact ⟨⟨_, rfl⟩, .inl ⟨pre, hp, hJs⟩⟩
    | succ j =>
      rw [show ((j + 1 : Nat) : Int) - 1 = (j : Int) by omega]
      have hjl : j < l.length := by omega
      obtain ⟨b', off, rfl, hbb, hcell⟩ := h3.resolve_left (fun e => by rw [e] at hjl; simp at hjl)
      have hc : wr.cell? ⟨b', off + j, none⟩ = some (.int .i64 l[j]) := by
        rw [hB.1.cell (p := ⟨b', off + j, none⟩) (show b' < n₀ by omega), hbW.cell (p := ⟨b', off + j, none⟩) hbb]; exact hcell j hjl
      have hdj := hd _ (List.getElem_mem hjl)
      have hpl : pre.length < l.length := by
        have := congrArg List.length hp
        simp at this; omega
      obtain ⟨fn, tmps, assign, body, hy, hR⟩ := hY pre ((j : Int), ⟨l[j], hdj⟩) wr hJs hpl hwr
      dsimp only at hy
      have hrv : (l.drop j).reverse = (l.drop (j + 1)).reverse ++ [l[j]] := by
        rw [List.drop_eq_getElem_cons hjl, List.reverse_cons]
      have HP := Lib.hid (show (pre ++ [((j : Int), (⟨l[j], hdj⟩ : Dig))]).map (fun x => x.2.1) = (l.drop j).reverse by
        rw [hrv, ← hp]; simp)
      clear h3 hcell hp hrv
      gi_wp2
      refine hR.mono ?_
      rintro e W3 ⟨hk3, (⟨rfl, hJ3, hb3⟩ | ⟨rfl, hJx3⟩)⟩
      · gi_wp2
        go_roundw
        case rel => exact ⟨j, _, by omega, by go_num, HP.out, hJ3, hB.trans hb3, Nat.le_trans hwr hb3.1.size⟩
        case measure => simp [intOf]
      · gi_wp2
        refine bodyPost_ret (results_none rfl _ _ _) rfl ?_
        refine ⟨⟨_, rfl⟩, .inr ⟨_, ?_, hJx3⟩⟩
        rw [HP.out]
        refine ⟨(l.take j).reverse, ?_⟩
        rw [← List.reverse_append, List.take_append_drop]

theorem back_any (a : Option Addr) (len cap : Nat) (w : World) :
    Calls Try.prog 83 #[.slice a len cap] w fun e w' => e = .returned (.func (.func 95) #[] #[.pointer (some ⟨w.heap.size, 0, none⟩)]) ∧ w' = w.alloc (.cells #[.slice a len cap] 24) := by
  go_enter Try.func83, Try.ntmps83
  go_wp2
  go_ret
  exact ⟨rfl, rfl⟩

set_option maxRecDepth 100000 in
set_option maxHeartbeats 4000000 in
theorem last1_seq (Bs n₀ : Nat) (v : Value) (l : List Int) (w w0 : World) (hl : l.length ≤ 1000000) (hd : ∀ d ∈ l, 0 ≤ d ∧ d ≤ 15) (hBs : Bs < w.heap.size) (hn₀ : n₀ ≤ w.heap.size)
    (hr : RowAt w0 v (intsOf l)) (hb0 : Below w0.heap.size w0 w) (h0n : w0.heap.size ≤ n₀) (hcs : w.cell? ⟨Bs, 0, none⟩ = some v) :
    SeqW Try.prog 82 #[.pointer (some ⟨Bs, 0, none⟩)] (fun x : Dig => #[Value.int .i64 x.1]) (Below n₀) 4
      (fun ys => ys.map Subtype.val = l.reverse) (fun pre => pre.map Subtype.val <+: l.reverse) l.length w := by
  intro li J Jx W hW hJ hJx hY h0
  have hcs' := (hW.cell (p := ⟨Bs, 0, none⟩) hBs).trans hcs
  have hsz := hW.size
  have HRow := Lib.hid hr
  obtain ⟨a, cap, rfl, h1, h2, h3⟩ := hr.ints
  clear h3 hr
  refine callsIn_of_wp_marks Try.func82 rfl trivial ?_ rfl
  simp only [Try.ntmps82, List.size_toArray, List.length_cons, List.length_nil, Nat.reduceAdd, Nat.reduceSub, Array.replicate_succ, Array.replicate_zero, List.push_toArray, List.append_toArray, List.nil_append, List.cons_append]
  have bY := Boxed.new W 30 (.func (.yield li) #[] #[])
  have bN := Boxed.new (W.alloc (.cells #[.func (.yield li) #[] #[]] 30)) 24 (.slice a l.length cap)
  rw [World.size_alloc] at bN
  have hB0 : Below W.heap.size W ((W.alloc (.cells #[.func (.yield li) #[] #[]] 30)).alloc (.cells #[.slice a l.length cap] 24)) := ((Below.refl _ W).alloc (Nat.le_refl _) _).alloc (by simp) _
  have hcsA : (W.alloc (.cells #[.func (.yield li) #[] #[]] 30)).cell? ⟨Bs, 0, none⟩ = some (.slice a l.length cap) :=
    (((Below.refl _ W).alloc (Nat.le_refl _) _).cell (p := ⟨Bs, 0, none⟩) (show Bs < _ by omega)).trans hcs'
  have hbW := hb0.trans (hW.mono hb0.size)
  have bYA := bY.alloc (.cells #[.slice a l.length cap] 24)
  gi_wp2_with (gi_at_call 83; refine (callsIn_wide.2 (back_any _ _ _ _)).mono ?_; rintro e w' ⟨rfl, rfl⟩)
  obtain ⟨W2, hW2⟩ : ∃ W2, (W.alloc (.cells #[.func (.yield li) #[] #[]] 30)).alloc (.cells #[.slice a l.length cap] 24) = W2 := ⟨_, rfl⟩
  rw [hW2] at bN hB0 bYA ⊢
  have hs2 : W2.heap.size = W.heap.size + 2 := by rw [← hW2]; simp
  refine rangeW (gf := 95) (lb := #[.pointer (some ⟨W.heap.size + 1, 0, none⟩)]) rfl (enters_of Try.func95 (by kernel_rfl) rfl)
    (back1_seq (W.heap.size + 1) n₀ (.slice a l.length cap) l W2 w0 hl hd (by omega) (by omega) HRow.out (hbW.trans (hB0.mono hbW.size)) h0n bN.cell) KpA.trans
    (fun X q o h1 h2 => ⟨below_putObj o (by omega) (by omega), Area.putObj o (by omega)⟩) (Below.refl _ _) (fun _ => rfl)
    (fun pre X => J (pre.map Prod.snd) X ∧ Boxed X W.heap.size 30 (.func (.yield li) #[] #[]))
    (fun c pre X => c = .ret ∧ Jx (pre.map Prod.snd) X)
    ?hI ?hIx ?h0 (fun x => { tmps := #[.func (.yield li) #[] #[], .pointer (some ⟨Bs, 0, none⟩), .pointer (some ⟨W.heap.size, 0, none⟩), undef, .int .i64 x.2.1, .slice a l.length cap, .func (.func 95) #[] #[.pointer (some ⟨W.heap.size + 1, 0, none⟩)], .int .i64 x.1, .int .i64 x.2.1, undef, undef, undef, undef], defers := [] }) ?assign ?body ?done ?stop
  case hI =>
    exact fun s A C row hs hg hr => ⟨ownFrom_mono hJ (by omega) _ A C row hs.1 hg hr, (Own.from (boxed_own _ _ (fun _ : Unit => _)) _) () A C row hs.2 hg hr⟩
  case hIx =>
    exact fun c s A C row hs hg hr => ⟨hs.1, ownFrom_mono hJx (by omega) _ A C row hs.2 hg hr⟩
  case h0 => exact ⟨by rw [← hW2]; exact hJ.alloc _ (hJ.alloc _ h0), bYA⟩
  case assign =>
    intro l x W K hK
    gi_wp2
    exact hK
  case body =>
    rintro q pre x X ⟨hj, bx⟩ hlen hsz2 hbk
    obtain ⟨fn, tmps, assign, body, hy, hR⟩ := hY _ x.2 X hj (by simpa using hlen) (by omega)
    have cx := bx.cell
    have HA := Lib.hid hsz2
    gi_wp2
    refine hR.mono ?_
    rintro e X3 ⟨ha3, (⟨rfl, hJ3, hb3⟩ | ⟨rfl, hJx3⟩)⟩
    · gi_wp2
      refine ⟨ha3.sub (by omega) (by omega), ⟨hb3, ha3.sub (by omega) (by omega)⟩, ?_, ?_⟩
      · rw [List.map_append]; exact hJ3
      · exact (ha3 _ (Nat.le_refl _) (by omega)).trans bx
    · gi_wp2
      exact ⟨ha3.sub (by omega) (by omega), rfl, by rw [List.map_append]; exact hJx3⟩
  case done =>
    rintro D ys X hD hys ⟨hj, _⟩ hK
    gi_wp2
    refine ⟨by simp, .inl ⟨_, _, rfl, run_takeDeferred hK, ?_⟩⟩
    exact ⟨_, results_none rfl _ _ _, ⟨_, rfl⟩, .inl ⟨_, by rw [← hys]; simp, hJ.putObj _ hj (by omega) hK rfl⟩⟩
  case stop =>
    rintro D c pre X hD hpre ⟨rfl, hj⟩ hK
    gi_wp2
    refine ⟨by simp, .inl ⟨_, _, rfl, run_takeDeferred hK, ?_⟩⟩
    exact ⟨_, results_none rfl _ _ _, ⟨_, rfl⟩, .inr ⟨_, by rw [List.map_map]; exact hpre, hJx.putObj _ hj (by omega) hK rfl⟩⟩

/-- what lastFirst hands back -/
theorem last_any (v : Value) (l : List Int) (w w0 : World) (hl : l.length ≤ 1000000) (hd : ∀ d ∈ l, 0 ≤ d ∧ d ≤ 15) (hr : RowAt w0 v (intsOf l)) (hb0 : Below w0.heap.size w0 w) :
    Calls Try.prog 52 #[v] w fun e w' => e = .returned (.func (.func 82) #[] #[.pointer (some ⟨w.heap.size, 0, none⟩)]) ∧ Below w.heap.size w w' ∧ w'.heap.size = w.heap.size + 1 ∧
      SeqW Try.prog 82 #[.pointer (some ⟨w.heap.size, 0, none⟩)] (fun x : Dig => #[Value.int .i64 x.1]) (Below w0.heap.size) 4
      (fun ys => ys.map Subtype.val = l.reverse) (fun pre => pre.map Subtype.val <+: l.reverse) l.length w' := by
  have HR := Lib.hid hr
  obtain ⟨a, cap, rfl, h1, h2, h3⟩ := hr.ints
  clear h3 hr
  obtain ⟨w2, hw2⟩ : ∃ w2, w2 = w.alloc (.cells #[.slice a l.length cap] 24) := ⟨_, rfl⟩
  have b0 := Boxed.new w 24 (.slice a l.length cap)
  rw [← hw2] at b0
  have hbb : Below w.heap.size w w2 := by rw [hw2]; exact (Below.refl _ _).alloc (Nat.le_refl _) _
  have hs : w2.heap.size = w.heap.size + 1 := by rw [hw2]; simp
  have HS := Lib.hid (And.intro hbb (And.intro hs (last1_seq w.heap.size w0.heap.size _ l w2 w0 hl hd (by omega) (by have := hb0.size; omega) HR.out (hb0.trans (hbb.mono hb0.size)) (Nat.le_refl _) b0.cell)))
  have HW := Lib.hid hw2
  clear hw2 b0 hbb hs
  go_enter Try.func52, Try.ntmps52
  go_wp2
  go_ret
  rw [← HW.out]
  exact ⟨rfl, HS.out⟩

end Go.Proofs.Ytiemhhkoegkleaa
