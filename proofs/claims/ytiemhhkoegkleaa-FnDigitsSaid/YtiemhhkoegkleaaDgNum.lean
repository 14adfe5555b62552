/- Digits: the number that an iterator's digits make, the greatest place first. -/
import Derived.Test.YtiemhhkoegkleaaDgIt
set_option linter.unusedVariables false
set_option linter.unusedSimpArgs false
set_option maxRecDepth 100000
namespace Go.Proofs.Ytiemhhkoegkleaa
open Go.ChangeShapes Go.WideShapes Go.ChangeAt Go.RowKit

attribute [local go_sem] Oper.semAt_some wide_fn wide_depth

/-- the number of digits that come the greatest place first -/
def fv (b : Int) (pre : List Dig) : Int := hv b (pre.map Subtype.val).reverse
theorem fv_nil (b : Int) : fv b [] = 0 := rfl
theorem fv_snoc (b : Int) (pre : List Dig) (x : Dig) : fv b (pre ++ [x]) = fv b pre * b + x.1 := by
  simp only [fv, List.map_append, List.map_cons, List.map_nil, List.reverse_append, List.reverse_cons, List.reverse_nil, List.nil_append, List.singleton_append, hv_cons]
  rw [Int.mul_comm]; omega
theorem fv_nonneg {b : Int} (hb : 0 ≤ b) (pre : List Dig) : 0 ≤ fv b pre :=
  hv_nonneg hb _ (fun d hd => by
    simp only [List.mem_reverse, List.mem_map] at hd
    obtain ⟨x, _, rfl⟩ := hd; exact x.2.1)
/-- a beginning makes no greater number than all -/
theorem hv_prefix_le {b : Int} (hb : 1 ≤ b) {X p : List Int} (hX : ∀ d ∈ X, 0 ≤ d) (h : p <+: X) : hv b p.reverse ≤ hv b X.reverse := by
  obtain ⟨q, rfl⟩ := h
  have := hv_drop_le hb (p ++ q).reverse (fun d hd => hX d (List.mem_reverse.1 hd)) q.length (by simp)
  rw [List.reverse_append, List.drop_left' (by simp)] at this
  rw [List.reverse_append]; exact this

/-- what numberOf answers -/
def numV (b : Int) (X : List Int) : Int := if hv b X.reverse ≤ 1000000000000 then hv b X.reverse else 0
def numOk (b : Int) (X : List Int) : Bool := decide (hv b X.reverse ≤ 1000000000000)

/-- at a function's return, where the block for the rounds' deferred calls is shut -/
theorem cell_shut {W : World} {D : Nat} {p : Addr} {v : Value} (h : W.cell? p = some v) (hK : W.heap[D]? = some (.deferred (some []))) : (W.putObj D (.deferred none)).cell? p = some v :=
  cell_kept h (grownBy_putObj' _ D (.deferred none)) (fun r e => by cases e; exact ⟨_, hK, rfl⟩)

set_option maxRecDepth 100000 in
set_option maxHeartbeats 4000000 in
theorem number_any (gf n₀ m N : Nat) (lb : Array Value) (b : Int) (X : List Int) (w : World) (hb2 : 2 ≤ b) (hb16 : b ≤ 16) (hX : ∀ d ∈ X, 0 ≤ d) (hn₀ : n₀ ≤ w.heap.size)
    (eg : ∀ args w, (callFunc gf args).run Try.prog w = .ok (.enter gf args) w)
    (hseq : SeqW Try.prog gf lb (fun x : Dig => #[Value.int .i64 x.1]) (Below n₀) m (fun ys => ys.map Subtype.val = X) (fun pre => pre.map Subtype.val <+: X) N w) :
    Calls Try.prog 51 #[.func (.func gf) #[] lb, .int .i64 b] w fun e w' =>
      e = .returned (.tuple #[.int .i64 (numV b X), .bool (numOk b X)]) ∧ Below w.heap.size w w' := by
  refine (callsIn_wide (n := 0)).1 ?_
  refine callsIn_of_wp_marks Try.func51 rfl trivial ?_ rfl
  simp only [Try.ntmps51, List.size_toArray, List.length_cons, List.length_nil, Nat.reduceAdd, Nat.reduceSub, Array.replicate_succ, Array.replicate_zero, List.push_toArray, List.append_toArray, List.nil_append, List.cons_append]
  gi_wp2
  have b0 := Boxed.new w 3 (.int .i64 b)
  have b1 := Boxed.new (w.alloc (.cells #[.int .i64 b] 3)) 3 (.int .i64 0)
  have b2 := Boxed.new ((w.alloc (.cells #[.int .i64 b] 3)).alloc (.cells #[.int .i64 0] 3)) 4 (.bool false)
  have b3 := Boxed.new (((w.alloc (.cells #[.int .i64 b] 3)).alloc (.cells #[.int .i64 0] 3)).alloc (.cells #[.bool false] 4)) 3 (.int .i64 0)
  simp only [World.size_alloc] at b1 b2 b3
  have hB0 : Below w.heap.size w ((((w.alloc (.cells #[.int .i64 b] 3)).alloc (.cells #[.int .i64 0] 3)).alloc (.cells #[.bool false] 4)).alloc (.cells #[.int .i64 0] 3)) :=
    ((((Below.refl _ w).alloc (Nat.le_refl _) _).alloc (by simp) _).alloc (by simp; omega) _).alloc (by simp; omega) _
  refine rangeW (gf := gf) (lb := lb) rfl eg hseq Below.trans (below_kb (by simp; omega)) hB0 (fun _ => rfl)
    (fun pre W => (Boxed W w.heap.size 3 (.int .i64 b) ∧ Boxed W (w.heap.size + 1) 3 (.int .i64 0) ∧ Boxed W (w.heap.size + 1 + 1) 4 (.bool false) ∧ Boxed W (w.heap.size + 1 + 1 + 1) 3 (.int .i64 (fv b pre)) ∧ fv b pre ≤ 1000000000000) ∧ Below w.heap.size w W)
    (fun c pre W => (c = .ret ∧ 1000000000000 < fv b pre ∧ Boxed W (w.heap.size + 1) 3 (.int .i64 0) ∧ Boxed W (w.heap.size + 1 + 1) 4 (.bool false)) ∧ Below w.heap.size w W)
    ?hI ?hIx ?h0 (fun x => { tmps := #[.func (.func gf) #[] lb, .int .i64 b, undef, .pointer (some ⟨w.heap.size, 0, none⟩), .pointer (some ⟨w.heap.size + 1, 0, none⟩), .pointer (some ⟨w.heap.size + 1 + 1, 0, none⟩), .pointer (some ⟨w.heap.size + 1 + 1 + 1, 0, none⟩), .int .i64 x.1, .func (.func gf) #[] lb, .int .i64 x.1, undef, undef, undef, undef, undef, undef, undef, undef], defers := [] }) ?assign ?body ?done ?stop
  case hI =>
    refine OwnFrom.and (Own.from ?_ _) (ownFrom_below (Nat.le_refl _) (by simp; omega))
    exact fun s A C row hs hg hr => ⟨boxed_own _ _ (fun _ : Unit => _) () A C row hs.1 hg hr, boxed_own _ _ (fun _ : Unit => _) () A C row hs.2.1 hg hr, boxed_own _ _ (fun _ : Unit => _) () A C row hs.2.2.1 hg hr, boxed_own _ _ (fun _ : Unit => _) () A C row hs.2.2.2.1 hg hr, hs.2.2.2.2⟩
  case hIx =>
    refine fun c => OwnFrom.and (Own.from ?_ _) (ownFrom_below (Nat.le_refl _) (by simp; omega))
    exact fun s A C row hs hg hr => ⟨hs.1, hs.2.1, boxed_own _ _ (fun _ : Unit => _) () A C row hs.2.2.1 hg hr, boxed_own _ _ (fun _ : Unit => _) () A C row hs.2.2.2 hg hr⟩
  case h0 => exact ⟨⟨((b0.alloc _).alloc _).alloc _, (b1.alloc _).alloc _, b2.alloc _, b3, by simp [fv_nil]⟩, hB0⟩
  case assign =>
    intro l x W K hK
    gi_wp2
    exact hK
  case body =>
    rintro l pre x W ⟨⟨x0, x1, x2, x3, hle⟩, hB⟩ _ hsz _
    simp only [World.size_alloc] at hsz ⊢
    have h0 := fv_nonneg (b := b) (by omega) pre
    have hx := x.2
    have HS := Lib.hid (fv_snoc b pre x)
    obtain ⟨v, hv⟩ : ∃ v, v = fv b pre := ⟨_, rfl⟩
    rw [← hv] at h0 hle HS x3
    clear hv
    have c0 := x0.cell; have c1 := x1.cell; have c2 := x2.cell; have c3 := x3.cell
    have f1 := x1.frozen; have f2 := x2.frozen; have f3 := x3.frozen
    have X0 := Lib.hid x0; have X1 := Lib.hid x1; have X2 := Lib.hid x2; have X3 := Lib.hid x3
    have hp0 : 0 ≤ v * b := Int.mul_nonneg h0 (by omega)
    have hp1 : v * b ≤ 16000000000000 := by
      have := Int.mul_le_mul hle hb16 (by omega) (by omega)
      omega
    clear x0 x1 x2 x3 b0 b1 b2 b3
    have hB1 := hB.setCell (p := ⟨w.heap.size + 1 + 1 + 1, 0, none⟩) (by simp; omega) (.int .i64 (v * b + x.1))
    have hn1 := (Below.refl n₀ W).setCell (p := ⟨w.heap.size + 1 + 1 + 1, 0, none⟩) (by simp; omega) (.int .i64 (v * b + x.1))
    have hk1 := Area.setCell (A := w.heap.size + 1 + 1 + 1 + 1) (m := 2 + m) (X := W) ⟨w.heap.size + 1 + 1 + 1, 0, none⟩ (.int .i64 (v * b + x.1)) (.inl (by simp))
    have HB := Lib.hid hB; have HB1 := Lib.hid hB1; have HN1 := Lib.hid hn1; have HK1 := Lib.hid hk1
    clear hB hB1 hn1 hk1
    by_cases hbig : 1000000000000 < v * b + x.1
    · gi_wp2
      exact ⟨(HK1.out.trans (Area.setCell _ _ (.inl (by simp)))).trans (Area.setCell _ _ (.inl (by simp))),
        ⟨rfl, by rw [HS.out]; exact hbig, ((X1.out.other (by omega) _).set _).other (by omega) _, ((X2.out.other (by omega) _).other (by omega) _).set _⟩,
        (HB1.out.setCell (p := ⟨w.heap.size + 1, 0, none⟩) (by simp) _).setCell (p := ⟨w.heap.size + 1 + 1, 0, none⟩) (by simp; omega) _⟩
    · gi_wp2
      exact ⟨HK1.out, HN1.out, ⟨X0.out.other (by omega) _, X1.out.other (by omega) _, X2.out.other (by omega) _, by rw [HS.out]; exact X3.out.set _, by rw [HS.out]; omega⟩, HB1.out⟩
  case done =>
    rintro D ys W hD hys ⟨⟨x0, x1, x2, x3, hle⟩, hB⟩ hK
    have c3 := x3.cell; have c1 := x1.cell; have c2 := x2.cell
    have f1 := x1.frozen; have f2 := x2.frozen
    have X1 := Lib.hid x1; have X2 := Lib.hid x2; have X3 := Lib.hid x3
    clear x0 x1 x2 x3 b0 b1 b2 b3
    have hD' : w.heap.size + 1 + 1 + 1 + 1 ≤ D := by simpa using hD
    clear hD
    gi_wp2
    have hK' := ((KeepsOthers.setCell W ⟨w.heap.size + 1, 0, none⟩ (.int .i64 (fv b ys))).trans (KeepsOthers.setCell _ ⟨w.heap.size + 1 + 1, 0, none⟩ (.bool true))).same D _ hK rfl
    refine ⟨by simp, .inl ⟨_, _, rfl, run_takeDeferred hK', ?_⟩⟩
    have r1 := cell_shut (((X1.out.set (.int .i64 (fv b ys))).other (show w.heap.size + 1 ≠ w.heap.size + 1 + 1 by omega) (.bool true)).cell) hK'
    have r2 := cell_shut (((X2.out.other (show w.heap.size + 1 + 1 ≠ w.heap.size + 1 by omega) (.int .i64 (fv b ys))).set (.bool true)).cell) hK'
    have hys' : fv b ys = hv b X.reverse := by rw [fv, hys]
    rw [hys'] at hle
    refine ⟨.tuple #[.int .i64 (fv b ys), .bool true], ?_, by rw [numV, numOk, if_pos hle, decide_eq_true hle, hys'], ?_⟩
    · simp [results, Try.f51, go_sem, r1, r2]
    · exact ((hB.setCell (p := ⟨w.heap.size + 1, 0, none⟩) (by simp) _).setCell (p := ⟨w.heap.size + 1 + 1, 0, none⟩) (by simp; omega) _).trans (below_putObj _ (by omega) (by have := heap_lt_of_some hK'; omega))
  case stop =>
    rintro D c pre W hD hpre ⟨⟨rfl, hbig, x1, x2⟩, hB⟩ hK
    have hD' : w.heap.size + 1 + 1 + 1 + 1 ≤ D := by simpa using hD
    clear hD
    gi_wp2
    refine ⟨by simp, .inl ⟨_, _, rfl, run_takeDeferred hK, ?_⟩⟩
    have r1 := cell_shut x1.cell hK
    have r2 := cell_shut x2.cell hK
    have hno : ¬ hv b X.reverse ≤ 1000000000000 := by
      have := hv_prefix_le (b := b) (by omega) hX hpre
      have : fv b pre ≤ hv b X.reverse := this
      omega
    refine ⟨.tuple #[.int .i64 0, .bool false], ?_, by rw [numV, numOk, if_neg hno, decide_eq_false hno], ?_⟩
    · simp [results, Try.f51, go_sem, r1, r2]
    · exact hB.trans (below_putObj _ (by omega) (by have := heap_lt_of_some hK; omega))

end Go.Proofs.Ytiemhhkoegkleaa
