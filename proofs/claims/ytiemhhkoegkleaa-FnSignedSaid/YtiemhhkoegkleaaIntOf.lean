/- The program's integer of digits in a base that may be negative, as may the digits. -/
import Derived.Test.YtiemhhkoegkleaaNgNext
import Derived.Test.YtiemhhkoegkleaaBaBack
set_option linter.unusedVariables false
set_option linter.unusedSimpArgs false
set_option maxRecDepth 100000
namespace Go.Proofs.Ytiemhhkoegkleaa
open Go.ChangeShapes Go.WideShapes Go.ChangeAt Go.RowKit

attribute [local go_sem] Oper.semAt_some wide_fn wide_depth

/-- the value in base c of digits that come the greatest place first -/
def fh (c : Int) {g : Nat} (pre : List (Sig g)) : Int := hv c (pre.map Subtype.val).reverse
theorem fh_nil (c : Int) (g : Nat) : fh c (g := g) [] = 0 := rfl
theorem fh_snoc (c : Int) {g : Nat} (pre : List (Sig g)) (x : Sig g) : fh c (pre ++ [x]) = fh c pre * c + x.1 := by
  simp only [fh, List.map_append, List.map_cons, List.map_nil, List.reverse_append, List.reverse_cons, List.reverse_nil, List.nil_append, List.singleton_append, hv_cons]
  rw [Int.mul_comm]; omega
/-- beyond the bounds, it stays so -/
theorem hv_out {c : Int} {l : List Int} (hc : 2 ≤ c.natAbs) (hl : ∀ d ∈ l, d.natAbs + 1 ≤ c.natAbs) : ∀ k, inN (hv c (l.drop k)) = false → inN (hv c l) = false
  | 0, hf => by simpa using hf
  | k + 1, hf => by
    refine hv_out hc hl k ?_
    by_cases hk : k < l.length
    · rw [hv_drop hk]
      have hd := hl _ (List.getElem_mem hk)
      obtain ⟨d, hd'⟩ : ∃ d, d = l[k] := ⟨_, rfl⟩
      rw [← hd'] at hd ⊢
      obtain ⟨v, hv⟩ : ∃ v, v = hv c (l.drop (k + 1)) := ⟨_, rfl⟩
      rw [← hv] at hf ⊢
      have hvb : 1000000000000 < v.natAbs := by
        simp only [inN, inB, Bool.and_eq_false_iff, decide_eq_false_iff_not] at hf
        omega
      obtain ⟨m, hm⟩ : ∃ m, c.natAbs = m + 1 := ⟨c.natAbs - 1, by omega⟩
      have h1 : (c * v).natAbs = m * v.natAbs + v.natAbs := by rw [Int.natAbs_mul, hm, Nat.add_mul, Nat.one_mul]
      have h2 : m ≤ m * v.natAbs := Nat.le_mul_of_pos_right m (by omega)
      obtain ⟨x, hx⟩ : ∃ x, x = c * v := ⟨_, rfl⟩
      obtain ⟨y, hy⟩ : ∃ y, y = m * v.natAbs := ⟨_, rfl⟩
      rw [← hx, ← hy] at h1
      rw [← hy] at h2
      rw [← hx]
      simp only [inN, inB, Bool.and_eq_false_iff, decide_eq_false_iff_not]
      omega
    · rw [List.drop_of_length_le (by omega)] at hf
      rw [List.drop_of_length_le (by omega)]; exact hf
theorem fh_out {c : Int} {g : Nat} {l : List Int} (hc : 2 ≤ c.natAbs) (hl : ∀ d ∈ l, d.natAbs + 1 ≤ c.natAbs) {pre : List (Sig g)} (hp : pre.map Subtype.val <+: l.reverse) (hf : inN (fh c pre) = false) : inN (hv c l) = false := by
  obtain ⟨q, hq⟩ := hp
  have e : l = q.reverse ++ (pre.map Subtype.val).reverse := by
    rw [← List.reverse_append, hq, List.reverse_reverse]
  refine hv_out hc hl q.length ?_
  rw [e, List.drop_left' (by simp)]
  exact hf

/-- at a function's return, where the block for the rounds' deferred calls is shut -/
theorem cell_shutV {W : World} {D : Nat} {p : Addr} {v : Value} (h : W.cell? p = some v) (hK : W.heap[D]? = some (.deferred (some []))) : (W.putObj D (.deferred none)).cell? p = some v :=
  cell_kept h (grownBy_putObj' _ D (.deferred none)) (fun r e => by cases e; exact ⟨_, hK, rfl⟩)

set_option maxRecDepth 100000 in
set_option maxHeartbeats 4000000 in
theorem integerOf_any (v : Value) (l : List Int) (c : Int) (w : World) (hr : RowAt w v (intsOf l)) (hl : l.length ≤ 60) (hc2 : 2 ≤ c.natAbs) (hc16 : c.natAbs ≤ 16) (hd : ∀ d ∈ l, d.natAbs + 1 ≤ c.natAbs) :
    Calls Try.prog 58 #[v, .int .i64 c] w fun e w' => e = .returned (.tuple #[.int .i64 (if inN (hv c l) then hv c l else 0), .bool (inN (hv c l))]) ∧ Below w.heap.size w w' := by
  have HR := Lib.hid hr
  obtain ⟨aa, cap, rfl, h1, h2, h3⟩ := hr.ints
  unfold maxLen at h2
  have HWI := Lib.hid (fun x W hx => within_any x W hx)
  obtain ⟨R0, hR0⟩ : ∃ R0, R0 = (if inN (hv c l) then hv c l else 0) := ⟨_, rfl⟩
  obtain ⟨R1, hR1⟩ : ∃ R1, R1 = inN (hv c l) := ⟨_, rfl⟩
  rw [← hR0, ← hR1]
  have HE0 := Lib.hid hR0; have HE1 := Lib.hid hR1
  have HOUT := Lib.hid (fun (pre : List (Sig 15)) hp hf => fh_out (c := c) hc2 hd (pre := pre) hp hf)
  obtain ⟨W3, hW3⟩ : ∃ W3, (((w.alloc (.cells #[.int .i64 c] 3)).alloc (.cells #[.int .i64 0] 3)).alloc (.cells #[.bool false] 4)) = W3 := ⟨_, rfl⟩
  have hs3 : W3.heap.size = w.heap.size + 3 := by rw [← hW3]; simp
  have b0 : Boxed W3 w.heap.size 3 (.int .i64 c) := by rw [← hW3]; exact ((Boxed.new w _ _).alloc _).alloc _
  have b1 : Boxed W3 (w.heap.size + 1) 3 (.int .i64 0) := by rw [← hW3]; exact (boxed_at _ _ _ (by simp)).alloc _
  have b2 : Boxed W3 (w.heap.size + 1 + 1) 4 (.bool false) := by rw [← hW3]; exact boxed_at _ _ _ (by simp)
  have hB3 : Below w.heap.size w W3 := by
    rw [← hW3]
    exact (((Below.refl _ w).alloc (Nat.le_refl _) _).alloc (by simp) _).alloc (by simp; omega) _
  refine (callsIn_wide (n := 0)).1 ?_
  refine callsIn_of_wp_marks Try.func58 rfl trivial ?_ rfl
  simp only [Try.ntmps58, List.size_toArray, List.length_cons, List.length_nil, Nat.reduceAdd, Nat.reduceSub, Array.replicate_succ, Array.replicate_zero, List.push_toArray, List.append_toArray, List.nil_append, List.cons_append]
  have hcl1 : -16 ≤ c := by omega
  have hcl2 : c ≤ 16 := by omega
  obtain ⟨W4, hW4⟩ : ∃ W4, W3.alloc (.cells #[.int .i64 0] 3) = W4 := ⟨_, rfl⟩
  have hs4 : W4.heap.size = w.heap.size + 4 := by rw [← hW4]; simp; omega
  have d0 : Boxed W4 w.heap.size 3 (.int .i64 c) := by rw [← hW4]; exact b0.alloc _
  have d1 : Boxed W4 (w.heap.size + 1) 3 (.int .i64 0) := by rw [← hW4]; exact b1.alloc _
  have d2 : Boxed W4 (w.heap.size + 1 + 1) 4 (.bool false) := by rw [← hW4]; exact b2.alloc _
  have d3 : Boxed W4 (w.heap.size + 3) 3 (.int .i64 0) := by rw [← hW4]; exact boxed_at _ _ _ (by omega)
  have hB4 : Below w.heap.size w W4 := by
    rw [← hW4]
    exact hB3.alloc (by omega) _
  have HLS := Lib.hid (lastB_any 15 _ l W4 w (by omega) (fun d h => by have := hd d h; omega) HR.out hB4)
  have HW4 := Lib.hid hW4
  clear h3 hr b0 b1 b2 hd hW4 hR0 hR1 hc2 hc16
  gi_wp2_with (first
    | (gi_at_call 52; rw [HW4.out]; refine (callsIn_wide.2 HLS.out).mono ?_; rintro e w5 ⟨rfl, hb5, hs5, hseq⟩; have HB5 := Lib.hid hb5; have HS5 := Lib.hid hs5; have HQ := Lib.hid hseq; clear hb5 hs5 hseq))
  have hs5 : w5.heap.size = w.heap.size + 5 := by have := HS5.out; omega
  have hB5 : Below w.heap.size w w5 := hB4.trans (HB5.out.mono (by omega))
  have e0 : Boxed w5 w.heap.size 3 (.int .i64 c) := boxed_below d0 HB5.out (by omega)
  have e1 : Boxed w5 (w.heap.size + 1) 3 (.int .i64 0) := boxed_below d1 HB5.out (by omega)
  have e2 : Boxed w5 (w.heap.size + 1 + 1) 4 (.bool false) := boxed_below d2 HB5.out (by omega)
  have e3 : Boxed w5 (w.heap.size + 3) 3 (.int .i64 0) := boxed_below d3 HB5.out (by omega)
  have hq := HQ.out
  simp only [hs3, hs4] at *
  clear d0 d1 d2 d3 hB3 hW3 hB4 HB5 HS5 HLS
  refine rangeW (gf := 82) (lb := #[.pointer (some ⟨w.heap.size + 4, 0, none⟩)]) rfl lastB_enters hq Below.trans (below_kb (by omega)) (Below.refl _ _) (fun _ => rfl)
    (fun pre W => (Boxed W w.heap.size 3 (.int .i64 c) ∧ Boxed W (w.heap.size + 1) 3 (.int .i64 0) ∧ Boxed W (w.heap.size + 1 + 1) 4 (.bool false) ∧ Boxed W (w.heap.size + 3) 3 (.int .i64 (fh c pre)) ∧ inN (fh c pre) = true) ∧ Below w.heap.size w W)
    (fun x pre W => (x = .ret ∧ inN (fh c pre) = false ∧ Boxed W (w.heap.size + 1) 3 (.int .i64 0) ∧ Boxed W (w.heap.size + 1 + 1) 4 (.bool false)) ∧ Below w.heap.size w W)
    ?hI ?hIx ?h0 (fun x => { tmps := #[.slice aa l.length cap, .int .i64 c, undef, .pointer (some ⟨w.heap.size, 0, none⟩), .pointer (some ⟨w.heap.size + 1, 0, none⟩), .pointer (some ⟨w.heap.size + 1 + 1, 0, none⟩), .pointer (some ⟨w.heap.size + 3, 0, none⟩), .int .i64 x.1, .slice aa l.length cap, .func (.func 82) #[] #[.pointer (some ⟨w.heap.size + 4, 0, none⟩)], .int .i64 x.1, undef, undef, undef, undef, undef, undef, undef, undef, undef], defers := [] }) ?assign ?body ?done ?stop
  case hI =>
    refine OwnFrom.and (Own.from ?_ _) (ownFrom_below (Nat.le_refl _) (by omega))
    exact fun s A C row hs hg hr => ⟨boxed_own _ _ (fun _ : Unit => _) () A C row hs.1 hg hr, boxed_own _ _ (fun _ : Unit => _) () A C row hs.2.1 hg hr, boxed_own _ _ (fun _ : Unit => _) () A C row hs.2.2.1 hg hr, boxed_own _ _ (fun _ : Unit => _) () A C row hs.2.2.2.1 hg hr, hs.2.2.2.2⟩
  case hIx =>
    refine fun c => OwnFrom.and (Own.from ?_ _) (ownFrom_below (Nat.le_refl _) (by omega))
    exact fun s A C row hs hg hr => ⟨hs.1, hs.2.1, boxed_own _ _ (fun _ : Unit => _) () A C row hs.2.2.1 hg hr, boxed_own _ _ (fun _ : Unit => _) () A C row hs.2.2.2 hg hr⟩
  case h0 => exact ⟨⟨e0, e1, e2, e3, rfl⟩, hB5⟩
  case assign =>
    intro q x W K hK
    gi_wp2
    exact hK
  case body =>
    rintro q pre x W ⟨⟨x0, x1, x2, x3, hin⟩, hB⟩ _ hsz _
    obtain ⟨hy1, hy2⟩ := inN_yes hin
    have hx := x.2
    have HS := Lib.hid (fh_snoc c pre x)
    obtain ⟨d, hd⟩ : ∃ d, d = x.1 := ⟨_, rfl⟩
    rw [← hd] at hx HS ⊢
    obtain ⟨y, hy⟩ : ∃ y, y = fh c pre := ⟨_, rfl⟩
    rw [← hy] at HS hy1 hy2 x3
    have hby : (y * c).natAbs ≤ 16000000000000 := by
      rw [Int.natAbs_mul]
      have h1 : y.natAbs ≤ 1000000000000 := by omega
      have h2 : c.natAbs ≤ 16 := by omega
      exact Nat.le_trans (Nat.mul_le_mul h1 h2) (by decide)
    have hby1 : y * c ≤ 16000000000000 := by omega
    have hby2 : -16000000000000 ≤ y * c := by omega
    clear hby
    obtain ⟨hx1, hx2⟩ := hx
    have hd1 : -15 ≤ d := by omega
    have hd2 : d ≤ 15 := by omega
    obtain ⟨z, hz⟩ : ∃ z, z = y * c + d := ⟨_, rfl⟩
    have hzz : y * c + d = z := hz.symm
    have HCL := Lib.hid (HWI.out z (W.setCell ⟨w.heap.size + 3, 0, none⟩ (.int .i64 z)) ⟨by omega, by omega⟩)
    rw [hzz] at HS
    have c0 := x0.cell; have c3 := x3.cell; have f3 := x3.frozen
    have g1 := x1.frozen; have g2 := x2.frozen; have k1 := x1.cell; have k2 := x2.cell
    have X0 := Lib.hid (x0.other (B' := w.heap.size + 3) (by omega) (.int .i64 z))
    have X1 := Lib.hid (x1.other (B' := w.heap.size + 3) (by omega) (.int .i64 z))
    have X2 := Lib.hid (x2.other (B' := w.heap.size + 3) (by omega) (.int .i64 z))
    have X3 := Lib.hid (x3.set (.int .i64 z))
    have HB2 := Lib.hid (hB.setCell (p := ⟨w.heap.size + 3, 0, none⟩) (by simp) (.int .i64 z))
    have HN1 := Lib.hid ((Below.refl w.heap.size W).setCell (p := ⟨w.heap.size + 3, 0, none⟩) (by simp) (.int .i64 z))
    clear x0 x1 x2 x3 e0 e1 e2 e3 hB5 hd hy hz hin hB
    cases hin2 : inN z
    · rw [hin2] at HCL
      have HIN := Lib.hid hin2
      clear hin2
      gi_wp2
      refine (CallsIn.inRound q (callsIn_wide.2 HCL.out)).mono ?_
      rintro e w' ⟨rfl, rfl⟩
      gi_wp2
      have X1' := (X1.out.set (.int .i64 0)).other (B' := w.heap.size + 1 + 1) (by omega) (.bool false)
      have X2' := (X2.out.other (B' := w.heap.size + 1) (by omega) (.int .i64 0)).set (.bool false)
      exact ⟨((Area.setCell _ _ (.inl (by simp; omega))).trans (Area.setCell _ _ (.inl (by simp; omega)))).trans (Area.setCell _ _ (.inl (by simp; omega))), ⟨rfl, by rw [HS.out]; exact HIN.out, X1', X2'⟩,
        (HB2.out.setCell (p := ⟨w.heap.size + 1, 0, none⟩) (by simp) _).setCell (p := ⟨w.heap.size + 1 + 1, 0, none⟩) (by simp; omega) _⟩
    · rw [hin2] at HCL
      have HIN := Lib.hid hin2
      clear hin2
      gi_wp2
      refine (CallsIn.inRound q (callsIn_wide.2 HCL.out)).mono ?_
      rintro e w' ⟨rfl, rfl⟩
      gi_wp2
      exact ⟨Area.setCell _ _ (.inl (by simp; omega)), HN1.out, ⟨X0.out, X1.out, X2.out, by rw [HS.out]; exact X3.out, by rw [HS.out]; exact HIN.out⟩, HB2.out⟩
  case done =>
    rintro D ys W hD hys ⟨⟨x0, x1, x2, x3, hin⟩, hB⟩ hK
    have hys' : fh c ys = hv c l := by rw [fh, hys, List.reverse_reverse]
    rw [hys'] at x3 hin
    have F0 := Lib.hid (show R0 = hv c l by rw [HE0.out, hin]; rfl)
    have F1 := Lib.hid (show R1 = true by rw [HE1.out, hin])
    obtain ⟨V, hV⟩ : ∃ V, V = hv c l := ⟨_, rfl⟩
    rw [← hV] at x3 F0
    have c3 := x3.cell; have g1 := x1.frozen; have g2 := x2.frozen; have k1 := x1.cell; have k2 := x2.cell
    have HX1 := Lib.hid ((x1.set (.int .i64 V)).other (B' := w.heap.size + 1 + 1) (by omega) (.bool true))
    have HX2 := Lib.hid ((x2.other (B' := w.heap.size + 1) (by omega) (.int .i64 V)).set (.bool true))
    have HB2 := Lib.hid ((hB.setCell (p := ⟨w.heap.size + 1, 0, none⟩) (by simp) (.int .i64 V)).setCell (p := ⟨w.heap.size + 1 + 1, 0, none⟩) (by simp; omega) (.bool true))
    clear x0 x1 x2 x3 e0 e1 e2 e3 hB5 hin hys' hys hV
    gi_wp2
    have hK' := (KeepsOthers.setCell _ ⟨w.heap.size + 1 + 1, 0, none⟩ (.bool true)).same D _ ((KeepsOthers.setCell W ⟨w.heap.size + 1, 0, none⟩ (.int .i64 V)).same D _ hK rfl) rfl
    refine ⟨by simp, .inl ⟨_, _, rfl, run_takeDeferred hK', ?_⟩⟩
    have r1 := cell_shutV HX1.out.cell hK'
    have r2 := cell_shutV HX2.out.cell hK'
    refine ⟨.tuple #[.int .i64 V, .bool true], ?_, by rw [F1.out, F0.out], ?_⟩
    · simp [results, Try.f58, go_sem, r1, r2]
    · exact HB2.out.trans (below_putObj _ (by omega) (by have := heap_lt_of_some hK'; omega))
  case stop =>
    rintro D x pre W hD hpre ⟨⟨rfl, hno, x1, x2⟩, hB⟩ hK
    have hno' := HOUT.out pre hpre hno
    have F0 := Lib.hid (show R0 = 0 by rw [HE0.out, hno']; rfl)
    have F1 := Lib.hid (show R1 = false by rw [HE1.out, hno'])
    clear e0 e1 e2 e3 hB5 hno'
    gi_wp2
    refine ⟨by simp, .inl ⟨_, _, rfl, run_takeDeferred hK, ?_⟩⟩
    have r1 := cell_shutV x1.cell hK
    have r2 := cell_shutV x2.cell hK
    refine ⟨.tuple #[.int .i64 0, .bool false], ?_, by rw [F1.out, F0.out], ?_⟩
    · simp [results, Try.f58, go_sem, r1, r2]
    · exact hB.trans (below_putObj _ (by omega) (by have := heap_lt_of_some hK; omega))

end Go.Proofs.Ytiemhhkoegkleaa
