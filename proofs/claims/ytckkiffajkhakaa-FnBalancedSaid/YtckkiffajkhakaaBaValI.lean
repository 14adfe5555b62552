/- Balanced digits: the program's value of digits. -/
import Derived.Test.YtckkiffajkhakaaBaI1b
import Derived.Test.YtckkiffajkhakaaBaBack
set_option linter.unusedVariables false
set_option linter.unusedSimpArgs false
namespace Go.Proofs.Ytckkiffajkhakaa
open Go.ChangeShapes Go.WideShapes Go.ChangeAt Go.RowKit

attribute [local go_sem] Oper.semAt_some wide_fn wide_depth

/-- the value of digits that come the greatest place first -/
def fb {g : Nat} (pre : List (Sig g)) : Int := bv g (pre.map Subtype.val).reverse
theorem fb_nil (g : Nat) : fb (g := g) [] = 0 := rfl
theorem fb_snoc {g : Nat} (pre : List (Sig g)) (x : Sig g) : fb (pre ++ [x]) = fb pre * (2 * g + 1) + x.1 := by
  simp only [fb, List.map_append, List.map_cons, List.map_nil, List.reverse_append, List.reverse_cons, List.reverse_nil, List.nil_append, List.singleton_append, bv_cons]
  rw [Int.mul_comm]; omega
/-- beyond the bounds, it stays so -/
theorem bv_out {h : Nat} (hh : 1 ≤ h) (hh7 : h ≤ 7) {l : List Int} (hl : AllB h l) : ∀ k, inN (bv h (l.drop k)) = false → inN (bv h l) = false
  | 0, hf => by simpa using hf
  | k + 1, hf => by
    refine bv_out hh hh7 hl k ?_
    have r := at0_rangeB hl k
    rw [bv_at]
    obtain ⟨v, hv⟩ : ∃ v, v = bv h (l.drop (k + 1)) := ⟨_, rfl⟩
    rw [← hv] at hf ⊢
    simp only [inN, inB, Bool.and_eq_false_iff, decide_eq_false_iff_not] at hf ⊢
    rcases hf with hf | hf
    · left
      have h5 : (2 * (h : Int) + 1) * v ≤ 3 * v := by
        have : (2 * (h : Int) + 1) * (-v) ≥ 3 * (-v) := Int.mul_le_mul_of_nonneg_right (by omega) (by omega)
        rw [Int.mul_neg] at this; omega
      omega
    · right
      have h5 : 3 * v ≤ (2 * (h : Int) + 1) * v := Int.mul_le_mul_of_nonneg_right (by omega) (by omega)
      omega
theorem fb_out {g : Nat} (hh : 1 ≤ g) (hh7 : g ≤ 7) {l : List Int} (hl : AllB g l) {pre : List (Sig g)} (hp : pre.map Subtype.val <+: l.reverse) (hf : inN (fb pre) = false) : inN (bv g l) = false := by
  obtain ⟨q, hq⟩ := hp
  have e : l = q.reverse ++ (pre.map Subtype.val).reverse := by
    rw [← List.reverse_append, hq, List.reverse_reverse]
  refine bv_out hh hh7 hl q.length ?_
  rw [e, List.drop_left' (by simp)]
  exact hf

/-- at a function's return, where the block for the rounds' deferred calls is shut -/
theorem cell_shutB {W : World} {D : Nat} {p : Addr} {v : Value} (h : W.cell? p = some v) (hK : W.heap[D]? = some (.deferred (some []))) : (W.putObj D (.deferred none)).cell? p = some v :=
  cell_kept h (grownBy_putObj' _ D (.deferred none)) (fun r e => by cases e; exact ⟨_, hK, rfl⟩)

set_option maxRecDepth 100000 in
set_option maxHeartbeats 4000000 in
theorem implBalancedValue_any (v : Value) (l : List Int) (b : Int) (w : World) (hr : RowAt w v (intsOf l)) (hl : l.length ≤ 1048576) (hi : ∀ n ∈ l, in64 n) (hb : in64 b) :
    Calls Try.prog 29 #[v, .int .i64 b] w fun e w' => e = .returned (.tuple #[.int .i64 (rBalancedValue0 l b), .bool (rBalancedValue1 l b)]) ∧ Below w.heap.size w w' := by
  have HDK := Lib.hid (fun W (hW : Below w.heap.size w W) => implBal_eq v l b W (hr.below hW) hl hi hb)
  have HR := Lib.hid hr
  obtain ⟨aa, cap, rfl, h1, h2, h3⟩ := hr.ints
  unfold maxLen at h2
  have HWI := Lib.hid (fun x W hx => within_any x W hx)
  obtain ⟨W3, hW3⟩ : ∃ W3, (((w.alloc (.cells #[.int .i64 b] 3)).alloc (.cells #[.int .i64 0] 3)).alloc (.cells #[.bool false] 4)) = W3 := ⟨_, rfl⟩
  have hs3 : W3.heap.size = w.heap.size + 3 := by rw [← hW3]; simp
  have b0 : Boxed W3 w.heap.size 3 (.int .i64 b) := by rw [← hW3]; exact ((Boxed.new w _ _).alloc _).alloc _
  have b1 : Boxed W3 (w.heap.size + 1) 3 (.int .i64 0) := by rw [← hW3]; exact (boxed_at _ _ _ (by simp)).alloc _
  have b2 : Boxed W3 (w.heap.size + 1 + 1) 4 (.bool false) := by rw [← hW3]; exact boxed_at _ _ _ (by simp)
  have hB3 : Below w.heap.size w W3 := by
    rw [← hW3]
    exact (((Below.refl _ w).alloc (Nat.le_refl _) _).alloc (by simp) _).alloc (by simp; omega) _
  have HD := Lib.hid (HDK.out W3 hB3)
  refine (callsIn_wide (n := 0)).1 ?_
  refine callsIn_of_wp_marks Try.func29 rfl trivial ?_ rfl
  simp only [Try.ntmps29, List.size_toArray, List.length_cons, List.length_nil, Nat.reduceAdd, Nat.reduceSub, Array.replicate_succ, Array.replicate_zero, List.push_toArray, List.append_toArray, List.nil_append, List.cons_append]
  cases h : okW l b
  · rw [h] at HD
    have E1 := Lib.hid (show rBalancedValue1 l b = false by rw [rBalancedValue1, h]; rfl)
    have E0 := Lib.hid (show rBalancedValue0 l b = 0 by rw [rBalancedValue0, E1.out]; rfl)
    have c0 := b0.cell
    have f1 := b1.frozen; have f2 := b2.frozen; have c1 := b1.cell; have c2 := b2.cell
    have HB1 := Lib.hid b1; have HB2 := Lib.hid b2
    clear h h3 hr b0 b1 b2
    gi_wp2
    refine (callsIn_wide.2 HD.out).mono ?_
    rintro e w' ⟨rfl, rfl⟩
    gi_wp2
    have x1 := (HB1.out.set (.int .i64 0)).other (B' := w.heap.size + 1 + 1) (by omega) (.bool false)
    have x2 := (HB2.out.other (B' := w.heap.size + 1) (by omega) (.int .i64 0)).set (.bool false)
    have r1 := x1.cell
    have r2 := x2.cell
    refine ⟨.tuple #[.int .i64 0, .bool false], ?_, by rw [E1.out, E0.out], ?_⟩
    · simp [results, Try.f29, go_sem, r1, r2]
    · exact (hB3.setCell (p := ⟨w.heap.size + 1, 0, none⟩) (by simp) _).setCell (p := ⟨w.heap.size + 1 + 1, 0, none⟩) (by simp; omega) _
  · rw [h] at HD
    obtain ⟨g, hbe, hg1, hg7, hN, hla⟩ := okW_yes h
    have HE1 := Lib.hid (show rBalancedValue1 l b = inN (bv g l) by rw [rBalancedValue1, h, hbe, hOf_eq]; rfl)
    have HE0 := Lib.hid (show rBalancedValue0 l b = if inN (bv g l) then bv g l else 0 by rw [rBalancedValue0, HE1.out, hbe, hOf_eq])
    have HOUT := Lib.hid (fun (pre : List (Sig g)) hp hf => fb_out hg1 hg7 hN.1 (pre := pre) hp hf)
    have HBE := Lib.hid hbe
    have hb3 : 3 ≤ b := by omega
    have hb15 : b ≤ 15 := by omega
    have hgi : (g : Int) ≤ 7 := by omega
    obtain ⟨W4, hW4⟩ : ∃ W4, W3.alloc (.cells #[.int .i64 0] 3) = W4 := ⟨_, rfl⟩
    have hs4 : W4.heap.size = w.heap.size + 4 := by rw [← hW4]; simp; omega
    have hs4' : (W3.alloc (.cells #[.int .i64 0] 3)).heap.size = w.heap.size + 4 := by simp; omega
    have d0 : Boxed W4 w.heap.size 3 (.int .i64 b) := by rw [← hW4]; exact b0.alloc _
    have d1 : Boxed W4 (w.heap.size + 1) 3 (.int .i64 0) := by rw [← hW4]; exact b1.alloc _
    have d2 : Boxed W4 (w.heap.size + 1 + 1) 4 (.bool false) := by rw [← hW4]; exact b2.alloc _
    have d3 : Boxed W4 (w.heap.size + 3) 3 (.int .i64 0) := by rw [← hW4]; exact boxed_at _ _ _ (by omega)
    have hB4 : Below w.heap.size w W4 := by
      rw [← hW4]
      exact hB3.alloc (by omega) _
    have HLS := Lib.hid (lastB_any g _ l W4 w (by omega) (fun d hd => hN.1 d hd) HR.out hB4)
    have c0 := b0.cell
    have HW4 := Lib.hid hW4
    clear h h3 hr b0 b1 b2 hN hbe hW4
    gi_wp2_with (first
      | (gi_at_call 34; refine (callsIn_wide.2 HD.out).mono ?_; rintro e w' ⟨rfl, rfl⟩)
      | (gi_at_call 70; rw [HW4.out]; refine (callsIn_wide.2 HLS.out).mono ?_; rintro e w5 ⟨rfl, hb5, hs5, hseq⟩; have HB5 := Lib.hid hb5; have HS5 := Lib.hid hs5; have HQ := Lib.hid hseq; clear hb5 hs5 hseq))
    have hs5 : w5.heap.size = w.heap.size + 5 := by have := HS5.out; omega
    have hB5 : Below w.heap.size w w5 := hB4.trans (HB5.out.mono (by omega))
    have e0 : Boxed w5 w.heap.size 3 (.int .i64 b) := boxed_below d0 HB5.out (by omega)
    have e1 : Boxed w5 (w.heap.size + 1) 3 (.int .i64 0) := boxed_below d1 HB5.out (by omega)
    have e2 : Boxed w5 (w.heap.size + 1 + 1) 4 (.bool false) := boxed_below d2 HB5.out (by omega)
    have e3 : Boxed w5 (w.heap.size + 3) 3 (.int .i64 0) := boxed_below d3 HB5.out (by omega)
    have hq := HQ.out
    simp only [hs3, hs4] at *
    clear d0 d1 d2 d3 hB3 HD HDK hW3 hi hb hB4 HB5 HS5 HLS
    refine rangeW (gf := 89) (lb := #[.pointer (some ⟨w.heap.size + 4, 0, none⟩)]) rfl lastB_enters hq Below.trans (below_kb (by omega)) (Below.refl _ _) (fun _ => rfl)
      (fun pre W => (Boxed W w.heap.size 3 (.int .i64 b) ∧ Boxed W (w.heap.size + 1) 3 (.int .i64 0) ∧ Boxed W (w.heap.size + 1 + 1) 4 (.bool false) ∧ Boxed W (w.heap.size + 3) 3 (.int .i64 (fb pre)) ∧ inN (fb pre) = true) ∧ Below w.heap.size w W)
      (fun c pre W => (c = .ret ∧ inN (fb pre) = false ∧ Boxed W (w.heap.size + 1) 3 (.int .i64 0) ∧ Boxed W (w.heap.size + 1 + 1) 4 (.bool false)) ∧ Below w.heap.size w W)
      ?hI ?hIx ?h0 (fun x => { tmps := #[.slice aa l.length cap, .int .i64 b, undef, .pointer (some ⟨w.heap.size, 0, none⟩), .pointer (some ⟨w.heap.size + 1, 0, none⟩), .pointer (some ⟨w.heap.size + 1 + 1, 0, none⟩), .pointer (some ⟨w.heap.size + 3, 0, none⟩), .int .i64 x.1, .slice aa l.length cap, .int .i64 b, .bool true, .bool false, .slice aa l.length cap, .func (.func 89) #[] #[.pointer (some ⟨w.heap.size + 4, 0, none⟩)], .int .i64 x.1, undef, undef, undef, undef, undef, undef, undef, undef, undef], defers := [] }) ?assign ?body ?done ?stop
    case hI =>
      refine OwnFrom.and (Own.from ?_ _) (ownFrom_below (Nat.le_refl _) (by omega))
      exact fun s A C row hs hg hr => ⟨boxed_own _ _ (fun _ : Unit => _) () A C row hs.1 hg hr, boxed_own _ _ (fun _ : Unit => _) () A C row hs.2.1 hg hr, boxed_own _ _ (fun _ : Unit => _) () A C row hs.2.2.1 hg hr, boxed_own _ _ (fun _ : Unit => _) () A C row hs.2.2.2.1 hg hr, hs.2.2.2.2⟩
    case hIx =>
      refine fun c => OwnFrom.and (Own.from ?_ _) (ownFrom_below (Nat.le_refl _) (by omega))
      exact fun s A C row hs hg hr => ⟨hs.1, hs.2.1, boxed_own _ _ (fun _ : Unit => _) () A C row hs.2.2.1 hg hr, boxed_own _ _ (fun _ : Unit => _) () A C row hs.2.2.2 hg hr⟩
    case h0 => exact ⟨⟨e0, e1, e2, e3, rfl⟩, hB5⟩
    case assign =>
      intro q x W K hK
      gi_wp2
      exact hK
    case body =>
      rintro q pre x W ⟨⟨x0, x1, x2, x3, hin⟩, hB⟩ _ hsz _
      obtain ⟨hy1, hy2⟩ := inN_yes hin
      have hx := x.2
      have HS := Lib.hid (fb_snoc pre x)
      obtain ⟨d, hd⟩ : ∃ d, d = x.1 := ⟨_, rfl⟩
      rw [← hd] at hx HS ⊢
      obtain ⟨y, hy⟩ : ∃ y, y = fb pre := ⟨_, rfl⟩
      rw [← hy] at HS hy1 hy2 x3
      rw [← HBE.out] at HS
      have hby1 : y * b ≤ 15000000000000 := by
        have : y * b ≤ 1000000000000 * b := Int.mul_le_mul_of_nonneg_right hy2 (by omega)
        omega
      have hby2 : -15000000000000 ≤ y * b := by
        have : -1000000000000 * b ≤ y * b := Int.mul_le_mul_of_nonneg_right hy1 (by omega)
        omega
      obtain ⟨hx1, hx2⟩ := hx
      have hd1 : -7 ≤ d := by omega
      have hd2 : d ≤ 7 := by omega
      obtain ⟨z, hz⟩ : ∃ z, z = y * b + d := ⟨_, rfl⟩
      have hzz : y * b + d = z := hz.symm
      have HCL := Lib.hid (HWI.out z (W.setCell ⟨w.heap.size + 3, 0, none⟩ (.int .i64 z)) ⟨by omega, by omega⟩)
      rw [hzz] at HS
      have c0 := x0.cell; have c3 := x3.cell; have f3 := x3.frozen
      have g1 := x1.frozen; have g2 := x2.frozen; have k1 := x1.cell; have k2 := x2.cell
      have X0 := Lib.hid (x0.other (B' := w.heap.size + 3) (by omega) (.int .i64 z))
      have X1 := Lib.hid (x1.other (B' := w.heap.size + 3) (by omega) (.int .i64 z))
      have X2 := Lib.hid (x2.other (B' := w.heap.size + 3) (by omega) (.int .i64 z))
      have X3 := Lib.hid (x3.set (.int .i64 z))
      have HB2 := Lib.hid (hB.setCell (p := ⟨w.heap.size + 3, 0, none⟩) (by simp) (.int .i64 z))
      have HN1 := Lib.hid ((Below.refl w.heap.size W).setCell (p := ⟨w.heap.size + 3, 0, none⟩) (by simp) (.int .i64 z))
      clear x0 x1 x2 x3 e0 e1 e2 e3 hB5 hd hy hz hin hB
      cases hin2 : inN z
      · rw [hin2] at HCL
        have HIN := Lib.hid hin2
        clear hin2
        gi_wp2
        refine (CallsIn.inRound q (callsIn_wide.2 HCL.out)).mono ?_
        rintro e w' ⟨rfl, rfl⟩
        gi_wp2
        have X1' := (X1.out.set (.int .i64 0)).other (B' := w.heap.size + 1 + 1) (by omega) (.bool false)
        have X2' := (X2.out.other (B' := w.heap.size + 1) (by omega) (.int .i64 0)).set (.bool false)
        exact ⟨((Area.setCell _ _ (.inl (by simp; omega))).trans (Area.setCell _ _ (.inl (by simp; omega)))).trans (Area.setCell _ _ (.inl (by simp; omega))), ⟨rfl, by rw [HS.out]; exact HIN.out, X1', X2'⟩,
          (HB2.out.setCell (p := ⟨w.heap.size + 1, 0, none⟩) (by simp) _).setCell (p := ⟨w.heap.size + 1 + 1, 0, none⟩) (by simp; omega) _⟩
      · rw [hin2] at HCL
        have HIN := Lib.hid hin2
        clear hin2
        gi_wp2
        refine (CallsIn.inRound q (callsIn_wide.2 HCL.out)).mono ?_
        rintro e w' ⟨rfl, rfl⟩
        gi_wp2
        exact ⟨Area.setCell _ _ (.inl (by simp; omega)), HN1.out, ⟨X0.out, X1.out, X2.out, by rw [HS.out]; exact X3.out, by rw [HS.out]; exact HIN.out⟩, HB2.out⟩
    case done =>
      rintro D ys W hD hys ⟨⟨x0, x1, x2, x3, hin⟩, hB⟩ hK
      have hys' : fb ys = bv g l := by rw [fb, hys, List.reverse_reverse]
      rw [hys'] at x3 hin
      have c3 := x3.cell; have g1 := x1.frozen; have g2 := x2.frozen; have k1 := x1.cell; have k2 := x2.cell
      have HX1 := Lib.hid ((x1.set (.int .i64 (bv g l))).other (B' := w.heap.size + 1 + 1) (by omega) (.bool true))
      have HX2 := Lib.hid ((x2.other (B' := w.heap.size + 1) (by omega) (.int .i64 (bv g l))).set (.bool true))
      have HB2 := Lib.hid ((hB.setCell (p := ⟨w.heap.size + 1, 0, none⟩) (by simp) (.int .i64 (bv g l))).setCell (p := ⟨w.heap.size + 1 + 1, 0, none⟩) (by simp; omega) (.bool true))
      have HV := Lib.hid hin
      clear x0 x1 x2 x3 e0 e1 e2 e3 hB5 hin hys' hys
      gi_wp2
      have hK' := (KeepsOthers.setCell _ ⟨w.heap.size + 1 + 1, 0, none⟩ (.bool true)).same D _ ((KeepsOthers.setCell W ⟨w.heap.size + 1, 0, none⟩ (.int .i64 (bv g l))).same D _ hK rfl) rfl
      refine ⟨by simp, .inl ⟨_, _, rfl, run_takeDeferred hK', ?_⟩⟩
      have r1 := cell_shutB HX1.out.cell hK'
      have r2 := cell_shutB HX2.out.cell hK'
      refine ⟨.tuple #[.int .i64 (bv g l), .bool true], ?_, by rw [HE1.out, HE0.out, HV.out]; rfl, ?_⟩
      · simp [results, Try.f29, go_sem, r1, r2]
      · exact HB2.out.trans (below_putObj _ (by omega) (by have := heap_lt_of_some hK'; omega))
    case stop =>
      rintro D c pre W hD hpre ⟨⟨rfl, hno, x1, x2⟩, hB⟩ hK
      have HNO := Lib.hid (HOUT.out pre hpre hno)
      clear e0 e1 e2 e3 hB5
      gi_wp2
      refine ⟨by simp, .inl ⟨_, _, rfl, run_takeDeferred hK, ?_⟩⟩
      have r1 := cell_shutB x1.cell hK
      have r2 := cell_shutB x2.cell hK
      refine ⟨.tuple #[.int .i64 0, .bool false], ?_, by rw [HE1.out, HE0.out, HNO.out]; rfl, ?_⟩
      · simp [results, Try.f29, go_sem, r1, r2]
      · exact hB.trans (below_putObj _ (by omega) (by have := heap_lt_of_some hK; omega))

end Go.Proofs.Ytckkiffajkhakaa
