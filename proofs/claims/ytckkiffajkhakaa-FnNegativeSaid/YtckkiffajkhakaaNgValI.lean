/- Negative bases: the program's value of digits. -/
import Derived.Test.YtckkiffajkhakaaLgR
import Derived.Test.YtckkiffajkhakaaDgImp
import Derived.Test.YtckkiffajkhakaaNgNext
import Derived.Test.YtckkiffajkhakaaRfBI
set_option linter.unusedVariables false
set_option linter.unusedSimpArgs false
namespace Go.Proofs.Ytckkiffajkhakaa
open Go.ChangeShapes Go.WideShapes Go.ChangeAt Go.RowKit

attribute [local go_sem] Oper.semAt_some wide_fn wide_depth

/-- at a function's return, where the block for the rounds' deferred calls is shut -/
theorem cell_shutI {W : World} {D : Nat} {p : Addr} {v : Value} (h : W.cell? p = some v) (hK : W.heap[D]? = some (.deferred (some []))) : (W.putObj D (.deferred none)).cell? p = some v :=
  cell_kept h (grownBy_putObj' _ D (.deferred none)) (fun r e => by cases e; exact ⟨_, hK, rfl⟩)

/-- beyond the bounds, it stays so -/
theorem nv_out {b : Nat} (hb : 2 ≤ b) (hb16 : b ≤ 16) {l : List Int} (h : AllD b l) : ∀ k, inN (nv b (l.drop k)) = false → inN (nv b l) = false
  | 0, hf => by simpa using hf
  | k + 1, hf => by
    refine nv_out hb hb16 h k ?_
    have r := at0_range hb h k
    rw [nv_at]
    obtain ⟨v, hv⟩ : ∃ v, v = nv b (l.drop (k + 1)) := ⟨_, rfl⟩
    rw [← hv] at hf ⊢
    simp only [inN, inB, Bool.and_eq_false_iff, decide_eq_false_iff_not] at hf ⊢
    rcases hf with hf | hf
    · right
      have h5 : (b : Int) * v ≤ 2 * v := by
        have : (b : Int) * (-v) ≥ 2 * (-v) := Int.mul_le_mul_of_nonneg_right (by omega) (by omega)
        rw [Int.mul_neg] at this; omega
      omega
    · left
      have h5 : 2 * v ≤ (b : Int) * v := Int.mul_le_mul_of_nonneg_right (by omega) (by omega)
      omega

set_option maxRecDepth 100000 in
set_option maxHeartbeats 4000000 in
theorem implNegaValue_any (va : Value) (l : List Int) (b : Int) (w : World) (hr : RowAt w va (intsOf l)) (hl : l.length ≤ 1048576) (hi : ∀ n ∈ l, in64 n) (hb : in64 b) :
    Calls Try.prog 20 #[va, .int .i64 b] w fun e w' => e = .returned (.tuple #[.int .i64 (rNegaValue0 l b), .bool (rNegaValue1 l b)]) ∧ Below w.heap.size w w' := by
  have HRA := Lib.hid hr
  have HDK := Lib.hid (fun W (hW : Below w.heap.size w W) => implDigitsOk_any va l b W (hr.below hW) hl hi hb)
  obtain ⟨aa, cap, rfl, h1, h2, h3⟩ := hr.ints
  unfold maxLen at h2
  have HWI := Lib.hid (fun x W hx => within_any x W hx)
  obtain ⟨W3, hW3⟩ : ∃ W3, (((w.alloc (.cells #[.int .i64 b] 3)).alloc (.cells #[.int .i64 0] 3)).alloc (.cells #[.bool false] 4)) = W3 := ⟨_, rfl⟩
  have hs3 : W3.heap.size = w.heap.size + 3 := by rw [← hW3]; simp
  have b0 : Boxed W3 w.heap.size 3 (.int .i64 b) := by rw [← hW3]; exact ((Boxed.new w _ _).alloc _).alloc _
  have b1 : Boxed W3 (w.heap.size + 1) 3 (.int .i64 0) := by rw [← hW3]; exact (boxed_at _ _ _ (by simp)).alloc _
  have b2 : Boxed W3 (w.heap.size + 1 + 1) 4 (.bool false) := by rw [← hW3]; exact boxed_at _ _ _ (by simp)
  have hB3 : Below w.heap.size w W3 := by
    rw [← hW3]
    exact (((Below.refl _ w).alloc (Nat.le_refl _) _).alloc (by simp) _).alloc (by simp; omega) _
  have HD := Lib.hid (HDK.out W3 hB3)
  refine (callsIn_wide (n := 0)).1 ?_
  refine callsIn_of_wp_marks Try.func20 rfl trivial ?_ rfl
  simp only [Try.ntmps20, List.size_toArray, List.length_cons, List.length_nil, Nat.reduceAdd, Nat.reduceSub, Array.replicate_succ, Array.replicate_zero, List.push_toArray, List.append_toArray, List.nil_append, List.cons_append]
  cases h : okD l b
  · rw [h] at HD
    have E1 := Lib.hid (show rNegaValue1 l b = false by rw [rNegaValue1, h]; rfl)
    have E0 := Lib.hid (show rNegaValue0 l b = 0 by rw [rNegaValue0, E1.out]; rfl)
    have c0 := b0.cell
    have f1 := b1.frozen; have f2 := b2.frozen; have c1 := b1.cell; have c2 := b2.cell
    have HB1 := Lib.hid b1; have HB2 := Lib.hid b2
    clear h h3 hr b0 b1 b2
    gi_wp2
    refine (callsIn_wide.2 HD.out).mono ?_
    rintro e w' ⟨rfl, rfl⟩
    gi_wp2
    have x1 := (HB1.out.set (.int .i64 0)).other (B' := w.heap.size + 1 + 1) (by omega) (.bool false)
    have x2 := (HB2.out.other (B' := w.heap.size + 1) (by omega) (.int .i64 0)).set (.bool false)
    have r1 := x1.cell
    have r2 := x2.cell
    refine ⟨.tuple #[.int .i64 0, .bool false], ?_, by rw [E1.out, E0.out], ?_⟩
    · simp [results, Try.f20, go_sem, r1, r2]
    · exact (hB3.setCell (p := ⟨w.heap.size + 1, 0, none⟩) (by simp) _).setCell (p := ⟨w.heap.size + 1 + 1, 0, none⟩) (by simp; omega) _
  · rw [h] at HD
    obtain ⟨b, rfl, hb2, hb16, hN, hla⟩ := nat_of_ok h
    have HN := Lib.hid hN
    have HE1 := Lib.hid (show rNegaValue1 l b = inN (nv b l) by rw [rNegaValue1, h, nvI_nat]; rfl)
    have HE0 := Lib.hid (show rNegaValue0 l b = if inN (nv b l) then nv b l else 0 by rw [rNegaValue0, HE1.out, nvI_nat])
    obtain ⟨W5, hW5⟩ : ∃ W5, (W3.alloc (.cells #[.int .i64 0] 3)).alloc (.cells #[.slice aa l.length cap] 24) = W5 := ⟨_, rfl⟩
    have hs5 : W5.heap.size = w.heap.size + 5 := by rw [← hW5]; simp; omega
    have d0 : Boxed W5 w.heap.size 3 (.int .i64 b) := by rw [← hW5]; exact (b0.alloc _).alloc _
    have d1 : Boxed W5 (w.heap.size + 1) 3 (.int .i64 0) := by rw [← hW5]; exact (b1.alloc _).alloc _
    have d2 : Boxed W5 (w.heap.size + 1 + 1) 4 (.bool false) := by rw [← hW5]; exact (b2.alloc _).alloc _
    have d3 : Boxed W5 (w.heap.size + 3) 3 (.int .i64 0) := by rw [← hW5]; exact (boxed_at _ _ _ (by omega)).alloc _
    have d4 : Boxed W5 (w.heap.size + 3 + 1) 24 (.slice aa l.length cap) := by rw [← hW5]; exact boxed_at _ _ _ (by simp; omega)
    have hB5 : Below w.heap.size w W5 := by
      rw [← hW5]
      exact (hB3.alloc (by omega) _).alloc (by simp; omega) _
    have c0 := b0.cell
    clear h h3 hr b0 b1 b2 hN
    gi_wp2_with (first
      | (gi_at_call 23; refine (callsIn_wide.2 HD.out).mono ?_; rintro e w' ⟨rfl, rfl⟩)
      | (gi_at_call 63; refine (callsIn_wide.2 (backLI_any _ _ _ _)).mono ?_; rintro e w' ⟨rfl, rfl⟩))
    simp only [World.size_alloc, hs3] at *
    clear hW3 hB3 HD HDK hW5 hi hb
    have hz0 : nv b (l.drop l.length) = 0 := by rw [List.drop_length]; rfl
    refine rangeBI (sa := aa) (cap := cap) (fun k d => ∃ h : k < l.length, d = l[k]) rfl (show l.length ≤ 1000000 by omega) rfl
      (fun k W => (Boxed W w.heap.size 3 (.int .i64 b) ∧ Boxed W (w.heap.size + 1) 3 (.int .i64 0) ∧ Boxed W (w.heap.size + 1 + 1) 4 (.bool false) ∧ Boxed W (w.heap.size + 3) 3 (.int .i64 (nv b (l.drop k))) ∧ Boxed W (w.heap.size + 3 + 1) 24 (.slice aa l.length cap) ∧ inN (nv b (l.drop k)) = true) ∧ Below w.heap.size w W)
      (fun cd k W => (cd = .ret ∧ Boxed W (w.heap.size + 1) 3 (.int .i64 0) ∧ Boxed W (w.heap.size + 1 + 1) 4 (.bool false) ∧ inN (nv b l) = false) ∧ Below w.heap.size w W)
      ?hI ?hIx ?h0 ?hrd (fun k d => { tmps := #[.slice aa l.length cap, .int .i64 b, undef, .pointer (some ⟨w.heap.size, 0, none⟩), .pointer (some ⟨w.heap.size + 1, 0, none⟩), .pointer (some ⟨w.heap.size + 1 + 1, 0, none⟩), .pointer (some ⟨w.heap.size + 3, 0, none⟩), undef, .int .i64 d, .slice aa l.length cap, .int .i64 b, .bool true, .bool false, .slice aa l.length cap, .func (.func 86) #[] #[.pointer (some ⟨w.heap.size + 3 + 1, 0, none⟩)], .int .i64 k, .int .i64 d, undef, undef, undef, undef, undef, undef, undef, undef, undef, undef], defers := [] }) ?assign ?body ?done ?stop
    case hI =>
      refine OwnFrom.and (Own.from ?_ _) (ownFrom_below (Nat.le_refl _) (by omega))
      exact fun s A C row hs hg hr => ⟨boxed_own _ _ (fun _ : Unit => _) () A C row hs.1 hg hr, boxed_own _ _ (fun _ : Unit => _) () A C row hs.2.1 hg hr, boxed_own _ _ (fun _ : Unit => _) () A C row hs.2.2.1 hg hr, boxed_own _ _ (fun _ : Unit => _) () A C row hs.2.2.2.1 hg hr, boxed_own _ _ (fun _ : Unit => _) () A C row hs.2.2.2.2.1 hg hr, hs.2.2.2.2.2⟩
    case hIx =>
      refine fun cd => OwnFrom.and (Own.from ?_ _) (ownFrom_below (Nat.le_refl _) (by omega))
      exact fun s A C row hs hg hr => ⟨hs.1, boxed_own _ _ (fun _ : Unit => _) () A C row hs.2.1 hg hr, boxed_own _ _ (fun _ : Unit => _) () A C row hs.2.2.1 hg hr, hs.2.2.2⟩
    case h0 => exact ⟨⟨d0, d1, d2, by rw [hz0]; exact d3, d4, by rw [hz0]; rfl⟩, hB5⟩
    case hrd =>
      rintro k X ⟨⟨_, _, _, _, x4, _⟩, hB⟩ hk
      refine ⟨x4.cell, fun j hj => ?_⟩
      have hja : j < l.length := by omega
      obtain ⟨a', cap2, e', _, _, h3⟩ := HRA.out.ints
      injection e' with e1 e2 e3
      subst e1
      obtain ⟨ba, oa, rfl, hba, hcell⟩ := h3.resolve_left (fun e => by rw [e] at hja; simp at hja)
      exact ⟨l[j], ba, oa, rfl, ⟨hja, rfl⟩, by rw [hB.cell (p := ⟨ba, oa + j, none⟩) hba]; exact hcell j hja⟩
    case assign =>
      intro lb k d W K hK
      gi_wp2
      exact hK
    case body =>
      rintro lb k d W hk ⟨hka, rfl⟩ ⟨⟨x0, x1, x2, x3, x4, hin⟩, hB⟩ hsz hbk
      obtain ⟨hy1, hy2⟩ := inN_yes hin
      have hat := nv_at b l k
      rw [at0_lt hka] at hat
      have hdr := HN.out.1 _ (List.getElem_mem hka)
      have hout := nv_out hb2 hb16 HN.out.1 k
      obtain ⟨d, hd⟩ : ∃ d, d = l[k] := ⟨_, rfl⟩
      obtain ⟨y, hy⟩ : ∃ y, y = nv b (l.drop (k + 1)) := ⟨_, rfl⟩
      obtain ⟨z, hz⟩ : ∃ z, z = nv b (l.drop k) := ⟨_, rfl⟩
      rw [← hd] at hdr hat ⊢
      rw [← hy] at hat hy1 hy2 x3
      rw [← hz] at hat hout
      have HZ := Lib.hid hz
      have hby1 : y * b ≤ 16000000000000 := by
        have : y * b ≤ 1000000000000 * b := Int.mul_le_mul_of_nonneg_right hy2 (by omega)
        omega
      have hby2 : -16000000000000 ≤ y * b := by
        have : -1000000000000 * b ≤ y * b := Int.mul_le_mul_of_nonneg_right hy1 (by omega)
        omega
      have hnb : y * -(b : Int) = -(y * b) := Int.mul_neg _ _
      have hzz : -(y * (b : Int)) + d = z := by rw [hat, Int.mul_comm (b : Int) y]; omega
      have hz1 : -16000000000000 ≤ z := by rw [← hzz]; omega
      have hz2 : z ≤ 16000000000015 := by rw [← hzz]; omega
      have HCL := Lib.hid (HWI.out z (W.setCell ⟨w.heap.size + 3, 0, none⟩ (.int .i64 z)) ⟨by omega, by omega⟩)
      have c0 := x0.cell; have c3 := x3.cell; have f3 := x3.frozen
      have g1 := x1.frozen; have g2 := x2.frozen; have k1 := x1.cell; have k2 := x2.cell
      have X0 := Lib.hid (x0.other (B' := w.heap.size + 3) (by omega) (.int .i64 z))
      have X1 := Lib.hid (x1.other (B' := w.heap.size + 3) (by omega) (.int .i64 z))
      have X2 := Lib.hid (x2.other (B' := w.heap.size + 3) (by omega) (.int .i64 z))
      have X3 := Lib.hid (x3.set (.int .i64 z))
      have X4 := Lib.hid (x4.other (B' := w.heap.size + 3) (by omega) (.int .i64 z))
      have HB2 := Lib.hid (hB.setCell (p := ⟨w.heap.size + 3, 0, none⟩) (by simp) (.int .i64 z))
      have hb1 : -(y * (b : Int)) ≤ 16000000000000 := by omega
      clear x0 x1 x2 x3 x4 d0 d1 d2 d3 d4 hB5 hat hd hy hz hin HRA hB
      cases hin2 : inN z
      · have HO := Lib.hid (hout hin2)
        rw [hin2] at HCL
        clear hin2 hout
        gi_wp2
        refine (CallsIn.inRound lb (callsIn_wide.2 HCL.out)).mono ?_
        rintro e w' ⟨rfl, rfl⟩
        gi_wp2
        have X1' := (X1.out.set (.int .i64 0)).other (B' := w.heap.size + 1 + 1) (by omega) (.bool false)
        have X2' := (X2.out.other (B' := w.heap.size + 1) (by omega) (.int .i64 0)).set (.bool false)
        exact ⟨((Area.setCell _ _ (.inl (by simp; omega))).trans (Area.setCell _ _ (.inl (by simp; omega)))).trans (Area.setCell _ _ (.inl (by simp; omega))), ⟨rfl, X1', X2', HO.out⟩,
          (HB2.out.setCell (p := ⟨w.heap.size + 1, 0, none⟩) (by simp) _).setCell (p := ⟨w.heap.size + 1 + 1, 0, none⟩) (by simp; omega) _⟩
      · rw [hin2] at HCL
        have HI2 := Lib.hid hin2
        clear hin2 hout
        gi_wp2
        refine (CallsIn.inRound lb (callsIn_wide.2 HCL.out)).mono ?_
        rintro e w' ⟨rfl, rfl⟩
        gi_wp2
        exact ⟨Area.setCell _ _ (.inl (by simp; omega)), ⟨X0.out, X1.out, X2.out, by rw [← HZ.out]; exact X3.out, X4.out, by rw [← HZ.out]; exact HI2.out⟩, HB2.out⟩
    case done =>
      rintro D W hD ⟨⟨x0, x1, x2, x3, x4, hin⟩, hB⟩ hK
      rw [List.drop_zero] at x3 hin
      have c3 := x3.cell; have g1 := x1.frozen; have g2 := x2.frozen; have k1 := x1.cell; have k2 := x2.cell
      have HX1 := Lib.hid ((x1.set (.int .i64 (nv b l))).other (B' := w.heap.size + 1 + 1) (by omega) (.bool true))
      have HX2 := Lib.hid ((x2.other (B' := w.heap.size + 1) (by omega) (.int .i64 (nv b l))).set (.bool true))
      have HB2 := Lib.hid ((hB.setCell (p := ⟨w.heap.size + 1, 0, none⟩) (by simp) (.int .i64 (nv b l))).setCell (p := ⟨w.heap.size + 1 + 1, 0, none⟩) (by simp; omega) (.bool true))
      have HV := Lib.hid hin
      clear x0 x1 x2 x3 x4 d0 d1 d2 d3 d4 hB5 hin HRA
      gi_wp2
      have hK' := (KeepsOthers.setCell _ ⟨w.heap.size + 1 + 1, 0, none⟩ (.bool true)).same D _ ((KeepsOthers.setCell W ⟨w.heap.size + 1, 0, none⟩ (.int .i64 (nv b l))).same D _ hK rfl) rfl
      refine ⟨by simp, .inl ⟨_, _, rfl, run_takeDeferred hK', ?_⟩⟩
      have r1 := cell_shutI HX1.out.cell hK'
      have r2 := cell_shutI HX2.out.cell hK'
      refine ⟨.tuple #[.int .i64 (nv b l), .bool true], ?_, by rw [HE1.out, HE0.out, HV.out]; rfl, ?_⟩
      · simp [results, Try.f20, go_sem, r1, r2]
      · exact HB2.out.trans (below_putObj _ (by omega) (by have := heap_lt_of_some hK'; omega))
    case stop =>
      rintro D cd k W hD hk ⟨⟨rfl, x1, x2, hno⟩, hB⟩ hK
      clear d0 d1 d2 d3 d4 hB5 HRA
      gi_wp2
      refine ⟨by simp, .inl ⟨_, _, rfl, run_takeDeferred hK, ?_⟩⟩
      have r1 := cell_shutI x1.cell hK
      have r2 := cell_shutI x2.cell hK
      refine ⟨.tuple #[.int .i64 0, .bool false], ?_, by rw [HE1.out, HE0.out, hno]; rfl, ?_⟩
      · simp [results, Try.f20, go_sem, r1, r2]
      · exact hB.trans (below_putObj _ (by omega) (by have := heap_lt_of_some hK; omega))

end Go.Proofs.Ytckkiffajkhakaa
