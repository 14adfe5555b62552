/- Digits: the program's functions that range over the digits of a number. -/
import Derived.Test.YtiemhhkoegkleaaDgLeaf
import Derived.Test.YtiemhhkoegkleaaDgImp
import Derived.Test.YtiemhhkoegkleaaDgNum
import Derived.Test.YtiemhhkoegkleaaSumOf
set_option linter.unusedVariables false
set_option linter.unusedSimpArgs false
set_option maxRecDepth 100000
namespace Go.Proofs.Ytiemhhkoegkleaa
open Go.ChangeShapes Go.WideShapes Go.ChangeAt Go.RowKit

attribute [local go_sem] Oper.semAt_some wide_fn wide_depth

theorem each_enters : ∀ args w, (callFunc 80 args).run Try.prog w = .ok (.enter 80 args) w :=
  enters_of Try.func80 (by kernel_rfl) rfl

set_option maxRecDepth 100000 in
set_option maxHeartbeats 4000000 in
theorem implCountDigits_any (n b : Int) (w : World) (hn : in64 n) (hb : in64 b) :
    Calls Try.prog 12 #[.int .i64 n, .int .i64 b] w fun e w' => e = .returned (.int .i64 (rCountDigits0 n b)) ∧ Below w.heap.size w w' := by
  cases h : okN n b
  · have HC := Lib.hid (each_no n b w hn hb h)
    rw [show rCountDigits0 n b = -1 by simp [rCountDigits0, h]]
    clear h hn hb
    go_enter Try.func12, Try.ntmps12
    go_wp2_with (go_at_call 49; refine HC.out.mono ?_; rintro e w1 ⟨rfl, hB⟩)
    go_ret
    exact ⟨rfl, hB⟩
  · obtain ⟨n, b, rfl, rfl, hb2, hb16, hn12⟩ := okN_nats h
    have HE := Lib.hid (show rCountDigits0 n b = (dg b n).length by rw [rCountDigits0, if_pos h]; rfl)
    clear h hn hb
    refine (callsIn_wide (n := 0)).1 ?_
    refine callsIn_of_wp_marks Try.func12 rfl trivial ?_ rfl
    simp only [Try.ntmps12, List.size_toArray, List.length_cons, List.length_nil, Nat.reduceAdd, Nat.reduceSub, Array.replicate_succ, Array.replicate_zero, List.push_toArray, List.append_toArray, List.nil_append, List.cons_append]
    gi_wp2_with (gi_at_call 49; refine (callsIn_wide.2 (each_yes n b _ hb2 hb16 hn12)).mono ?_; rintro e w1 ⟨rfl, hB1, hs1, hseq⟩; have HS1 := Lib.hid hs1; have hle1 := Nat.le_of_eq hs1.symm; clear hs1)
    have h40 := dg_len40 hb2 hn12
    have b0 := Boxed.new w1 3 (.int .i64 0)
    have hB0 : Below w.heap.size w (w1.alloc (.cells #[.int .i64 0] 3)) := hB1.alloc hB1.size _
    refine rangeW (gf := 80) (lb := #[.pointer (some ⟨w.heap.size, 0, none⟩), .pointer (some ⟨w.heap.size + 1, 0, none⟩)]) rfl each_enters hseq Below.trans (below_kb (by simp; omega)) ((Below.refl _ _).alloc (Nat.le_refl _) _) (fun _ => rfl)
      (fun pre W => (Boxed W w1.heap.size 3 (.int .i64 pre.length)) ∧ Below w.heap.size w W) (fun _ _ _ => False)
      (OwnFrom.and (Own.from (boxed_own _ _ (fun s : List Dig => _)) _) (ownFrom_below (Nat.le_refl _) (by simp; omega))) (fun _ _ _ _ _ hs _ _ => hs) ⟨b0, hB0⟩
      (fun x => { tmps := #[.int .i64 n, .int .i64 b, undef, undef, .int .i64 0, eachFn w.heap.size, .bool true, .pointer (some ⟨w1.heap.size, 0, none⟩), .tuple #[eachFn w.heap.size, .bool true], .int .i64 n, .int .i64 b, .tuple #[eachFn w.heap.size, .bool true], eachFn w.heap.size, .bool true, .bool true, .bool false, eachFn w.heap.size, .int .i64 x.1, undef, undef, undef], defers := [] }) ?assign ?body ?done ?stop
    case assign =>
      intro l x W K hK
      gi_wp2
      simpa using hK
    case body =>
      rintro l pre x W ⟨bx, hB⟩ hlen hsz _
      simp only [World.size_alloc] at hsz ⊢
      have cx := bx.cell; have fx := bx.frozen
      have BX := Lib.hid bx
      clear bx
      gi_wp2
      exact ⟨Area.setCell _ _ (.inl (by simp)), (Below.refl _ _).setCell (p := ⟨w1.heap.size, 0, none⟩) (by simp; omega) _, by simpa using BX.out.set _, hB.setCell (p := ⟨w1.heap.size, 0, none⟩) (by simp; omega) _⟩
    case done =>
      rintro D ys W hD hys ⟨bx, hB⟩ hK
      have hD' : w1.heap.size + 1 ≤ D := by simpa using hD
      have cx := bx.cell
      gi_wp2
      refine ⟨by simp, .inl ⟨_, _, rfl, run_takeDeferred hK, ?_⟩⟩
      refine ⟨_, results_tmp rfl _ _ _, ?_, hB.trans (below_putObj _ (by omega) (by have := heap_lt_of_some hK; omega))⟩
      rw [HE.out, ← hys, List.length_map]; rfl
    case stop =>
      rintro D c pre W _ _ h _
      exact h.elim

set_option maxHeartbeats 4000000 in
theorem implDigitSum_any (n b : Int) (w : World) (hn : in64 n) (hb : in64 b) :
    Calls Try.prog 17 #[.int .i64 n, .int .i64 b] w fun e w' => e = .returned (.int .i64 (rDigitSum0 n b)) ∧ Below w.heap.size w w' := by
  cases h : okN n b
  · have HC := Lib.hid (each_no n b w hn hb h)
    rw [show rDigitSum0 n b = -1 by simp [rDigitSum0, h]]
    clear h hn hb
    go_enter Try.func17, Try.ntmps17
    go_wp2_with (go_at_call 49; refine HC.out.mono ?_; rintro e w1 ⟨rfl, hB⟩)
    go_ret
    exact ⟨rfl, hB⟩
  · obtain ⟨n, b, rfl, rfl, hb2, hb16, hn12⟩ := okN_nats h
    have HE := Lib.hid (show rDigitSum0 n b = (dg b n).sum by rw [rDigitSum0, if_pos h]; rfl)
    have HY := Lib.hid (each_yes n b w hb2 hb16 hn12)
    have HL := Lib.hid (dg_len40 hb2 hn12)
    clear h hn hb
    go_enter Try.func17, Try.ntmps17
    go_wp2_with fail
    refine HY.out.mono ?_
    rintro e w1 ⟨rfl, hB1, hs1, hseq⟩
    have HS := Lib.hid (sumOf_any _ _ _ _ (dg b n) w1 (by have := HL.out; omega) (by omega) each_enters hseq)
    have HB := Lib.hid (And.intro hB1 hB1.size)
    clear hseq hs1 hB1
    go_wp2_with fail
    refine HS.out.mono ?_
    rintro e w2 ⟨rfl, hB2⟩
    go_wp2_with fail
    go_ret
    exact ⟨by rw [HE.out]; rfl, HB.out.1.trans (hB2.mono HB.out.2)⟩

set_option maxRecDepth 100000 in
set_option maxHeartbeats 4000000 in
theorem implDigitAt_any (n b k : Int) (w : World) (hn : in64 n) (hb : in64 b) (hk : in64 k) :
    Calls Try.prog 15 #[.int .i64 n, .int .i64 b, .int .i64 k] w fun e w' => e = .returned (.int .i64 (rDigitAt0 n b k)) ∧ Below w.heap.size w w' := by
  obtain ⟨hk0, hk1⟩ := hk
  obtain ⟨v, hv⟩ : ∃ v, v = (w.alloc (.cells #[.int .i64 k] 3)).alloc (.cells #[.int .i64 0] 3) := ⟨_, rfl⟩
  have k0 := Boxed.new w 3 (.int .i64 k)
  have r0 := Boxed.new (w.alloc (.cells #[.int .i64 k] 3)) 3 (.int .i64 0)
  rw [World.size_alloc] at r0
  have K0 := Lib.hid (show Boxed v w.heap.size 3 (.int .i64 k) by rw [hv]; exact k0.alloc _)
  have R0 := Lib.hid (show Boxed v (w.heap.size + 1) 3 (.int .i64 0) by rw [hv]; exact r0)
  have HV := Lib.hid (show Below w.heap.size w v by rw [hv]; exact ((Below.refl _ _).alloc (Nat.le_refl _) _).alloc (by simp) _)
  have hvs : v.heap.size = w.heap.size + 2 := by rw [hv]; simp
  have HVS := Lib.hid hvs
  have HVE := Lib.hid hv.symm
  clear hv k0 r0 hvs
  by_cases hin : okN n b = true ∧ inB k 0 59 = true
  · obtain ⟨h, hkk⟩ := hin
    obtain ⟨hk0', hk59⟩ := inB_yes hkk
    obtain ⟨n, b, rfl, rfl, hb2, hb16, hn12⟩ := okN_nats h
    have HE := Lib.hid (show rDigitAt0 n b k = (dg b n).getD k.toNat 0 by rw [rDigitAt0, if_pos (by rw [h, hkk]; rfl)]; rfl)
    clear h hn hb hkk
    refine (callsIn_wide (n := 0)).1 ?_
    refine callsIn_of_wp_marks Try.func15 rfl trivial ?_ rfl
    simp only [Try.ntmps15, List.size_toArray, List.length_cons, List.length_nil, Nat.reduceAdd, Nat.reduceSub, Array.replicate_succ, Array.replicate_zero, List.push_toArray, List.append_toArray, List.nil_append, List.cons_append]
    gi_wp2_with (gi_at_call 49; rw [HVE.out]; refine (callsIn_wide.2 (each_yes n b _ hb2 hb16 hn12)).mono ?_; rintro e w1 ⟨rfl, hB1, hs1, hseq⟩; have HS1 := Lib.hid hs1; have HQ := Lib.hid hseq; have kx := (hB1.block _ (by rw [HVS.out]; omega)).trans K0.out; have ck := Boxed.cell kx; have fk := Boxed.frozen kx; have rx := (hB1.block _ (by rw [HVS.out]; omega)).trans R0.out; have cr := Boxed.cell rx; have fr := Boxed.frozen rx; have KX := Lib.hid kx; have RX := Lib.hid rx; have HB1 := Lib.hid hB1; clear hs1 hseq kx rx hB1)
    have b0 := Boxed.new w1 3 (.int .i64 0)
    have hB0 : Below w.heap.size w (w1.alloc (.cells #[.int .i64 0] 3)) := (HV.out.trans (HB1.out.mono HV.out.size)).alloc (by have := HS1.out; have := HVS.out; omega) _
    have hw1 : w.heap.size + 4 = w1.heap.size := by have := HS1.out; have := HVS.out; omega
    have HW1 := Lib.hid hw1
    refine rangeW (gf := 80) (lb := #[.pointer (some ⟨v.heap.size, 0, none⟩), .pointer (some ⟨v.heap.size + 1, 0, none⟩)]) rfl each_enters HQ.out Below.trans (below_kb (by have := HS1.out; simp; omega)) ((Below.refl _ _).alloc (Nat.le_refl _) _) (fun _ => rfl)
      (fun pre W => (Boxed W w.heap.size 3 (.int .i64 k) ∧ Boxed W (w.heap.size + 1) 3 (.int .i64 0) ∧ Boxed W w1.heap.size 3 (.int .i64 pre.length) ∧ pre.length ≤ k.toNat) ∧ Below w.heap.size w W)
      (fun c pre W => (c = .ret ∧ ∃ (ini : List Dig) (x : Dig), pre = ini ++ [x] ∧ ini.length = k.toNat ∧ Boxed W (w.heap.size + 1) 3 (.int .i64 x.1)) ∧ Below w.heap.size w W)
      ?hI ?hIx ⟨⟨Boxed.alloc KX.out _, Boxed.alloc RX.out _, b0, Nat.zero_le _⟩, hB0⟩
      (fun x => { tmps := #[.int .i64 n, .int .i64 b, .int .i64 k, undef, undef, .pointer (some ⟨w.heap.size, 0, none⟩), .pointer (some ⟨w.heap.size + 1, 0, none⟩), eachFn v.heap.size, .bool true, .pointer (some ⟨w1.heap.size, 0, none⟩), .int .i64 x.1, .tuple #[eachFn v.heap.size, .bool true], .int .i64 n, .int .i64 b, .tuple #[eachFn v.heap.size, .bool true], eachFn v.heap.size, .bool true, .bool true, .bool false, .bool false, .int .i64 k, .bool (decide (k < 0)), .bool (decide (k < 0)), .bool (decide (k < 0)), .int .i64 k, .bool (decide (60 ≤ k)), .bool (decide (k < 0) || decide (60 ≤ k)), eachFn v.heap.size, .int .i64 x.1, undef, undef, undef, undef, undef, undef], defers := [] }) ?assign ?body ?done ?stop
    case hI =>
      refine OwnFrom.and (Own.from ?_ _) (ownFrom_below (Nat.le_refl _) (by simp; omega))
      exact fun s A C row hs hg hr => ⟨boxed_own _ _ (fun _ : Unit => _) () A C row hs.1 hg hr, boxed_own _ _ (fun _ : Unit => _) () A C row hs.2.1 hg hr, boxed_own _ _ (fun _ : Unit => _) () A C row hs.2.2.1 hg hr, hs.2.2.2⟩
    case hIx =>
      refine fun c => OwnFrom.and (Own.from ?_ _) (ownFrom_below (Nat.le_refl _) (by simp; omega))
      rintro s A C row ⟨hc, ini, x, e1, e2, hb⟩ hg hr
      exact ⟨hc, ini, x, e1, e2, boxed_own _ _ (fun _ : Unit => _) () A C row hb hg hr⟩
    case assign =>
      intro l x W K hK
      gi_wp2
      exact hK
    case body =>
      rintro l pre x W ⟨⟨x0, x1, x2, hle⟩, hB⟩ hlen hsz _
      simp only [World.size_alloc] at hsz ⊢
      have c0 := x0.cell; have c1 := x1.cell; have c2 := x2.cell
      have f1 := x1.frozen; have f2 := x2.frozen
      have X0 := Lib.hid x0; have X1 := Lib.hid x1; have X2 := Lib.hid x2; have HB := Lib.hid hB
      have hlen40 : pre.length ≤ 40 := by have := dg_len40 hb2 hn12; omega
      clear x0 x1 x2 hB
      by_cases heq : (pre.length : Int) = k
      · have hbq : ((pre.length : Int) == k) = true := by simpa using heq
        have HEQ := Lib.hid heq
        clear heq
        gi_wp2
        exact ⟨Area.setCell _ _ (.inl (by simp; omega)), ⟨rfl, pre, x, rfl, by have := HEQ.out; omega, X1.out.set _⟩, HB.out.setCell (p := ⟨w.heap.size + 1, 0, none⟩) (by simp) _⟩
      · have hbq : ((pre.length : Int) == k) = false := by simpa using heq
        have HEQ := Lib.hid (show pre.length + 1 ≤ k.toNat by omega)
        clear heq
        gi_wp2
        exact ⟨Area.setCell _ _ (.inl (by simp)), (Below.refl _ _).setCell (p := ⟨w1.heap.size, 0, none⟩) (by have := HS1.out; simp; omega) _,
          ⟨X0.out.other (by omega) _, X1.out.other (by omega) _, by simpa using X2.out.set _, by have := HEQ.out; simpa using this⟩, HB.out.setCell (p := ⟨w1.heap.size, 0, none⟩) (by simp; omega) _⟩
    case done =>
      rintro D ys W hD hys ⟨⟨x0, x1, x2, hle⟩, hB⟩ hK
      have hD' : w1.heap.size + 1 ≤ D := by simpa using hD
      have c1 := x1.cell; have f1 := x1.frozen
      have X1 := Lib.hid x1; have HB := Lib.hid hB
      clear x0 x1 x2 hB hD
      gi_wp2
      have hK' := (KeepsOthers.setCell W ⟨w.heap.size + 1, 0, none⟩ (.int .i64 0)).same D _ hK rfl
      refine ⟨by simp, .inl ⟨_, _, rfl, run_takeDeferred hK', ?_⟩⟩
      have r1 := cell_shut (X1.out.set (.int .i64 0)).cell hK'
      refine ⟨.int .i64 0, ?_, ?_, (HB.out.setCell (p := ⟨w.heap.size + 1, 0, none⟩) (by simp) _).trans (below_putObj _ (by omega) (by have := heap_lt_of_some hK'; omega))⟩
      · simp [results, Try.f15, go_sem, r1]
      · rw [HE.out, List.getD_eq_getElem?_getD, List.getElem?_eq_none (by rw [← hys, List.length_map]; exact hle)]; rfl
    case stop =>
      rintro D c pre W hD hpre ⟨⟨rfl, ini, x, rfl, hil, hb⟩, hB⟩ hK
      have hD' : w1.heap.size + 1 ≤ D := by simpa using hD
      have r1 := cell_shut hb.cell hK
      clear hD
      gi_wp2
      refine ⟨by simp, .inl ⟨_, _, rfl, run_takeDeferred hK, ?_⟩⟩
      refine ⟨.int .i64 x.1, ?_, ?_, hB.trans (below_putObj _ (by omega) (by have := heap_lt_of_some hK; omega))⟩
      · simp [results, Try.f15, go_sem, r1]
      · rw [HE.out]
        obtain ⟨q, hq⟩ := hpre
        rw [← hq, List.getD_eq_getElem?_getD, ← hil]
        simp
  · have HE := Lib.hid (show rDigitAt0 n b k = -1 by
      rw [rDigitAt0, if_neg (by simpa using hin)])
    cases h : okN n b
    · have HC := Lib.hid (fun W => each_no n b W hn hb h)
      clear h hn hb hin
      go_enter Try.func15, Try.ntmps15
      go_wp2_with (go_at_call 49; rw [HVE.out]; refine (HC.out _).mono ?_; rintro e w1 ⟨rfl, hB1⟩; have rx := (hB1.block _ (by rw [HVS.out]; omega)).trans R0.out; have cr := Boxed.cell rx; have fr := Boxed.frozen rx; have RX := Lib.hid rx; have HB1 := Lib.hid hB1; clear rx hB1)
      have r1 := (Boxed.set (.int .i64 (-1)) RX.out).cell
      refine bodyPost_ret (v := .int .i64 (-1)) (by simp [results, Try.f15, go_sem, r1]) rfl ?_
      exact ⟨by rw [HE.out], (HV.out.trans (HB1.out.mono HV.out.size)).setCell (p := ⟨w.heap.size + 1, 0, none⟩) (by simp) _⟩
    · have hkb : inB k 0 59 = false := by
        cases hk : inB k 0 59
        · rfl
        · exact absurd ⟨h, hk⟩ hin
      have hkc : k < 0 ∨ 60 ≤ k := by simp [inB] at hkb; omega
      obtain ⟨n, b, rfl, rfl, hb2, hb16, hn12⟩ := okN_nats h
      clear h hn hb hin hkb
      rcases hkc with hkc | hkc
      all_goals
        go_enter Try.func15, Try.ntmps15
        go_wp2_with (go_at_call 49; rw [HVE.out]; refine (each_yes n b _ hb2 hb16 hn12).mono ?_; rintro e w1 ⟨rfl, hB1, hs1, hseq⟩; have kx := (hB1.block _ (by rw [HVS.out]; omega)).trans K0.out; have ck := Boxed.cell kx; have fk := Boxed.frozen kx; have rx := (hB1.block _ (by rw [HVS.out]; omega)).trans R0.out; have cr := Boxed.cell rx; have fr := Boxed.frozen rx; have RX := Lib.hid rx; have HB1 := Lib.hid hB1; clear hs1 hseq kx rx hB1)
        have r1 := (Boxed.set (.int .i64 (-1)) RX.out).cell
        refine bodyPost_ret (v := .int .i64 (-1)) (by simp [results, Try.f15, go_sem, r1]) rfl ?_
        exact ⟨by rw [HE.out], (HV.out.trans (HB1.out.mono HV.out.size)).setCell (p := ⟨w.heap.size + 1, 0, none⟩) (by simp) _⟩

end Go.Proofs.Ytiemhhkoegkleaa
