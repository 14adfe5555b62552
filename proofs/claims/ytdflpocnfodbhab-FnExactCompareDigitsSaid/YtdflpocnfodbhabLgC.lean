/- Long numbers: the program compares two numbers. -/
import Derived.Test.YtdflpocnfodbhabLgL
import Derived.Test.YtdflpocnfodbhabRfB
set_option linter.unusedVariables false
set_option linter.unusedSimpArgs false
set_option maxRecDepth 100000
namespace Go.Proofs.Ytdflpocnfodbhab
open Go.ChangeShapes Go.WideShapes Go.ChangeAt Go.RowKit

attribute [local go_sem] Oper.semAt_some wide_fn wide_depth

/-- at a function's return, where the block for the rounds' deferred calls is shut -/
theorem cell_shutL {W : World} {D : Nat} {p : Addr} {v : Value} (h : W.cell? p = some v) (hK : W.heap[D]? = some (.deferred (some []))) : (W.putObj D (.deferred none)).cell? p = some v :=
  cell_kept h (grownBy_putObj' _ D (.deferred none)) (fun r e => by cases e; exact ⟨_, hK, rfl⟩)

theorem cmpZ_len {b : Nat} (hb : 2 ≤ b) {a c : List Int} (ha : Nrm b a) (hc : Nrm b c) (h : a.length ≠ c.length) : cmpZ a.length c.length = cmpN (vl b a) (vl b c) := by
  rcases Nat.lt_or_ge a.length c.length with h1 | h1
  · rw [cmp_lt (lt_of_len hb ha hc h1)]
    have : (a.length : Int) < c.length := by omega
    simp [cmpZ, this]
  · have h2 : c.length < a.length := by omega
    rw [cmp_gt (lt_of_len hb hc ha h2)]
    have e1 : ¬ (a.length : Int) < c.length := by omega
    have e2 : (c.length : Int) < a.length := by omega
    simp [cmpZ, e1, e2]
theorem cmpZ_place {b : Nat} (hb : 2 ≤ b) {a c : List Int} (ha : Nrm b a) (hc : Nrm b c) {k : Nat} (h1 : k < a.length) (h2 : k < c.length) (ht : a.drop (k + 1) = c.drop (k + 1)) (h : a[k] ≠ c[k]) : cmpZ a[k] c[k] = cmpN (vl b a) (vl b c) := by
  rcases Int.lt_or_gt_of_ne h with h3 | h3
  · rw [cmp_lt (lt_of_place hb ha.1 hc.1 h1 h2 ht h3)]; simp [cmpZ, h3]
  · rw [cmp_gt (lt_of_place hb hc.1 ha.1 h2 h1 ht.symm h3)]
    have e1 : ¬ a[k] < c[k] := by omega
    simp [cmpZ, e1, h3]

set_option maxRecDepth 100000 in
set_option maxHeartbeats 4000000 in
theorem implCompare_any (va vc : Value) (a c : List Int) (b : Nat) (w : World) (hb : 2 ≤ b) (ha : Nrm b a) (hc : Nrm b c) (hra : RowAt w va (intsOf a)) (hrc : RowAt w vc (intsOf c)) (hl : a.length ≤ 1000000) (hl' : c.length ≤ 1000000) :
    Calls Try.prog 46 #[va, vc] w fun e w' => e = .returned (.int .i64 (cmpN (vl b a) (vl b c))) ∧ Below w.heap.size w w' := by
  have HRA := Lib.hid hra; have HRC := Lib.hid hrc
  obtain ⟨aa, cap, rfl, h1, h2, h3⟩ := hra.ints
  obtain ⟨ac, cap', rfl, h1', h2', h3'⟩ := hrc.ints
  unfold maxLen at h2 h2'
  have HCI := Lib.hid (fun x y W => cmpInt_any x y W)
  have b0 := Boxed.new w 39 (.slice ac c.length cap')
  have b1 := Boxed.new (w.alloc (.cells #[.slice ac c.length cap'] 39)) 3 (.int .i64 0)
  have b2 := Boxed.new ((w.alloc (.cells #[.slice ac c.length cap'] 39)).alloc (.cells #[.int .i64 0] 3)) 39 (.slice aa a.length cap)
  simp only [World.size_alloc] at b1 b2
  have hB0 : Below w.heap.size w ((w.alloc (.cells #[.slice ac c.length cap'] 39)).alloc (.cells #[.int .i64 0] 3)) :=
    ((Below.refl _ w).alloc (Nat.le_refl _) _).alloc (by simp) _
  have hB1 : Below w.heap.size w (((w.alloc (.cells #[.slice ac c.length cap'] 39)).alloc (.cells #[.int .i64 0] 3)).alloc (.cells #[.slice aa a.length cap] 39)) :=
    hB0.alloc (by simp; omega) _
  refine (callsIn_wide (n := 0)).1 ?_
  refine callsIn_of_wp_marks Try.func46 rfl trivial ?_ rfl
  simp only [Try.ntmps46, List.size_toArray, List.length_cons, List.length_nil, Nat.reduceAdd, Nat.reduceSub, Array.replicate_succ, Array.replicate_zero, List.push_toArray, List.append_toArray, List.nil_append, List.cons_append]
  by_cases hne : a.length = c.length
  · obtain ⟨n, hn⟩ : ∃ n, n = a.length := ⟨_, rfl⟩
    have hm : c.length = n := by omega
    have HN := Lib.hid hn; have HM := Lib.hid hm
    rw [← hn] at h1 b2 hB1 ⊢
    rw [hm] at h1' b0 b1 b2 hB1 hB0 ⊢
    have hn9 : n ≤ 1000000 := by omega
    clear hn hm hne
    clear h3 h3' hra hrc
    gi_wp2_with (gi_at_call 77; refine (callsIn_wide.2 (backL_any _ _ _ _)).mono ?_; rintro e w' ⟨rfl, rfl⟩)
    refine rangeB (sa := aa) (cap := cap) (fun k d => ∃ h : k < a.length, d = a[k]) rfl hn9 rfl
      (fun k W => (Boxed W w.heap.size 39 (.slice ac n cap') ∧ Boxed W (w.heap.size + 1) 3 (.int .i64 0) ∧ Boxed W (w.heap.size + 1 + 1) 39 (.slice aa n cap) ∧ a.drop k = c.drop k) ∧ Below w.heap.size w W)
      (fun cd k W => (cd = .ret ∧ Boxed W (w.heap.size + 1) 3 (.int .i64 (cmpN (vl b a) (vl b c)))) ∧ Below w.heap.size w W)
      ?hI ?hIx ?h0 ?hrd (fun k d => { tmps := #[.slice aa n cap, .slice ac n cap', undef, .pointer (some ⟨w.heap.size, 0, none⟩), .pointer (some ⟨w.heap.size + 1, 0, none⟩), .int .i64 k, .int .i64 d, .slice aa n cap, .int .i64 n, .slice ac n cap', .int .i64 n, .bool false, undef, undef, undef, undef, undef, .slice aa n cap, .func (.func 87) #[] #[.pointer (some ⟨w.heap.size + 1 + 1, 0, none⟩)], .int .i64 k, .int .i64 d, undef, undef, undef, undef, undef, undef, undef, undef, undef, undef, undef, undef], defers := [] }) ?assign ?body ?done ?stop
    case hI =>
      refine OwnFrom.and (Own.from ?_ _) (ownFrom_below (Nat.le_refl _) (by simp; omega))
      exact fun s A C row hs hg hr => ⟨boxed_own _ _ (fun _ : Unit => _) () A C row hs.1 hg hr, boxed_own _ _ (fun _ : Unit => _) () A C row hs.2.1 hg hr, boxed_own _ _ (fun _ : Unit => _) () A C row hs.2.2.1 hg hr, hs.2.2.2⟩
    case hIx =>
      refine fun cd => OwnFrom.and (Own.from ?_ _) (ownFrom_below (Nat.le_refl _) (by simp; omega))
      exact fun s A C row hs hg hr => ⟨hs.1, boxed_own _ _ (fun _ : Unit => _) () A C row hs.2 hg hr⟩
    case h0 => exact ⟨⟨(b0.alloc _).alloc _, b1.alloc _, b2, by rw [List.drop_of_length_le (by have := HN.out; omega), List.drop_of_length_le (by have := HM.out; omega)]⟩, hB1⟩
    case hrd =>
      rintro k X ⟨⟨_, _, x2, _⟩, hB⟩ hk
      refine ⟨x2.cell, fun j hj => ?_⟩
      have hja : j < a.length := by have := HN.out; omega
      obtain ⟨a', cap2, e', _, _, h3⟩ := HRA.out.ints
      injection e' with e1 e2 e3
      subst e1
      obtain ⟨ba, oa, rfl, hba, hcell⟩ := h3.resolve_left (fun e => by rw [e] at hja; simp at hja)
      exact ⟨a[j], ba, oa, rfl, ⟨hja, rfl⟩, by rw [hB.cell (p := ⟨ba, oa + j, none⟩) hba]; exact hcell j hja⟩
    case assign =>
      intro l k d W K hK
      gi_wp2
      exact hK
    case body =>
      rintro l k d W hk ⟨hka, rfl⟩ ⟨⟨x0, x1, x2, htl⟩, hB⟩ hsz hbk
      have hkc : k < c.length := by have := HM.out; omega
      obtain ⟨ac', cap2, e', _, _, h3⟩ := HRC.out.ints
      injection e' with e1 e2 e3
      subst e1 e3
      obtain ⟨bc, oc, rfl, hbc, hcell'⟩ := h3.resolve_left (fun e => by rw [e] at hkc; simp at hkc)
      have q2 : W.cell? ⟨bc, oc + k, none⟩ = some (.int .i64 c[k]) := by rw [hB.cell (p := ⟨bc, oc + k, none⟩) hbc]; exact hcell' k hkc
      have hkn : (k : Int) < n := by omega
      obtain ⟨x, hx⟩ : ∃ x, x = a[k] := ⟨_, rfl⟩
      obtain ⟨y, hy⟩ : ∃ y, y = c[k] := ⟨_, rfl⟩
      rw [← hy] at q2
      rw [← hx]
      have HX := Lib.hid hx; have HY := Lib.hid hy; have HT := Lib.hid htl
      have c0 := x0.cell; have c1 := x1.cell; have f1 := x1.frozen
      have X0 := Lib.hid x0; have X1 := Lib.hid x1; have X2 := Lib.hid x2
      simp only [World.size_alloc] at hsz hbk ⊢
      clear h3 hcell' hx hy htl x0 x1 x2 b0 b1 b2 hB0 hB1 HRA HRC
      by_cases hxy : x = y
      · have HE := Lib.hid (drop_same hka hkc HT.out (by rw [← HX.out, ← HY.out]; exact hxy))
        have hq : (x != y) = false := by simp [hxy]
        clear hxy
        gi_wp2
        exact ⟨Area.refl _ _ _, ⟨X0.out, X1.out, X2.out, HE.out⟩, hB⟩
      · have hq : (x != y) = true := by simp [hxy]
        have HV := Lib.hid (cmpZ_place hb ha hc hka hkc HT.out (by rw [← HX.out, ← HY.out]; exact hxy))
        clear hxy
        rw [← HX.out, ← HY.out] at HV
        gi_wp2
        refine (CallsIn.inRound l (callsIn_wide.2 (HCI.out _ _ _))).mono ?_
        rintro e w' ⟨rfl, rfl⟩
        gi_wp2
        exact ⟨Area.setCell _ _ (.inl (by simp)), ⟨rfl, by rw [← HV.out]; exact X1.out.set _⟩, hB.setCell (p := ⟨w.heap.size + 1, 0, none⟩) (by simp) _⟩
    case done =>
      rintro D W hD ⟨⟨x0, x1, x2, htl⟩, hB⟩ hK
      have hV : cmpN (vl b a) (vl b c) = 0 := by
        rw [List.drop_zero, List.drop_zero] at htl
        rw [htl]; exact cmp_eq _
      have HV := Lib.hid hV
      have c1 := x1.cell; have f1 := x1.frozen
      have X1 := Lib.hid x1
      have hD' : w.heap.size + 1 + 1 + 1 ≤ D := by simpa using hD
      clear hD x0 x1 x2 b0 b1 b2 hV htl
      gi_wp2
      have hK' := (KeepsOthers.setCell W ⟨w.heap.size + 1, 0, none⟩ (.int .i64 0)).same D _ hK rfl
      refine ⟨by simp, .inl ⟨_, _, rfl, run_takeDeferred hK', ?_⟩⟩
      have r1 := cell_shutL (X1.out.set (.int .i64 0)).cell hK'
      refine ⟨.int .i64 0, ?_, by rw [HV.out], ?_⟩
      · simp [results, Try.f46, go_sem, r1]
      · exact (hB.setCell (p := ⟨w.heap.size + 1, 0, none⟩) (by simp) _).trans (below_putObj _ (by omega) (by have := heap_lt_of_some hK'; omega))
    case stop =>
      rintro D cd k W hD hk ⟨⟨rfl, x1⟩, hB⟩ hK
      have hD' : w.heap.size + 1 + 1 + 1 ≤ D := by simpa using hD
      clear hD
      gi_wp2
      refine ⟨by simp, .inl ⟨_, _, rfl, run_takeDeferred hK, ?_⟩⟩
      have r1 := cell_shutL x1.cell hK
      refine ⟨.int .i64 (cmpN (vl b a) (vl b c)), ?_, rfl, ?_⟩
      · simp [results, Try.f46, go_sem, r1]
      · exact hB.trans (below_putObj _ (by omega) (by have := heap_lt_of_some hK; omega))
  · have hq : ((a.length : Int) != (c.length : Int)) = true := by simp; omega
    have HV := Lib.hid (cmpZ_len hb ha hc hne)
    have c0 := b0.cell
    gi_wp2
    refine (callsIn_wide.2 (HCI.out _ _ _)).mono ?_
    rintro e w' ⟨rfl, rfl⟩
    gi_wp2
    have r1 := (Boxed.new (w.alloc (.cells #[.slice ac c.length cap'] 39)) 3 (.int .i64 (cmpZ a.length c.length))).cell
    simp only [World.size_alloc] at r1
    refine ⟨.int .i64 (cmpZ a.length c.length), ?_, by rw [HV.out], ?_⟩
    · simp [results, Try.f46, go_sem, r1]
    · exact ((Below.refl _ w).alloc (Nat.le_refl _) _).alloc (by simp) _

end Go.Proofs.Ytdflpocnfodbhab
