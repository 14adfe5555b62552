/- Places of coins, the program: greedy digits. -/
import Derived.Test.YtbfoaibgenepoaaCoI1
import Derived.Test.YtbfoaibgenepoaaLgCmp
import Derived.Test.YtbfoaibgenepoaaLgMul
import Derived.Test.YtbfoaibgenepoaaRfBI
import Derived.Test.YtbfoaibgenepoaaLgI
import Derived.Test.YtbfoaibgenepoaaLgV
set_option linter.unusedVariables false
set_option linter.unusedSimpArgs false
set_option maxRecDepth 100000
namespace Go.Proofs.Ytbfoaibgenepoaa
open Go.ChangeShapes Go.WideShapes Go.ChangeAt Go.RowKit

attribute [local go_sem] Oper.semAt_some wide_fn wide_depth

/-! ### plain: from the last coin on -/
def rsB (n : Int) (l : List Int) : Int := rsT n l.reverse
theorem grT_snoc (x : Int) : ∀ (t : List Int) (n : Int), grT n (t ++ [x]) = grT n t ++ [rsT n t / x]
  | [], n => rfl
  | y :: t, n => by rw [List.cons_append, grT, grT, rsT, grT_snoc x t]; rfl
theorem rsT_snoc (x : Int) : ∀ (t : List Int) (n : Int), rsT n (t ++ [x]) = rsT n t % x
  | [], n => rfl
  | y :: t, n => by rw [List.cons_append, rsT, rsT, rsT_snoc x t]
theorem gz_cons (n x : Int) (s : List Int) : gz n (x :: s) = rsB n s / x :: gz n s := by
  rw [gz, List.reverse_cons, grT_snoc, List.reverse_append]; rfl
theorem rsB_cons (n x : Int) (s : List Int) : rsB n (x :: s) = rsB n s % x := by
  rw [rsB, List.reverse_cons, rsT_snoc]; rfl
theorem rsT_bd : ∀ (t : List Int) (n : Int), 0 ≤ n → (∀ x ∈ t, 1 ≤ x) → 0 ≤ rsT n t ∧ rsT n t ≤ n
  | [], n, h, _ => ⟨h, Int.le_refl _⟩
  | x :: t, n, h, hx => by
    have h1 := hx x (by simp)
    have h2 := Int.emod_nonneg n (show x ≠ 0 by omega)
    have h3 : n % x ≤ n := by
      have h5 := Int.ediv_mul_add_emod n x
      have h6 := Int.mul_nonneg (Int.ediv_nonneg h (show 0 ≤ x by omega)) (show 0 ≤ x by omega)
      omega
    have h4 := rsT_bd t (n % x) h2 (fun y hy => hx y (by simp [hy]))
    rw [rsT]; omega
theorem rsB_bd {l : List Int} (h : Coins l) {n : Int} (hn : 0 ≤ n) (k : Nat) : 0 ≤ rsB n (l.drop k) ∧ rsB n (l.drop k) ≤ n :=
  rsT_bd _ n hn (fun x hx => (h.bd x (List.mem_of_mem_drop (List.mem_reverse.1 hx))).1)

set_option maxHeartbeats 8000000 in
theorem implGr_any (n : Int) (v : Value) (l : List Int) (w : World) (hr : RowAt w v (intsOf l)) (hco : Coins l) (hn0 : 0 ≤ n) (hn9 : n ≤ 100000) :
    Calls Try.prog 15 #[.int .i64 n, v] w fun e w' => ∃ v', e = .returned v' ∧ w'.ownsRow w.heap.size 3 1 v' (gz n l).length (intsOf (gz n l)) ∧ Below w.heap.size w w' := by
  have hl := hco.len
  have HRC := Lib.hid hr
  have HC := Lib.hid (fun W (hb : Below w.heap.size w W) => implCo_any v l W (hr.below hb) (by omega))
  rw [okC_of hco] at HC
  obtain ⟨aa, cap, rfl, h1, h2, h3⟩ := hr.ints
  unfold maxLen at h2
  obtain ⟨i0, hi, hz0, hz1, hz2⟩ := info_parts infoInt
  have HBD := Lib.hid (fun k => rsB_bd hco hn0 k)
  have HLB := Lib.hid hco.bd
  have hneg : ¬ n < 0 := by omega
  have hbig : ¬ 100000 < n := by omega
  obtain ⟨L, hL⟩ : ∃ L, L = l.length := ⟨_, rfl⟩
  have HL := Lib.hid hL
  have HGL := Lib.hid (show (gz n l).length = L by rw [gz_len, hL])
  rw [← hL] at h1 hl HC ⊢
  clear h3 hr hco hL
  refine (callsIn_wide (n := 0)).1 ?_
  refine callsIn_of_wp_marks Try.func15 rfl trivial ?_ rfl
  simp only [Try.ntmps15, List.size_toArray, List.length_cons, List.length_nil, Nat.reduceAdd, Nat.reduceSub, Array.replicate_succ, Array.replicate_zero, List.push_toArray, List.append_toArray, List.nil_append, List.cons_append]
  gi_wp2_with (first
    | (gi_at_call 19; refine (callsIn_wide.2 (HC.out _ ((Below.refl _ w).alloc (Nat.le_refl _) _))).mono ?_; rintro e w' ⟨rfl, q, rfl⟩)
    | (gi_at_make; refine wpListIn_make_fullL _ rfl _ _ 23 rfl w.heap.size 3 i0 (.int .i64 0) 1 Try.underlying23 hi hz0 hz1 _ _ _ _ L rfl rfl rfl rfl ?c1 ?c2 ?c3 ?_))
  case c1 => rw [hz2]; omega
  case c2 => unfold maxLen; omega
  case c3 => simp
  intro w1 hown hgrow
  have hm1 : w.heap.size + 2 ≤ w1.heap.size := by have := (hown.lt (w.heap.size + 1) rfl).2; omega
  have hown1 : w1.ownsRow w.heap.size 3 1 (.slice (some ⟨w.heap.size + 1, 0, none⟩) L L) L (intsOf (List.replicate L 0)) := by
    rw [intsOf_zeros]; rw [toList_madeCells_one] at hown; simpa using hown
  have b0' : Boxed w1 w.heap.size 3 (.int .i64 n) := Boxed.kept (W := (w.alloc (.cells #[.int .i64 n] 3)).drewN q) (show Boxed ((w.alloc (.cells #[.int .i64 n] 3)).drewN q) w.heap.size 3 (.int .i64 n) from Boxed.new w _ _) hgrow (by simp)
  have hBw1 : Below w.heap.size w w1 := (below_drewN ((Below.refl _ w).alloc (Nat.le_refl _) _) q).grown hgrow (by simp) (fun k hk => by cases hk)
  clear hown hgrow
  gi_wp2_with (gi_at_call 42; refine (callsIn_wide.2 (backLI_any _ _ _ _)).mono ?_; rintro e w' ⟨rfl, rfl⟩)
  obtain ⟨A2, hA2⟩ : ∃ A2, ((w1.alloc (.cells #[.slice (some ⟨w.heap.size + 1, 0, none⟩) L L] 23)).alloc (.cells #[.slice aa L cap] 23)) = A2 := ⟨_, rfl⟩
  have hs2 : A2.heap.size = w1.heap.size + 2 := by rw [← hA2]; simp
  have b0 : Boxed A2 w.heap.size 3 (.int .i64 n) := by rw [← hA2]; exact (b0'.alloc _).alloc _
  have b1 : Boxed A2 w1.heap.size 23 (.slice (some ⟨w.heap.size + 1, 0, none⟩) L L) := by rw [← hA2]; exact (Boxed.new w1 _ _).alloc _
  have b2 : Boxed A2 (w1.heap.size + 1) 23 (.slice aa L cap) := by rw [← hA2]; exact boxed_at _ _ _ (by simp)
  have hB2 : Below w.heap.size w A2 := by rw [← hA2]; exact (hBw1.alloc hBw1.size _).alloc (by simp; omega) _
  have hq2 : A2.ownsRow w.heap.size 3 1 (.slice (some ⟨w.heap.size + 1, 0, none⟩) L L) L (intsOf (List.replicate L 0)) := by rw [← hA2]; exact (hown1.alloc _).alloc _
  rw [hA2]
  clear hA2 b0' hown1 hBw1
  refine rangeBI (sa := aa) (cap := cap) (fun k d => ∃ h : k < l.length, d = l[k]) rfl (show L ≤ 1000000 by omega) rfl
    (fun k W => (∃ (D : List Int), (Boxed W w.heap.size 3 (.int .i64 (rsB n (l.drop k))) ∧ Boxed W w1.heap.size 23 (.slice (some ⟨w.heap.size + 1, 0, none⟩) L L) ∧ Boxed W (w1.heap.size + 1) 23 (.slice aa L cap)) ∧
      (D.length = L ∧ D.drop k = gz n (l.drop k)) ∧ W.ownsRow w.heap.size 3 1 (.slice (some ⟨w.heap.size + 1, 0, none⟩) L L) L (intsOf D)) ∧ Below w.heap.size w W)
    (fun cd k W => False)
    ?hI ?hIx ?h0 ?hrd (fun k d => { tmps := #[.int .i64 n, .slice aa L cap, .pointer (some ⟨w.heap.size, 0, none⟩), undef, .slice none 0 0, .pointer (some ⟨w1.heap.size, 0, none⟩), .int .i64 k, .int .i64 d, .slice aa L cap, .bool true, .bool false, .bool false, .int .i64 n, .bool (decide (n < 0)), .bool (decide (n < 0)), .bool (decide (n < 0)), .int .i64 n, .bool (decide (100000 < n)), .bool (decide (n < 0) || decide (100000 < n)), .slice aa L cap, .int .i64 L, .slice (some ⟨w.heap.size + 1, 0, none⟩) L L, .slice aa L cap, .func (.func 66) #[] #[.pointer (some ⟨w1.heap.size + 1, 0, none⟩)], .int .i64 k, .int .i64 d, undef, undef, undef, undef, undef, undef, undef, undef, undef, undef], defers := [] }) ?assign ?body ?done ?stop
  case hI =>
    refine OwnFrom.and (Own.from ?_ _) (ownFrom_below (Nat.le_refl _) (by omega))
    rintro s A C row ⟨D, ⟨x0, x1, x2⟩, hp, hq⟩ hg hr
    exact ⟨D, ⟨boxed_own _ _ (fun _ : Unit => _) () A C row x0 hg hr, boxed_own _ _ (fun _ : Unit => _) () A C row x1 hg hr, boxed_own _ _ (fun _ : Unit => _) () A C row x2 hg hr⟩, hp, ownedI_own _ _ (fun _ : Unit => _) (fun _ => _) (fun _ => _) () A C row hq hg hr⟩
  case hIx => exact fun cd s A C row hs hg hr => hs
  case h0 =>
    refine ⟨⟨List.replicate L 0, ⟨?_, b1, b2⟩, ⟨by simp, ?_⟩, hq2⟩, hB2⟩
    · rw [HL.out, List.drop_length]; exact b0
    · rw [HL.out, List.drop_length, List.drop_of_length_le (by simp)]; rfl
  case hrd =>
    rintro k X ⟨⟨_, ⟨_, _, x2⟩, _⟩, hB⟩ hk
    refine ⟨x2.cell, fun j hj => ?_⟩
    have hja : j < l.length := by have := HL.out; omega
    obtain ⟨a', cap2, e', _, _, h3⟩ := HRC.out.ints
    injection e' with e1 e2 e3
    subst e1
    obtain ⟨ba, oa, rfl, hba, hcell⟩ := h3.resolve_left (fun e => by rw [e] at hja; simp at hja)
    exact ⟨l[j], ba, oa, rfl, ⟨hja, rfl⟩, by rw [hB.cell (p := ⟨ba, oa + j, none⟩) hba]; exact hcell j hja⟩
  case assign =>
    intro l k d W K hK
    gi_wp2
    exact hK
  case body =>
    rintro l' k d W hk ⟨hka, rfl⟩ ⟨⟨D, ⟨x0, x1, x2⟩, ⟨hDl, hDd⟩, hq⟩, hB⟩ hsz hbk
    have hx := HLB.out _ (List.getElem_mem hka)
    have hrb := HBD.out (k + 1)
    have HGZ := Lib.hid (gz_cons n l[k] (l.drop (k + 1)))
    have HRS := Lib.hid (rsB_cons n l[k] (l.drop (k + 1)))
    have HDR := Lib.hid (List.drop_eq_getElem_cons hka)
    obtain ⟨x, hxe⟩ : ∃ x, x = l[k] := ⟨_, rfl⟩
    obtain ⟨m, hm⟩ : ∃ m, m = rsB n (l.drop (k + 1)) := ⟨_, rfl⟩
    rw [← hxe] at hx HGZ HRS HDR ⊢
    rw [← hm] at hrb HGZ HRS x0
    have HMS := Lib.hid (And.intro hxe hm)
    have hx1 := hx.1
    have hm0 := hrb.1
    have hm1 := hrb.2
    have hxz : (x == 0) = false := by simp; omega
    have hxn : ¬ x = 0 := by omega
    have hqd : m.tdiv x = m / x := Int.tdiv_eq_ediv_of_nonneg hm0
    have hrm : m.tmod x = m % x := Int.tmod_eq_emod_of_nonneg hm0
    have r0 := Int.emod_nonneg m hxn
    have r1 := Int.ediv_nonneg hm0 (show 0 ≤ x by omega)
    have r2 := Int.ediv_le_self x hm0
    obtain ⟨Qd, hQd⟩ : ∃ Qd, Qd = m / x := ⟨_, rfl⟩
    obtain ⟨Rm, hRm⟩ : ∃ Rm, Rm = m % x := ⟨_, rfl⟩
    rw [← hQd] at hqd HGZ r1 r2
    rw [← hRm] at hrm HRS r0
    have HR9 := Lib.hid (show Rm ≤ m by rw [hRm]; have h5 := Int.ediv_mul_add_emod m x; have h6 := Int.mul_nonneg (Int.ediv_nonneg hm0 (show 0 ≤ x by omega)) (show 0 ≤ x by omega); omega)
    have c0 := x0.cell; have c1 := x1.cell; have f0 := x0.frozen
    have hkL : (k : Int) < L := by omega
    have fq : W.frozen? ⟨w.heap.size + 1, k, none⟩ = false := hq.frozenAt k
    have c0' : W.drew.cell? ⟨w.heap.size, 0, none⟩ = some (.int .i64 m) := c0
    have c1' : W.drew.cell? ⟨w1.heap.size, 0, none⟩ = some (.slice (some ⟨w.heap.size + 1, 0, none⟩) L L) := c1
    have wQ : IntKind.i64.wrap Qd = Qd := by rw [IntKind.wrap_i64]; omega
    have xs := boxed_setOff (X := W.drew) (show Boxed W.drew w.heap.size 3 (.int .i64 m) from x0) ⟨w.heap.size + 1, k, none⟩ (.int .i64 Qd) (show w.heap.size + 1 ≠ w.heap.size by omega)
    have c0s := xs.cell
    have f0s := xs.frozen
    have XS := Lib.hid xs
    have HQ2 := Lib.hid (show (W.drew.setCell ⟨w.heap.size + 1, k, none⟩ (.int .i64 Qd)).ownsRow w.heap.size 3 1 (.slice (some ⟨w.heap.size + 1, 0, none⟩) L L) L (intsOf (D.set k Qd)) by
      have h := (World.ownsRow.stored (w := W.drew) hq k (.int .i64 Qd)).1
      rwa [intsOf_set] at h)
    have hdset : (D.set k Qd).drop k = gz n (l.drop k) := by
      rw [drop_set_self _ _ _ (by omega), hDd, HDR.out, HGZ.out]
    have HEND := Lib.hid (show Area A2.heap.size 2 W ((W.drew.setCell ⟨w.heap.size + 1, k, none⟩ (.int .i64 Qd)).setCell ⟨w.heap.size, 0, none⟩ (.int .i64 Rm)) ∧ ((∃ (D : List Int), (Boxed ((W.drew.setCell ⟨w.heap.size + 1, k, none⟩ (.int .i64 Qd)).setCell ⟨w.heap.size, 0, none⟩ (.int .i64 Rm)) w.heap.size 3 (.int .i64 (rsB n (l.drop k))) ∧ Boxed ((W.drew.setCell ⟨w.heap.size + 1, k, none⟩ (.int .i64 Qd)).setCell ⟨w.heap.size, 0, none⟩ (.int .i64 Rm)) w1.heap.size 23 (.slice (some ⟨w.heap.size + 1, 0, none⟩) L L) ∧ Boxed ((W.drew.setCell ⟨w.heap.size + 1, k, none⟩ (.int .i64 Qd)).setCell ⟨w.heap.size, 0, none⟩ (.int .i64 Rm)) (w1.heap.size + 1) 23 (.slice aa L cap)) ∧
      (D.length = L ∧ D.drop k = gz n (l.drop k)) ∧ ((W.drew.setCell ⟨w.heap.size + 1, k, none⟩ (.int .i64 Qd)).setCell ⟨w.heap.size, 0, none⟩ (.int .i64 Rm)).ownsRow w.heap.size 3 1 (.slice (some ⟨w.heap.size + 1, 0, none⟩) L L) L (intsOf D)) ∧ Below w.heap.size w ((W.drew.setCell ⟨w.heap.size + 1, k, none⟩ (.int .i64 Qd)).setCell ⟨w.heap.size, 0, none⟩ (.int .i64 Rm))) from by
      refine ⟨?_, ⟨D.set k Qd, ⟨?_, ?_, ?_⟩, ⟨by rw [List.length_set]; exact hDl, hdset⟩, ?_⟩, ?_⟩
      · exact (show Area A2.heap.size 2 W (W.drew.setCell ⟨w.heap.size + 1, k, none⟩ (.int .i64 Qd)) from Area.setCell (X := W.drew) _ _ (.inl (by simp; omega))).trans (Area.setCell _ _ (.inl (by simp; omega)))
      · rw [HDR.out, HRS.out]; exact xs.set _
      · exact boxed_setOff (boxed_setOff (X := W.drew) (show Boxed W.drew w1.heap.size 23 _ from x1) ⟨w.heap.size + 1, k, none⟩ (.int .i64 Qd) (show w.heap.size + 1 ≠ w1.heap.size by omega)) _ _ (show w.heap.size ≠ w1.heap.size by omega)
      · exact boxed_setOff (boxed_setOff (X := W.drew) (show Boxed W.drew (w1.heap.size + 1) 23 _ from x2) ⟨w.heap.size + 1, k, none⟩ (.int .i64 Qd) (show w.heap.size + 1 ≠ w1.heap.size + 1 by omega)) _ _ (show w.heap.size ≠ w1.heap.size + 1 by omega)
      · refine owns_setOff HQ2.out _ _ ?_
        simp [Value.ownBlock]
      · exact (Below.setCell (p := ⟨w.heap.size + 1, k, none⟩) (show Below w.heap.size w W.drew from below_drewN hB 1) (show w.heap.size ≤ w.heap.size + 1 by omega) _).setCell (p := ⟨w.heap.size, 0, none⟩) (Nat.le_refl _) _)
    clear xs
    obtain ⟨y, cq⟩ : ∃ y, W.drew.cell? ⟨w.heap.size + 1, k, none⟩ = some (.int .i64 y) := ⟨D[k]'(by omega), by
      have h := hq.cellAt k (by omega)
      rw [intsOf_get (by omega)] at h; simpa using h⟩
    have fq' : W.drew.frozen? ⟨w.heap.size + 1, k, none⟩ = false := fq
    have X0 := Lib.hid x0; have X1 := Lib.hid x1; have X2 := Lib.hid x2
    have HDL := Lib.hid hDl; have HDD := Lib.hid hDd
    have HQ := Lib.hid hq
    have HBB := Lib.hid hB
    clear hxe hm hQd hRm hx hrb x0 x1 x2 hDl hDd hq hB b0 b1 b2 hB2 hq2
    gi_wp2_with fail
    gi_region
    all_goals
      gi_wp2_with fail
      exact HEND.out
  case done =>
    rintro E W hE ⟨⟨D, ⟨x0, x1, x2⟩, ⟨hDl, hDd⟩, hq⟩, hB⟩ hK
    rw [List.drop_zero, List.drop_zero] at hDd
    subst hDd
    have hsz := hB.size
    have hKl := heap_lt_of_some hK
    have c1 := x1.cell
    have HO := Lib.hid hq
    have HB := Lib.hid hB
    have HGE := HGL.out
    clear x0 x1 x2 hq hB b0 b1 b2 hB2 hq2 hDl
    gi_wp2_with fail
    refine ⟨by simp, .inl ⟨_, _, rfl, run_takeDeferred hK, ?_⟩⟩
    refine ⟨_, results_tmp rfl _ _ _, ⟨_, rfl, ?_, HB.out.trans (below_putObj _ (by omega) (by omega))⟩⟩
    have h := owns_shut HO.out hK
    rw [HGE]
    exact h
  case stop =>
    rintro E c k W hE hk hj hK
    exact hj.elim

end Go.Proofs.Ytbfoaibgenepoaa
