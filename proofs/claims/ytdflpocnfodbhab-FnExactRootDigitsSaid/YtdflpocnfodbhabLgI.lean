/- Long numbers: the program turns a number into another base. -/
import Derived.Test.YtdflpocnfodbhabLgCnv
import Derived.Test.YtdflpocnfodbhabRfB
import Derived.Test.YtdflpocnfodbhabLgX
set_option linter.unusedVariables false
set_option linter.unusedSimpArgs false
set_option maxRecDepth 100000
namespace Go.Proofs.Ytdflpocnfodbhab
open Go.ChangeShapes Go.WideShapes Go.ChangeAt Go.RowKit

attribute [local go_sem] Oper.semAt_some wide_fn wide_depth

/-- a row that is owned stands behind a store into an elder block -/
theorem owns_setLow {w : World} {base : Nat} {e : TypeId} {v : Value} {n : Nat} {xs : List Value} (h : w.ownsRow base e 1 v n xs) (p : Addr) (u : Value) (hp : p.block < base) : (w.setCell p u).ownsRow base e 1 v n xs := by
  obtain ⟨hl, h2⟩ := h
  refine ⟨hl, ?_⟩
  rcases h2 with h2 | ⟨g, cap, cur, hv, hg, hh, r⟩
  · exact .inl h2
  · exact .inr ⟨g, cap, cur, hv, hg, by rw [Below.heap_setCell w p u g (by omega)]; exact hh, r⟩
/-- .. and behind the block for the rounds' deferred calls -/
theorem owns_shut {W : World} {D base : Nat} {e : TypeId} {v : Value} {n : Nat} {xs : List Value} (h : W.ownsRow base e 1 v n xs) (hK : W.heap[D]? = some (.deferred (some []))) : (W.putObj D (.deferred none)).ownsRow base e 1 v n xs :=
  owned_own (β := Unit) base e (fun _ => v) (fun _ => n) (fun _ => xs) () W _ (some D) h (grownBy_putObj' W D _) (fun r e => by cases e; exact ⟨_, hK, rfl⟩)

set_option maxRecDepth 100000 in
set_option maxHeartbeats 4000000 in
theorem implInBase_any (va : Value) (a : List Int) (f t : Nat) (w : World) (hf2 : 2 ≤ f) (hf16 : f ≤ 16) (ht2 : 2 ≤ t) (ht16 : t ≤ 16) (ha : Nrm f a) (hra : RowAt w va (intsOf a)) (hl : a.length ≤ 60) :
    Calls Try.prog 61 #[va, .int .i64 f, .int .i64 t] w fun e w' => ∃ v, e = .returned v ∧ w'.ownsRow w.heap.size 3 1 v (dg t (vl f a)).length (intsOf (dg t (vl f a))) ∧ Below w.heap.size w w' := by
  have HRA := Lib.hid hra
  obtain ⟨aa, cap, rfl, h1, h2, h3⟩ := hra.ints
  unfold maxLen at h2
  have HLEN := Lib.hid (fun n (hn : n ≤ vl f a) => conv_len' (t := t) hf2 hf16 ht2 ha.1 hl hn)
  have HA := Lib.hid ha
  have HSC := Lib.hid (fun v X d W hd hr hl => implScaled_any v (dg t X) f d t W ht2 ht16 (by omega) hf16 hd (nrm_dg ht2 X) hr hl)
  simp only [vl_dg ht2] at HSC
  obtain ⟨n, hn⟩ : ∃ n, n = a.length := ⟨_, rfl⟩
  have HN := Lib.hid hn
  rw [← hn] at h1 hl ⊢
  clear h3 hra ha hn
  refine (callsIn_wide (n := 0)).1 ?_
  refine callsIn_of_wp_marks Try.func61 rfl trivial ?_ rfl
  simp only [Try.ntmps61, List.size_toArray, List.length_cons, List.length_nil, Nat.reduceAdd, Nat.reduceSub, Array.replicate_succ, Array.replicate_zero, List.push_toArray, List.append_toArray, List.nil_append, List.cons_append]
  gi_wp2_with (gi_at_call 77; refine (callsIn_wide.2 (backL_any _ _ _ _)).mono ?_; rintro e w' ⟨rfl, rfl⟩)
  obtain ⟨A4, hA4⟩ : ∃ A4, (((((w.alloc (.cells #[.int .i64 f] 3)).alloc (.cells #[.int .i64 t] 3)).alloc (.cells #[] 3)).alloc (.cells #[.slice (some ⟨w.heap.size + 1 + 1, 0, none⟩) 0 0] 39)).alloc (.cells #[.slice aa n cap] 39)) = A4 := ⟨_, rfl⟩
  have hs4 : A4.heap.size = w.heap.size + 5 := by rw [← hA4]; simp
  have b0 : Boxed A4 w.heap.size 3 (.int .i64 f) := by rw [← hA4]; exact ((((Boxed.new w _ _).alloc _).alloc _).alloc _).alloc _
  have b1 : Boxed A4 (w.heap.size + 1) 3 (.int .i64 t) := by rw [← hA4]; exact (((boxed_at _ _ _ (by simp)).alloc _).alloc _).alloc _
  have b3 : Boxed A4 (w.heap.size + 1 + 1 + 1) 39 (.slice (some ⟨w.heap.size + 1 + 1, 0, none⟩) 0 0) := by rw [← hA4]; exact (boxed_at _ _ _ (by simp)).alloc _
  have b4 : Boxed A4 (w.heap.size + 1 + 1 + 1 + 1) 39 (.slice aa n cap) := by rw [← hA4]; exact boxed_at _ _ _ (by simp)
  have hB4 : Below w.heap.size w A4 := by
    rw [← hA4]
    exact (((((Below.refl _ w).alloc (Nat.le_refl _) _).alloc (by simp) _).alloc (by simp; omega) _).alloc (by simp; omega) _).alloc (by simp; omega) _
  have ho4 : A4.ownsRow w.heap.size 3 1 (.slice (some ⟨w.heap.size + 1 + 1, 0, none⟩) 0 0) 0 [] := by
    rw [← hA4]
    refine World.ownsRow.alloc (World.ownsRow.alloc ?_ _) _
    have := World.ownsRow_lit (base := w.heap.size) (e := 3) (size := 1) ((w.alloc (.cells #[.int .i64 f] 3)).alloc (.cells #[.int .i64 t] 3)) #[] 0 (by simp; omega) (by decide) rfl
    simpa using this
  rw [hA4]
  clear hA4
  refine rangeB (sa := aa) (cap := cap) (fun k d => ∃ h : k < a.length, d = a[k]) rfl (show n ≤ 1000000 by omega) rfl
    (fun k W => (∃ v, Boxed W w.heap.size 3 (.int .i64 f) ∧ Boxed W (w.heap.size + 1) 3 (.int .i64 t) ∧ Boxed W (w.heap.size + 1 + 1 + 1) 39 v ∧ Boxed W (w.heap.size + 1 + 1 + 1 + 1) 39 (.slice aa n cap) ∧ vl f (a.drop k) ≤ vl f a ∧ W.ownsRow w.heap.size 3 1 v (dg t (vl f (a.drop k))).length (intsOf (dg t (vl f (a.drop k))))) ∧ Below w.heap.size w W)
    (fun cd k W => False)
    ?hI ?hIx ?h0 ?hrd (fun k d => { tmps := #[.slice aa n cap, .int .i64 f, .int .i64 t, undef, .pointer (some ⟨w.heap.size, 0, none⟩), .pointer (some ⟨w.heap.size + 1, 0, none⟩), .slice none 0 0, .pointer (some ⟨w.heap.size + 1 + 1 + 1, 0, none⟩), undef, .int .i64 d, .slice (some ⟨w.heap.size + 1 + 1, 0, none⟩) 0 0, .slice aa n cap, .func (.func 87) #[] #[.pointer (some ⟨w.heap.size + 1 + 1 + 1 + 1, 0, none⟩)], .int .i64 k, .int .i64 d, undef, undef, undef, undef, undef, undef], defers := [] }) ?assign ?body ?done ?stop
  case hI =>
    refine OwnFrom.and (Own.from ?_ _) (ownFrom_below (Nat.le_refl _) (by omega))
    rintro s A C row ⟨v, x0, x1, x3, x4, hle, ho⟩ hg hr
    exact ⟨v, boxed_own _ _ (fun _ : Unit => _) () A C row x0 hg hr, boxed_own _ _ (fun _ : Unit => _) () A C row x1 hg hr, boxed_own _ _ (fun _ : Unit => _) () A C row x3 hg hr, boxed_own _ _ (fun _ : Unit => _) () A C row x4 hg hr, hle, owned_own _ _ (fun _ : Unit => _) (fun _ => _) (fun _ => _) () A C row ho hg hr⟩
  case hIx => exact fun cd s A C row hs hg hr => hs
  case h0 =>
    have hz : vl f (a.drop n) = 0 := by rw [HN.out, List.drop_length]; simp [vl, hv_nil]
    refine ⟨⟨_, b0, b1, b3, b4, by rw [hz]; exact Nat.zero_le _, ?_⟩, hB4⟩
    rw [hz, dg_zero]
    exact ho4
  case hrd =>
    rintro k X ⟨⟨v, _, _, _, x4, _⟩, hB⟩ hk
    refine ⟨x4.cell, fun j hj => ?_⟩
    have hja : j < a.length := by have := HN.out; omega
    obtain ⟨a', cap2, e', _, _, h3⟩ := HRA.out.ints
    injection e' with e1 e2 e3
    subst e1
    obtain ⟨ba, oa, rfl, hba, hcell⟩ := h3.resolve_left (fun e => by rw [e] at hja; simp at hja)
    exact ⟨a[j], ba, oa, rfl, ⟨hja, rfl⟩, by rw [hB.cell (p := ⟨ba, oa + j, none⟩) hba]; exact hcell j hja⟩
  case assign =>
    intro l k d W K hK
    gi_wp2
    exact hK
  case body =>
    rintro l k d W hk ⟨hka, rfl⟩ ⟨⟨v, x0, x1, x3, x4, hle, ho⟩, hB⟩ hsz hbk
    have hxr := HA.out.1 _ (List.getElem_mem hka)
    have hvd := vl_drop HA.out.1 hka
    obtain ⟨x, hx⟩ : ∃ x : Nat, a[k] = (x : Int) := ⟨a[k].toNat, by omega⟩
    rw [hx] at hxr hvd ⊢
    rw [Int.toNat_natCast] at hvd
    obtain ⟨V, hV⟩ : ∃ V, V = vl f (a.drop (k + 1)) := ⟨_, rfl⟩
    rw [← hV] at hvd ho hle
    have hlej : vl f (a.drop k) ≤ vl f a := by
      have h1 := vl_cast HA.out.1
      have h2 := vl_cast (b := f) (l := a.drop k) (fun d hd => HA.out.1 d (List.mem_of_mem_drop hd))
      have h3 := hv_drop_le (b := (f : Int)) (by omega) a (fun d hd => (HA.out.1 d hd).1) k (by omega)
      omega
    have HVD := Lib.hid (show V * f + x = vl f (a.drop k) by rw [hvd, Nat.mul_comm, Nat.add_comm])
    have HLJ := Lib.hid hlej
    have c0 := x0.cell; have c1 := x1.cell; have c3 := x3.cell
    have X0 := Lib.hid x0; have X1 := Lib.hid x1; have X3 := Lib.hid x3; have X4 := Lib.hid x4
    have HCL := Lib.hid (HSC.out v V x W (by omega) (RowAt.of_owns ho) (by have := HLEN.out V hle; omega))
    rw [HVD.out] at HCL
    clear x0 x1 x3 x4 hvd hV hle hlej ho b0 b1 b3 b4 hB4 ho4 HRA
    gi_wp2
    refine (CallsIn.inRound l (callsIn_wide.2 HCL.out)).mono ?_
    rintro e W2 ⟨v', rfl, ho', hb'⟩
    obtain ⟨a2, c2, e2, _, _⟩ := owns_form ho'
    subst e2
    have x3' := boxed_below X3.out hb' (by omega)
    have f3' := x3'.frozen
    have c3' := x3'.cell
    have HX3 := Lib.hid x3'
    have HO := Lib.hid (owns_mono (owns_setLow ho' ⟨w.heap.size + 1 + 1 + 1, 0, none⟩ (.slice a2 (dg t (vl f (a.drop k))).length c2) (show w.heap.size + 1 + 1 + 1 < W.heap.size by omega)) (show w.heap.size ≤ W.heap.size by omega))
    have HB2 := Lib.hid (hB.trans (hb'.mono hB.size))
    have HA2 := Lib.hid (Area.below (A := A4.heap.size) (m := 2) hb' (by omega))
    have HBW := Lib.hid hb'
    clear ho' hb' x3'
    gi_wp2
    exact ⟨HA2.out.trans (Area.setCell _ _ (.inl (by simp; omega))), ⟨_, (boxed_below X0.out HBW.out (by omega)).other (by omega) _, (boxed_below X1.out HBW.out (by omega)).other (by omega) _, HX3.out.set _, (boxed_below X4.out HBW.out (by omega)).other (by omega) _, HLJ.out, HO.out⟩,
      HB2.out.setCell (p := ⟨w.heap.size + 1 + 1 + 1, 0, none⟩) (by simp; omega) _⟩
  case done =>
    rintro D W hD ⟨⟨v, _, _, x3, _, _, ho⟩, hB⟩ hK
    rw [List.drop_zero] at ho
    have c3 := x3.cell
    have HO := Lib.hid ho
    clear ho x3 b0 b1 b3 b4 hB4 ho4
    gi_wp2
    refine ⟨by simp, .inl ⟨_, _, rfl, run_takeDeferred hK, ?_⟩⟩
    refine ⟨v, ?_, ⟨v, rfl, owns_shut HO.out hK, hB.trans (below_putObj _ (by omega) (by have := heap_lt_of_some hK; omega))⟩⟩
    simp [results, Try.f61, go_sem]
  case stop =>
    rintro D c k W hD hk hj hK
    exact hj.elim

end Go.Proofs.Ytdflpocnfodbhab
