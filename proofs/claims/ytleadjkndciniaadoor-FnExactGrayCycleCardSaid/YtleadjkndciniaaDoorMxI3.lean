/- Mixed places: the program's tests, ranges and places; a slice that lies in the middle of a block. -/
import Derived.Test.YtleadjkndciniaaDoorInts
import Derived.Test.YtleadjkndciniaaDoorMxI2
set_option linter.unusedVariables false
set_option linter.unusedSimpArgs false
set_option maxRecDepth 100000
namespace Go.Proofs.YtleadjkndciniaaDoor
open Go.ChangeShapes Go.WideShapes Go.ChangeAt Go.RowKit

theorem SysV.range {r : List Int} {cs : Array Value} (h : SysV r cs) : ∃ k : Nat, k ≤ 10 ∧ cs[0]? = some (.int .i64 k) ∧ cs[11 + k]? = some (.int .i64 (rRangeOf0 r)) := by
  cases e : okR r
  · obtain ⟨a, b⟩ := h.no e
    exact ⟨0, by omega, a, by simp only [rRangeOf0, e]; exact b⟩
  · have hk := h.yes e
    obtain ⟨_, h10, _, _⟩ := okR_yes e
    refine ⟨r.length, h10, hk.count, ?_⟩
    have := hk.pla r.length (Nat.le_refl _)
    rw [List.take_length] at this
    simp only [rRangeOf0, e, if_true]; exact this
theorem okM_eq {l r : List Int} : okM l r = (okR r && fitB l r) := rfl

set_option maxHeartbeats 2000000 in
theorem implMixedOk_any (v : Value) (l : List Int) (vr : Value) (r : List Int) (w : World) (hra : RowAt w v (intsOf l)) (hl : l.length ≤ 1048576) (hia : ∀ n ∈ l, in64 n) (hrr : RowAt w vr (intsOf r)) (hlr : r.length ≤ 1048576) (hir : ∀ n ∈ r, in64 n) :
    Calls Tryd.prog 36 #[v, vr] w fun e w' => e = .returned (.bool (rMixedOk0 l r)) ∧ Below w.heap.size w w' := by
  have HS := Lib.hid (sysOf_any vr r w hrr hlr)
  have HRA := Lib.hid (fun W hW => hra.below (w' := W) hW)
  clear hra hrr hia hir
  cases h : okR r
  · rw [h] at HS
    have HQ := Lib.hid (show rMixedOk0 l r = false from okM_base h)
    clear h
    go_enter Tryd.func36, Tryd.ntmps36
    go_wp2_with fail
    refine HS.out.mono ?_
    rintro e w1 ⟨cs, hS, rfl, hB1⟩
    have HV := Lib.hid hS
    clear hS
    go_wp2_with (first
      | (refine wpS_alloc rfl rfl ?_; intro w2 g hg hgs hB2)
      | (refine wpS_store rfl _ _ rfl g cs sysZ hg rfl HV.out.size HV.out.one w.heap.size w (hB1.trans (hB2.mono hB1.size)) (by have := hgs.out.1; have := hB1.size; omega) rfl rfl ?_; intro w3 hg3 hk3 hs3 hB3))
    go_ret
    exact ⟨by rw [HQ.out]; rfl, hB3⟩
  · rw [h] at HS
    obtain ⟨o1, o2, o3, o4⟩ := okR_yes h
    have HALL := Lib.hid o3
    obtain ⟨q, hq⟩ : ∃ q, q = fitB l r := ⟨_, rfl⟩
    have HQ := Lib.hid (show rMixedOk0 l r = q by rw [hq]; show okM l r = _; rw [okM_eq, h]; rfl)
    have HOK := Lib.hid h
    have HE := Lib.hid hq
    clear h o3 hq
    go_enter Tryd.func36, Tryd.ntmps36
    go_wp2_with fail
    refine HS.out.mono ?_
    rintro e w1 ⟨cs, hS, rfl, hB1⟩
    have HV := Lib.hid hS
    have HA := Lib.hid (fun W hW => allows7_any cs v l r W (hS.yes HOK.out) HALL.out o2 (HRA.out W hW))
    rw [← HE.out] at HA
    clear hS
    go_wp2_with (first
      | (refine wpS_alloc rfl rfl ?_; intro w2 g hg hgs hB2)
      | (refine wpS_store rfl _ _ rfl g cs sysZ hg rfl HV.out.size HV.out.one w.heap.size w (hB1.trans (hB2.mono hB1.size)) (by have := hgs.out.1; have := hB1.size; omega) rfl rfl ?_; intro w3 hg3 hk3 hs3 hB3)
      | (refine wpS_load rfl _ rfl g cs hg3 HV.out.size rfl ?_)
      | (go_at_call 51; refine (HA.out _ hB3).mono ?_; rintro e w4 ⟨rfl, hB4⟩))
    go_ret
    exact ⟨by rw [HQ.out]; rfl, hB3.trans (hB4.mono hB3.size)⟩

/-! ### a slice in the middle of a block -/
/-- v reads as xs, in a block that has come since base, and may be written -/
def OwnAt (w : World) (base : Nat) (v : Value) (n : Nat) (xs : List Value) : Prop :=
  xs.length = n ∧ ((v = .slice none 0 0 ∧ n = 0) ∨
    ∃ g off cap cur T, v = .slice (some ⟨g, off, none⟩) n cap ∧ base ≤ g ∧ w.heap[g]? = some (.cells cur T (0, 0)) ∧ n ≤ cap ∧ cap ≤ maxLen ∧ off + n ≤ cur.size ∧ ∀ i (h : i < xs.length), cur[off + i]? = some xs[i])
theorem OwnAt.nil (w : World) (base : Nat) : OwnAt w base (.slice none 0 0) 0 [] := ⟨rfl, .inl ⟨rfl, rfl⟩⟩
theorem RowAt.of_ownAt {w : World} {base : Nat} {v : Value} {n : Nat} {cs : List Value} (h : OwnAt w base v n cs) : RowAt w v cs := by
  obtain ⟨hl, h2⟩ := h
  subst hl
  rcases h2 with ⟨rfl, h0⟩ | ⟨g, off, cap, cur, T, rfl, hg, hh, hc1, hc2, hs, ht⟩
  · have : cs = [] := List.eq_nil_of_length_eq_zero h0
    subst this
    exact ⟨none, 0, rfl, Nat.le_refl _, Nat.zero_le _, .inl rfl⟩
  · exact ⟨_, cap, rfl, hc1, hc2, .inr ⟨g, off, rfl, heap_lt_of_some hh, fun i hi => by rw [cell_of_row w g (off + i) cur T _ hh]; exact ht i hi⟩⟩
theorem OwnAt.lt {w : World} {base : Nat} {v : Value} {n : Nat} {xs : List Value} (h : OwnAt w base v n xs) : ∀ k, v.ownBlock = some k → base ≤ k ∧ k < w.heap.size := by
  intro k hk
  rcases h.2 with ⟨rfl, _⟩ | ⟨g, off, cap, cur, T, rfl, hg, hh, _⟩
  · cases hk
  · simp only [Value.ownBlock, Option.some.injEq] at hk
    subst hk
    exact ⟨hg, heap_lt_of_some hh⟩
theorem ownAt_kept {w w' : World} {base : Nat} {v : Value} {n : Nat} {xs : List Value} (h : OwnAt w base v n xs) (hk : ∀ k, v.ownBlock = some k → w'.heap[k]? = w.heap[k]?) : OwnAt w' base v n xs := by
  obtain ⟨hl, h2⟩ := h
  refine ⟨hl, ?_⟩
  rcases h2 with h2 | ⟨g, off, cap, cur, T, hv, hg, hh, r⟩
  · exact .inl h2
  · exact .inr ⟨g, off, cap, cur, T, hv, hg, by rw [hk g (by rw [hv]; rfl)]; exact hh, r⟩
theorem ownAt_below {w w' : World} {base : Nat} {v : Value} {n : Nat} {xs : List Value} (h : OwnAt w base v n xs) (hb : Below w.heap.size w w') : OwnAt w' base v n xs :=
  ownAt_kept h fun k hk => hb.block k (h.lt k hk).2
theorem ownAt_far {w w' : World} {v v' : Value} {n base : Nat} {xs : List Value} (h : OwnAt w base v n xs) (hg : w.grownBy w' v'.ownBlock) (hne : ∀ k, v.ownBlock = some k → v'.ownBlock = some k → False) : OwnAt w' base v n xs :=
  ownAt_kept h fun k hk => hg.block k (h.lt k hk).2 (fun e => hne k hk e.symm)
theorem ownAt_set {w : World} {base g off n cap : Nat} {xs : List Value} (h : OwnAt w base (.slice (some ⟨g, off, none⟩) n cap) n xs) (k : Nat) (hk : k < n) (u : Value) :
    OwnAt (w.setCell ⟨g, off + k, none⟩ u) base (.slice (some ⟨g, off, none⟩) n cap) n (xs.set k u) ∧ w.grownBy (w.setCell ⟨g, off + k, none⟩ u) (some g) := by
  obtain ⟨hl, h2⟩ := h
  rcases h2 with ⟨h2, _⟩ | ⟨g', off', cap', cur, T, hv, hg, hh, hc1, hc2, hs, ht⟩
  · cases h2
  · injection hv with e1 e2 e3
    injection e1 with e1
    injection e1 with e1 e4 _
    subst e1 e3 e4
    refine ⟨⟨by simpa using hl, .inr ⟨g, off, cap, _, T, rfl, hg, heap_setCell_same w g (off + k) cur T u hh, hc1, hc2, by simpa using hs, fun i hi => ?_⟩⟩, ?_⟩
    · have hi' : i < xs.length := by simpa using hi
      rw [List.getElem_set]
      split
      · rename_i e
        subst e
        rw [Array.getElem?_setIfInBounds_self_of_lt (by omega)]
      · rename_i e
        rw [Array.getElem?_setIfInBounds_ne (by omega)]; exact ht i hi'
    · exact ⟨rfl, rfl, rfl, by simp [World.setCell], fun j hj hne => heap_setCell_other _ _ _ _ (by intro e; exact hne (by rw [e]))⟩

set_option maxHeartbeats 1000000 in
theorem markAt_any (v : Value) (xs : List Value) (n base : Nat) (w : World) (hown0 : OwnAt w base v n xs) (s : Nat) (hs : s ≤ 1099511627776) (hn : n ≤ 1048577) :
    Calls Tryd.prog 22 #[v, .int .i64 s] w fun e w' => e = .returned (.int .i64 (s + n)) ∧ OwnAt w' base v n (intsOf (mksI s n)) ∧ w.grownBy w' v.ownBlock := by
  rcases hown0.2 with ⟨rfl, rfl⟩ | ⟨g, off, cap, cur, T, rfl, hbase, hgg, hcap, hcap2, hcs, htk⟩
  · go_enter Tryd.func22, Tryd.ntmps22
    go_wp2
    go_loop [1, 5] (fun m i => i = .int .i64 0 ∧ m = .int .i64 s) (fun _ _ => 0)
    case atStart => exact ⟨rfl, rfl⟩
    case round =>
      obtain ⟨rfl, rfl⟩ := hrel
      go_wp2
      go_ret
      exact ⟨rfl, OwnAt.nil _ _, World.grownBy.refl _ _⟩
  · unfold maxLen at hcap2
    have hlx : xs.length = n := hown0.1
    have hglt := heap_lt_of_some hgg
    have HOWN0 := Lib.hid hown0
    clear hcs htk hgg hown0
    go_enter Tryd.func22, Tryd.ntmps22
    go_wp2
    go_loopw [1, 5] (fun m i wr => ∃ k : Nat, k ≤ n ∧ i = .int .i64 k ∧ m = .int .i64 (s + k) ∧ w.grownBy wr (some g) ∧ OwnAt wr base (.slice (some ⟨g, off, none⟩) n cap) n (intsOf (mksI s k) ++ xs.drop k)) (fun _ i _ => n - (intOf i).toNat)
    case atStart => exact ⟨0, Nat.zero_le _, rfl, rfl, World.grownBy.refl _ _, by simpa [intsOf, mksI] using HOWN0.out⟩
    case round =>
      obtain ⟨k, hk, rfl, rfl, hG, hown⟩ := hrel
      have hsz := hG.size
      by_cases hlt : k < n
      · have hset : (intsOf (mksI s k) ++ xs.drop k).set k (Value.int .i64 (((s + k : Nat) : Int))) = intsOf (mksI s (k + 1)) ++ xs.drop (k + 1) := set_marksI _ s _ _ (by omega)
        have HSET := Lib.hid hset; clear hset
        obtain ⟨y, hc1, hf1⟩ : ∃ y, wr.cell? ⟨g, off + k, none⟩ = some y ∧ wr.frozen? ⟨g, off + k, none⟩ = false := by
          rcases hown.2 with ⟨e, _⟩ | ⟨g', off', cap', cur', T', hv, _, hh, _, _, hs', ht⟩
          · cases e
          · injection hv with e1 e2 e3
            injection e1 with e1
            injection e1 with e1 e4 _
            subst e1 e3 e4
            exact ⟨_, by rw [cell_of_row wr g (off + k) cur' T' _ hh]; exact ht k (by rw [hown.1]; exact hlt), sys_frozen hh _⟩
        have hst := ownAt_set hown k hlt (Value.int .i64 ((s + k : Nat) : Int))
        rw [HSET.out] at hst
        have HST := Lib.hid hst
        clear hst hown
        go_wp2
        go_roundw
        case rel => exact ⟨k + 1, by omega, by go_num, by go_num, hG.trans HST.out.2, HST.out.1⟩
        case measure => simp [intOf]; omega
      · have hkn : k = n := by omega
        subst hkn
        have HO := Lib.hid hown; clear hown
        go_wp2
        go_ret
        refine ⟨rfl, ?_, hG⟩
        have := HO.out
        rwa [List.drop_of_length_le (by omega), List.append_nil] at this

theorem cut_places (n g : Nat) (h : n ≤ 11) (w : World) :
    (Instr.sliceAt 64 (.pointer (some ⟨g, 11, none⟩)) none (some (.int .i64 n)) none).run Tryd.prog w = .ok (.slice (some ⟨g, 11, none⟩) n 11) w := by
  have h0 : (0 : Int) ≤ n := by omega
  have h1 : (n : Int) ≤ 11 := by omega
  simp [Instr.sliceAt, Instr.sliceBounds, Instr.sliceBound, run_underlying Tryd.underlying64, Instr.sureAddr, go_sem, h0, h1, h]

set_option maxHeartbeats 2000000 in
theorem implPlacesOf_any (v : Value) (r : List Int) (w : World) (hr : RowAt w v (intsOf r)) (hl : r.length ≤ 1048576) (hi : ∀ n ∈ r, in64 n) :
    Calls Tryd.prog 52 #[v] w fun e w' => ∃ v', e = .returned v' ∧ OwnAt w' w.heap.size v' (rPlacesOf0 r).length (intsOf (rPlacesOf0 r)) ∧ Below w.heap.size w w' := by
  have HS := Lib.hid (sysOf_any v r w hr hl)
  clear hr hi
  cases h : okR r
  · rw [h] at HS
    have E0 := Lib.hid (show rPlacesOf0 r = [] by rw [rPlacesOf0, h]; rfl)
    clear h
    go_enter Tryd.func52, Tryd.ntmps52
    go_wp2_with fail
    refine HS.out.mono ?_
    rintro e w1 ⟨cs, hS, rfl, hB1⟩
    have HV := Lib.hid hS
    clear hS
    go_wp2_with (first
      | (refine wpS_alloc rfl rfl ?_; intro w2 g hg hgs hB2)
      | (refine wpS_store rfl _ _ rfl g cs sysZ hg rfl HV.out.size HV.out.one w.heap.size w (hB1.trans (hB2.mono hB1.size)) (by have := hgs.out.1; have := hB1.size; omega) rfl rfl ?_; intro w3 hg3 hk3 hs3 hB3))
    go_ret
    exact ⟨_, rfl, by rw [E0.out]; exact OwnAt.nil _ _, hB3⟩
  · rw [h] at HS
    have E0 := Lib.hid (show rPlacesOf0 r = plF 1 r by rw [rPlacesOf0, h]; rfl)
    obtain ⟨o1, o2, o3, o4⟩ := okR_yes h
    have HOK := Lib.hid h
    clear h o3
    go_enter Tryd.func52, Tryd.ntmps52
    go_wp2_with fail
    refine HS.out.mono ?_
    rintro e w1 ⟨cs, hS, rfl, hB1⟩
    have HV := Lib.hid hS
    have HK := Lib.hid (hS.yes HOK.out)
    clear hS
    go_wp2_with (first
      | (refine wpS_alloc rfl rfl ?_; intro w2 g hg hgs hB2)
      | (refine wpS_store rfl _ _ rfl g cs sysZ hg rfl HV.out.size HV.out.one w.heap.size w (hB1.trans (hB2.mono hB1.size)) (by have := hgs.out.1; have := hB1.size; omega) rfl rfl ?_; intro w3 hg3 hk3 hs3 hB3; have c0 := sys_cell hg3 HK.out.count; have hcut := cut_places r.length g (by omega) w3))
    go_ret
    refine ⟨_, rfl, ?_, hB3⟩
    rw [E0.out]
    refine ⟨by rw [intsOf_length], .inr ⟨g, 11, 11, cs, _, by rw [plF_len]; rfl, by have := hgs.out.1; have := hB1.size; omega, hg3.out, by rw [plF_len]; omega, by unfold maxLen; omega, by rw [plF_len, HV.out.size]; omega, fun i hi => ?_⟩⟩
    have hi' : i < (plF 1 r).length := by rw [intsOf_length] at hi; exact hi
    have hir : i < r.length := by rw [plF_len] at hi'; exact hi'
    rw [HK.out.pla i (by omega)]
    simp [intsOf, plF_get]

end Go.Proofs.YtleadjkndciniaaDoor
