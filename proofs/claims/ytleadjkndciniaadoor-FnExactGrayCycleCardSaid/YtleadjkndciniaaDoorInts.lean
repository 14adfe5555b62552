/- What the laws do with lists of integers: compare, copy, mark, look at the marks. -/
import Derived.Test.YtleadjkndciniaaDoorRow
import Derived.Maps.AppendAt
set_option linter.unusedVariables false
set_option linter.unusedSimpArgs false
set_option maxRecDepth 100000
namespace Go.Proofs.YtleadjkndciniaaDoor
open Go.ChangeShapes Go.WideShapes Go.ChangeAt Go.RowKit

theorem infoInt : (Tryd.prog.info? 3).map (fun i => (i.zero, i.size, i.bytes)) = some (some (.int .i64 0), 1, 8) := by kernel_rfl

theorem below_marked {B : Nat} {a w w' : World} {v : Value} {e : TypeId} {n base : Nat} {xs : List Value} (h : Below B a w) (hg : w.grownBy w' v.ownBlock) (hown : w.ownsRow base e 1 v n xs) (hB : B ≤ w.heap.size) (hb : B ≤ base) : Below B a w' :=
  h.grown hg hB (fun k hk => by have := (hown.lt k hk).1; omega)

/-- a row that lay before another one was made stands while that one is written -/
theorem owns_apart {w w' : World} {v v' : Value} {e e' : TypeId} {n n' base base' : Nat} {xs xs' : List Value} {W : World} (h : w.ownsRow base e 1 v n xs) (h0 : W.ownsRow base e 1 v n xs) (h' : w.ownsRow base' e' 1 v' n' xs') (hb : W.heap.size ≤ base') (hg : w.grownBy w' v'.ownBlock) : w'.ownsRow base e 1 v n xs := by
  refine h.kept hg ?_
  cases hv : v.ownBlock with
  | none => exact .inl rfl
  | some k =>
    right
    intro e
    have h1 := (h0.lt k hv).2
    have h2 := (h'.lt k e.symm).1
    omega

theorem intsOf_snoc {l : List Int} {k : Nat} (h : k < l.length) : intsOf (l.take (k + 1)) = intsOf (l.take k) ++ [Value.int .i64 l[k]] := by
  simp only [intsOf]; rw [List.take_succ_eq_append_getElem h, List.map_append]; rfl


set_option maxHeartbeats 1000000 in
theorem eqIntS_any (va vb : Value) (l m : List Int) (w : World) (hra : RowAt w va (intsOf l)) (hrb : RowAt w vb (intsOf m)) :
    Calls Tryd.prog 21 #[va, vb] w fun e w' => e = .returned (.bool (decide (l = m))) ∧ Below w.heap.size w w' := by
  obtain ⟨a, cap, rfl, h1, h2, h3⟩ := hra.ints
  obtain ⟨a', cap', rfl, h1', h2', h3'⟩ := hrb.ints
  unfold maxLen at h2 h2'
  by_cases hn : l.length = m.length
  · obtain ⟨n, hm⟩ : ∃ n, n = m.length := ⟨_, rfl⟩
    rw [hn, ← hm] at h1
    rw [← hm] at h1'
    have HM := Lib.hid hm
    have HN := Lib.hid hn
    rw [hn]
    rw [← hm]
    clear hn hm
    go_enter Tryd.func21, Tryd.ntmps21
    go_wp2
    go_loopw [5] (fun i wr => ∃ k : Nat, k ≤ n ∧ i = .int .i64 k ∧ Below w.heap.size w wr ∧ l.take k = m.take k) (fun i _ => n - (intOf i).toNat)
    case atStart => exact ⟨0, Nat.zero_le _, rfl, Below.refl _ _, rfl⟩
    case round =>
      obtain ⟨k, hk, rfl, hB, htk⟩ := hrel
      have HT := Lib.hid htk; clear htk
      by_cases hlt : k < n
      · have hkl : k < l.length := by have := HM.out; have := HN.out; omega
        have hkm : k < m.length := by have := HM.out; omega
        obtain ⟨b, off, rfl, hb, hcell⟩ := h3.resolve_left (fun e => by rw [e] at hkl; simp at hkl)
        obtain ⟨b', off', rfl, hb', hcell'⟩ := h3'.resolve_left (fun e => by rw [e] at hkm; simp at hkm)
        have hc : wr.cell? ⟨b, off + k, none⟩ = some (.int .i64 l[k]) := by rw [hB.cell (p := ⟨b, off + k, none⟩) hb]; exact hcell k hkl
        have hc' : wr.cell? ⟨b', off' + k, none⟩ = some (.int .i64 m[k]) := by rw [hB.cell (p := ⟨b', off' + k, none⟩) hb']; exact hcell' k hkm
        clear h3 h3' hcell hcell'
        by_cases heq : l[k] = m[k]
        · have HS := Lib.hid (take_succ_eq HT.out hkl hkm heq)
          go_wp2
          go_quiet (fail)
          go_wp2
          exact ⟨⟨k + 1, by omega, by go_num, below_drewN hB _, HS.out⟩, by simp [intOf]; omega⟩
        · have hbq : (l[k] == m[k]) = false := by simpa using heq
          have HF := Lib.hid (show l ≠ m from fun e => heq (by subst e; rfl))
          clear heq
          go_wp2
          go_quiet (fail)
          go_wp2
          go_ret
          exact ⟨ret_bool (decide_eq_false HF.out).symm, below_drewN hB _⟩
      · have hkn : k = n := by omega
        subst hkn
        have HE := Lib.hid (show l = m by
          have := HT.out
          rwa [List.take_of_length_le (by have := HM.out; have := HN.out; omega), List.take_of_length_le (by have := HM.out; omega)] at this)
        go_wp2
        go_ret
        exact ⟨ret_bool (decide_eq_true HE.out).symm, hB⟩
  · have HF := Lib.hid (show l ≠ m from fun e => hn (by subst e; rfl))
    have hn' : ((l.length : Int) == (m.length : Int)) = false := by simp; omega
    have hn2 : ((l.length : Int) != (m.length : Int)) = true := by simp; omega
    go_enter Tryd.func21, Tryd.ntmps21
    go_wp2
    go_ret
    exact ⟨ret_bool (decide_eq_false HF.out).symm, Below.refl _ _⟩


/-- the marks k, k + 1 .. n of them -/
def mksI (k n : Nat) : List Int := (List.range' k n).map fun i : Nat => (i : Int)
theorem mksI_length (k n : Nat) : (mksI k n).length = n := by simp [mksI]
theorem mksI_get (k n i : Nat) (h : i < (mksI k n).length) : (mksI k n)[i] = ((k + i : Nat) : Int) := by simp [mksI]

theorem set_marksI (xs : List Value) (s k : Nat) (f : Nat → Int) (h : k < xs.length) : (intsOf ((List.range' s k).map f) ++ xs.drop k).set k (Value.int .i64 (f (s + k))) = intsOf ((List.range' s (k + 1)).map f) ++ xs.drop (k + 1) := by
  have e : xs.drop k = xs[k] :: xs.drop (k + 1) := List.drop_eq_getElem_cons h
  have hl : (intsOf ((List.range' s k).map f)).length = k := by simp [intsOf]
  rw [e, List.set_append_right _ _ (by omega), hl, Nat.sub_self, List.set_cons_zero, List.range'_concat]
  simp [intsOf]

/-- what is owned stands while another row is written -/
theorem owns_far {w w' : World} {v v' : Value} {e : TypeId} {n base : Nat} {xs : List Value} (h : w.ownsRow base e 1 v n xs) (hg : w.grownBy w' v'.ownBlock) (hne : ∀ k, v.ownBlock = some k → v'.ownBlock = some k → False) : w'.ownsRow base e 1 v n xs := by
  refine h.kept hg ?_
  cases hv : v.ownBlock with
  | none => exact .inl rfl
  | some k => exact .inr (fun e => hne k hv e.symm)

set_option maxHeartbeats 1000000 in
theorem markIntS_any (v : Value) (xs : List Value) (n base : Nat) (w : World) (hown0 : w.ownsRow base 3 1 v n xs) (s : Nat) (hs : s ≤ 1099511627776) (hn : n ≤ 1048577) :
    Calls Tryd.prog 22 #[v, .int .i64 s] w fun e w' => e = .returned (.int .i64 (s + n)) ∧ w'.ownsRow base 3 1 v n (intsOf (mksI s n)) ∧ w.grownBy w' v.ownBlock := by
  rcases hown0.2 with ⟨rfl, rfl⟩ | ⟨g, cap, cur, rfl, hbase, hgg, hcap, hcap2, hcs, htk⟩
  · go_enter Tryd.func22, Tryd.ntmps22
    go_wp2
    go_loop [1, 5] (fun m i => i = .int .i64 0 ∧ m = .int .i64 s) (fun _ _ => 0)
    case atStart => exact ⟨rfl, rfl⟩
    case round =>
      obtain ⟨rfl, rfl⟩ := hrel
      go_wp2
      go_ret
      exact ⟨rfl, World.ownsRow_nil _ _ _ _, World.grownBy.refl _ _⟩
  · unfold maxLen at hcap2
    have hlx : xs.length = n := by have := hown0.1; omega
    have hglt := heap_lt_of_some hgg
    go_enter Tryd.func22, Tryd.ntmps22
    go_wp2
    go_loopw [1, 5] (fun m i wr => ∃ k : Nat, k ≤ n ∧ i = .int .i64 k ∧ m = .int .i64 (s + k) ∧ w.grownBy wr (some g) ∧ wr.ownsRow base 3 1 (.slice (some ⟨g, 0, none⟩) n cap) n (intsOf (mksI s k) ++ xs.drop k)) (fun _ i _ => n - (intOf i).toNat)
    case atStart => exact ⟨0, Nat.zero_le _, rfl, rfl, World.grownBy.refl _ _, by simpa [intsOf, mksI] using hown0⟩
    case round =>
      obtain ⟨k, hk, rfl, rfl, hG, hown⟩ := hrel
      have hsz := hG.size
      by_cases hlt : k < n
      · obtain ⟨y, hy⟩ : ∃ y, (intsOf (mksI s k) ++ xs.drop k)[k]? = some y := by
          rw [List.getElem?_append_right (by simp [intsOf, mksI]), show k - (intsOf (mksI s k)).length = 0 by simp [intsOf, mksI]]
          exact ⟨_, List.getElem?_eq_getElem (by simp; omega)⟩
        have hset : (intsOf (mksI s k) ++ xs.drop k).set k (Value.int .i64 (((s + k : Nat) : Int))) = intsOf (mksI s (k + 1)) ++ xs.drop (k + 1) := set_marksI _ s _ _ (by omega)
        have HSET := Lib.hid hset; clear hset
        have hc1 := (hown.cellAt k (by omega)).trans hy
        have hf1 := hown.frozenAt k
        have hst := hown.stored k (Value.int .i64 ((s + k : Nat) : Int))
        rw [HSET.out] at hst
        have HST := Lib.hid hst
        clear hst hown hy
        go_wp2
        go_roundw
        case rel => exact ⟨k + 1, by omega, by go_num, by go_num, hG.trans HST.out.2, HST.out.1⟩
        case measure => simp [intOf]; omega
      · have hkn : k = n := by omega
        subst hkn
        have HO := Lib.hid hown; clear hown
        go_wp2
        go_ret
        refine ⟨rfl, ?_, hG⟩
        have := HO.out
        rwa [List.drop_of_length_le (by omega), List.append_nil] at this

set_option maxHeartbeats 1000000 in
theorem heldIntS_any (v : Value) (s n : Nat) (w : World) (hr : RowAt w v (intsOf (mksI s n))) (hs : s ≤ 1099511627776) (hn : n ≤ 1048577) :
    Calls Tryd.prog 23 #[v, .int .i64 s] w fun e w' => e = .returned (.int .i64 (s + n)) ∧ Below w.heap.size w w' := by
  obtain ⟨a, cap, rfl, h1, h2, h3⟩ := hr.ints
  have h3' : n = 0 ∨ ∃ b off, a = some ⟨b, off, none⟩ ∧ b < w.heap.size ∧ ∀ i, i < n → w.cell? ⟨b, off + i, none⟩ = some (.int .i64 (((s + i : Nat) : Int))) := by
    rcases h3 with h3 | ⟨b, off, ha, hlt, hc⟩
    · exact .inl (by rw [← mksI_length s n, h3]; rfl)
    · exact .inr ⟨b, off, ha, hlt, fun i hi => by rw [hc i (by rw [mksI_length]; exact hi), mksI_get]⟩
  clear h3
  rw [mksI_length] at h1 ⊢
  unfold maxLen at h2
  go_enter Tryd.func23, Tryd.ntmps23
  go_wp2
  go_loopw [1, 5] (fun m i wr => ∃ k : Nat, k ≤ n ∧ i = .int .i64 k ∧ m = .int .i64 (s + k) ∧ Below w.heap.size w wr) (fun _ i _ => n - (intOf i).toNat)
  case atStart => exact ⟨0, Nat.zero_le _, rfl, rfl, Below.refl _ _⟩
  case round =>
    obtain ⟨k, hk, rfl, rfl, hB⟩ := hrel
    by_cases hlt : k < n
    · obtain ⟨b, off, rfl, hb, hcell⟩ := h3'.resolve_left (fun e => by omega)
      have hc : wr.cell? ⟨b, off + k, none⟩ = some (.int .i64 (((s + k : Nat) : Int))) := by
        rw [hB.cell (p := ⟨b, off + k, none⟩) hb, hcell k hlt]
      have hbl : b < wr.heap.size := Nat.lt_of_lt_of_le hb hB.size
      clear h3' hcell
      go_wp2
      go_roundw
      case rel => exact ⟨k + 1, by omega, by go_num, by go_num, hB⟩
      case measure => simp [intOf]; omega
    · have hkn : k = n := by omega
      subst hkn
      clear h3'
      go_wp2
      go_ret
      exact ⟨rfl, hB⟩

/-- the incoming slice of integers reads so -/
theorem isInts_of {W : World} {a : Option Addr} {len cap : Nat} {zs : List Int} (h : IsRow .i64 W a len cap zs) :
    ∃ l : List Int, RowAt W (.slice a len cap) (intsOf l) ∧ ∀ n ∈ l, -9223372036854775808 ≤ n ∧ n ≤ 9223372036854775807 := by
  rcases h with ⟨rfl, rfl, rfl, rfl⟩ | ⟨x, rfl, hl, hm, hz, hcell, hwz⟩
  · exact ⟨[], ⟨none, 0, rfl, Nat.le_refl _, Nat.zero_le _, .inl rfl⟩, fun s hs => by simp at hs⟩
  · have hlen : (intsOf (zs.take len)).length = len := by rw [intsOf_length, List.length_take]; omega
    refine ⟨zs.take len, ⟨some x, cap, by rw [hlen], by rw [hlen]; exact hl, hm, ?_⟩, fun s hs => bounds_i64 (hwz s (List.mem_of_mem_take hs))⟩
    by_cases h0 : len = 0
    · left; exact List.eq_nil_of_length_eq_zero (by omega)
    · right
      have hc0 := hcell 0 (by omega)
      obtain ⟨b, off, spot⟩ := x
      have hspot : spot = none := by simpa [Addr.add] using World.cell?_spot hc0
      subst hspot
      refine ⟨b, off, rfl, ?_, fun i hi => ?_⟩
      · exact World.block_lt_of_cell? W ⟨b, off, none⟩ (by simpa [Addr.add] using hc0)
      · have hi' : i < len := by omega
        have := hcell i (by omega)
        rw [show (⟨b, off, none⟩ : Addr).add i = ⟨b, off + i, none⟩ by unfold Addr.add; split <;> simp_all] at this
        rw [this]
        simp only [intsOf, List.getElem_map, List.getElem_take]
        rw [List.getD_eq_getElem?_getD, List.getElem?_eq_getElem (by omega)]; rfl

end Go.Proofs.YtleadjkndciniaaDoor
