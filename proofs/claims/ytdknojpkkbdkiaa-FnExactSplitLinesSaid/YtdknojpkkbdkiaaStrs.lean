/- What the laws do with lists of texts: compare, copy, mark, look at the marks, measure. -/
import Derived.Test.YtdknojpkkbdkiaaRow
import Derived.Deep.QuietTactic
import Derived.Deep.RegionHeld3
import Derived.BigQuiet
import Derived.Maps.AppendAt
set_option linter.unusedVariables false
namespace Go.Proofs.Ytdknojpkkbdkiaa
open Go.ChangeShapes Go.WideShapes Go.ChangeAt Go.RowKit




theorem strsOf_snoc {l : List ByteArray} {k : Nat} (h : k < l.length) : strsOf (l.take (k + 1)) = strsOf (l.take k) ++ [Value.string l[k]] := by
  simp only [strsOf]; rw [List.take_succ_eq_append_getElem h, List.map_append]; rfl


set_option maxHeartbeats 1000000 in
theorem eqStringS_any (va vb : Value) (l m : List ByteArray) (w : World) (hra : RowAt w va (strsOf l)) (hrb : RowAt w vb (strsOf m)) :
    Calls Try.prog 15 #[va, vb] w fun e w' => e = .returned (.bool (decide (l = m))) ∧ Below w.heap.size w w' := by
  obtain ⟨a, cap, rfl, h1, h2, h3⟩ := hra.strs
  obtain ⟨a', cap', rfl, h1', h2', h3'⟩ := hrb.strs
  unfold maxLen at h2 h2'
  by_cases hn : l.length = m.length
  · obtain ⟨n, hm⟩ : ∃ n, n = m.length := ⟨_, rfl⟩
    rw [hn, ← hm] at h1
    rw [← hm] at h1'
    have HM := Lib.hid hm
    have HN := Lib.hid hn
    rw [hn]
    rw [← hm]
    clear hn hm
    go_enter Try.func15, Try.ntmps15
    go_wp2
    go_loopw [5] (fun i wr => ∃ k : Nat, k ≤ n ∧ i = .int .i64 k ∧ Below w.heap.size w wr ∧ l.take k = m.take k) (fun i _ => n - (intOf i).toNat)
    case atStart => exact ⟨0, Nat.zero_le _, rfl, Below.refl _ _, rfl⟩
    case round =>
      obtain ⟨k, hk, rfl, hB, htk⟩ := hrel
      have HT := Lib.hid htk; clear htk
      by_cases hlt : k < n
      · have hkl : k < l.length := by have := HM.out; have := HN.out; omega
        have hkm : k < m.length := by have := HM.out; omega
        obtain ⟨b, off, rfl, hb, hcell⟩ := h3.resolve_left (fun e => by rw [e] at hkl; simp at hkl)
        obtain ⟨b', off', rfl, hb', hcell'⟩ := h3'.resolve_left (fun e => by rw [e] at hkm; simp at hkm)
        have hc : wr.cell? ⟨b, off + k, none⟩ = some (.string l[k]) := by rw [hB.cell (p := ⟨b, off + k, none⟩) hb]; exact hcell k hkl
        have hc' : wr.cell? ⟨b', off' + k, none⟩ = some (.string m[k]) := by rw [hB.cell (p := ⟨b', off' + k, none⟩) hb']; exact hcell' k hkm
        clear h3 h3' hcell hcell'
        by_cases heq : l[k] = m[k]
        · have HS := Lib.hid (take_succ_eq HT.out hkl hkm heq)
          go_wp2
          go_quiet (fail)
          go_wp2
          exact ⟨⟨k + 1, by omega, by go_num, below_drewN hB _, HS.out⟩, by simp [intOf]; omega⟩
        · have hbq := str_beq_no heq
          have HF := Lib.hid (show l ≠ m from fun e => heq (by subst e; rfl))
          clear heq
          go_wp2
          go_quiet (fail)
          go_wp2
          go_ret
          exact ⟨ret_bool (decide_eq_false HF.out).symm, below_drewN hB _⟩
      · have hkn : k = n := by omega
        subst hkn
        have HE := Lib.hid (show l = m by
          have := HT.out
          rwa [List.take_of_length_le (by have := HM.out; have := HN.out; omega), List.take_of_length_le (by have := HM.out; omega)] at this)
        go_wp2
        go_ret
        exact ⟨ret_bool (decide_eq_true HE.out).symm, hB⟩
  · have HF := Lib.hid (show l ≠ m from fun e => hn (by subst e; rfl))
    have hn' : ((l.length : Int) == (m.length : Int)) = false := by simp; omega
    have hn2 : ((l.length : Int) != (m.length : Int)) = true := by simp; omega
    go_enter Try.func15, Try.ntmps15
    go_wp2
    go_ret
    exact ⟨ret_bool (decide_eq_false HF.out).symm, Below.refl _ _⟩


set_option maxHeartbeats 1000000 in
theorem toStringS_any (v : Value) (l : List ByteArray) (w : World) (hr : RowAt w v (strsOf l)) (hl : l.length ≤ 1048576) :
    Calls Try.prog 22 #[v] w fun e w' => ∃ v', e = .returned v' ∧ w'.ownsRow w.heap.size 9 1 v' l.length (strsOf l) ∧ Below w.heap.size w w' := by
  obtain ⟨a, cap, rfl, h1, h2, h3⟩ := hr.strs
  unfold maxLen at h2
  obtain ⟨i0, hi, hz0, hz1, hz2⟩ := info_parts infoStr
  go_enter Try.func22, Try.ntmps22
  go_wp2_with (at_make; refine wpList_make_full _ rfl _ _ 23 rfl w.heap.size 9 i0 (.string ⟨#[]⟩) 1 Try.underlying23 hi hz0 hz1 _ _ _ _ l.length rfl rfl rfl rfl ?c1 ?c2 ?c3 ?_)
  case c1 => rw [hz2]; omega
  case c2 => unfold maxLen; omega
  case c3 => exact Nat.le_refl _
  intro w1 hown hgrow
  have hown1 : w1.ownsRow w.heap.size 9 1 (.slice (some ⟨w.heap.size, 0, none⟩) l.length l.length) l.length (strsOf (l.take 0) ++ List.replicate (l.length - 0) (.string ⟨#[]⟩)) := by
    rw [toList_madeCells_one] at hown; simpa [strsOf] using hown
  have hB1 : Below w.heap.size w w1 := (Below.refl _ _).grown hgrow (Nat.le_refl _) (fun k hk => by cases hk)
  clear hown hgrow
  go_wp2
  go_loopw [4] (fun i wr => ∃ k : Nat, k ≤ l.length ∧ i = .int .i64 k ∧ Below w.heap.size w wr ∧ wr.ownsRow w.heap.size 9 1 (.slice (some ⟨w.heap.size, 0, none⟩) l.length l.length) l.length (strsOf (l.take k) ++ List.replicate (l.length - k) (.string ⟨#[]⟩))) (fun i _ => l.length - (intOf i).toNat)
  case atStart => exact ⟨0, Nat.zero_le _, rfl, hB1, hown1⟩
  case round =>
    obtain ⟨k, hk, rfl, hB, hown⟩ := hrel
    clear hown1 hB1
    by_cases hlt : k < l.length
    · obtain ⟨b, off, rfl, hb, hcell⟩ := h3.resolve_left (fun e => by rw [e] at hlt; simp at hlt)
      have hc : wr.cell? ⟨b, off + k, none⟩ = some (.string l[k]) := by rw [hB.cell (p := ⟨b, off + k, none⟩) hb]; exact hcell k hlt
      have hc2 : wr.cell? ⟨w.heap.size, k, none⟩ = some (.string ⟨#[]⟩) := by
        rw [hown.cellAt k (by omega), List.getElem?_append_right (by simp [strsOf]; omega)]
        rw [show k - (strsOf (l.take k)).length = 0 by simp [strsOf]; omega, List.getElem?_replicate, if_pos (by omega)]
      have hf2 : wr.frozen? ⟨w.heap.size, k, none⟩ = false := hown.frozenAt k
      have hst := (hown.stored k (.string l[k])).1
      have hset : (strsOf (l.take k) ++ List.replicate (l.length - k) (Value.string ⟨#[]⟩)).set k (Value.string l[k]) = strsOf (l.take (k + 1)) ++ List.replicate (l.length - (k + 1)) (Value.string ⟨#[]⟩) := by
        obtain ⟨m, hm⟩ : ∃ m, l.length - k = m + 1 := ⟨l.length - k - 1, by omega⟩
        have e1 := set_fill (strsOf (l.take k)) (Value.string ⟨#[]⟩) (Value.string l[k]) m
        rw [show (strsOf (l.take k)).length = k by simp [strsOf]; omega] at e1
        rw [hm, e1, show l.length - (k + 1) = m by omega, strsOf_snoc hlt]
      rw [hset] at hst
      have HST := Lib.hid hst
      clear h3 hcell hset hst hown
      go_wp2
      go_roundw
      case rel => exact ⟨k + 1, by omega, by go_num, hB.setCell (p := ⟨w.heap.size, k, none⟩) (Nat.le_refl _) _, HST.out⟩
      case measure => simp [intOf]; omega
    · have hkn : k = l.length := by omega
      subst hkn
      clear h3
      have HO := Lib.hid hown; clear hown
      go_wp2
      go_ret
      refine ⟨_, rfl, ?_, hB⟩
      have := HO.out
      simpa using this

/-- the text of mark k -/
def mtL : Nat → Nat → List UInt8 → List UInt8
  | 0, _, o => o
  | f + 1, k, o => if k = 0 then o else mtL f (k / 10) (UInt8.ofNat (48 + k % 10) :: o)
def mt (k : Nat) : ByteArray := bs (109 :: mtL k k [])


set_option maxHeartbeats 1000000 in
theorem markText_any (k0 : Nat) (w : World) (h0 : 0 < k0) (hk : k0 ≤ 1048577) :
    Calls Try.prog 29 #[.int .i64 k0] w fun e w' => e = .returned (.string (mt k0)) ∧ Below w.heap.size w w' := by
  have h0' : (0 : Int) < k0 := by omega
  go_enter Try.func29, Try.ntmps29
  go_wp2
  go_loopw [0, 3] (fun n o wr => ∃ (f j : Nat) (x : List UInt8), n = .int .i64 j ∧ o = .string (bs x) ∧ j ≤ 1048577 ∧ j ≤ f ∧ x.length + f ≤ 1048577 ∧ mtL f j x = mtL k0 k0 [] ∧ Below w.heap.size w wr) (fun n _ _ => (intOf n).toNat)
  case atStart => exact ⟨k0, k0, [], rfl, rfl, hk, Nat.le_refl _, by simpa using hk, rfl, Below.refl _ _⟩
  case round =>
    obtain ⟨f, j, x, rfl, rfl, hj1, hj2, hj3, hmt, hB⟩ := hrel
    have HM := Lib.hid hmt; clear hmt
    have hsz := hB.size
    have hx1 : (bs x).size ≤ 1048577 := by rw [bs_size]; omega
    by_cases hz : j = 0
    · subst hz
      clear h0'
      go_wp2
      go_ret
      refine ⟨ret_string ?_, hB⟩
      have e0 : mtL f 0 x = x := by cases f <;> simp [mtL]
      rw [mt, ← HM.out, e0]
      apply bs_ext; simp [bs]
    · have hjp : (0 : Int) < j := by omega
      have hcv := conv1 wr (48 + (j : Int) % 10)
      obtain ⟨c, hc⟩ : ∃ c, c = UInt8.ofNat (48 + (j : Int) % 10).toNat := ⟨_, rfl⟩
      rw [← hc] at hcv
      have HC := Lib.hid hc; clear hc
      have hs1 : (bs [c]).size = 1 := rfl
      have hs2 : (bs [c]).size ≤ 1 := Nat.le_of_eq hs1
      clear hs1
      go_wp2
      go_roundw
      case rel =>
        obtain ⟨g, rfl⟩ : ∃ g, f = g + 1 := ⟨f - 1, by omega⟩
        refine ⟨g, j / 10, c :: x, by go_num, by rw [bs_add, data_bs]; rfl, by omega, by omega, by simp; omega, ?_, hB.alloc hsz _⟩
        have := HM.out
        rw [mtL, if_neg hz] at this
        rw [HC.out, ← this, show (48 + (j : Int) % 10).toNat = 48 + j % 10 by omega]
      case measure => simp [intOf]; omega

/-- the marks k, k + 1 .. n of them -/
def mks (k n : Nat) : List ByteArray := (List.range' k n).map mt
theorem mks_length (k n : Nat) : (mks k n).length = n := by simp [mks]
theorem mks_get (k n i : Nat) (h : i < (mks k n).length) : (mks k n)[i] = mt (k + i) := by simp [mks]

theorem set_marks (xs : List Value) (k : Nat) (f : Nat → ByteArray) (h : k < xs.length) : (strsOf ((List.range' 1 k).map f) ++ xs.drop k).set k (Value.string (f (1 + k))) = strsOf ((List.range' 1 (k + 1)).map f) ++ xs.drop (k + 1) := by
  have e : xs.drop k = xs[k] :: xs.drop (k + 1) := List.drop_eq_getElem_cons h
  have hl : (strsOf ((List.range' 1 k).map f)).length = k := by simp [strsOf]
  rw [e, List.set_append_right _ _ (by omega), hl, Nat.sub_self, List.set_cons_zero, List.range'_concat]
  simp [strsOf]

set_option maxHeartbeats 1000000 in
theorem markStringS_any (v : Value) (xs : List Value) (n base : Nat) (w : World) (hown0 : w.ownsRow base 9 1 v n xs) (hn : n ≤ 1048577) :
    Calls Try.prog 16 #[v, .int .i64 1] w fun e w' => e = .returned (.int .i64 (1 + n)) ∧ w'.ownsRow base 9 1 v n (strsOf (mks 1 n)) ∧ w.grownBy w' v.ownBlock := by
  rcases hown0.2 with ⟨rfl, rfl⟩ | ⟨g, cap, cur, rfl, hbase, hgg, hcap, hcap2, hcs, htk⟩
  · go_enter Try.func16, Try.ntmps16
    go_wp2
    go_loop [1, 5] (fun m i => i = .int .i64 0 ∧ m = .int .i64 1) (fun _ _ => 0)
    case atStart => exact ⟨rfl, rfl⟩
    case round =>
      obtain ⟨rfl, rfl⟩ := hrel
      go_wp2
      go_ret
      exact ⟨rfl, World.ownsRow_nil _ _ _ _, World.grownBy.refl _ _⟩
  · unfold maxLen at hcap2
    have hlx : xs.length = n := by have := hown0.1; omega
    have hglt := heap_lt_of_some hgg
    go_enter Try.func16, Try.ntmps16
    go_wp2
    go_loopw [1, 5] (fun m i wr => ∃ k : Nat, k ≤ n ∧ i = .int .i64 k ∧ m = .int .i64 (1 + k) ∧ w.grownBy wr (some g) ∧ wr.ownsRow base 9 1 (.slice (some ⟨g, 0, none⟩) n cap) n (strsOf (mks 1 k) ++ xs.drop k)) (fun _ i _ => n - (intOf i).toNat)
    case atStart => exact ⟨0, Nat.zero_le _, rfl, rfl, World.grownBy.refl _ _, by simpa [strsOf, mks] using hown0⟩
    case round =>
      obtain ⟨k, hk, rfl, rfl, hG, hown⟩ := hrel
      have hsz := hG.size
      by_cases hlt : k < n
      · obtain ⟨y, hy⟩ : ∃ y, (strsOf (mks 1 k) ++ xs.drop k)[k]? = some y := by
          rw [List.getElem?_append_right (by simp [strsOf, mks]), show k - (strsOf (mks 1 k)).length = 0 by simp [strsOf, mks]]
          exact ⟨_, List.getElem?_eq_getElem (by simp; omega)⟩
        have hset : (strsOf (mks 1 k) ++ xs.drop k).set k (Value.string (mt (1 + k))) = strsOf (mks 1 (k + 1)) ++ xs.drop (k + 1) := set_marks _ _ _ (by omega)
        have HSET := Lib.hid hset; clear hset
        go_wp2_with (go_at_call 29; refine (markText_any (1 + k) _ (by omega) (by omega)).mono ?_; rintro e w1 ⟨rfl, hb⟩; have ho := owns_below hown hb; have hc1 := (ho.cellAt k (by omega)).trans hy; have hf1 := ho.frozenAt k; have hst := (ho.stored k (Value.string (mt (1 + k)))); rw [HSET.out] at hst; have HST := Lib.hid hst; clear hst ho hown hy)
        go_roundw
        case rel => exact ⟨k + 1, by omega, by go_num, by go_num, (hG.trans (below_grown hb _)).trans HST.out.2, HST.out.1⟩
        case measure => simp [intOf]; omega
      · have hkn : k = n := by omega
        subst hkn
        have HO := Lib.hid hown; clear hown
        go_wp2
        go_ret
        refine ⟨rfl, ?_, hG⟩
        have := HO.out
        rwa [List.drop_of_length_le (by omega), List.append_nil] at this

theorem held_keep {w W w1 : World} {a : Addr} {v : Value} (hs : W.cell? a = some v ∧ Below w.heap.size w W) (hb : Below W.heap.size W w1) : w1.cell? a = some v ∧ Below w.heap.size w w1 :=
  ⟨(hb.cell (World.block_lt_of_cell? W a hs.1)).trans hs.1, hs.2.trans (hb.mono hs.2.size)⟩

set_option maxHeartbeats 1000000 in
theorem heldStringS_any (v : Value) (n : Nat) (w : World) (hr : RowAt w v (strsOf (mks 1 n))) (hn : n ≤ 1048577) :
    Calls Try.prog 17 #[v, .int .i64 1] w fun e w' => e = .returned (.int .i64 (1 + n)) ∧ Below w.heap.size w w' := by
  obtain ⟨a, cap, rfl, h1, h2, h3⟩ := hr.strs
  have h3' : n = 0 ∨ ∃ b off, a = some ⟨b, off, none⟩ ∧ b < w.heap.size ∧ ∀ i, i < n → w.cell? ⟨b, off + i, none⟩ = some (.string (mt (1 + i))) := by
    rcases h3 with h3 | ⟨b, off, ha, hlt, hc⟩
    · exact .inl (by rw [← mks_length 1 n, h3]; rfl)
    · exact .inr ⟨b, off, ha, hlt, fun i hi => by rw [hc i (by rw [mks_length]; exact hi), mks_get]⟩
  clear h3
  rw [mks_length] at h1 ⊢
  unfold maxLen at h2
  go_enter Try.func17, Try.ntmps17
  go_wp2
  go_loopw [1, 5] (fun m i wr => ∃ k : Nat, k ≤ n ∧ i = .int .i64 k ∧ m = .int .i64 (1 + k) ∧ Below w.heap.size w wr) (fun _ i _ => n - (intOf i).toNat)
  case atStart => exact ⟨0, Nat.zero_le _, rfl, rfl, Below.refl _ _⟩
  case round =>
    obtain ⟨k, hk, rfl, rfl, hB⟩ := hrel
    by_cases hlt : k < n
    · obtain ⟨b, off, rfl, hb, hcell⟩ := h3'.resolve_left (fun e => by omega)
      have hc : wr.cell? ⟨b, off + k, none⟩ = some (.string (mt (1 + k))) := by
        rw [hB.cell (p := ⟨b, off + k, none⟩) hb, hcell k hlt]
      have hbl : b < wr.heap.size := Nat.lt_of_lt_of_le hb hB.size
      clear h3' hcell
      go_wp2
      go_region_held3 (fun W => W.cell? ⟨b, off + k, none⟩ = some (.string (mt (1 + k))) ∧ Below w.heap.size w W) (first | exact ⟨by simpa using hc, hB.drew⟩ | (apply held_keep; assumption; assumption))
        (first | (go_at_call 29; refine (markText_any (1 + k) _ (by omega) (by omega)).mono ?_; rintro e w1 ⟨rfl, hb1⟩))
      rename_i hH
      have hB1 := hH.2
      clear hH hb1 hB hc hr
      go_wp2
      go_roundw
      case rel => exact ⟨k + 1, by omega, by go_num, by go_num, hB1⟩
      case measure => simp [intOf]; omega
    · have hkn : k = n := by omega
      subst hkn
      clear h3'
      go_wp2
      go_ret
      exact ⟨rfl, hB⟩

def sizes (l : List ByteArray) : Nat := (l.map ByteArray.size).sum
theorem sizes_snoc {l : List ByteArray} {k : Nat} (h : k < l.length) : sizes (l.take (k + 1)) = sizes (l.take k) + l[k].size := by
  simp only [sizes]; rw [List.take_succ_eq_append_getElem h, List.map_append, List.sum_append]; simp only [List.map_cons, List.map_nil, List.sum_cons, List.sum_nil, Nat.add_zero]

def SzPost (l : List ByteArray) (w : World) (e : Ending) (w' : World) : Prop := ∃ r : Int, e = .returned (.int .i64 r) ∧ -1 ≤ r ∧ r ≤ 1048576 ∧ (0 ≤ r → l.length + sizes l ≤ 1048576) ∧ w = w'

set_option maxHeartbeats 1000000 in
theorem szStringS_any (v : Value) (l : List ByteArray) (w : World) (hr : RowAt w v (strsOf l)) (hls : ∀ s ∈ l, s.size ≤ maxLen) :
    Calls Try.prog 20 #[v, .int .i64 1048576] w (SzPost l w) := by
  obtain ⟨a, cap, rfl, h1, h2, h3⟩ := hr.strs
  unfold maxLen at h2
  by_cases hbig : 1048576 < l.length
  · have HP : ∀ e w', e = .returned (.int .i64 (-1)) → w = w' → SzPost l w e w' := fun e w' he hw => ⟨-1, he, by omega, by omega, fun h => by omega, hw⟩
    go_enter Try.func20, Try.ntmps20
    go_wp2
    go_ret
    exact HP _ _ rfl rfl
  · go_enter Try.func20, Try.ntmps20
    go_wp2
    go_loop [1, 5] (fun m i => ∃ k : Nat, k ≤ l.length ∧ i = .int .i64 k ∧ l.length + sizes (l.take k) ≤ 1048576 ∧ m = .int .i64 (1048576 - (l.length : Int) - (sizes (l.take k) : Int))) (fun _ i => l.length - (intOf i).toNat)
    case atStart => exact ⟨0, Nat.zero_le _, rfl, by simp [sizes]; omega, by simp [sizes]⟩
    case round =>
      obtain ⟨k, hk, rfl, hle, rfl⟩ := hrel
      obtain ⟨z, hz⟩ : ∃ z, z = sizes (l.take k) := ⟨_, rfl⟩
      rw [← hz] at hle ⊢
      have HZ := Lib.hid hz; clear hz
      by_cases hlt : k < l.length
      · obtain ⟨b, off, rfl, hb, hcell⟩ := h3.resolve_left (fun e => by rw [e] at hlt; simp at hlt)
        have hc := hcell k hlt
        have hx := hls l[k] (List.getElem_mem hlt)
        unfold maxLen at hx
        have HS := Lib.hid (sizes_snoc hlt)
        clear h3 hcell
        by_cases hov : 1048576 - (l.length : Int) - (z : Int) - (l[k].size : Int) < 0
        · have HP : ∀ e w', e = .returned (.int .i64 (-1)) → w = w' → SzPost l w e w' := fun e w' he hw => ⟨-1, he, by omega, by omega, fun h => by omega, hw⟩
          go_wp2
          go_ret
          exact HP _ _ rfl rfl
        · go_wp2
          go_round
          case rel =>
            have e2 := HS.out
            rw [← HZ.out] at e2
            exact ⟨k + 1, by omega, by go_num, by rw [e2]; omega, by rw [e2]; congr 1; omega⟩
          case measure => simp [intOf]; omega
      · have hkn : k = l.length := by omega
        have HK := Lib.hid (show z = sizes l by rw [HZ.out, hkn, List.take_length])
        have HP : ∀ e w', e = .returned (.int .i64 (1048576 - (l.length : Int) - (z : Int))) → w = w' → SzPost l w e w' := fun e w' he hw => ⟨_, he, by omega, by omega, fun h => by rw [← HK.out]; exact hle, hw⟩
        clear h3
        go_wp2
        go_ret
        exact HP _ _ rfl rfl

/-- the incoming slice of texts reads so -/
theorem isStrs_of {H : Type} {enc : TypeId × Value → H} {W : World} {a : Option Addr} {len cap : Nat} {d : DataW H} {p : List MemPlace}
    (h : DataW.Trod enc Try.prog W 0 (fun _ => true) true 23 (.slice a len cap) d p) (lt : ∀ x ∈ p, x.block < W.heap.size) :
    ∃ l : List ByteArray, RowAt W (.slice a len cap) (strsOf l) ∧ ∀ s ∈ l, s.size ≤ maxLen := by
  obtain ⟨fuel, hf⟩ := h
  rcases open_strings Try.underlying23 Try.underlying9 (by kernel_rfl) hf with ⟨hcs, _⟩ | ⟨x, l, c, ss, hcs, _, hl, hm, hz, _, hcell, hwz⟩
  · simp [Value.cells] at hcs; obtain ⟨rfl, rfl, rfl⟩ := hcs
    exact ⟨[], ⟨none, 0, rfl, Nat.le_refl _, Nat.zero_le _, .inl rfl⟩, fun s hs => by simp at hs⟩
  · simp [Value.cells] at hcs; obtain ⟨rfl, rfl, rfl⟩ := hcs
    have hz' : ss.length = cap := by simpa using hz
    have hlen : (strsOf (ss.take len)).length = len := by rw [strsOf_length, List.length_take]; omega
    refine ⟨ss.take len, ⟨some x, cap, by rw [hlen], by rw [hlen]; exact hl, hm, ?_⟩, fun s hs => hwz s (List.mem_of_mem_take hs)⟩
    by_cases h0 : len = 0
    · left; exact List.eq_nil_of_length_eq_zero (by omega)
    · right
      have hc0 := hcell 0 (by omega)
      obtain ⟨b, off, spot⟩ := x
      have hspot : spot = none := by simpa [Addr.add] using World.cell?_spot hc0
      subst hspot
      refine ⟨b, off, rfl, ?_, fun i hi => ?_⟩
      · exact World.block_lt_of_cell? W ⟨b, off, none⟩ (by simpa [Addr.add] using hc0)
      · have hi' : i < len := by omega
        have := hcell i (by omega)
        rw [show (⟨b, off, none⟩ : Addr).add i = ⟨b, off + i, none⟩ by unfold Addr.add; split <;> simp_all] at this
        rw [this]
        simp only [strsOf, List.getElem_map, List.getElem_take]
        rw [List.getD_eq_getElem?_getD, List.getElem?_eq_getElem (by omega)]; rfl

end Go.Proofs.Ytdknojpkkbdkiaa
