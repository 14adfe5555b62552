/- A strings.Builder that is written byte by byte in the rounds of a range over a function: which blocks lie as they lay. -/
import Derived.Test.YtiemhhkoegkleaaRf
import Derived.Shelf.RegionOpen
import Derived.Shelf.Small.Strs
import Derived.Shelf.Strings.Builder1
import Derived.Shelf.Strings.Search1
set_option linter.unusedVariables false
set_option linter.unusedSimpArgs false
set_option maxRecDepth 100000
namespace Go.Proofs.Ytiemhhkoegkleaa
open Go.ChangeShapes Go.WideShapes Go.ChangeAt Go.RowKit

theorem bldSize : (Try.prog.info? 68).map (·.size) = some 2 := by kernel_rfl
theorem bldLies : liesAt Try.prog Try.prog.depth 68 (2 / Try.prog.cellsOf 68) 0 68 1 = true := by kernel_rfl
theorem infoByte : (Try.prog.info? 5).map (fun i => (i.zero, i.size, i.bytes)) = some (some (.int .u8 0), 1, 1) := by kernel_rfl

set_option maxRecDepth 100000 in
set_option maxHeartbeats 1000000 in
theorem copyCheck_used (b : Nat) (w : World) (h0 : w.cell? ⟨b, 0, none⟩ = some (.pointer (some ⟨b, 0, none⟩))) :
    Calls Try.prog 85 #[.pointer (some ⟨b, 0, none⟩)] w fun e w' => e = .returned (.tuple #[]) ∧ w' = w := by
  obtain ⟨j, hj, _⟩ := Option.map_eq_some_iff.1 bldSize
  go_enter Try.func85, Try.ntmps85
  go_wp2
  rw [Lib.run_neq_ptr_same w _ Try.underlying66 hj]
  go_wp2
  go_end0
  exact ⟨rfl, rfl⟩

set_option maxRecDepth 100000 in
set_option maxHeartbeats 1000000 in
theorem copyCheck_fresh (b : Nat) (w : World) (h0 : w.cell? ⟨b, 0, none⟩ = some (.pointer none)) (hsh : w.shape? b = some (68, 2)) (hfz : w.frozen? ⟨b, 0, none⟩ = false) :
    Calls Try.prog 85 #[.pointer (some ⟨b, 0, none⟩)] w fun e w' => e = .returned (.tuple #[]) ∧ w' = w.setCell ⟨b, 0, none⟩ (.pointer (some ⟨b, 0, none⟩)) := by
  obtain ⟨j, hj, hjs⟩ := Option.map_eq_some_iff.1 bldSize
  go_enter Try.func85, Try.ntmps85
  go_wp2
  rw [Lib.run_to_unsafe w ⟨b, 0, none⟩ Try.underlying66 Try.underlying105 hj (by rw [hjs]; decide) hsh (Nat.zero_lt_succ 1)]
  simp only [Result.andThen]
  rw [Oper.upon_value]
  go_wp2
  rw [run_callFunc_extern Try.func96 (by kernel_rfl) (by kernel_rfl) (by kernel_rfl) (e := Extern.AbiNoEscape.same) (by kernel_rfl)]
  rw [Lib.run_noEscape]
  simp only [Result.andThen]
  rw [Oper.upon_value]
  go_wp2
  rw [Lib.run_from_unsafe w ⟨b, 0, none⟩ Try.underlying105 Try.underlying66 hj hsh bldLies]
  simp only [Result.andThen]
  rw [Oper.upon_value]
  go_wp2
  go_end0
  exact ⟨rfl, rfl⟩

/-- block b is a builder that holds the bytes l, in a row of its own that lies at R or behind; b lies below R -/
def BldR (R b : Nat) (l : List UInt8) (w : World) : Prop :=
  b < R ∧ ∃ p v, (p = .pointer none ∨ p = .pointer (some ⟨b, 0, none⟩)) ∧ w.heap[b]? = some (.cells #[p, v] 68 (0, 0)) ∧ w.ownsRow R 5 1 v l.length (Lib.byteCells l)

theorem BldR.lt {R b : Nat} {l : List UInt8} {w : World} (h : BldR R b l w) : b < w.heap.size := by
  obtain ⟨_, p, v, _, hb, _⟩ := h
  exact heap_lt_of_some hb

theorem BldR.is {R b B : Nat} {l : List UInt8} {w : World} (h : BldR R b l w) (hB : B ≤ b) : Lib.IsBuilder 68 5 B b (Lib.byteCells l) w := by
  obtain ⟨hbR, p, v, hp, hb, hown⟩ := h
  have hown' : w.ownsRow B 5 1 v (Lib.byteCells l).length (Lib.byteCells l) := by
    rw [Lib.byteCells_length]; exact owns_mono hown (by omega)
  have hne : v.ownBlock ≠ some b := fun e => by have := (hown.lt b e).1; omega
  rcases hp with rfl | rfl
  · exact .inl ⟨hB, v, hb, hown', hne⟩
  · exact .inr ⟨hB, v, hb, hown', hne⟩

theorem BldR.new (w : World) (R : Nat) (hR : w.heap.size < R) : BldR R w.heap.size [] (w.alloc (.cells #[.pointer none, .slice none 0 0] 68)) :=
  ⟨hR, _, _, .inl rfl, World.alloc_heap_new w _, World.ownsRow_nil _ _ _ _⟩

/-- it stands where its own two blocks lie as they lay -/
theorem BldR.kept {R b : Nat} {l : List UInt8} {w w' : World} {row : Option Nat} (h : BldR R b l w) (hg : w.grownBy w' row) (hr : ∀ r, row = some r → ∃ o : Obj, w.heap[r]? = some o ∧ o.isCells = false) : BldR R b l w' := by
  obtain ⟨hbR, p, v, hp, hb, hown⟩ := h
  refine ⟨hbR, p, v, hp, (grownBy_keeps_cells hg hr hb rfl).trans hb, hown.kept hg ?_⟩
  rcases hown.2 with ⟨rfl, _⟩ | ⟨g, cap, cur, rfl, _, hgb, _⟩
  · exact .inl rfl
  · refine .inr fun e' => ?_
    obtain ⟨o, ho, hc⟩ := hr g (by simpa [Value.ownBlock] using e'.symm)
    rw [hgb] at ho; cases ho; cases hc

theorem grownBy_setCell1 (W : World) (b : Nat) (v : Value) : W.grownBy (W.setCell ⟨b, 1, none⟩ v) (some b) :=
  ⟨rfl, rfl, rfl, (KeepsWalks.setCell W _ v).size, fun k _ hk => Below.heap_setCell _ _ _ k (fun e => hk (by rw [e]))⟩

set_option maxHeartbeats 2000000 in
set_option maxRecDepth 100000 in
theorem writeByte_any (R b : Nat) (l : List UInt8) (c : UInt8) (w : World) (h : BldR R b l w) (hl : l.length ≤ 1000000) (hR : R ≤ w.heap.size) :
    Calls Try.prog 55 #[.pointer (some ⟨b, 0, none⟩), .int .u8 c.toNat] w fun e w' => e = .returned .nilIface ∧ BldR R b (l ++ [c]) w' ∧ Below b w w' ∧ ∀ A m, b < A → A + m ≤ R → Area A m w w' := by
  obtain ⟨i0, hi, hz0, hz1, hz2⟩ := info_parts infoByte
  obtain ⟨hbR, p, v, hp, hb, hown⟩ := h
  have hlt := heap_lt_of_some hb
  -- behind copyCheck
  obtain ⟨w1, hw1⟩ : ∃ w1, w1 = w.setCell ⟨b, 0, none⟩ (.pointer (some ⟨b, 0, none⟩)) := ⟨_, rfl⟩
  have HCC : Hid (Calls Try.prog 85 #[.pointer (some ⟨b, 0, none⟩)] w fun e w' => e = .returned (.tuple #[]) ∧ (w' = w ∧ p = .pointer (some ⟨b, 0, none⟩) ∨ w' = w1)) := by
    refine Lib.hid ?_
    rcases hp with rfl | rfl
    · refine (copyCheck_fresh b w (by rw [Lib.cell_of_heap hb]; rfl) (by simp [World.shape?, hb]) (Lib.frozen_of_heap hb 0)).mono ?_
      rintro e w' ⟨rfl, rfl⟩
      exact ⟨rfl, .inr hw1.symm⟩
    · refine (copyCheck_used b w (by rw [Lib.cell_of_heap hb]; rfl)).mono ?_
      rintro e w' ⟨rfl, rfl⟩
      exact ⟨rfl, .inl ⟨rfl, rfl⟩⟩
  have hgs : w.grownBy w1 (some b) := by rw [hw1]; exact grownBy_setCell' w b _
  have h1b : w1.heap[b]? = some (.cells #[.pointer (some ⟨b, 0, none⟩), v] 68 (0, 0)) := by
    obtain ⟨_, hk⟩ := Array.getElem?_eq_some_iff.1 hb
    rw [hw1]
    show (w.heap.modify b _)[b]? = _
    rw [Array.getElem?_eq_getElem (by rw [Array.size_modify]; exact hlt), Array.getElem_modify_self, hk]
    rfl
  have h1o : w1.ownsRow R 5 1 v l.length (Lib.byteCells l) := hown.kept hgs (by
    rcases hown.2 with ⟨rfl, _⟩ | ⟨g, cap, cur, rfl, hgR, _⟩
    · exact .inl rfl
    · exact .inr (fun e => by simp [Value.ownBlock] at e; omega))
  -- what stands behind copyCheck, whichever way it went
  have HF : ∀ W, (W = w ∧ p = .pointer (some ⟨b, 0, none⟩) ∨ W = w1) → Hid (W.heap[b]? = some (.cells #[.pointer (some ⟨b, 0, none⟩), v] 68 (0, 0)) ∧ W.ownsRow R 5 1 v l.length (Lib.byteCells l) ∧ w.grownBy W (some b)) := by
    rintro W (⟨rfl, rfl⟩ | rfl)
    · exact Lib.hid ⟨hb, hown, World.grownBy.refl _ _⟩
    · exact Lib.hid ⟨h1b, h1o, hgs⟩
  clear hp h1b h1o hgs
  clear hw1
  have HFF := Lib.hid HF
  clear HF hb hown
  go_enter Try.func55, Try.ntmps55
  go_wp2_with (go_at_call 85; refine HCC.out.mono ?_)
  rintro e W ⟨rfl, hW⟩
  obtain ⟨hbk, hown, hgW⟩ := (HFF.out W hW).out
  have HGW := Lib.hid hgW
  have hszW := hgW.size
  clear HFF HCC hW hgW
  have c0 : W.cell? ⟨b, 0, none⟩ = some (.pointer (some ⟨b, 0, none⟩)) := by rw [Lib.cell_of_heap hbk]; rfl
  have c1 : W.cell? ⟨b, 1, none⟩ = some v := by rw [Lib.cell_of_heap hbk]; rfl
  have f1 : W.frozen? ⟨b, 1, none⟩ = false := Lib.frozen_of_heap hbk 1
  have HBK := Lib.hid hbk
  clear hbk
  go_wp2_with (at_builtin; refine wpList_append_own _ rfl _ _ 22 rfl R 5 i0 (.int .u8 0) 1 1 Try.underlying22 hi hz0 hz1 hz2 rfl (by decide) _ _ _ rfl (hown.alloc _) ⟨W.heap.size, 0, none⟩ 1 1 [.int .u8 c.toNat] rfl rfl ?c1 ?c2 ?c3 ?c4 ?c5 ?_)
  case c1 => exact one_cell _ _ _
  case c2 => intro u hu; simp at hu; subst hu; rfl
  case c3 => unfold maxLen; omega
  case c4 => omega
  case c5 => simp; omega
  intro v' w2 hown' hgrow _
  have hrow : ∀ k, v.ownBlock = some k → R ≤ k := fun k hk => (hown.lt k hk).1
  have hb2 : w2.heap[b]? = some (.cells #[.pointer (some ⟨b, 0, none⟩), v] 68 (0, 0)) := by
    rw [hgrow.block b (by simp; omega) (fun e => by have := hrow b e.symm; omega), Below.heap_alloc _ _ _ (by omega)]
    exact HBK.out
  have d0 : w2.cell? ⟨b, 0, none⟩ = some (.pointer (some ⟨b, 0, none⟩)) := by rw [Lib.cell_of_heap hb2]; rfl
  have d1 : w2.cell? ⟨b, 1, none⟩ = some v := by rw [Lib.cell_of_heap hb2]; rfl
  have f2 : w2.frozen? ⟨b, 1, none⟩ = false := Lib.frozen_of_heap hb2 1
  have HA := Lib.hid (show Below b w w2 ∧ ∀ A m, b < A → A + m ≤ R → Area A m w w2 by
    have g1 := HGW.out
    refine ⟨(((Below.refl b w).grown g1 (by omega) (fun k e => by cases e; exact Nat.le_refl _)).alloc (by omega) (.cells #[.int .u8 c.toNat] 5)).grown hgrow (by simp; omega) (fun k hk => by have := hrow k hk; omega), ?_⟩
    intro A m hA hm
    exact ((Area.grown g1 (by omega) (fun r e => by cases e; exact .inl hA)).trans (Area.alloc _ (by omega))).trans (Area.grown hgrow (by simp; omega) (fun r e => .inr (by have := hrow r e; omega))))
  have HO := Lib.hid hown'
  have HB2 := Lib.hid hb2
  obtain ⟨ao, n', cap, rfl⟩ : ∃ ao n' cap, v' = .slice ao n' cap := by
    rcases hown'.2 with ⟨hv, _⟩ | ⟨g, cap, cur, hv, _⟩
    · exact ⟨_, _, _, hv⟩
    · exact ⟨_, _, _, hv⟩
  clear hown' hgrow hown hrow hb2
  go_wp2
  go_ret
  refine ⟨rfl, ⟨hbR, .pointer (some ⟨b, 0, none⟩), .slice ao n' cap, .inr rfl, ?_, ?_⟩, HA.out.1.setCell (p := ⟨b, 1, none⟩) (Nat.le_refl _) _, fun A m hA hm => (HA.out.2 A m hA hm).trans (Area.setCell _ _ (.inl hA))⟩
  · obtain ⟨hlt2, hk⟩ := Array.getElem?_eq_some_iff.1 HB2.out
    show (w2.heap.modify b _)[b]? = _
    rw [Array.getElem?_eq_getElem (by rw [Array.size_modify]; exact hlt2), Array.getElem_modify_self, hk]
    rfl
  · have e : Lib.byteCells (l ++ [c]) = Lib.byteCells l ++ [.int .u8 c.toNat] := by simp [Lib.byteCells]
    rw [e, show (l ++ [c]).length = l.length + 1 by simp]
    refine HO.out.kept (grownBy_setCell1 w2 b _) ?_
    rcases HO.out.2 with ⟨hv, _⟩ | ⟨g, cap', cur, hv, hgR, _⟩
    · rw [hv]; exact .inl rfl
    · rw [hv]; exact .inr (fun e => by simp [Value.ownBlock] at e; omega)

theorem freeze_other (w : World) (p : Addr) (n k : Nat) (h : k ≠ p.block) : (w.freeze p n).heap[k]? = w.heap[k]? := by
  unfold World.freeze
  split
  · rfl
  · simp only [Array.getElem?_modify]
    rw [if_neg (Ne.symm h)]

set_option maxHeartbeats 1000000 in
set_option maxRecDepth 100000 in
theorem string_any (R b B : Nat) (l : List UInt8) (w : World) (h : BldR R b l w) (h0 : l ≠ []) (hB : B ≤ b) (hl : l.length ≤ 1000000) :
    Calls Try.prog 56 #[.pointer (some ⟨b, 0, none⟩)] w fun e w' => e = .returned (.string (bs l)) ∧ Below B w w' ∧ ∀ (k : Nat) (o : Obj), w.heap[k]? = some o → o.isCells = false → w'.heap[k]? = some o := by
  obtain ⟨hbR, p, v, hp, hbk, hown⟩ := h
  have hl0 : l.length ≠ 0 := by simpa using h0
  obtain ⟨g, cap, cur, rfl, hbg, hg, hnc, hcm, hcs, htake⟩ : ∃ g cap cur, v = .slice (some ⟨g, 0, none⟩) l.length cap ∧ R ≤ g ∧ w.heap[g]? = some (.cells cur 5 (0, 0)) ∧ l.length ≤ cap ∧ cap ≤ maxLen ∧ cur.size = cap * 1 ∧ cur.toList.take (l.length * 1) = Lib.byteCells l := by
    rcases hown.2 with ⟨_, hz⟩ | ⟨g, cap, cur, hv, r⟩
    · exact absurd hz hl0
    · exact ⟨g, cap, cur, hv, r⟩
  have c1 : w.drew.cell? ⟨b, 1, none⟩ = some (.slice (some ⟨g, 0, none⟩) l.length cap) := by
    have : w.drew.heap[b]? = some (.cells #[p, .slice (some ⟨g, 0, none⟩) l.length cap] 68 (0, 0)) := hbk
    rw [Lib.cell_of_heap this]; rfl
  have hSD : (Builtin.unsafeSliceData_ #[22] 99 #[.slice (some ⟨g, 0, none⟩) l.length cap]).run Try.prog w.drew = .ok (.pointer (some ⟨g, 0, none⟩)) w.drew :=
    Lib.run_unsafeSliceData_row _ _ _ _ _ _ (by omega)
  have hUS : (Builtin.unsafeString_ #[99, 3] 9 #[.pointer (some ⟨g, 0, none⟩), .int .i64 l.length]).run Try.prog w.drew = .ok (.string ⟨l.toArray⟩) (w.drew.freeze ⟨g, 0, none⟩ l.length) := by
    refine Lib.run_unsafeString_row w.drew 99 3 9 5 Try.underlying99 (by kernel_rfl) g cur.size (by have hg' : w.drew.heap[g]? = some (.cells cur 5 (0, 0)) := hg; simp [World.shape?, hg']) l h0 (by omega) (by unfold maxLen at hcm; omega) ?_
    intro j x hx
    have := hown.cells (g := g) rfl j (.int .u8 x.toNat) (by simp [Lib.byteCells, hx])
    exact this
  have mixed : Try.prog.follows .mixedOrders = true := by kernel_rfl
  have HG := Lib.hid hg
  have HBG := Lib.hid (show B ≤ g by omega)
  clear hg hown hbk htake hcs
  go_enter Try.func56, Try.ntmps56
  go_wp2
  go_region_o
  all_goals
    go_wp2
    go_ret
    refine ⟨rfl, Lib.below_freeze (Below.drew (Below.refl B w)) (p := ⟨g, 0, none⟩) HBG.out _, fun k o hk ho => ?_⟩
    rw [freeze_other _ _ _ _ (fun e => by
      have e' : k = g := e
      subst e'
      rw [HG.out] at hk; cases hk; cases ho)]
    exact hk

end Go.Proofs.Ytiemhhkoegkleaa
