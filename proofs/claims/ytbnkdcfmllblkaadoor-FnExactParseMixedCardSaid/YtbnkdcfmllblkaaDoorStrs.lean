/- What the laws do with lists of texts: compare, copy, mark, look at the marks, measure. -/
import Derived.Test.YtbnkdcfmllblkaaDoorRow
import Derived.Deep.RegionHeld3
import Derived.Maps.AppendAt
set_option linter.unusedVariables false
set_option linter.unusedSimpArgs false
namespace Go.Proofs.YtbnkdcfmllblkaaDoor
open Go.ChangeShapes Go.WideShapes Go.ChangeAt Go.RowKit




theorem strsOf_snoc {l : List ByteArray} {k : Nat} (h : k < l.length) : strsOf (l.take (k + 1)) = strsOf (l.take k) ++ [Value.string l[k]] := by
  simp only [strsOf]; rw [List.take_succ_eq_append_getElem h, List.map_append]; rfl


/-- the text of mark k -/
def mtL : Nat → Nat → List UInt8 → List UInt8
  | 0, _, o => o
  | f + 1, k, o => if k = 0 then o else mtL f (k / 10) (UInt8.ofNat (48 + k % 10) :: o)
def mt (k : Nat) : ByteArray := bs (109 :: mtL k k [])


/-- the marks k, k + 1 .. n of them -/
def mks (k n : Nat) : List ByteArray := (List.range' k n).map mt
theorem mks_length (k n : Nat) : (mks k n).length = n := by simp [mks]
theorem mks_get (k n i : Nat) (h : i < (mks k n).length) : (mks k n)[i] = mt (k + i) := by simp [mks]

theorem set_marks (xs : List Value) (k : Nat) (f : Nat → ByteArray) (h : k < xs.length) : (strsOf ((List.range' 1 k).map f) ++ xs.drop k).set k (Value.string (f (1 + k))) = strsOf ((List.range' 1 (k + 1)).map f) ++ xs.drop (k + 1) := by
  have e : xs.drop k = xs[k] :: xs.drop (k + 1) := List.drop_eq_getElem_cons h
  have hl : (strsOf ((List.range' 1 k).map f)).length = k := by simp [strsOf]
  rw [e, List.set_append_right _ _ (by omega), hl, Nat.sub_self, List.set_cons_zero, List.range'_concat]
  simp [strsOf]

theorem held_keep {w W w1 : World} {a : Addr} {v : Value} (hs : W.cell? a = some v ∧ Below w.heap.size w W) (hb : Below W.heap.size W w1) : w1.cell? a = some v ∧ Below w.heap.size w w1 :=
  ⟨(hb.cell (World.block_lt_of_cell? W a hs.1)).trans hs.1, hs.2.trans (hb.mono hs.2.size)⟩

def sizes (l : List ByteArray) : Nat := (l.map ByteArray.size).sum
theorem sizes_snoc {l : List ByteArray} {k : Nat} (h : k < l.length) : sizes (l.take (k + 1)) = sizes (l.take k) + l[k].size := by
  simp only [sizes]; rw [List.take_succ_eq_append_getElem h, List.map_append, List.sum_append]; simp only [List.map_cons, List.map_nil, List.sum_cons, List.sum_nil, Nat.add_zero]

def SzPost (l : List ByteArray) (w : World) (e : Ending) (w' : World) : Prop := ∃ r : Int, e = .returned (.int .i64 r) ∧ -1 ≤ r ∧ r ≤ 1048576 ∧ (0 ≤ r → l.length + sizes l ≤ 1048576) ∧ w = w'

/-- the incoming slice of texts reads so -/
theorem isStrs_of {H : Type} {enc : TypeId × Value → H} {W : World} {a : Option Addr} {len cap : Nat} {d : DataW H} {p : List MemPlace}
    (h : DataW.Trod enc Tryd.prog W 0 (fun _ => true) true 32 (.slice a len cap) d p) (lt : ∀ x ∈ p, x.block < W.heap.size) :
    ∃ l : List ByteArray, RowAt W (.slice a len cap) (strsOf l) ∧ ∀ s ∈ l, s.size ≤ maxLen := by
  obtain ⟨fuel, hf⟩ := h
  rcases open_strings Tryd.underlying32 Tryd.underlying9 (by kernel_rfl) hf with ⟨hcs, _⟩ | ⟨x, l, c, ss, hcs, _, hl, hm, hz, _, hcell, hwz⟩
  · simp [Value.cells] at hcs; obtain ⟨rfl, rfl, rfl⟩ := hcs
    exact ⟨[], ⟨none, 0, rfl, Nat.le_refl _, Nat.zero_le _, .inl rfl⟩, fun s hs => by simp at hs⟩
  · simp [Value.cells] at hcs; obtain ⟨rfl, rfl, rfl⟩ := hcs
    have hz' : ss.length = cap := by simpa using hz
    have hlen : (strsOf (ss.take len)).length = len := by rw [strsOf_length, List.length_take]; omega
    refine ⟨ss.take len, ⟨some x, cap, by rw [hlen], by rw [hlen]; exact hl, hm, ?_⟩, fun s hs => hwz s (List.mem_of_mem_take hs)⟩
    by_cases h0 : len = 0
    · left; exact List.eq_nil_of_length_eq_zero (by omega)
    · right
      have hc0 := hcell 0 (by omega)
      obtain ⟨b, off, spot⟩ := x
      have hspot : spot = none := by simpa [Addr.add] using World.cell?_spot hc0
      subst hspot
      refine ⟨b, off, rfl, ?_, fun i hi => ?_⟩
      · exact World.block_lt_of_cell? W ⟨b, off, none⟩ (by simpa [Addr.add] using hc0)
      · have hi' : i < len := by omega
        have := hcell i (by omega)
        rw [show (⟨b, off, none⟩ : Addr).add i = ⟨b, off + i, none⟩ by unfold Addr.add; split <;> simp_all] at this
        rw [this]
        simp only [strsOf, List.getElem_map, List.getElem_take]
        rw [List.getD_eq_getElem?_getD, List.getElem?_eq_getElem (by omega)]; rfl

end Go.Proofs.YtbnkdcfmllblkaaDoor
