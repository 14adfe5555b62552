/- Mixed places: texts, as plain facts: what is written, what is read, and that pieces joined again are the text. -/
import Derived.Test.YtbnkdcfmllblkaaDoorNum
import Derived.Test.YtbnkdcfmllblkaaDoorSplitS
import Derived.Test.YtbnkdcfmllblkaaDoorJoin
import Derived.Test.YtbnkdcfmllblkaaDoorMxI0
set_option linter.unusedVariables false
set_option linter.unusedSimpArgs false
namespace Go.Proofs.YtbnkdcfmllblkaaDoor
open Go.ChangeShapes Go.WideShapes Go.ChangeAt Go.RowKit

def colon : ByteArray := ⟨#[58]⟩
theorem colon_data : colon.data.toList = [58] := rfl
def itoaB (d : Int) : ByteArray := bs (Lib.itoa d)
/-- the texts of digits, the last one first -/
def fmtL (l : List Int) : List ByteArray := l.reverse.map itoaB
theorem fmtL_len (l : List Int) : (fmtL l).length = l.length := by simp [fmtL]
def rFormatMixed0 (l : List Int) : ByteArray := if lwIn l 0 59 then bs (jn colon (fmtL l) (fmtL l).length) else bs []

/-- a joined text, piece by piece -/
theorem jn_flat (b : ByteArray) (l : List ByteArray) : ∀ k (h : k < l.length), jn b l (k + 1) = ((l.take k).map (fun x => x.data.toList ++ b.data.toList)).flatten ++ l[k].data.toList
  | 0, h => by rw [jn_zero b l h]; simp
  | k + 1, h => by
    rw [jn_pos b l (by omega) h, jn_flat b l k (by omega), List.take_succ_eq_append_getElem (show k < l.length by omega), List.map_append, List.flatten_append]
    simp only [List.map_cons, List.map_nil, List.flatten_cons, List.flatten_nil, List.append_nil, List.append_assoc]
theorem jn_snoc (b : ByteArray) (ps : List ByteArray) (x : ByteArray) : jn b (ps ++ [x]) (ps ++ [x]).length = (ps.map (fun x => x.data.toList ++ b.data.toList)).flatten ++ x.data.toList := by
  rw [show (ps ++ [x]).length = ps.length + 1 by simp, jn_flat b (ps ++ [x]) ps.length (by simp)]
  simp

theorem ex_data (s : ByteArray) (i j : Nat) : (s.extract i j).data.toList = (s.data.toList.take j).drop i := by
  simp only [ByteArray.data_extract, Array.toList_extract, List.extract_eq_take_drop]
  exact List.drop_take.symm
theorem sp_join (s : ByteArray) : ∀ i, i ≤ s.size → ((sp s colon i).1.map (fun x => x.data.toList ++ colon.data.toList)).flatten = s.data.toList.take (sp s colon i).2
  | 0, _ => by simp [sp]
  | i + 1, h => by
    have ih := sp_join s i (by omega)
    have hf := sp_from s colon i
    cases ho : occB colon colon.size s[i] with
    | false => rw [sp_no (by omega) ho]; exact ih
    | true =>
      rw [sp_yes (by omega) ho]
      have h58 : s[i] = 58 := by
        have e : occB colon colon.size s[i] = (s[i] == 58) := by
          show ([58] : List UInt8).contains s[i] = _
          rw [List.contains_cons, List.contains_nil, Bool.or_false]
        rw [e] at ho
        simpa using ho
      have hl : i < s.data.toList.length := by rw [size_data]; omega
      have hget : s.data.toList[i] = 58 := by rw [data_get s i (by omega)]; exact h58
      simp only [List.map_append, List.map_cons, List.map_nil, List.flatten_append, List.flatten_cons, List.flatten_nil, List.append_nil]
      rw [ih, ex_data, colon_data, List.take_succ_eq_append_getElem hl, hget, ← List.append_assoc]
      congr 1
      obtain ⟨f, hfe⟩ : ∃ f, f = (sp s colon i).2 := ⟨_, rfl⟩
      rw [← hfe] at hf ⊢
      have : s.data.toList.take f = (s.data.toList.take i).take f := by rw [List.take_take, Nat.min_eq_left hf]
      rw [this, List.take_append_drop]
theorem join_pieces (s : ByteArray) : jn colon (pieces s colon) (pieces s colon).length = s.data.toList := by
  unfold pieces
  rw [jn_snoc, sp_join s s.size (Nat.le_refl _), ex_data]
  have : s.data.toList.take s.size = s.data.toList := by rw [← size_data, List.take_length]
  rw [this, List.take_append_drop]
theorem sp_size (s b : ByteArray) : ∀ i, ∀ p ∈ (sp s b i).1, p.size ≤ s.size
  | 0 => by simp [sp]
  | i + 1 => by
    have ih := sp_size s b i
    simp only [sp]
    split
    · intro p hp
      rcases List.mem_append.1 hp with h | h
      · exact ih p h
      · have : p = s.extract (sp s b i).2 i := by simpa using h
        subst this
        rw [ByteArray.size_extract]; omega
    · exact ih
theorem pieces_size (s b : ByteArray) : ∀ p ∈ pieces s b, p.size ≤ s.size := by
  intro p hp
  rcases List.mem_append.1 hp with h | h
  · exact sp_size s b _ p h
  · have : p = s.extract (sp s b s.size).2 s.size := by simpa using h
    subst this
    rw [ByteArray.size_extract]; omega
theorem pieces_ne (s : ByteArray) : pieces s colon ≠ [] := by unfold pieces; simp

/-- the numbers of pieces, where all of them are numerals -/
def numsOf (ps : List ByteArray) : List Int := ps.map fun p => (pRes p.data.toList).1
def allNum (ps : List ByteArray) : Bool := ps.all fun p => (pRes p.data.toList).2
theorem numsOf_len (ps : List ByteArray) : (numsOf ps).length = ps.length := by simp [numsOf]
def pmOk (s : ByteArray) : Bool := allNum (pieces s colon) && lwIn (numsOf (pieces s colon)).reverse 0 59
def rParseMixed0 (s : ByteArray) : List Int := if pmOk s then (numsOf (pieces s colon)).reverse else []
def rParseMixed1 (s : ByteArray) : Bool := pmOk s
theorem pRes_spelt {l : List UInt8} (h : (pRes l).2 = true) : Lib.itoa (pRes l).1 = l := by
  unfold pRes at h ⊢
  split at h
  · split at h
    · rename_i v hv hq
      rw [if_pos hq]; exact hq
    · cases h
  · cases h
theorem nums_spelt {ps : List ByteArray} (h : allNum ps = true) : (numsOf ps).map itoaB = ps := by
  unfold numsOf
  rw [List.map_map]
  have : ∀ p ∈ ps, (itoaB ∘ fun p => (pRes p.data.toList).1) p = p := fun p hp => by
    have h1 := (List.all_eq_true.1 h) p hp
    show itoaB _ = p
    rw [itoaB, pRes_spelt h1, bs_data]
  exact (List.map_congr_left this).trans (List.map_id _)
/-- what is read writes again -/
theorem fmt_again {s : ByteArray} (h : allNum (pieces s colon) = true) : rFormatMixed0 (numsOf (pieces s colon)).reverse = if lwIn (numsOf (pieces s colon)).reverse 0 59 then s else bs [] := by
  unfold rFormatMixed0
  split
  · rw [show fmtL (numsOf (pieces s colon)).reverse = pieces s colon by unfold fmtL; rw [List.reverse_reverse, nums_spelt h], join_pieces, bs_data]
  · rfl
theorem pm_not_empty {s : ByteArray} (h : allNum (pieces s colon) = true) : s ≠ bs [] := by
  intro e
  subst e
  revert h
  decide
theorem rParseMixed0_len {s : ByteArray} (hs : s.size ≤ 1048576) : (rParseMixed0 s).length ≤ 1048577 := by
  unfold rParseMixed0
  split
  · rename_i h
    unfold pmOk at h
    simp only [Bool.and_eq_true] at h
    have := (lwIn_yes h.2).2.1
    omega
  · simp
/-- a numeral is short, so a joined text is -/
theorem itoaB_small {d : Int} (h0 : 0 ≤ d) (h1 : d ≤ 59) : (Lib.itoa d).length ≤ 2 := by
  obtain ⟨m, rfl⟩ : ∃ m : Nat, d = m := ⟨d.toNat, by omega⟩
  rw [Lib.itoa, if_neg (by omega), Int.toNat_natCast]
  exact dec_len_le 1 m (by omega)
theorem jn_small : ∀ (l : List ByteArray) (k : Nat), k ≤ l.length → (∀ x ∈ l, x.size ≤ 2) → (jn colon l k).length ≤ 3 * k
  | l, 0, _, _ => by simp [jn]
  | l, k + 1, h, hx => by
    have ih := jn_small l k (by omega) hx
    have hk : k < l.length := by omega
    have h2 := hx l[k] (List.getElem_mem hk)
    have h3 : l[k].data.toList.length = l[k].size := size_data _
    rcases Nat.eq_zero_or_pos k with rfl | hp
    · rw [jn_zero colon l hk]; omega
    · rw [jn_pos colon l hp hk, List.length_append, List.length_append, colon_data]; simp; omega
theorem fmtL_small {l : List Int} (h : ∀ d ∈ l, 0 ≤ d ∧ d ≤ 59) : ∀ x ∈ fmtL l, x.size ≤ 2 := by
  intro x hx
  simp only [fmtL, List.mem_map, List.mem_reverse] at hx
  obtain ⟨d, hd, rfl⟩ := hx
  have := h d hd
  rw [itoaB, bs_size]
  exact itoaB_small this.1 this.2

end Go.Proofs.YtbnkdcfmllblkaaDoor
