/- Balanced digits: the model's text of balanced digits. -/
import Derived.Test.YtdflpocnfodbhacBaSpec
set_option linter.unusedVariables false
set_option linter.unusedSimpArgs false
set_option maxRecDepth 100000
namespace Go.Proofs.Ytdflpocnfodbhac
open Go.ChangeShapes Go.WideShapes Go.ChangeAt Go.RowKit

/-- the character of a balanced digit -/
def sgB (d : Int) : UInt8 := if d = 1 then 43 else if d = 0 then 48 else 45
/-- the characters of digits, the first digit last -/
def txtB (l : List Int) : List UInt8 := (l.map sgB).reverse
theorem txtB_length (l : List Int) : (txtB l).length = l.length := by simp [txtB]
theorem txtB_succ {l : List Int} {k : Nat} (h : k < l.length) : txtB (l.take (k + 1)) = sgB l[k] :: txtB (l.take k) := by
  show ((l.take (k + 1)).map sgB).reverse = sgB l[k] :: ((l.take k).map sgB).reverse
  rw [List.take_succ_eq_append_getElem h, List.map_append, List.reverse_append]; rfl
theorem bs_cons1 (c : UInt8) (l : List UInt8) : (⟨#[c]⟩ : ByteArray) ++ bs l = bs (c :: l) := by
  show bs [c] ++ bs l = _
  rw [bs_add, data_bs]; rfl
def rFormatBalanced0 (l : List Int) : ByteArray := if okW l 3 then (if l = [] then bs [48] else bs (txtB l)) else bs []

set_option maxHeartbeats 2000000 in
theorem specFormatBalanced_any (v : Value) (l : List Int) (w : World) (hr : RowAt w v (intsOf l)) (hl : l.length ≤ 1048576) (hi : ∀ n ∈ l, in64 n) :
    Calls Try.prog 25 #[v] w fun e w' => e = .returned (.string (rFormatBalanced0 l)) ∧ Below w.heap.size w w' := by
  have HC := Lib.hid (specBal_eq v l 3 w hr hl hi (by unfold in64; omega))
  obtain ⟨a, cap, rfl, h1, h2, h3⟩ := hr.ints
  unfold maxLen at h2
  cases h : okW l 3
  · rw [h] at HC
    rw [show rFormatBalanced0 l = bs [] by simp [rFormatBalanced0, h]]
    clear h hi hr h3
    go_enter Try.func25, Try.ntmps25
    go_wp2_with fail
    refine HC.out.mono ?_
    rintro e w' ⟨rfl, rfl⟩
    go_wp2
    go_ret
    exact ⟨rfl, Below.refl _ _⟩
  · rw [h] at HC
    have hl60 : l.length ≤ 60 := by obtain ⟨_, _, _, _, _, h6⟩ := okW_yes h; exact h6
    have HF := Lib.hid (show rFormatBalanced0 l = if l = [] then bs [48] else bs (txtB l) by rw [rFormatBalanced0, if_pos h])
    clear h hi hr
    go_enter Try.func25, Try.ntmps25
    go_wp2_with fail
    refine HC.out.mono ?_
    rintro e w' ⟨rfl, rfl⟩
    go_wp2
    go_loopw [3, 11] (fun s i wr => ∃ k : Nat, k ≤ l.length ∧ i = .int .i64 k ∧ s = .string (bs (txtB (l.take k))) ∧ Below w.heap.size w wr) (fun _ i _ => l.length - (intOf i).toNat)
    case atStart => exact ⟨0, Nat.zero_le _, rfl, rfl, Below.refl _ _⟩
    case round =>
      obtain ⟨k, hk, rfl, rfl, hB⟩ := hrel
      have hsz := hB.size
      have hts : (bs (txtB (l.take k))).size ≤ 60 := by rw [bs_size, txtB_length]; simp; omega
      by_cases hlt : k < l.length
      · obtain ⟨b', off, rfl, hbb, hcell⟩ := h3.resolve_left (fun e => by rw [e] at hlt; simp at hlt)
        have hc : wr.cell? ⟨b', off + k, none⟩ = some (.int .i64 l[k]) := by rw [hB.cell (p := ⟨b', off + k, none⟩) hbb]; exact hcell k hlt
        have HT := Lib.hid (txtB_succ hlt)
        obtain ⟨d, hd⟩ : ∃ d, d = l[k] := ⟨_, rfl⟩
        rw [← hd] at hc HT
        clear h3 hcell hd
        by_cases d1 : d = 1
        · have HG := Lib.hid (show sgB d = 43 by rw [sgB, if_pos d1])
          rw [d1] at hc
          clear d1
          go_wp2
          exact ⟨⟨k + 1, hlt, by go_num, by rw [HT.out, HG.out, ← bs_cons1], hB⟩, by simp [intOf]; omega⟩
        · by_cases d0 : d = 0
          · have HG := Lib.hid (show sgB d = 48 by rw [sgB, if_neg d1, if_pos d0])
            rw [d0] at hc
            clear d1 d0
            go_wp2
            exact ⟨⟨k + 1, hlt, by go_num, by rw [HT.out, HG.out, ← bs_cons1], hB⟩, by simp [intOf]; omega⟩
          · have HG := Lib.hid (show sgB d = 45 by rw [sgB, if_neg d1, if_neg d0])
            go_wp2
            exact ⟨⟨k + 1, hlt, by go_num, by rw [HT.out, HG.out, ← bs_cons1], hB⟩, by simp [intOf]; omega⟩
      · have hkl : k = l.length := by omega
        subst hkl
        clear h3
        by_cases h0 : l = []
        · have HX := Lib.hid (show rFormatBalanced0 l = bs [48] by rw [HF.out, if_pos h0])
          rw [show bs (txtB (l.take l.length)) = ⟨#[]⟩ by rw [h0]; rfl]
          clear hts h0
          go_wp2
          go_ret
          exact ⟨by rw [HX.out]; rfl, hB⟩
        · have HX := Lib.hid (show rFormatBalanced0 l = bs (txtB (l.take l.length)) by rw [HF.out, if_neg h0, List.take_length])
          have hne : (bs (txtB l)).toList.isEmpty = false := by
            rw [ByteArray.toList_eq, data_bs]
            cases e : txtB l with
            | nil => exact absurd (List.eq_nil_of_length_eq_zero (by rw [← txtB_length, e]; rfl)) h0
            | cons => rfl
          clear h0
          go_wp2
          go_ret
          exact ⟨by rw [HX.out]; rfl, hB⟩

end Go.Proofs.Ytdflpocnfodbhac
