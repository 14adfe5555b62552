/- Digits: the model's text of digits. -/
import Derived.Test.YtdflpocnfodbhaaDgSpec
set_option linter.unusedVariables false
set_option linter.unusedSimpArgs false
set_option maxRecDepth 100000
namespace Go.Proofs.Ytdflpocnfodbhaa
open Go.ChangeShapes Go.WideShapes Go.ChangeAt Go.RowKit

/-- the character of a digit -/
def sgc (d : Int) : UInt8 := if 9 < d then UInt8.ofNat (97 + d - 10).toNat else UInt8.ofNat (48 + d).toNat

set_option maxHeartbeats 2000000 in
theorem specSign_any (d : Int) (w : World) (h0 : 0 ≤ d) (h15 : d ≤ 15) :
    Calls Try.prog 118 #[.int .i64 d] w fun e w' => e = .returned (.string (bs [sgc d])) ∧ Below w.heap.size w w' := by
  by_cases h9 : 9 < d
  · have hcv := conv1 w (97 + d - 10)
    rw [show UInt8.ofNat (97 + d - 10).toNat = sgc d by rw [sgc, if_pos h9]] at hcv
    go_enter Try.func118, Try.ntmps118
    go_wp2_with fail
    go_ret
    exact ⟨rfl, (Below.refl _ _).alloc (Nat.le_refl _) _⟩
  · have hcv := conv1 w (48 + d)
    rw [show UInt8.ofNat (48 + d).toNat = sgc d by rw [sgc, if_neg h9]] at hcv
    go_enter Try.func118, Try.ntmps118
    go_wp2_with fail
    go_ret
    exact ⟨rfl, (Below.refl _ _).alloc (Nat.le_refl _) _⟩

/-- the characters of digits, the first digit last -/
def txt (l : List Int) : List UInt8 := (l.map sgc).reverse
theorem txt_length (l : List Int) : (txt l).length = l.length := by simp [txt]
theorem txt_succ {l : List Int} {k : Nat} (h : k < l.length) : txt (l.take (k + 1)) = sgc l[k] :: txt (l.take k) := by
  show ((l.take (k + 1)).map sgc).reverse = sgc l[k] :: ((l.take k).map sgc).reverse
  rw [List.take_succ_eq_append_getElem h, List.map_append, List.reverse_append]; rfl
def rFormatDigits0 (l : List Int) (b : Int) : ByteArray := if okD l b then (if l = [] then bs [48] else bs (txt l)) else bs []

set_option maxHeartbeats 2000000 in
theorem specFormatDigits_any (v : Value) (l : List Int) (b : Int) (w : World) (hr : RowAt w v (intsOf l)) (hl : l.length ≤ 1048576) (hi : ∀ n ∈ l, in64 n) (hb : in64 b) :
    Calls Try.prog 70 #[v, .int .i64 b] w fun e w' => e = .returned (.string (rFormatDigits0 l b)) ∧ Below w.heap.size w w' := by
  have HC := Lib.hid (specDigitsOk_any v l b w hr hl hi hb)
  obtain ⟨a, cap, rfl, h1, h2, h3⟩ := hr.ints
  unfold maxLen at h2
  cases h : okD l b
  · rw [h] at HC
    rw [show rFormatDigits0 l b = bs [] by simp [rFormatDigits0, h]]
    clear h hi hb hr h3
    go_enter Try.func70, Try.ntmps70
    go_wp2_with fail
    refine HC.out.mono ?_
    rintro e w' ⟨rfl, rfl⟩
    go_wp2
    go_ret
    exact ⟨rfl, Below.refl _ _⟩
  · rw [h] at HC
    obtain ⟨⟨hb2, hb16⟩, hl60, hd, _⟩ := okD_yes h
    have HD := Lib.hid hd
    have HF := Lib.hid (show rFormatDigits0 l b = if l = [] then bs [48] else bs (txt l) by rw [rFormatDigits0, if_pos h])
    clear h hi hb hr hd
    go_enter Try.func70, Try.ntmps70
    go_wp2_with fail
    refine HC.out.mono ?_
    rintro e w' ⟨rfl, rfl⟩
    go_wp2
    go_loopw [5, 14] (fun s i wr => ∃ k : Nat, k ≤ l.length ∧ i = .int .i64 k ∧ s = .string (bs (txt (l.take k))) ∧ Below w.heap.size w wr) (fun _ i _ => l.length - (intOf i).toNat)
    case atStart => exact ⟨0, Nat.zero_le _, rfl, rfl, Below.refl _ _⟩
    case round =>
      obtain ⟨k, hk, rfl, rfl, hB⟩ := hrel
      have hsz := hB.size
      have hts : (bs (txt (l.take k))).size ≤ 60 := by rw [bs_size, txt_length]; simp; omega
      by_cases hlt : k < l.length
      · obtain ⟨b', off, rfl, hbb, hcell⟩ := h3.resolve_left (fun e => by rw [e] at hlt; simp at hlt)
        have hc : wr.cell? ⟨b', off + k, none⟩ = some (.int .i64 l[k]) := by rw [hB.cell (p := ⟨b', off + k, none⟩) hbb]; exact hcell k hlt
        have hdk := HD.out _ (List.getElem_mem hlt)
        have HT := Lib.hid (txt_succ hlt)
        clear h3 hcell
        go_wp2_with fail
        refine (specSign_any l[k] _ hdk.1 (by omega)).mono ?_
        rintro e w1 ⟨rfl, hB1⟩
        have hs1 : (bs [sgc l[k]]).size ≤ 1 := Nat.le_refl _
        have hBB := hB.trans (hB1.mono hsz)
        clear hB hB1 hc
        go_wp2
        exact ⟨⟨k + 1, hlt, by go_num, by rw [HT.out, bs_add, data_bs]; rfl, hBB⟩, by simp [intOf]; omega⟩
      · have hkl : k = l.length := by omega
        subst hkl
        clear h3
        by_cases h0 : l = []
        · have HX := Lib.hid (show rFormatDigits0 l b = bs [48] by rw [HF.out, if_pos h0])
          rw [show bs (txt (l.take l.length)) = ⟨#[]⟩ by rw [h0]; rfl]
          clear hts h0
          go_wp2
          go_ret
          exact ⟨by rw [HX.out]; rfl, hB⟩
        · have HX := Lib.hid (show rFormatDigits0 l b = bs (txt (l.take l.length)) by rw [HF.out, if_neg h0, List.take_length])
          have hne : (bs (txt l)).toList.isEmpty = false := by
            rw [ByteArray.toList_eq, data_bs]
            cases e : txt l with
            | nil => exact absurd (List.eq_nil_of_length_eq_zero (by rw [← txt_length, e]; rfl)) h0
            | cons => rfl
          clear h0
          go_wp2
          go_ret
          exact ⟨by rw [HX.out]; rfl, hB⟩

end Go.Proofs.Ytdflpocnfodbhaa
