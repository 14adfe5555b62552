/- Long numbers: the model turns a number into another base. -/
import Derived.Test.YtdflpocnfodbhaaLgPub
import Derived.Deep.RegionHeld3
set_option linter.unusedVariables false
set_option linter.unusedSimpArgs false
set_option maxRecDepth 100000
namespace Go.Proofs.Ytdflpocnfodbhaa
open Go.ChangeShapes Go.WideShapes Go.ChangeAt Go.RowKit

theorem heldI_keep {w W w1 : World} {a : Addr} {v : Value} (hs : W.cell? a = some v ∧ Below w.heap.size w W) (hb : Below W.heap.size W w1) : w1.cell? a = some v ∧ Below w.heap.size w w1 :=
  ⟨(hb.cell (World.block_lt_of_cell? W a hs.1)).trans hs.1, hs.2.trans (hb.mono hs.2.size)⟩
theorem heldI_row {w W : World} {a : Addr} {v x : Value} {xs : List Value} (hs : W.cell? a = some v ∧ Below w.heap.size w W) (hr : RowAt w x xs) : RowAt W x xs := hr.below hs.2

/-- how many digits a number has in another base -/
theorem conv_len {f t : Nat} {l : List Int} (hf : 2 ≤ f) (hf16 : f ≤ 16) (ht : 2 ≤ t) (h : AllD f l) (hl : l.length ≤ 60) : (dg t (vl f l)).length ≤ 240 := by
  refine dg_len_pow ht ?_
  have h1 := vl_lt_pow hf h
  have h2 : f ^ l.length ≤ 16 ^ l.length := Nat.pow_le_pow_left hf16 _
  have h3 : 16 ^ l.length ≤ 16 ^ 60 := Nat.pow_le_pow_right (by omega) hl
  have h4 : (16 : Nat) ^ 60 = 2 ^ 240 := by rw [show (16 : Nat) = 2 ^ 4 from rfl, ← Nat.pow_mul]
  have h5 : 2 ^ 240 ≤ t ^ 240 := Nat.pow_le_pow_left ht _
  exact Nat.lt_of_lt_of_le (Nat.lt_of_lt_of_le h1 (Nat.le_trans h2 (h4 ▸ h3))) h5
theorem conv_len' {f t n : Nat} {l : List Int} (hf : 2 ≤ f) (hf16 : f ≤ 16) (ht : 2 ≤ t) (h : AllD f l) (hl : l.length ≤ 60) (hn : n ≤ vl f l) : (dg t n).length ≤ 240 := by
  have h1 := conv_len (t := t) hf hf16 ht h hl
  have h2 := dg_mono ht (nrm_dg ht (vl f l)) (n := n) (by rw [vl_dg ht]; exact hn)
  omega
theorem okN_small {n t : Nat} (ht : 2 ≤ t) (ht16 : t ≤ 16) (hn : n ≤ 16) : rDigitsOf0 (n : Int) (t : Int) = dg t n := by
  have h : okN (n : Int) (t : Int) = true := by
    simp only [okN, okB, inB, Bool.and_eq_true, decide_eq_true_eq]; omega
  rw [rDigitsOf0, if_pos h]; rfl
theorem dg_small_len {n t : Nat} (ht : 2 ≤ t) (hn : n ≤ 16) : (dg t n).length ≤ 240 := by
  refine dg_len_pow ht ?_
  have h5 : 2 ^ 240 ≤ t ^ 240 := Nat.pow_le_pow_left ht _
  have : (16 : Nat) < 2 ^ 240 := by decide
  omega

end Go.Proofs.Ytdflpocnfodbhaa
