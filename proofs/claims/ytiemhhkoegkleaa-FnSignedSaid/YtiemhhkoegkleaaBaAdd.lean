/- Balanced digits: the model negates, adds, drops places, weighs. -/
import Derived.Test.YtiemhhkoegkleaaBaM
import Derived.Deep.LoopGhost
set_option linter.unusedVariables false
set_option linter.unusedSimpArgs false
set_option maxRecDepth 100000
namespace Go.Proofs.Ytiemhhkoegkleaa
open Go.ChangeShapes Go.WideShapes Go.ChangeAt Go.RowKit

/-- the negative, in 64 bits -/
def neg64 (d : Int) : Int := if d = -9223372036854775808 then -9223372036854775808 else -d
theorem neg64_in {d : Int} (h : in64 d) : in64 (neg64 d) := by
  unfold neg64 in64 at *; split <;> omega
def rNegateDigits0 (l : List Int) : List Int := if l.length ≤ 1048576 then l.map neg64 else []
theorem rNegateDigits0_len (l : List Int) : (rNegateDigits0 l).length ≤ 1048577 := by
  unfold rNegateDigits0; split
  · rw [List.length_map]; omega
  · simp

/-- one place of a sum: the digit and the carry -/
theorem bal_step {h : Nat} {S o A C A' C' d cy : Int} {k : Nat} {ka kc : Int} (hs : S = o + (2 * (h : Int) + 1) ^ k * (cy + A + C)) (hA : A = ka + (2 * h + 1) * A') (hC : C = kc + (2 * h + 1) * C') {c' : Int} (hx : ka + kc + cy = d + (2 * h + 1) * c') :
    S = (o + (2 * (h : Int) + 1) ^ k * d) + (2 * (h : Int) + 1) ^ (k + 1) * (c' + A' + C') := by
  have e2 : cy + A + C = d + (2 * (h : Int) + 1) * (c' + A' + C') := by
    rw [Int.mul_add, Int.mul_add]; omega
  rw [hs, e2, Int.pow_succ, Int.mul_add, Int.mul_assoc]
  omega
theorem bv_snoc (h : Nat) (l : List Int) (d : Int) : bv h (l ++ [d]) = bv h l + (2 * (h : Int) + 1) ^ l.length * d := hv_snoc _ l d
theorem allB_snoc {h : Nat} {l : List Int} {d : Int} (hl : AllB h l) (h0 : -(h : Int) ≤ d) (h1 : d ≤ h) : AllB h (l ++ [d]) := fun x hx => by
  rcases List.mem_append.1 hx with hx | hx
  · exact hl x hx
  · simp at hx; subst hx; exact ⟨h0, h1⟩
/-- without the zeros at the end -/
theorem trim_eqB {h : Nat} (hh : 1 ≤ h) {l : List Int} (hl : AllB h l) {n : Nat} (hn : n ≤ l.length) (hz : ∀ j (hj : j < l.length), n ≤ j → l[j] = 0) (hla : ∀ (hj : n - 1 < l.length), n = 0 ∨ l[n - 1] ≠ 0) :
    l.take n = bd h (bv h l) := by
  have hd : hv (2 * (h : Int) + 1) (l.drop n) = 0 := hv_zeros _ (fun d hd => by
    obtain ⟨j, hj, rfl⟩ := List.getElem_of_mem hd
    rw [List.getElem_drop]
    exact hz _ _ (by omega))
  have e : bv h l = bv h (l.take n) := by
    have := hv_append (2 * (h : Int) + 1) (l.take n) (l.drop n)
    rw [List.take_append_drop, hd] at this
    unfold bv; rw [this]; simp
  have hN : NrmB h (l.take n) := by
    refine ⟨fun d hd => hl d (List.mem_of_mem_take hd), ?_⟩
    by_cases h0 : n = 0
    · left; subst h0; simp
    · by_cases h1 : n - 1 < l.length
      · right
        have := (hla h1).resolve_left h0
        rw [List.getLast?_eq_getElem?, List.length_take, Nat.min_eq_left hn, List.getElem?_take, if_pos (by omega), List.getElem?_eq_getElem h1]
        simpa using this
      · left
        have : l.length = 0 := by omega
        rw [List.eq_nil_of_length_eq_zero this]; simp
  rw [e]
  exact (bd_bv hh hN).symm

end Go.Proofs.Ytiemhhkoegkleaa
