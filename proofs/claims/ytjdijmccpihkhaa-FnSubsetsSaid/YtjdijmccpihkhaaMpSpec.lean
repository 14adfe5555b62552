/- Factorial places and permutations: the model's factorials and factorial digits. -/
import Derived.Test.YtjdijmccpihkhaaMpM
set_option linter.unusedVariables false
set_option linter.unusedSimpArgs false
set_option maxRecDepth 100000
namespace Go.Proofs.Ytjdijmccpihkhaa
open Go.ChangeShapes Go.WideShapes Go.ChangeAt Go.RowKit

theorem fct_le {k : Nat} (h : k ≤ 12) : 1 ≤ fct k ∧ fct k ≤ 479001600 := by
  have h4 : ∀ m : Fin 13, 1 ≤ fct m.1 ∧ fct m.1 ≤ 479001600 := by decide
  exact h4 ⟨k, by omega⟩
theorem fct_succ (k : Nat) : fct (k + 1) = fct k * ((k : Int) + 1) := by rw [fct, Int.mul_comm]

def rFactorial0 (n : Int) : Int := if inB n 0 12 then fct n.toNat else -1
def rFactorialDigits0 (n m : Int) : List Int := if inB m 1 8 && inB n 0 (fct m.toNat - 1) then md n (fr m.toNat) else []
def okD8 (l : List Int) : Bool := decide (1 ≤ l.length) && (decide (l.length ≤ 8) && decide (∀ j (h : j < l.length), 0 ≤ l[j] ∧ l[j] ≤ j))
def rFactorialValue0 (l : List Int) : Int := if okD8 l then mv l (fr l.length) else -1
def okP (l : List Int) : Bool := decide (1 ≤ l.length) && (decide (l.length ≤ 8) && (decide (∀ x ∈ l, 0 ≤ x ∧ x ≤ (l.length : Int) - 1) && decide l.Nodup))
def rPermutationOk0 (l : List Int) : Bool := okP l
def rLehmerOf0 (l : List Int) : List Int := if okP l then leh l else []
def rRankOf0 (l : List Int) : Int := if okP l then mv (leh l) (fr l.length) else -1
def iot (m : Nat) : List Int := (List.range m).map fun k : Nat => (k : Int)
def rPermutationAt0 (n m : Int) : List Int := if inB m 1 8 && inB n 0 (fct m.toNat - 1) then pat (md n (fr m.toNat)).reverse (iot m.toNat) else []
def rNextPermutation0 (l : List Int) : List Int := if okP l then rPermutationAt0 (mv (leh l) (fr l.length) + 1) l.length else []
def rNextPermutation1 (l : List Int) : Bool := okP l && decide (mv (leh l) (fr l.length) + 1 < fct l.length)
def rCountInversions0 (l : List Int) : Int := if okP l then inv l else -1

end Go.Proofs.Ytjdijmccpihkhaa
