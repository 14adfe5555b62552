/- Negative bases: the model's signs, ranges and comparisons. -/
import Derived.Test.YtdflpocnfodbhaaBase
import Derived.BigQuiet
import Derived.Deep.LoopGhost
import Derived.Deep.QuietTactic
import Derived.Maps.AppendAt
set_option linter.unusedVariables false
set_option linter.unusedSimpArgs false
set_option maxRecDepth 100000
namespace Go.Proofs.Ytdflpocnfodbhaa
open Go.ChangeShapes Go.WideShapes Go.ChangeAt Go.RowKit

/-- the power's sign -/
def pw (b : Nat) (k : Nat) : Int := if k % 2 = 0 then (b : Int) ^ k else -((b : Int) ^ k)
theorem pw_succ (b k : Nat) : pw b (k + 1) = -(pw b k) * b := by
  unfold pw
  rcases Nat.mod_two_eq_zero_or_one k with h | h
  · rw [if_neg (by omega), if_pos h, Int.pow_succ, Int.neg_mul]
  · rw [if_pos (by omega), if_neg (by omega), Int.neg_neg, Int.pow_succ]


end Go.Proofs.Ytdflpocnfodbhaa
