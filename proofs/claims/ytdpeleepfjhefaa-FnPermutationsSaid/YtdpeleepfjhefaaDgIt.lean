/- Digits: the program's iterators: the digits of a number, and a list from its last element on. -/
import Derived.Test.YtdpeleepfjhefaaRf
set_option linter.unusedVariables false
set_option linter.unusedSimpArgs false
set_option maxRecDepth 100000
namespace Go.Proofs.Ytdpeleepfjhefaa
open Go.ChangeShapes Go.WideShapes Go.ChangeAt Go.RowKit

attribute [local go_sem] Oper.semAt_some wide_fn wide_depth

/-- a digit of a base up to 16 -/
abbrev Dig := { x : Int // 0 ≤ x ∧ x ≤ 15 }

end Go.Proofs.Ytdpeleepfjhefaa
