/- Digits: the model's list of digits, and the functions that read it. -/
import Derived.Test.YthcglklccnknaaaDgSpec
set_option linter.unusedVariables false
set_option linter.unusedSimpArgs false
set_option maxRecDepth 100000
namespace Go.Proofs.Ythcglklccnknaaa
open Go.ChangeShapes Go.WideShapes Go.ChangeAt Go.RowKit

end Go.Proofs.Ythcglklccnknaaa
