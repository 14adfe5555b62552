/- Digits: the model's list of digits, and the functions that read it. -/
import Derived.Test.YtkkgihlakilknaaDgSpec
set_option linter.unusedVariables false
set_option linter.unusedSimpArgs false
namespace Go.Proofs.Ytkkgihlakilknaa
open Go.ChangeShapes Go.WideShapes Go.ChangeAt Go.RowKit

end Go.Proofs.Ytkkgihlakilknaa
