/- Negative bases: the program's contracts, all of them. -/
import Derived.Test.YtkkgihlakilknaaNgPubI
import Derived.Test.YtkkgihlakilknaaNgOrdI
namespace Go.Proofs.Ytkkgihlakilknaa
end Go.Proofs.Ytkkgihlakilknaa
