/- Balanced digits: the model's text of balanced digits. -/
import Derived.Test.YtdflpocnfodbhaaRow
import Derived.Test.YtdflpocnfodbhaaBaM
import Derived.Deep.LoopGhost
set_option linter.unusedVariables false
set_option linter.unusedSimpArgs false
set_option maxRecDepth 100000
namespace Go.Proofs.Ytdflpocnfodbhaa
open Go.ChangeShapes Go.WideShapes Go.ChangeAt Go.RowKit

/-- the character of a balanced digit -/
def sgB (d : Int) : UInt8 := if d = 1 then 43 else if d = 0 then 48 else 45
/-- the characters of digits, the first digit last -/
def txtB (l : List Int) : List UInt8 := (l.map sgB).reverse
theorem txtB_length (l : List Int) : (txtB l).length = l.length := by simp [txtB]
theorem txtB_succ {l : List Int} {k : Nat} (h : k < l.length) : txtB (l.take (k + 1)) = sgB l[k] :: txtB (l.take k) := by
  show ((l.take (k + 1)).map sgB).reverse = sgB l[k] :: ((l.take k).map sgB).reverse
  rw [List.take_succ_eq_append_getElem h, List.map_append, List.reverse_append]; rfl
theorem bs_cons1 (c : UInt8) (l : List UInt8) : (⟨#[c]⟩ : ByteArray) ++ bs l = bs (c :: l) := by
  show bs [c] ++ bs l = _
  rw [bs_add, data_bs]; rfl
def rFormatBalanced0 (l : List Int) : ByteArray := if okW l 3 then (if l = [] then bs [48] else bs (txtB l)) else bs []

end Go.Proofs.Ytdflpocnfodbhaa
