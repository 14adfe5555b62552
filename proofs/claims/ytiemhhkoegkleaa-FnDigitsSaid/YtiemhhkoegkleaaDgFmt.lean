/- Digits: the model's text of digits. -/
import Derived.Test.YtiemhhkoegkleaaRow
import Derived.Test.YtiemhhkoegkleaaDgS
set_option linter.unusedVariables false
set_option linter.unusedSimpArgs false
set_option maxRecDepth 100000
namespace Go.Proofs.Ytiemhhkoegkleaa
open Go.ChangeShapes Go.WideShapes Go.ChangeAt Go.RowKit

/-- the character of a digit -/
def sgc (d : Int) : UInt8 := if 9 < d then UInt8.ofNat (97 + d - 10).toNat else UInt8.ofNat (48 + d).toNat

/-- the characters of digits, the first digit last -/
def txt (l : List Int) : List UInt8 := (l.map sgc).reverse
theorem txt_length (l : List Int) : (txt l).length = l.length := by simp [txt]
theorem txt_succ {l : List Int} {k : Nat} (h : k < l.length) : txt (l.take (k + 1)) = sgc l[k] :: txt (l.take k) := by
  show ((l.take (k + 1)).map sgc).reverse = sgc l[k] :: ((l.take k).map sgc).reverse
  rw [List.take_succ_eq_append_getElem h, List.map_append, List.reverse_append]; rfl
def rFormatDigits0 (l : List Int) (b : Int) : ByteArray := if okD l b then (if l = [] then bs [48] else bs (txt l)) else bs []

end Go.Proofs.Ytiemhhkoegkleaa
