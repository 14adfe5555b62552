/- Digits: the program's functions, with what the laws ask. -/
import Derived.Test.YtdflpocnfodbhaaDgImp
import Derived.Shelf.Small.Strs
import Derived.Shelf.Strings.Builder1
import Derived.Shelf.Strings.Search1
set_option linter.unusedVariables false
set_option linter.unusedSimpArgs false
set_option maxRecDepth 100000
namespace Go.Proofs.Ytdflpocnfodbhaa
open Go.ChangeShapes Go.WideShapes Go.ChangeAt Go.RowKit

theorem implBaseOk_law (b : Int) (w : World) (hb : in64 b) :
    Calls Try.prog 21 #[.int .i64 b] w fun e w' => e = .returned (.bool (rBaseOk0 b)) ∧ Below w.heap.size w w' := by
  refine (implBaseOk_any b w hb).mono ?_
  rintro e w' ⟨rfl, rfl⟩
  exact ⟨rfl, Below.refl _ _⟩
theorem implDigitsOk_law (v : Value) (l : List Int) (b : Int) (w : World) (hr : RowAt w v (intsOf l)) (hl : l.length ≤ 1048576) (hi : ∀ n ∈ l, in64 n) (hb : in64 b) :
    Calls Try.prog 20 #[v, .int .i64 b] w fun e w' => e = .returned (.bool (rDigitsOk0 l b)) ∧ Below w.heap.size w w' := by
  refine (implDigitsOk_any v l b w hr hl hi hb).mono ?_
  rintro e w' ⟨rfl, rfl⟩
  exact ⟨rfl, Below.refl _ _⟩

end Go.Proofs.Ytdflpocnfodbhaa
