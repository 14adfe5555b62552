/- What the functions of subsets that start a goroutine yield, beside leavers. -/
import Derived.Test.YthcglklccnknaaaSbE
import Derived.Test.YthcglklccnknaaaBel
set_option linter.unusedVariables false
set_option linter.unusedSimpArgs false
namespace Go.Proofs.Ythcglklccnknaaa
open Go.Conc
open Go.RowKit (Below)

theorem implSubsetOf_b (m : Int) (w : World) (hm : in64 m) : BCalls Try.prog 22 #[.int .i64 m] w fun v w' => ∃ v', v = v' ∧ ∃ τ d, w'.ownsRow w.heap.size 3 1 v' (rSubsetOf0 m).length (intsOf (rSubsetOf0 m)) ∧ Below w.heap.size (re w τ d) w' :=
  (implSubsetOf_bb m w hm).mono fun v w' h => ⟨v, rfl, h⟩
theorem tameSbL : Tame Try.prog Fsb := tameSb

end Go.Proofs.Ythcglklccnknaaa
