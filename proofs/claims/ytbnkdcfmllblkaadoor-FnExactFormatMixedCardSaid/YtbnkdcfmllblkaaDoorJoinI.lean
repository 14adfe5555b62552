/- Join: the program. -/
import Derived.Test.YtbnkdcfmllblkaaDoorJoin
set_option linter.unusedVariables false
set_option linter.unusedSimpArgs false
namespace Go.Proofs.YtbnkdcfmllblkaaDoor
open Go.ChangeShapes Go.WideShapes Go.ChangeAt Go.RowKit

theorem implJoin_any (by' : ByteArray) (v : Value) (l : List ByteArray) (w : World) (hrow : RowAt w v (strsOf l)) (hlen : (jn by' l l.length).length ≤ 140737488355328) :
    Calls Tryd.prog 20 #[v, .string by'] w fun e w' => e = .returned (.string (bs (jn by' l l.length))) ∧ Below w.heap.size w w' := by
  obtain ⟨a, cap, rfl, h1, h2, h3⟩ := hrow.strs
  clear h1 h2 h3
  go_enter Tryd.func20, Tryd.ntmps20
  go_wp2_with (go_at_call 29; refine (joinTexts_any _ _ _ _ hrow hlen).mono ?_; rintro e w' ⟨rfl, hb⟩)
  go_ret
  exact ⟨rfl, hb⟩

end Go.Proofs.YtbnkdcfmllblkaaDoor
