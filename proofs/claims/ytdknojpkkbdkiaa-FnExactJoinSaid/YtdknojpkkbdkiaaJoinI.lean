/- Join: the program. -/
import Derived.Test.YtdknojpkkbdkiaaJoin
set_option linter.unusedVariables false
namespace Go.Proofs.Ytdknojpkkbdkiaa
open Go.ChangeShapes Go.WideShapes Go.ChangeAt Go.RowKit

theorem implJoin_any (by' : ByteArray) (v : Value) (l : List ByteArray) (w : World) (hrow : RowAt w v (strsOf l)) (hlen : (jn by' l l.length).length ≤ 140737488355328) :
    Calls Try.prog 23 #[v, .string by'] w fun e w' => e = .returned (.string (bs (jn by' l l.length))) ∧ Below w.heap.size w w' := by
  obtain ⟨a, cap, rfl, h1, h2, h3⟩ := hrow.strs
  clear h1 h2 h3
  go_enter Try.func23, Try.ntmps23
  go_wp2_with (go_at_call 30; refine (joinTexts_any _ _ _ _ hrow hlen).mono ?_; rintro e w' ⟨rfl, hb⟩)
  go_ret
  exact ⟨rfl, hb⟩

end Go.Proofs.Ytdknojpkkbdkiaa
