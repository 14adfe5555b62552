/- isDigitRune. -/
import Derived.Test.YtdknojpkkbdkiaaDigS
set_option linter.unusedVariables false
namespace Go.Proofs.Ytdknojpkkbdkiaa
open Go.ChangeShapes Go.WideShapes Go.ChangeAt Go.RowKit

theorem isDigitRune_any (r : Int) (w : World) :
    Calls Try.prog 26 #[.int .i32 r] w fun e w' => e = .returned (.bool (digB r)) ∧ w = w' := by
  by_cases h : digB r = true
  · obtain ⟨h2, h3⟩ := digB_yes h
    rw [h]; clear h
    go_enter Try.func26, Try.ntmps26
    go_wp2
    go_ret
    exact ⟨rfl, rfl⟩
  · have h1 := digB_no h
    rw [show digB r = false by simpa using h]; clear h
    by_cases h2 : r < 48
    · clear h1
      go_enter Try.func26, Try.ntmps26
      go_wp2
      go_ret
      exact ⟨rfl, rfl⟩
    · have h3 : 57 < r := by omega
      clear h1
      go_enter Try.func26, Try.ntmps26
      go_wp2
      go_ret
      exact ⟨ret_bool (by simp; omega), rfl⟩

end Go.Proofs.Ytdknojpkkbdkiaa
