/- Long numbers: the model's powers. -/
import Derived.Test.YtdflpocnfodbhaaLgR
import Derived.Deep.LoopGhost
set_option linter.unusedVariables false
set_option linter.unusedSimpArgs false
set_option maxRecDepth 100000
namespace Go.Proofs.Ytdflpocnfodbhaa
open Go.ChangeShapes Go.WideShapes Go.ChangeAt Go.RowKit

theorem dg_one {b : Nat} (hb : 2 ≤ b) : dg b 1 = [1] := by
  have h : Nrm b [1] := ⟨fun d hd => by simp at hd; subst hd; omega, .inr (by simp)⟩
  have := dg_vl hb h
  rw [← this]
  congr 1
/-- a power that is too long stays so -/
theorem pow_over {b A n i : Nat} (hb : 2 ≤ b) (hin : i ≤ n) (h : ¬ (dg b (A ^ i)).length ≤ 60) : fits (dg b (A ^ n)) = false := by
  refine decide_eq_false (fun h' => h ?_)
  have hle : A ^ i ≤ A ^ n := by
    rcases Nat.eq_zero_or_pos A with rfl | hA
    · rcases Nat.eq_zero_or_pos i with rfl | hi
      · exfalso; exact h (by rw [Nat.pow_zero, dg_one hb]; decide)
      · rw [Nat.zero_pow hi]; exact Nat.zero_le _
    · exact Nat.pow_le_pow_right hA hin
  have := dg_mono hb (nrm_dg hb (A ^ n)) (n := A ^ i) (by rw [vl_dg hb]; exact hle)
  omega

end Go.Proofs.Ytdflpocnfodbhaa
