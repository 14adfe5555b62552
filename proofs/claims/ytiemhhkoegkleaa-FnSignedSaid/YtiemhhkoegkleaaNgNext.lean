/- Negative bases: the program's test of the bounds, and the closure that makes one digit at each call. -/
import Derived.Test.YtiemhhkoegkleaaNgSpec
import Derived.Deep.RegionHeld3
import Derived.LoopIn
import Derived.LoopNIn
import Derived.OwnWalkIn
import Derived.RangeFuncBound
import Derived.RangeFuncLeaves
import Derived.RangeFuncNested
import Derived.Shelf.Abstract
import Derived.TacticsInMore
set_option linter.unusedVariables false
set_option linter.unusedSimpArgs false
set_option maxRecDepth 100000
namespace Go.Proofs.Ytiemhhkoegkleaa
open Go.ChangeShapes Go.WideShapes Go.ChangeAt Go.RowKit

theorem within_any (n : Int) (w : World) (hn : in64 n) :
    Calls Try.prog 63 #[.int .i64 n] w fun e w' => e = .returned (.bool (inN n)) ∧ w = w' := by
  obtain ⟨hb0, hb1⟩ := hn
  by_cases h : -1000000000000 ≤ n
  · have HK := Lib.hid (show inN n = decide (n ≤ 1000000000000) by simp [inN, inB, h])
    go_enter Try.func63, Try.ntmps63
    go_wp2
    all_goals (go_ret; exact ⟨ret_bool HK.out.symm, rfl⟩)
  · have h' : n < -1000000000000 := by omega
    have HK := Lib.hid (show inN n = false by simp [inN, inB, h])
    go_enter Try.func63, Try.ntmps63
    go_wp2
    all_goals (go_ret; exact ⟨ret_bool HK.out.symm, rfl⟩)

/-- the remainder made positive, as Go takes it -/
theorem tmod_twice {b : Nat} (hb : 2 ≤ b) (x : Int) : (x.tmod b + b).tmod b = x % b := by
  obtain ⟨_, _, f3, f4⟩ := tmod_fix hb x
  rw [Int.tmod_eq_emod_of_nonneg (by omega), Int.add_emod_right]
  have e := Int.tmod_add_mul_tdiv x b
  have : x.tmod b = x + b * (-(x.tdiv b)) := by rw [Int.mul_neg]; omega
  rw [this, Int.add_mul_emod_self_left]
theorem quo_neg {b : Nat} (hb : 2 ≤ b) (x : Int) : (x - x % b).tdiv (-(b : Int)) = -(x / b) := by
  rw [Int.tdiv_neg, ← Int.neg_tdiv, show -(x - x % (b : Int)) = x % b - x by omega]
  exact quo_exact hb x

end Go.Proofs.Ytiemhhkoegkleaa
