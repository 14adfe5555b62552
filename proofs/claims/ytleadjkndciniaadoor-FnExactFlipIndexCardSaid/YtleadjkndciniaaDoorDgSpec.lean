/- Digits: the model's functions. -/
import Derived.Test.YtleadjkndciniaaDoorDgS
set_option linter.unusedVariables false
set_option linter.unusedSimpArgs false
set_option maxRecDepth 100000
namespace Go.Proofs.YtleadjkndciniaaDoor
open Go.ChangeShapes Go.WideShapes Go.ChangeAt Go.RowKit

theorem sIn_any (n lo hi : Int) (w : World) :
    Calls Tryd.prog 42 #[.int .i64 n, .int .i64 lo, .int .i64 hi] w fun e w' => e = .returned (.bool (inB n lo hi)) ∧ w = w' := by
  by_cases h : lo ≤ n
  · go_enter Tryd.func42, Tryd.ntmps42
    go_wp2
    all_goals (go_ret; exact ⟨ret_bool (by simp [inB, h]), rfl⟩)
  · have h' : n < lo := by omega
    go_enter Tryd.func42, Tryd.ntmps42
    go_wp2
    all_goals (go_ret; exact ⟨ret_bool (by simp [inB]; omega), rfl⟩)

theorem okD_base {l : List Int} {b : Int} (h : okB b = false) : okD l b = false := by simp [okD, h]
theorem okD_long {l : List Int} {b : Int} (h : 60 < l.length) : okD l b = false := by
  have : ¬ l.length ≤ 60 := by omega
  simp [okD, this]
theorem okD_at {l : List Int} {b : Int} {k : Nat} (hk : k < l.length) (h : inB l[k] 0 (b - 1) = false) : okD l b = false := by
  have : ¬ (∀ d ∈ l, 0 ≤ d ∧ d ≤ b - 1) := fun g => by
    have := g l[k] (List.getElem_mem hk)
    simp [inB] at h; omega
  simp only [okD, decide_eq_false this, Bool.and_false, Bool.false_and]
theorem okD_end {l : List Int} {b : Int} (h1 : okB b = true) (h2 : l.length ≤ 60) (h3 : ∀ d ∈ l, 0 ≤ d ∧ d ≤ b - 1) : okD l b = decide (l = [] ∨ l.getLast? ≠ some 0) := by
  simp only [okD, h1, decide_eq_true h2, decide_eq_true h3, Bool.true_and]

theorem last_test {l : List Int} {m : Nat} (hm : l.length = m + 1) (h : m < l.length) :
    decide (l = [] ∨ l.getLast? ≠ some 0) = (l[m] != 0) := by
  have e : l.getLast? = some l[m] := by
    rw [List.getLast?_eq_getElem?]; simp [hm]
  have n : l ≠ [] := fun e => by rw [e] at h; simp at h
  rw [e]
  by_cases hz : l[m] = 0 <;> simp [hz, n]

end Go.Proofs.YtleadjkndciniaaDoor
