/- Lists of digits between two bounds: what the program's test answers. -/
import Derived.Test.YtdpeleepfjhefaaBase
import Derived.BigQuiet
import Derived.Deep.QuietTactic
import Derived.Maps.AppendAt
set_option linter.unusedVariables false
set_option linter.unusedSimpArgs false
set_option maxRecDepth 100000
namespace Go.Proofs.Ytdpeleepfjhefaa
open Go.ChangeShapes Go.WideShapes Go.ChangeAt Go.RowKit

/-- at most 60 digits, each between two bounds, the last one not 0 -/
def okIn (l : List Int) (lo hi : Int) : Bool := decide (l.length ≤ 60) && decide (∀ d ∈ l, lo ≤ d ∧ d ≤ hi) && decide (l = [] ∨ l.getLast? ≠ some 0)
theorem okIn_long {l : List Int} {lo hi : Int} (h : 60 < l.length) : okIn l lo hi = false := by
  have : ¬ l.length ≤ 60 := by omega
  simp [okIn, this]
theorem okIn_at {l : List Int} {lo hi : Int} {k : Nat} (hk : k < l.length) (h : l[k] < lo ∨ hi < l[k]) : okIn l lo hi = false := by
  have : ¬ (∀ d ∈ l, lo ≤ d ∧ d ≤ hi) := fun g => by
    have := g l[k] (List.getElem_mem hk)
    omega
  simp only [okIn, decide_eq_false this, Bool.and_false, Bool.false_and]
theorem okIn_end {l : List Int} {lo hi : Int} (h2 : l.length ≤ 60) (h3 : ∀ d ∈ l, lo ≤ d ∧ d ≤ hi) : okIn l lo hi = decide (l = [] ∨ l.getLast? ≠ some 0) := by
  simp only [okIn, decide_eq_true h2, decide_eq_true h3, Bool.true_and]

def allIn (l : List Int) (lo hi : Int) : Bool := decide (∀ d ∈ l, lo ≤ d ∧ d ≤ hi)
theorem allIn_yes {l : List Int} {lo hi : Int} (h : allIn l lo hi = true) : ∀ d ∈ l, lo ≤ d ∧ d ≤ hi := by simpa [allIn] using h
theorem allIn_at {l : List Int} {lo hi : Int} {k : Nat} (hk : k < l.length) (h : l[k] < lo ∨ hi < l[k]) : allIn l lo hi = false := by
  have : ¬ (∀ d ∈ l, lo ≤ d ∧ d ≤ hi) := fun g => by
    have := g l[k] (List.getElem_mem hk)
    omega
  simp only [allIn, decide_eq_false this]
theorem okIn_not {l : List Int} {lo hi : Int} (h : allIn l lo hi = false) : okIn l lo hi = false := by
  have : decide (∀ d ∈ l, lo ≤ d ∧ d ≤ hi) = false := h
  simp only [okIn, this, Bool.and_false, Bool.false_and]

end Go.Proofs.Ytdpeleepfjhefaa
