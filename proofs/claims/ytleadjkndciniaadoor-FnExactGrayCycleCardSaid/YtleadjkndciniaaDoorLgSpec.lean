/- Long numbers: the model's helpers: trimming, one place, comparing. -/
import Derived.Test.YtleadjkndciniaaDoorRow
import Derived.Test.YtleadjkndciniaaDoorDgS
set_option linter.unusedVariables false
set_option linter.unusedSimpArgs false
set_option maxRecDepth 100000
namespace Go.Proofs.YtleadjkndciniaaDoor
open Go.ChangeShapes Go.WideShapes Go.ChangeAt Go.RowKit

/-- the first n of a row that is owned -/
theorem owns_take {w : World} {base : Nat} {e : TypeId} {a : Option Addr} {m cap n : Nat} {xs : List Value} (h : w.ownsRow base e 1 (.slice a m cap) m xs) (hn : n ≤ m) : w.ownsRow base e 1 (.slice a n cap) n (xs.take n) := by
  obtain ⟨hl, h2⟩ := h
  refine ⟨by rw [List.length_take]; omega, ?_⟩
  rcases h2 with ⟨hv, h0⟩ | ⟨g, c, cur, hv, hg, hh, h1, h2, h3, ht⟩
  · injection hv with e1 e2 e3
    subst e1 e3
    have : n = 0 := by omega
    subst this
    exact .inl ⟨rfl, rfl⟩
  · injection hv with e1 e2 e3
    subst e1 e3
    refine .inr ⟨g, cap, cur, rfl, hg, hh, by omega, h2, h3, ?_⟩
    rw [← ht, List.take_take]
    congr 1; omega

theorem intsOf_take (l : List Int) (n : Nat) : (intsOf l).take n = intsOf (l.take n) := by simp [intsOf, List.map_take]

/-- a slice value that is written out -/
theorem owns_form {w : World} {base : Nat} {e : TypeId} {v : Value} {n : Nat} {xs : List Value} (h : w.ownsRow base e 1 v n xs) : ∃ a cap, v = .slice a n cap ∧ n ≤ cap ∧ cap ≤ maxLen := by
  rcases h.2 with ⟨rfl, h0⟩ | ⟨g, cap, cur, rfl, _, _, h1, h2, _⟩
  · subst h0; exact ⟨none, 0, rfl, Nat.le_refl _, Nat.zero_le _⟩
  · exact ⟨_, cap, rfl, h1, h2⟩

/-- a row that is owned and has a block -/
theorem owns_some {w : World} {base : Nat} {e : TypeId} {v : Value} {n : Nat} {xs : List Value} (h : w.ownsRow base e 1 v n xs) (hv : v ≠ .slice none 0 0) : ∃ g cap, v = .slice (some ⟨g, 0, none⟩) n cap := by
  rcases h.2 with ⟨h0, _⟩ | ⟨g, cap, cur, rfl, _⟩
  · exact absurd h0 hv
  · exact ⟨g, cap, rfl⟩

end Go.Proofs.YtleadjkndciniaaDoor
