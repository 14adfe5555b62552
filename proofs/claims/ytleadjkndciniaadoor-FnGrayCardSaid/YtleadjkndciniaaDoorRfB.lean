/- A range over the library's iterator that goes through a slice from its last element on: the law of the statement, by the number of elements that are left. The slice's cells may turn between two rounds. -/
import Derived.Test.YtleadjkndciniaaDoorDgS
import Derived.Test.YtleadjkndciniaaDoorRf
import Derived.Deep.LoopGhost
import Derived.Deep.RegionHeld3
import Derived.RangeFuncCalls
set_option linter.unusedVariables false
set_option linter.unusedSimpArgs false
set_option maxRecDepth 100000
namespace Go.Proofs.YtleadjkndciniaaDoor
open Go.ChangeShapes Go.WideShapes Go.ChangeAt Go.RowKit

attribute [local go_sem] Oper.semAt_some wide_fn wide_depth

/-- what the iterator reads while k elements are left -/
def BackRd (Bs : Nat) (sa : Option Addr) (len cap : Nat) (Good : Nat → Int → Prop) (k : Nat) (X : World) : Prop :=
  X.cell? ⟨Bs, 0, none⟩ = some (.slice sa len cap) ∧ ∀ j, j < k → ∃ (d : Int) (b' off : Nat), sa = some ⟨b', off, none⟩ ∧ Good j d ∧ X.cell? ⟨b', off + j, none⟩ = some (.int .i64 d)

/-- how the body of a round may be left -/
def postB (B : Nat) (I : Nat → World → Prop) (Ix : Code → Nat → World → Prop) (k : Nat) (W : World) : Exit → Act → World → Prop
  | .normal, _, W' => Area B 2 W W' ∧ I k W'
  | .ret, _, W' => Area B 2 W W' ∧ Ix .ret k W'
  | .exit id, _, W' => Area B 2 W W' ∧ Ix (.exit id) k W'
  | .goto t, _, W' => Area B 2 W W' ∧ Ix (.goto t) k W'
  | .panic _, _, _ => False
  | .outgrown, _, _ => False

/-- a row that is owned abides -/
theorem owned_own {β : Type} (base : Nat) (e : TypeId) (v : β → Value) (n : β → Nat) (xs : β → List Value) : Own (fun s W => W.ownsRow base e 1 (v s) (n s) (xs s)) := fun s W W' row h hg hr => by
  refine World.ownsRow.kept h hg ?_
  cases hv : (v s).ownBlock with
  | none => exact .inl rfl
  | some k =>
    refine .inr (fun e => ?_)
    obtain ⟨o, ho, hc⟩ := hr k e.symm
    rcases h.2 with ⟨h0, _⟩ | ⟨g, cap, cur, h0, _, hh, _⟩
    · rw [h0] at hv; simp [Value.ownBlock] at hv
    · rw [h0] at hv
      simp [Value.ownBlock] at hv
      subst hv
      rw [hh] at ho
      injection ho with ho
      subst ho
      simp [Obj.isCells] at hc

theorem Area.below {A m n : Nat} {X Y : World} (h : Below n X Y) (hn : A + m ≤ n) : Area A m X Y := fun k h1 h2 => h.block k (by omega)

end Go.Proofs.YtleadjkndciniaaDoor
