/- Balanced digits: the program adds two lists. -/
import Derived.Test.YtiemhhkoegkleaaLgL
import Derived.Test.YtiemhhkoegkleaaBaAdd
import Derived.RangeFuncCalls
set_option linter.unusedVariables false
set_option linter.unusedSimpArgs false
set_option maxRecDepth 100000
namespace Go.Proofs.Ytiemhhkoegkleaa
open Go.ChangeShapes Go.WideShapes Go.ChangeAt Go.RowKit

set_option maxHeartbeats 1000000 in
/-- what result hands back of a row -/
theorem implRes_row (v : Value) (L : List Int) (base : Nat) (w : World) (hown : w.ownsRow base 3 1 v L.length (intsOf L)) :
    Calls Try.prog 62 #[v] w fun e w' => ∃ v', e = .returned (.tuple #[v', .bool (fits L)]) ∧ w.ownsRow base 3 1 v' (if fits L then L else []).length (intsOf (if fits L then L else [])) ∧ w = w' := by
  obtain ⟨a, cap, rfl, h1, h2⟩ := owns_form hown
  unfold maxLen at h2
  by_cases hf : L.length ≤ 60
  · have HF := Lib.hid (show fits L = true by simpa [fits] using hf)
    have HO := Lib.hid hown
    rw [HF.out]
    clear hown
    go_enter Try.func62, Try.ntmps62
    go_wp2
    go_ret2
    exact ⟨_, rfl, HO.out, rfl⟩
  · have HF := Lib.hid (show fits L = false by simpa [fits] using hf)
    rw [HF.out]
    clear hown
    go_enter Try.func62, Try.ntmps62
    go_wp2
    go_ret2
    exact ⟨_, rfl, World.ownsRow_nil _ _ _ _, rfl⟩

/-- trimming a row of balanced digits that is owned -/
theorem implTrimB_own (v : Value) (l : List Int) (h base : Nat) (w : World) (hh : 1 ≤ h) (hA : AllB h l) (hown : w.ownsRow base 3 1 v l.length (intsOf l)) (hl : l.length ≤ 1048576) :
    Calls Try.prog 61 #[v] w fun e w' => ∃ v', e = .returned v' ∧ w.ownsRow base 3 1 v' (bd h (bv h l)).length (intsOf (bd h (bv h l))) ∧ w = w' := by
  obtain ⟨a, cap, rfl, h1, h2⟩ := owns_form hown
  refine (implTrim_any a cap l w (RowAt.of_owns hown) hl).mono ?_
  rintro e w' ⟨n, rfl, hn, hz, hlast, rfl⟩
  have e := trim_eqB hh hA hn hz hlast
  have en : (bd h (bv h l)).length = n := by rw [← e, List.length_take, Nat.min_eq_left hn]
  refine ⟨_, rfl, ?_, rfl⟩
  rw [en, ← e, ← intsOf_take]
  exact owns_take hown hn

end Go.Proofs.Ytiemhhkoegkleaa
