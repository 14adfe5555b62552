/-
  No cell of these rows narrows 'for every input' (looked for: loops, veiled, ifaces, maps, wideKeys, modest, calm, conditions, laid).
  DERIVED. THE GIVEN ROWS OF THIS SEAT. 7 by the template 'for every input the law returns true; each argument reads behind the call as it read before'; 0 by the template 'total and deterministic' (their statements: YtleadjkndciniaaTotals.lean).
  GIVEN WITH THE SEED: the statements are not yours to turn. If you find one false, say at which input.
  Laid BY PROGRAM, IN A SANDBOX (cutbox-rows.mjs): the forced cells as the released guide's own fill.sh prints them over the translation d9c362d0e23d7b1b… (all of the seat's roots in one cut). By AI agents, Wed Nov 11 2026. No macro, syntax, notation, axiom, sorry.
-/
import Derived.Test.YtleadjkndciniaaChecked
import GoSem.Claim
import GoSem.ClaimJoined
import GoSem.ClaimMapViews
import Derived.JoinedTies
import Derived.KernelRfl
namespace Go.Proofs.Ytleadjkndciniaa
/- THE CELL 'sum', in the pinned program and in every row, IS THE sha256 OF THE DUMP (.gsa) THAT YtleadjkndciniaaProg.lean LOADS. Nothing in Lean hashes anything: it is a label: what it is worth is what the hold of that sum in a sandbox is worth. -/
noncomputable def Try.pinned : Pinned := { name := "ytleadjkndciniaa", sum := "d9c362d0e23d7b1b43dae1f4d527240d68149c84febd9c100c1c50737882971a", checked := Try.checked }
namespace Rows
def none {H : Type} : Left H := { results := [], args := [] }

/-- 'laws.FnExactGrayOf': WHATEVER THE INPUT: true; the input reads as it did. -/
def fnExactGrayOfSpec : ChangeSpec := { name := "fnExactGrayOf", fn := fun _ => fun
  | [d] => { results := [.lit (.bool true)], args := [d] }
  | _ => none }
def fnExactGrayOfRow : OpenClaim := { program := "ytleadjkndciniaa", sum := "d9c362d0e23d7b1b43dae1f4d527240d68149c84febd9c100c1c50737882971a", func := "loop.example/g03203/laws.FnExactGrayOf", spec := "fnExactGrayOf", apart := false }
def FnExactGrayOfSaid : Prop := fnExactGrayOfRow.holds Try.pinned (OpenSpec.ofChange fnExactGrayOfSpec)

/-- ITS FALSE NEIGHBOUR: 'it returns false'. Refute it at one input. -/
def fnExactGrayOfWrong : ChangeSpec := { name := "fnExactGrayOf", fn := fun _ => fun
  | [d] => { results := [.lit (.bool false)], args := [d] }
  | _ => none }
def FnExactGrayOfWrongFalsely : Prop := fnExactGrayOfRow.holds Try.pinned (OpenSpec.ofChange fnExactGrayOfWrong)

/-- 'laws.FnExactFromGray': WHATEVER THE INPUT: true; the input reads as it did. -/
def fnExactFromGraySpec : ChangeSpec := { name := "fnExactFromGray", fn := fun _ => fun
  | [d] => { results := [.lit (.bool true)], args := [d] }
  | _ => none }
def fnExactFromGrayRow : OpenClaim := { program := "ytleadjkndciniaa", sum := "d9c362d0e23d7b1b43dae1f4d527240d68149c84febd9c100c1c50737882971a", func := "loop.example/g03203/laws.FnExactFromGray", spec := "fnExactFromGray", apart := false }
def FnExactFromGraySaid : Prop := fnExactFromGrayRow.holds Try.pinned (OpenSpec.ofChange fnExactFromGraySpec)

/-- ITS FALSE NEIGHBOUR: 'it returns false'. Refute it at one input. -/
def fnExactFromGrayWrong : ChangeSpec := { name := "fnExactFromGray", fn := fun _ => fun
  | [d] => { results := [.lit (.bool false)], args := [d] }
  | _ => none }
def FnExactFromGrayWrongFalsely : Prop := fnExactFromGrayRow.holds Try.pinned (OpenSpec.ofChange fnExactFromGrayWrong)

/-- 'laws.FnExactGrayDigits': WHATEVER THE INPUT: true; the input reads as it did. -/
def fnExactGrayDigitsSpec : ChangeSpec := { name := "fnExactGrayDigits", fn := fun _ => fun
  | [d1, d2] => { results := [.lit (.bool true)], args := [d1, d2] }
  | _ => none }
def fnExactGrayDigitsRow : OpenClaim := { program := "ytleadjkndciniaa", sum := "d9c362d0e23d7b1b43dae1f4d527240d68149c84febd9c100c1c50737882971a", func := "loop.example/g03203/laws.FnExactGrayDigits", spec := "fnExactGrayDigits", unfollowed := true, recurses := true, apart := false }
def FnExactGrayDigitsSaid : Prop := fnExactGrayDigitsRow.holds Try.pinned (OpenSpec.ofChange fnExactGrayDigitsSpec)

/-- ITS FALSE NEIGHBOUR: 'it returns false'. Refute it at one input. -/
def fnExactGrayDigitsWrong : ChangeSpec := { name := "fnExactGrayDigits", fn := fun _ => fun
  | [d1, d2] => { results := [.lit (.bool false)], args := [d1, d2] }
  | _ => none }
def FnExactGrayDigitsWrongFalsely : Prop := fnExactGrayDigitsRow.holds Try.pinned (OpenSpec.ofChange fnExactGrayDigitsWrong)

/-- 'laws.FnExactFromGrayDigits': WHATEVER THE INPUT: true; the input reads as it did. -/
def fnExactFromGrayDigitsSpec : ChangeSpec := { name := "fnExactFromGrayDigits", fn := fun _ => fun
  | [d1, d2] => { results := [.lit (.bool true)], args := [d1, d2] }
  | _ => none }
def fnExactFromGrayDigitsRow : OpenClaim := { program := "ytleadjkndciniaa", sum := "d9c362d0e23d7b1b43dae1f4d527240d68149c84febd9c100c1c50737882971a", func := "loop.example/g03203/laws.FnExactFromGrayDigits", spec := "fnExactFromGrayDigits", unfollowed := true, recurses := true, apart := false }
def FnExactFromGrayDigitsSaid : Prop := fnExactFromGrayDigitsRow.holds Try.pinned (OpenSpec.ofChange fnExactFromGrayDigitsSpec)

/-- ITS FALSE NEIGHBOUR: 'it returns false'. Refute it at one input. -/
def fnExactFromGrayDigitsWrong : ChangeSpec := { name := "fnExactFromGrayDigits", fn := fun _ => fun
  | [d1, d2] => { results := [.lit (.bool false)], args := [d1, d2] }
  | _ => none }
def FnExactFromGrayDigitsWrongFalsely : Prop := fnExactFromGrayDigitsRow.holds Try.pinned (OpenSpec.ofChange fnExactFromGrayDigitsWrong)

/-- 'laws.FnExactCountDifferent': WHATEVER THE INPUT: true; the input reads as it did. -/
def fnExactCountDifferentSpec : ChangeSpec := { name := "fnExactCountDifferent", fn := fun _ => fun
  | [d1, d2] => { results := [.lit (.bool true)], args := [d1, d2] }
  | _ => none }
def fnExactCountDifferentRow : OpenClaim := { program := "ytleadjkndciniaa", sum := "d9c362d0e23d7b1b43dae1f4d527240d68149c84febd9c100c1c50737882971a", func := "loop.example/g03203/laws.FnExactCountDifferent", spec := "fnExactCountDifferent", apart := false }
def FnExactCountDifferentSaid : Prop := fnExactCountDifferentRow.holds Try.pinned (OpenSpec.ofChange fnExactCountDifferentSpec)

/-- ITS FALSE NEIGHBOUR: 'it returns false'. Refute it at one input. -/
def fnExactCountDifferentWrong : ChangeSpec := { name := "fnExactCountDifferent", fn := fun _ => fun
  | [d1, d2] => { results := [.lit (.bool false)], args := [d1, d2] }
  | _ => none }
def FnExactCountDifferentWrongFalsely : Prop := fnExactCountDifferentRow.holds Try.pinned (OpenSpec.ofChange fnExactCountDifferentWrong)

/-- 'laws.FnExactIsGrayCycle': WHATEVER THE INPUT: true; the input reads as it did. -/
def fnExactIsGrayCycleSpec : ChangeSpec := { name := "fnExactIsGrayCycle", fn := fun _ => fun
  | [d1, d2] => { results := [.lit (.bool true)], args := [d1, d2] }
  | _ => none }
def fnExactIsGrayCycleRow : OpenClaim := { program := "ytleadjkndciniaa", sum := "d9c362d0e23d7b1b43dae1f4d527240d68149c84febd9c100c1c50737882971a", func := "loop.example/g03203/laws.FnExactIsGrayCycle", spec := "fnExactIsGrayCycle", apart := false }
def FnExactIsGrayCycleSaid : Prop := fnExactIsGrayCycleRow.holds Try.pinned (OpenSpec.ofChange fnExactIsGrayCycleSpec)

/-- ITS FALSE NEIGHBOUR: 'it returns false'. Refute it at one input. -/
def fnExactIsGrayCycleWrong : ChangeSpec := { name := "fnExactIsGrayCycle", fn := fun _ => fun
  | [d1, d2] => { results := [.lit (.bool false)], args := [d1, d2] }
  | _ => none }
def FnExactIsGrayCycleWrongFalsely : Prop := fnExactIsGrayCycleRow.holds Try.pinned (OpenSpec.ofChange fnExactIsGrayCycleWrong)

/-- 'laws.FnExactRingSteps': WHATEVER THE INPUT: true; the input reads as it did. -/
def fnExactRingStepsSpec : ChangeSpec := { name := "fnExactRingSteps", fn := fun _ => fun
  | [d1, d2] => { results := [.lit (.bool true)], args := [d1, d2] }
  | _ => none }
def fnExactRingStepsRow : OpenClaim := { program := "ytleadjkndciniaa", sum := "d9c362d0e23d7b1b43dae1f4d527240d68149c84febd9c100c1c50737882971a", func := "loop.example/g03203/laws.FnExactRingSteps", spec := "fnExactRingSteps", apart := false }
def FnExactRingStepsSaid : Prop := fnExactRingStepsRow.holds Try.pinned (OpenSpec.ofChange fnExactRingStepsSpec)

/-- ITS FALSE NEIGHBOUR: 'it returns false'. Refute it at one input. -/
def fnExactRingStepsWrong : ChangeSpec := { name := "fnExactRingSteps", fn := fun _ => fun
  | [d1, d2] => { results := [.lit (.bool false)], args := [d1, d2] }
  | _ => none }
def FnExactRingStepsWrongFalsely : Prop := fnExactRingStepsRow.holds Try.pinned (OpenSpec.ofChange fnExactRingStepsWrong)

/- THE SECOND FORM. 'bulk': how many values and letters a reading holds, each counted each time it is reached (what is shared counts as often as it is met; a slice's spare places count too). A statement '..UptoSaid' is the law's where the arguments, and the package variables that the reading takes, are together of bulk at most 1048576: NARROWER than '..Said'. Prove '..Said' where nothing that the law and all that it calls make is longer than what came in: it says more and counts as full. Else prove '..UptoSaid'. A law counts once. -/
mutual
def uptoBulk {H : Type} : DataW H → Nat
  | .lit (.string bytes) => bytes.length + 1
  | .lit _ => 1
  | .nil => 1
  | .ptr d => uptoBulk d + 1
  | .slice elems spare => uptoBulkAll elems + uptoBulkAll spare + 1
  | .agg parts => uptoBulkAll parts + 1
  | .iface _ d => uptoBulk d + 1
  | .map entries => uptoBulkEntries entries + 1
  | .held _ => 1
def uptoBulkAll {H : Type} : List (DataW H) → Nat
  | [] => 0
  | d :: r => uptoBulk d + uptoBulkAll r
def uptoBulkEntries {H : Type} : List (Lit × DataW H) → Nat
  | [] => 0
  | x :: r => uptoBulkEntry x + uptoBulkEntries r
def uptoBulkEntry {H : Type} : Lit × DataW H → Nat
  | (.string bytes, d) => bytes.length + uptoBulk d + 1
  | (_, d) => uptoBulk d + 1
 end
def uptoSmall : (H : Type) → List (DataW H) → Bool := fun _ ds => decide (uptoBulkAll ds ≤ 1048576)
def OpenSpec.upto (s : _root_.Go.ChangeSpec) : _root_.Go.OpenSpec := { _root_.Go.OpenSpec.ofChange s with cond := some uptoSmall }

/-- 'laws.FnExactGrayOf', WHERE WHAT IT READS IS OF BULK AT MOST 1048576: true; the input reads as it did. -/
def fnExactGrayOfUptoRow : OpenClaim := { program := "ytleadjkndciniaa", sum := "d9c362d0e23d7b1b43dae1f4d527240d68149c84febd9c100c1c50737882971a", func := "loop.example/g03203/laws.FnExactGrayOf", spec := "fnExactGrayOf", apart := false, narrowed := true }
def FnExactGrayOfUptoSaid : Prop := fnExactGrayOfUptoRow.holds Try.pinned (OpenSpec.upto fnExactGrayOfSpec)

/-- 'laws.FnExactFromGray', WHERE WHAT IT READS IS OF BULK AT MOST 1048576: true; the input reads as it did. -/
def fnExactFromGrayUptoRow : OpenClaim := { program := "ytleadjkndciniaa", sum := "d9c362d0e23d7b1b43dae1f4d527240d68149c84febd9c100c1c50737882971a", func := "loop.example/g03203/laws.FnExactFromGray", spec := "fnExactFromGray", apart := false, narrowed := true }
def FnExactFromGrayUptoSaid : Prop := fnExactFromGrayUptoRow.holds Try.pinned (OpenSpec.upto fnExactFromGraySpec)

/-- 'laws.FnExactGrayDigits', WHERE WHAT IT READS IS OF BULK AT MOST 1048576: true; the input reads as it did. -/
def fnExactGrayDigitsUptoRow : OpenClaim := { program := "ytleadjkndciniaa", sum := "d9c362d0e23d7b1b43dae1f4d527240d68149c84febd9c100c1c50737882971a", func := "loop.example/g03203/laws.FnExactGrayDigits", spec := "fnExactGrayDigits", unfollowed := true, recurses := true, apart := false, narrowed := true }
def FnExactGrayDigitsUptoSaid : Prop := fnExactGrayDigitsUptoRow.holds Try.pinned (OpenSpec.upto fnExactGrayDigitsSpec)

/-- 'laws.FnExactFromGrayDigits', WHERE WHAT IT READS IS OF BULK AT MOST 1048576: true; the input reads as it did. -/
def fnExactFromGrayDigitsUptoRow : OpenClaim := { program := "ytleadjkndciniaa", sum := "d9c362d0e23d7b1b43dae1f4d527240d68149c84febd9c100c1c50737882971a", func := "loop.example/g03203/laws.FnExactFromGrayDigits", spec := "fnExactFromGrayDigits", unfollowed := true, recurses := true, apart := false, narrowed := true }
def FnExactFromGrayDigitsUptoSaid : Prop := fnExactFromGrayDigitsUptoRow.holds Try.pinned (OpenSpec.upto fnExactFromGrayDigitsSpec)

/-- 'laws.FnExactCountDifferent', WHERE WHAT IT READS IS OF BULK AT MOST 1048576: true; the input reads as it did. -/
def fnExactCountDifferentUptoRow : OpenClaim := { program := "ytleadjkndciniaa", sum := "d9c362d0e23d7b1b43dae1f4d527240d68149c84febd9c100c1c50737882971a", func := "loop.example/g03203/laws.FnExactCountDifferent", spec := "fnExactCountDifferent", apart := false, narrowed := true }
def FnExactCountDifferentUptoSaid : Prop := fnExactCountDifferentUptoRow.holds Try.pinned (OpenSpec.upto fnExactCountDifferentSpec)

/-- 'laws.FnExactIsGrayCycle', WHERE WHAT IT READS IS OF BULK AT MOST 1048576: true; the input reads as it did. -/
def fnExactIsGrayCycleUptoRow : OpenClaim := { program := "ytleadjkndciniaa", sum := "d9c362d0e23d7b1b43dae1f4d527240d68149c84febd9c100c1c50737882971a", func := "loop.example/g03203/laws.FnExactIsGrayCycle", spec := "fnExactIsGrayCycle", apart := false, narrowed := true }
def FnExactIsGrayCycleUptoSaid : Prop := fnExactIsGrayCycleUptoRow.holds Try.pinned (OpenSpec.upto fnExactIsGrayCycleSpec)

/-- 'laws.FnExactRingSteps', WHERE WHAT IT READS IS OF BULK AT MOST 1048576: true; the input reads as it did. -/
def fnExactRingStepsUptoRow : OpenClaim := { program := "ytleadjkndciniaa", sum := "d9c362d0e23d7b1b43dae1f4d527240d68149c84febd9c100c1c50737882971a", func := "loop.example/g03203/laws.FnExactRingSteps", spec := "fnExactRingSteps", apart := false, narrowed := true }
def FnExactRingStepsUptoSaid : Prop := fnExactRingStepsUptoRow.holds Try.pinned (OpenSpec.upto fnExactRingStepsSpec)

end Rows
end Go.Proofs.Ytleadjkndciniaa
