/-
  No cell of these rows narrows 'for every input' (looked for: loops, veiled, ifaces, maps, wideKeys, modest, calm, conditions, laid).
  DERIVED. THE GIVEN ROWS OF THIS SEAT. 13 by the template 'for every input the law returns true; each argument reads behind the call as it read before'; 0 by the template 'total and deterministic' (their statements: YtkimojjhmllnfaaTotals.lean).
  GIVEN WITH THE SEED: the statements are not yours to turn. If you find one false, say at which input.
  Laid BY PROGRAM, IN A SANDBOX (cutbox-rows.mjs): the forced cells as the released guide's own fill.sh prints them over the translation c91d5c91b2adff9c… (all of the seat's roots in one cut). By AI agents, Wed Nov 11 2026. No macro, syntax, notation, axiom, sorry.
-/
import Derived.Test.YtkimojjhmllnfaaChecked
import GoSem.Claim
import GoSem.ClaimJoined
import GoSem.ClaimMapViews
import Derived.JoinedTies
import Derived.KernelRfl
namespace Go.Proofs.Ytkimojjhmllnfaa
/- THE CELL 'sum', in the pinned program and in every row, IS THE sha256 OF THE DUMP (.gsa) THAT YtkimojjhmllnfaaProg.lean LOADS. Nothing in Lean hashes anything: it is a label: what it is worth is what the hold of that sum in a sandbox is worth. -/
noncomputable def Try.pinned : Pinned := { name := "ytkimojjhmllnfaa", sum := "c91d5c91b2adff9c0deddf939b429ec477c0b1f1013775c4a1b81a14101f877a", checked := Try.checked }
namespace Rows
def none {H : Type} : Left H := { results := [], args := [] }

/-- 'laws.FnFibonacci': WHATEVER THE INPUT: true; the input reads as it did. -/
def fnFibonacciSpec : ChangeSpec := { name := "fnFibonacci", fn := fun _ => fun
  | [d] => { results := [.lit (.bool true)], args := [d] }
  | _ => none }
def fnFibonacciRow : OpenClaim := { program := "ytkimojjhmllnfaa", sum := "c91d5c91b2adff9c0deddf939b429ec477c0b1f1013775c4a1b81a14101f877a", func := "loop.example/g03203/laws.FnFibonacci", spec := "fnFibonacci", unfollowed := true, recurses := true, apart := false }
def FnFibonacciSaid : Prop := fnFibonacciRow.holds Try.pinned (OpenSpec.ofChange fnFibonacciSpec)

/-- ITS FALSE NEIGHBOUR: 'it returns false'. Refute it at one input. -/
def fnFibonacciWrong : ChangeSpec := { name := "fnFibonacci", fn := fun _ => fun
  | [d] => { results := [.lit (.bool false)], args := [d] }
  | _ => none }
def FnFibonacciWrongFalsely : Prop := fnFibonacciRow.holds Try.pinned (OpenSpec.ofChange fnFibonacciWrong)

/-- 'laws.FnWythoff': WHATEVER THE INPUT: true; the input reads as it did. -/
def fnWythoffSpec : ChangeSpec := { name := "fnWythoff", fn := fun _ => fun
  | [d] => { results := [.lit (.bool true)], args := [d] }
  | _ => none }
def fnWythoffRow : OpenClaim := { program := "ytkimojjhmllnfaa", sum := "c91d5c91b2adff9c0deddf939b429ec477c0b1f1013775c4a1b81a14101f877a", func := "loop.example/g03203/laws.FnWythoff", spec := "fnWythoff", apart := false }
def FnWythoffSaid : Prop := fnWythoffRow.holds Try.pinned (OpenSpec.ofChange fnWythoffSpec)

/-- ITS FALSE NEIGHBOUR: 'it returns false'. Refute it at one input. -/
def fnWythoffWrong : ChangeSpec := { name := "fnWythoff", fn := fun _ => fun
  | [d] => { results := [.lit (.bool false)], args := [d] }
  | _ => none }
def FnWythoffWrongFalsely : Prop := fnWythoffRow.holds Try.pinned (OpenSpec.ofChange fnWythoffWrong)

/-- 'laws.FnExactFibPlace': WHATEVER THE INPUT: true; the input reads as it did. -/
def fnExactFibPlaceSpec : ChangeSpec := { name := "fnExactFibPlace", fn := fun _ => fun
  | [d] => { results := [.lit (.bool true)], args := [d] }
  | _ => none }
def fnExactFibPlaceRow : OpenClaim := { program := "ytkimojjhmllnfaa", sum := "c91d5c91b2adff9c0deddf939b429ec477c0b1f1013775c4a1b81a14101f877a", func := "loop.example/g03203/laws.FnExactFibPlace", spec := "fnExactFibPlace", apart := false }
def FnExactFibPlaceSaid : Prop := fnExactFibPlaceRow.holds Try.pinned (OpenSpec.ofChange fnExactFibPlaceSpec)

/-- ITS FALSE NEIGHBOUR: 'it returns false'. Refute it at one input. -/
def fnExactFibPlaceWrong : ChangeSpec := { name := "fnExactFibPlace", fn := fun _ => fun
  | [d] => { results := [.lit (.bool false)], args := [d] }
  | _ => none }
def FnExactFibPlaceWrongFalsely : Prop := fnExactFibPlaceRow.holds Try.pinned (OpenSpec.ofChange fnExactFibPlaceWrong)

/-- 'laws.FnExactFibOk': WHATEVER THE INPUT: true; the input reads as it did. -/
def fnExactFibOkSpec : ChangeSpec := { name := "fnExactFibOk", fn := fun _ => fun
  | [d] => { results := [.lit (.bool true)], args := [d] }
  | _ => none }
def fnExactFibOkRow : OpenClaim := { program := "ytkimojjhmllnfaa", sum := "c91d5c91b2adff9c0deddf939b429ec477c0b1f1013775c4a1b81a14101f877a", func := "loop.example/g03203/laws.FnExactFibOk", spec := "fnExactFibOk", apart := false }
def FnExactFibOkSaid : Prop := fnExactFibOkRow.holds Try.pinned (OpenSpec.ofChange fnExactFibOkSpec)

/-- ITS FALSE NEIGHBOUR: 'it returns false'. Refute it at one input. -/
def fnExactFibOkWrong : ChangeSpec := { name := "fnExactFibOk", fn := fun _ => fun
  | [d] => { results := [.lit (.bool false)], args := [d] }
  | _ => none }
def FnExactFibOkWrongFalsely : Prop := fnExactFibOkRow.holds Try.pinned (OpenSpec.ofChange fnExactFibOkWrong)

/-- 'laws.FnExactFibValue': WHATEVER THE INPUT: true; the input reads as it did. -/
def fnExactFibValueSpec : ChangeSpec := { name := "fnExactFibValue", fn := fun _ => fun
  | [d] => { results := [.lit (.bool true)], args := [d] }
  | _ => none }
def fnExactFibValueRow : OpenClaim := { program := "ytkimojjhmllnfaa", sum := "c91d5c91b2adff9c0deddf939b429ec477c0b1f1013775c4a1b81a14101f877a", func := "loop.example/g03203/laws.FnExactFibValue", spec := "fnExactFibValue", apart := false }
def FnExactFibValueSaid : Prop := fnExactFibValueRow.holds Try.pinned (OpenSpec.ofChange fnExactFibValueSpec)

/-- ITS FALSE NEIGHBOUR: 'it returns false'. Refute it at one input. -/
def fnExactFibValueWrong : ChangeSpec := { name := "fnExactFibValue", fn := fun _ => fun
  | [d] => { results := [.lit (.bool false)], args := [d] }
  | _ => none }
def FnExactFibValueWrongFalsely : Prop := fnExactFibValueRow.holds Try.pinned (OpenSpec.ofChange fnExactFibValueWrong)

/-- 'laws.FnExactSparseFib': WHATEVER THE INPUT: true; the input reads as it did. -/
def fnExactSparseFibSpec : ChangeSpec := { name := "fnExactSparseFib", fn := fun _ => fun
  | [d] => { results := [.lit (.bool true)], args := [d] }
  | _ => none }
def fnExactSparseFibRow : OpenClaim := { program := "ytkimojjhmllnfaa", sum := "c91d5c91b2adff9c0deddf939b429ec477c0b1f1013775c4a1b81a14101f877a", func := "loop.example/g03203/laws.FnExactSparseFib", spec := "fnExactSparseFib", apart := false }
def FnExactSparseFibSaid : Prop := fnExactSparseFibRow.holds Try.pinned (OpenSpec.ofChange fnExactSparseFibSpec)

/-- ITS FALSE NEIGHBOUR: 'it returns false'. Refute it at one input. -/
def fnExactSparseFibWrong : ChangeSpec := { name := "fnExactSparseFib", fn := fun _ => fun
  | [d] => { results := [.lit (.bool false)], args := [d] }
  | _ => none }
def FnExactSparseFibWrongFalsely : Prop := fnExactSparseFibRow.holds Try.pinned (OpenSpec.ofChange fnExactSparseFibWrong)

/-- 'laws.FnExactDenseFib': WHATEVER THE INPUT: true; the input reads as it did. -/
def fnExactDenseFibSpec : ChangeSpec := { name := "fnExactDenseFib", fn := fun _ => fun
  | [d] => { results := [.lit (.bool true)], args := [d] }
  | _ => none }
def fnExactDenseFibRow : OpenClaim := { program := "ytkimojjhmllnfaa", sum := "c91d5c91b2adff9c0deddf939b429ec477c0b1f1013775c4a1b81a14101f877a", func := "loop.example/g03203/laws.FnExactDenseFib", spec := "fnExactDenseFib", apart := false }
def FnExactDenseFibSaid : Prop := fnExactDenseFibRow.holds Try.pinned (OpenSpec.ofChange fnExactDenseFibSpec)

/-- ITS FALSE NEIGHBOUR: 'it returns false'. Refute it at one input. -/
def fnExactDenseFibWrong : ChangeSpec := { name := "fnExactDenseFib", fn := fun _ => fun
  | [d] => { results := [.lit (.bool false)], args := [d] }
  | _ => none }
def FnExactDenseFibWrongFalsely : Prop := fnExactDenseFibRow.holds Try.pinned (OpenSpec.ofChange fnExactDenseFibWrong)

/-- 'laws.FnExactIsSparseFib': WHATEVER THE INPUT: true; the input reads as it did. -/
def fnExactIsSparseFibSpec : ChangeSpec := { name := "fnExactIsSparseFib", fn := fun _ => fun
  | [d] => { results := [.lit (.bool true)], args := [d] }
  | _ => none }
def fnExactIsSparseFibRow : OpenClaim := { program := "ytkimojjhmllnfaa", sum := "c91d5c91b2adff9c0deddf939b429ec477c0b1f1013775c4a1b81a14101f877a", func := "loop.example/g03203/laws.FnExactIsSparseFib", spec := "fnExactIsSparseFib", apart := false }
def FnExactIsSparseFibSaid : Prop := fnExactIsSparseFibRow.holds Try.pinned (OpenSpec.ofChange fnExactIsSparseFibSpec)

/-- ITS FALSE NEIGHBOUR: 'it returns false'. Refute it at one input. -/
def fnExactIsSparseFibWrong : ChangeSpec := { name := "fnExactIsSparseFib", fn := fun _ => fun
  | [d] => { results := [.lit (.bool false)], args := [d] }
  | _ => none }
def FnExactIsSparseFibWrongFalsely : Prop := fnExactIsSparseFibRow.holds Try.pinned (OpenSpec.ofChange fnExactIsSparseFibWrong)

/-- 'laws.FnExactIsDenseFib': WHATEVER THE INPUT: true; the input reads as it did. -/
def fnExactIsDenseFibSpec : ChangeSpec := { name := "fnExactIsDenseFib", fn := fun _ => fun
  | [d] => { results := [.lit (.bool true)], args := [d] }
  | _ => none }
def fnExactIsDenseFibRow : OpenClaim := { program := "ytkimojjhmllnfaa", sum := "c91d5c91b2adff9c0deddf939b429ec477c0b1f1013775c4a1b81a14101f877a", func := "loop.example/g03203/laws.FnExactIsDenseFib", spec := "fnExactIsDenseFib", apart := false }
def FnExactIsDenseFibSaid : Prop := fnExactIsDenseFibRow.holds Try.pinned (OpenSpec.ofChange fnExactIsDenseFibSpec)

/-- ITS FALSE NEIGHBOUR: 'it returns false'. Refute it at one input. -/
def fnExactIsDenseFibWrong : ChangeSpec := { name := "fnExactIsDenseFib", fn := fun _ => fun
  | [d] => { results := [.lit (.bool false)], args := [d] }
  | _ => none }
def FnExactIsDenseFibWrongFalsely : Prop := fnExactIsDenseFibRow.holds Try.pinned (OpenSpec.ofChange fnExactIsDenseFibWrong)

/-- 'laws.FnExactCountFib': WHATEVER THE INPUT: true; the input reads as it did. -/
def fnExactCountFibSpec : ChangeSpec := { name := "fnExactCountFib", fn := fun _ => fun
  | [d] => { results := [.lit (.bool true)], args := [d] }
  | _ => none }
def fnExactCountFibRow : OpenClaim := { program := "ytkimojjhmllnfaa", sum := "c91d5c91b2adff9c0deddf939b429ec477c0b1f1013775c4a1b81a14101f877a", func := "loop.example/g03203/laws.FnExactCountFib", spec := "fnExactCountFib", unfollowed := true, recurses := true, apart := false }
def FnExactCountFibSaid : Prop := fnExactCountFibRow.holds Try.pinned (OpenSpec.ofChange fnExactCountFibSpec)

/-- ITS FALSE NEIGHBOUR: 'it returns false'. Refute it at one input. -/
def fnExactCountFibWrong : ChangeSpec := { name := "fnExactCountFib", fn := fun _ => fun
  | [d] => { results := [.lit (.bool false)], args := [d] }
  | _ => none }
def FnExactCountFibWrongFalsely : Prop := fnExactCountFibRow.holds Try.pinned (OpenSpec.ofChange fnExactCountFibWrong)

/-- 'laws.FnExactShiftFib': WHATEVER THE INPUT: true; the input reads as it did. -/
def fnExactShiftFibSpec : ChangeSpec := { name := "fnExactShiftFib", fn := fun _ => fun
  | [d] => { results := [.lit (.bool true)], args := [d] }
  | _ => none }
def fnExactShiftFibRow : OpenClaim := { program := "ytkimojjhmllnfaa", sum := "c91d5c91b2adff9c0deddf939b429ec477c0b1f1013775c4a1b81a14101f877a", func := "loop.example/g03203/laws.FnExactShiftFib", spec := "fnExactShiftFib", apart := false }
def FnExactShiftFibSaid : Prop := fnExactShiftFibRow.holds Try.pinned (OpenSpec.ofChange fnExactShiftFibSpec)

/-- ITS FALSE NEIGHBOUR: 'it returns false'. Refute it at one input. -/
def fnExactShiftFibWrong : ChangeSpec := { name := "fnExactShiftFib", fn := fun _ => fun
  | [d] => { results := [.lit (.bool false)], args := [d] }
  | _ => none }
def FnExactShiftFibWrongFalsely : Prop := fnExactShiftFibRow.holds Try.pinned (OpenSpec.ofChange fnExactShiftFibWrong)

/-- 'laws.FnExactWythoffPair': WHATEVER THE INPUT: true; the input reads as it did. -/
def fnExactWythoffPairSpec : ChangeSpec := { name := "fnExactWythoffPair", fn := fun _ => fun
  | [d] => { results := [.lit (.bool true)], args := [d] }
  | _ => none }
def fnExactWythoffPairRow : OpenClaim := { program := "ytkimojjhmllnfaa", sum := "c91d5c91b2adff9c0deddf939b429ec477c0b1f1013775c4a1b81a14101f877a", func := "loop.example/g03203/laws.FnExactWythoffPair", spec := "fnExactWythoffPair", apart := false }
def FnExactWythoffPairSaid : Prop := fnExactWythoffPairRow.holds Try.pinned (OpenSpec.ofChange fnExactWythoffPairSpec)

/-- ITS FALSE NEIGHBOUR: 'it returns false'. Refute it at one input. -/
def fnExactWythoffPairWrong : ChangeSpec := { name := "fnExactWythoffPair", fn := fun _ => fun
  | [d] => { results := [.lit (.bool false)], args := [d] }
  | _ => none }
def FnExactWythoffPairWrongFalsely : Prop := fnExactWythoffPairRow.holds Try.pinned (OpenSpec.ofChange fnExactWythoffPairWrong)

/-- 'laws.FnExactFibWord': WHATEVER THE INPUT: true; the input reads as it did. -/
def fnExactFibWordSpec : ChangeSpec := { name := "fnExactFibWord", fn := fun _ => fun
  | [d] => { results := [.lit (.bool true)], args := [d] }
  | _ => none }
def fnExactFibWordRow : OpenClaim := { program := "ytkimojjhmllnfaa", sum := "c91d5c91b2adff9c0deddf939b429ec477c0b1f1013775c4a1b81a14101f877a", func := "loop.example/g03203/laws.FnExactFibWord", spec := "fnExactFibWord", apart := false }
def FnExactFibWordSaid : Prop := fnExactFibWordRow.holds Try.pinned (OpenSpec.ofChange fnExactFibWordSpec)

/-- ITS FALSE NEIGHBOUR: 'it returns false'. Refute it at one input. -/
def fnExactFibWordWrong : ChangeSpec := { name := "fnExactFibWord", fn := fun _ => fun
  | [d] => { results := [.lit (.bool false)], args := [d] }
  | _ => none }
def FnExactFibWordWrongFalsely : Prop := fnExactFibWordRow.holds Try.pinned (OpenSpec.ofChange fnExactFibWordWrong)

/- THE SECOND FORM. 'bulk': how many values and letters a reading holds, each counted each time it is reached (what is shared counts as often as it is met; a slice's spare places count too). A statement '..UptoSaid' is the law's where the arguments, and the package variables that the reading takes, are together of bulk at most 1048576: NARROWER than '..Said'. Prove '..Said' where nothing that the law and all that it calls make is longer than what came in: it says more and counts as full. Else prove '..UptoSaid'. A law counts once. -/
mutual
def uptoBulk {H : Type} : DataW H → Nat
  | .lit (.string bytes) => bytes.length + 1
  | .lit _ => 1
  | .nil => 1
  | .ptr d => uptoBulk d + 1
  | .slice elems spare => uptoBulkAll elems + uptoBulkAll spare + 1
  | .agg parts => uptoBulkAll parts + 1
  | .iface _ d => uptoBulk d + 1
  | .map entries => uptoBulkEntries entries + 1
  | .held _ => 1
def uptoBulkAll {H : Type} : List (DataW H) → Nat
  | [] => 0
  | d :: r => uptoBulk d + uptoBulkAll r
def uptoBulkEntries {H : Type} : List (Lit × DataW H) → Nat
  | [] => 0
  | x :: r => uptoBulkEntry x + uptoBulkEntries r
def uptoBulkEntry {H : Type} : Lit × DataW H → Nat
  | (.string bytes, d) => bytes.length + uptoBulk d + 1
  | (_, d) => uptoBulk d + 1
 end
def uptoSmall : (H : Type) → List (DataW H) → Bool := fun _ ds => decide (uptoBulkAll ds ≤ 1048576)
def OpenSpec.upto (s : _root_.Go.ChangeSpec) : _root_.Go.OpenSpec := { _root_.Go.OpenSpec.ofChange s with cond := some uptoSmall }

/-- 'laws.FnFibonacci', WHERE WHAT IT READS IS OF BULK AT MOST 1048576: true; the input reads as it did. -/
def fnFibonacciUptoRow : OpenClaim := { program := "ytkimojjhmllnfaa", sum := "c91d5c91b2adff9c0deddf939b429ec477c0b1f1013775c4a1b81a14101f877a", func := "loop.example/g03203/laws.FnFibonacci", spec := "fnFibonacci", unfollowed := true, recurses := true, apart := false, narrowed := true }
def FnFibonacciUptoSaid : Prop := fnFibonacciUptoRow.holds Try.pinned (OpenSpec.upto fnFibonacciSpec)

/-- 'laws.FnWythoff', WHERE WHAT IT READS IS OF BULK AT MOST 1048576: true; the input reads as it did. -/
def fnWythoffUptoRow : OpenClaim := { program := "ytkimojjhmllnfaa", sum := "c91d5c91b2adff9c0deddf939b429ec477c0b1f1013775c4a1b81a14101f877a", func := "loop.example/g03203/laws.FnWythoff", spec := "fnWythoff", apart := false, narrowed := true }
def FnWythoffUptoSaid : Prop := fnWythoffUptoRow.holds Try.pinned (OpenSpec.upto fnWythoffSpec)

/-- 'laws.FnExactFibPlace', WHERE WHAT IT READS IS OF BULK AT MOST 1048576: true; the input reads as it did. -/
def fnExactFibPlaceUptoRow : OpenClaim := { program := "ytkimojjhmllnfaa", sum := "c91d5c91b2adff9c0deddf939b429ec477c0b1f1013775c4a1b81a14101f877a", func := "loop.example/g03203/laws.FnExactFibPlace", spec := "fnExactFibPlace", apart := false, narrowed := true }
def FnExactFibPlaceUptoSaid : Prop := fnExactFibPlaceUptoRow.holds Try.pinned (OpenSpec.upto fnExactFibPlaceSpec)

/-- 'laws.FnExactFibOk', WHERE WHAT IT READS IS OF BULK AT MOST 1048576: true; the input reads as it did. -/
def fnExactFibOkUptoRow : OpenClaim := { program := "ytkimojjhmllnfaa", sum := "c91d5c91b2adff9c0deddf939b429ec477c0b1f1013775c4a1b81a14101f877a", func := "loop.example/g03203/laws.FnExactFibOk", spec := "fnExactFibOk", apart := false, narrowed := true }
def FnExactFibOkUptoSaid : Prop := fnExactFibOkUptoRow.holds Try.pinned (OpenSpec.upto fnExactFibOkSpec)

/-- 'laws.FnExactFibValue', WHERE WHAT IT READS IS OF BULK AT MOST 1048576: true; the input reads as it did. -/
def fnExactFibValueUptoRow : OpenClaim := { program := "ytkimojjhmllnfaa", sum := "c91d5c91b2adff9c0deddf939b429ec477c0b1f1013775c4a1b81a14101f877a", func := "loop.example/g03203/laws.FnExactFibValue", spec := "fnExactFibValue", apart := false, narrowed := true }
def FnExactFibValueUptoSaid : Prop := fnExactFibValueUptoRow.holds Try.pinned (OpenSpec.upto fnExactFibValueSpec)

/-- 'laws.FnExactSparseFib', WHERE WHAT IT READS IS OF BULK AT MOST 1048576: true; the input reads as it did. -/
def fnExactSparseFibUptoRow : OpenClaim := { program := "ytkimojjhmllnfaa", sum := "c91d5c91b2adff9c0deddf939b429ec477c0b1f1013775c4a1b81a14101f877a", func := "loop.example/g03203/laws.FnExactSparseFib", spec := "fnExactSparseFib", apart := false, narrowed := true }
def FnExactSparseFibUptoSaid : Prop := fnExactSparseFibUptoRow.holds Try.pinned (OpenSpec.upto fnExactSparseFibSpec)

/-- 'laws.FnExactDenseFib', WHERE WHAT IT READS IS OF BULK AT MOST 1048576: true; the input reads as it did. -/
def fnExactDenseFibUptoRow : OpenClaim := { program := "ytkimojjhmllnfaa", sum := "c91d5c91b2adff9c0deddf939b429ec477c0b1f1013775c4a1b81a14101f877a", func := "loop.example/g03203/laws.FnExactDenseFib", spec := "fnExactDenseFib", apart := false, narrowed := true }
def FnExactDenseFibUptoSaid : Prop := fnExactDenseFibUptoRow.holds Try.pinned (OpenSpec.upto fnExactDenseFibSpec)

/-- 'laws.FnExactIsSparseFib', WHERE WHAT IT READS IS OF BULK AT MOST 1048576: true; the input reads as it did. -/
def fnExactIsSparseFibUptoRow : OpenClaim := { program := "ytkimojjhmllnfaa", sum := "c91d5c91b2adff9c0deddf939b429ec477c0b1f1013775c4a1b81a14101f877a", func := "loop.example/g03203/laws.FnExactIsSparseFib", spec := "fnExactIsSparseFib", apart := false, narrowed := true }
def FnExactIsSparseFibUptoSaid : Prop := fnExactIsSparseFibUptoRow.holds Try.pinned (OpenSpec.upto fnExactIsSparseFibSpec)

/-- 'laws.FnExactIsDenseFib', WHERE WHAT IT READS IS OF BULK AT MOST 1048576: true; the input reads as it did. -/
def fnExactIsDenseFibUptoRow : OpenClaim := { program := "ytkimojjhmllnfaa", sum := "c91d5c91b2adff9c0deddf939b429ec477c0b1f1013775c4a1b81a14101f877a", func := "loop.example/g03203/laws.FnExactIsDenseFib", spec := "fnExactIsDenseFib", apart := false, narrowed := true }
def FnExactIsDenseFibUptoSaid : Prop := fnExactIsDenseFibUptoRow.holds Try.pinned (OpenSpec.upto fnExactIsDenseFibSpec)

/-- 'laws.FnExactCountFib', WHERE WHAT IT READS IS OF BULK AT MOST 1048576: true; the input reads as it did. -/
def fnExactCountFibUptoRow : OpenClaim := { program := "ytkimojjhmllnfaa", sum := "c91d5c91b2adff9c0deddf939b429ec477c0b1f1013775c4a1b81a14101f877a", func := "loop.example/g03203/laws.FnExactCountFib", spec := "fnExactCountFib", unfollowed := true, recurses := true, apart := false, narrowed := true }
def FnExactCountFibUptoSaid : Prop := fnExactCountFibUptoRow.holds Try.pinned (OpenSpec.upto fnExactCountFibSpec)

/-- 'laws.FnExactShiftFib', WHERE WHAT IT READS IS OF BULK AT MOST 1048576: true; the input reads as it did. -/
def fnExactShiftFibUptoRow : OpenClaim := { program := "ytkimojjhmllnfaa", sum := "c91d5c91b2adff9c0deddf939b429ec477c0b1f1013775c4a1b81a14101f877a", func := "loop.example/g03203/laws.FnExactShiftFib", spec := "fnExactShiftFib", apart := false, narrowed := true }
def FnExactShiftFibUptoSaid : Prop := fnExactShiftFibUptoRow.holds Try.pinned (OpenSpec.upto fnExactShiftFibSpec)

/-- 'laws.FnExactWythoffPair', WHERE WHAT IT READS IS OF BULK AT MOST 1048576: true; the input reads as it did. -/
def fnExactWythoffPairUptoRow : OpenClaim := { program := "ytkimojjhmllnfaa", sum := "c91d5c91b2adff9c0deddf939b429ec477c0b1f1013775c4a1b81a14101f877a", func := "loop.example/g03203/laws.FnExactWythoffPair", spec := "fnExactWythoffPair", apart := false, narrowed := true }
def FnExactWythoffPairUptoSaid : Prop := fnExactWythoffPairUptoRow.holds Try.pinned (OpenSpec.upto fnExactWythoffPairSpec)

/-- 'laws.FnExactFibWord', WHERE WHAT IT READS IS OF BULK AT MOST 1048576: true; the input reads as it did. -/
def fnExactFibWordUptoRow : OpenClaim := { program := "ytkimojjhmllnfaa", sum := "c91d5c91b2adff9c0deddf939b429ec477c0b1f1013775c4a1b81a14101f877a", func := "loop.example/g03203/laws.FnExactFibWord", spec := "fnExactFibWord", apart := false, narrowed := true }
def FnExactFibWordUptoSaid : Prop := fnExactFibWordUptoRow.holds Try.pinned (OpenSpec.upto fnExactFibWordSpec)

end Rows
end Go.Proofs.Ytkimojjhmllnfaa
