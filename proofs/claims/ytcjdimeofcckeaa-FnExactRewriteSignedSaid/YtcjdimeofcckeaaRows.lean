/-
  No cell of these rows narrows 'for every input' (looked for: loops, veiled, ifaces, maps, wideKeys, modest, calm, conditions, laid).
  DERIVED. THE GIVEN ROWS OF THIS SEAT. 10 by the template 'for every input the law returns true; each argument reads behind the call as it read before'; 0 by the template 'total and deterministic' (their statements: YtcjdimeofcckeaaTotals.lean).
  GIVEN WITH THE SEED: the statements are not yours to turn. If you find one false, say at which input.
  Laid BY PROGRAM, IN A SANDBOX (cutbox-rows.mjs): the forced cells as the released guide's own fill.sh prints them over the translation 74169702712dfba4… (all of the seat's roots in one cut). By AI agents, Wed Nov 11 2026. No macro, syntax, notation, axiom, sorry.
-/
import Derived.Test.YtcjdimeofcckeaaChecked
import GoSem.Claim
import GoSem.ClaimJoined
import GoSem.ClaimMapViews
import Derived.JoinedTies
import Derived.KernelRfl
namespace Go.Proofs.Ytcjdimeofcckeaa
/- THE CELL 'sum', in the pinned program and in every row, IS THE sha256 OF THE DUMP (.gsa) THAT YtcjdimeofcckeaaProg.lean LOADS. Nothing in Lean hashes anything: it is a label: what it is worth is what the hold of that sum in a sandbox is worth. -/
noncomputable def Try.pinned : Pinned := { name := "ytcjdimeofcckeaa", sum := "74169702712dfba421755063a7f68408a2c6f82a7ca37ae6f766ce73167ce700", checked := Try.checked }
namespace Rows
def none {H : Type} : Left H := { results := [], args := [] }

/-- 'laws.FnSigned': WHATEVER THE INPUT: true; the input reads as it did. -/
def fnSignedSpec : ChangeSpec := { name := "fnSigned", fn := fun _ => fun
  | [d] => { results := [.lit (.bool true)], args := [d] }
  | _ => none }
def fnSignedRow : OpenClaim := { program := "ytcjdimeofcckeaa", sum := "74169702712dfba421755063a7f68408a2c6f82a7ca37ae6f766ce73167ce700", func := "loop.example/g03203/laws.FnSigned", spec := "fnSigned", unfollowed := true, recurses := true, plainKeys := false, apart := false }
def FnSignedSaid : Prop := fnSignedRow.holds Try.pinned (OpenSpec.ofChange fnSignedSpec)

/-- ITS FALSE NEIGHBOUR: 'it returns false'. Refute it at one input. -/
def fnSignedWrong : ChangeSpec := { name := "fnSigned", fn := fun _ => fun
  | [d] => { results := [.lit (.bool false)], args := [d] }
  | _ => none }
def FnSignedWrongFalsely : Prop := fnSignedRow.holds Try.pinned (OpenSpec.ofChange fnSignedWrong)

/-- 'laws.FnExactSignedOk': WHATEVER THE INPUT: true; the input reads as it did. -/
def fnExactSignedOkSpec : ChangeSpec := { name := "fnExactSignedOk", fn := fun _ => fun
  | [d] => { results := [.lit (.bool true)], args := [d] }
  | _ => none }
def fnExactSignedOkRow : OpenClaim := { program := "ytcjdimeofcckeaa", sum := "74169702712dfba421755063a7f68408a2c6f82a7ca37ae6f766ce73167ce700", func := "loop.example/g03203/laws.FnExactSignedOk", spec := "fnExactSignedOk", plainKeys := false, apart := false }
def FnExactSignedOkSaid : Prop := fnExactSignedOkRow.holds Try.pinned (OpenSpec.ofChange fnExactSignedOkSpec)

/-- ITS FALSE NEIGHBOUR: 'it returns false'. Refute it at one input. -/
def fnExactSignedOkWrong : ChangeSpec := { name := "fnExactSignedOk", fn := fun _ => fun
  | [d] => { results := [.lit (.bool false)], args := [d] }
  | _ => none }
def FnExactSignedOkWrongFalsely : Prop := fnExactSignedOkRow.holds Try.pinned (OpenSpec.ofChange fnExactSignedOkWrong)

/-- 'laws.FnExactSignedValue': WHATEVER THE INPUT: true; the input reads as it did. -/
def fnExactSignedValueSpec : ChangeSpec := { name := "fnExactSignedValue", fn := fun _ => fun
  | [d] => { results := [.lit (.bool true)], args := [d] }
  | _ => none }
def fnExactSignedValueRow : OpenClaim := { program := "ytcjdimeofcckeaa", sum := "74169702712dfba421755063a7f68408a2c6f82a7ca37ae6f766ce73167ce700", func := "loop.example/g03203/laws.FnExactSignedValue", spec := "fnExactSignedValue", unfollowed := true, recurses := true, plainKeys := false, apart := false }
def FnExactSignedValueSaid : Prop := fnExactSignedValueRow.holds Try.pinned (OpenSpec.ofChange fnExactSignedValueSpec)

/-- ITS FALSE NEIGHBOUR: 'it returns false'. Refute it at one input. -/
def fnExactSignedValueWrong : ChangeSpec := { name := "fnExactSignedValue", fn := fun _ => fun
  | [d] => { results := [.lit (.bool false)], args := [d] }
  | _ => none }
def FnExactSignedValueWrongFalsely : Prop := fnExactSignedValueRow.holds Try.pinned (OpenSpec.ofChange fnExactSignedValueWrong)

/-- 'laws.FnExactSparseDigits': WHATEVER THE INPUT: true; the input reads as it did. -/
def fnExactSparseDigitsSpec : ChangeSpec := { name := "fnExactSparseDigits", fn := fun _ => fun
  | [d] => { results := [.lit (.bool true)], args := [d] }
  | _ => none }
def fnExactSparseDigitsRow : OpenClaim := { program := "ytcjdimeofcckeaa", sum := "74169702712dfba421755063a7f68408a2c6f82a7ca37ae6f766ce73167ce700", func := "loop.example/g03203/laws.FnExactSparseDigits", spec := "fnExactSparseDigits", plainKeys := false, apart := false }
def FnExactSparseDigitsSaid : Prop := fnExactSparseDigitsRow.holds Try.pinned (OpenSpec.ofChange fnExactSparseDigitsSpec)

/-- ITS FALSE NEIGHBOUR: 'it returns false'. Refute it at one input. -/
def fnExactSparseDigitsWrong : ChangeSpec := { name := "fnExactSparseDigits", fn := fun _ => fun
  | [d] => { results := [.lit (.bool false)], args := [d] }
  | _ => none }
def FnExactSparseDigitsWrongFalsely : Prop := fnExactSparseDigitsRow.holds Try.pinned (OpenSpec.ofChange fnExactSparseDigitsWrong)

/-- 'laws.FnExactIsSparse': WHATEVER THE INPUT: true; the input reads as it did. -/
def fnExactIsSparseSpec : ChangeSpec := { name := "fnExactIsSparse", fn := fun _ => fun
  | [d] => { results := [.lit (.bool true)], args := [d] }
  | _ => none }
def fnExactIsSparseRow : OpenClaim := { program := "ytcjdimeofcckeaa", sum := "74169702712dfba421755063a7f68408a2c6f82a7ca37ae6f766ce73167ce700", func := "loop.example/g03203/laws.FnExactIsSparse", spec := "fnExactIsSparse", plainKeys := false, apart := false }
def FnExactIsSparseSaid : Prop := fnExactIsSparseRow.holds Try.pinned (OpenSpec.ofChange fnExactIsSparseSpec)

/-- ITS FALSE NEIGHBOUR: 'it returns false'. Refute it at one input. -/
def fnExactIsSparseWrong : ChangeSpec := { name := "fnExactIsSparse", fn := fun _ => fun
  | [d] => { results := [.lit (.bool false)], args := [d] }
  | _ => none }
def FnExactIsSparseWrongFalsely : Prop := fnExactIsSparseRow.holds Try.pinned (OpenSpec.ofChange fnExactIsSparseWrong)

/-- 'laws.FnExactWeightOf': WHATEVER THE INPUT: true; the input reads as it did. -/
def fnExactWeightOfSpec : ChangeSpec := { name := "fnExactWeightOf", fn := fun _ => fun
  | [d] => { results := [.lit (.bool true)], args := [d] }
  | _ => none }
def fnExactWeightOfRow : OpenClaim := { program := "ytcjdimeofcckeaa", sum := "74169702712dfba421755063a7f68408a2c6f82a7ca37ae6f766ce73167ce700", func := "loop.example/g03203/laws.FnExactWeightOf", spec := "fnExactWeightOf", plainKeys := false, apart := false }
def FnExactWeightOfSaid : Prop := fnExactWeightOfRow.holds Try.pinned (OpenSpec.ofChange fnExactWeightOfSpec)

/-- ITS FALSE NEIGHBOUR: 'it returns false'. Refute it at one input. -/
def fnExactWeightOfWrong : ChangeSpec := { name := "fnExactWeightOf", fn := fun _ => fun
  | [d] => { results := [.lit (.bool false)], args := [d] }
  | _ => none }
def FnExactWeightOfWrongFalsely : Prop := fnExactWeightOfRow.holds Try.pinned (OpenSpec.ofChange fnExactWeightOfWrong)

/-- 'laws.FnExactCountSigned': WHATEVER THE INPUT: true; the input reads as it did. -/
def fnExactCountSignedSpec : ChangeSpec := { name := "fnExactCountSigned", fn := fun _ => fun
  | [d1, d2, d3] => { results := [.lit (.bool true)], args := [d1, d2, d3] }
  | _ => none }
def fnExactCountSignedRow : OpenClaim := { program := "ytcjdimeofcckeaa", sum := "74169702712dfba421755063a7f68408a2c6f82a7ca37ae6f766ce73167ce700", func := "loop.example/g03203/laws.FnExactCountSigned", spec := "fnExactCountSigned", recurses := true, plainKeys := false, apart := false }
def FnExactCountSignedSaid : Prop := fnExactCountSignedRow.holds Try.pinned (OpenSpec.ofChange fnExactCountSignedSpec)

/-- ITS FALSE NEIGHBOUR: 'it returns false'. Refute it at one input. -/
def fnExactCountSignedWrong : ChangeSpec := { name := "fnExactCountSigned", fn := fun _ => fun
  | [d1, d2, d3] => { results := [.lit (.bool false)], args := [d1, d2, d3] }
  | _ => none }
def FnExactCountSignedWrongFalsely : Prop := fnExactCountSignedRow.holds Try.pinned (OpenSpec.ofChange fnExactCountSignedWrong)

/-- 'laws.FnExactLeastWeight': WHATEVER THE INPUT: true; the input reads as it did. -/
def fnExactLeastWeightSpec : ChangeSpec := { name := "fnExactLeastWeight", fn := fun _ => fun
  | [d] => { results := [.lit (.bool true)], args := [d] }
  | _ => none }
def fnExactLeastWeightRow : OpenClaim := { program := "ytcjdimeofcckeaa", sum := "74169702712dfba421755063a7f68408a2c6f82a7ca37ae6f766ce73167ce700", func := "loop.example/g03203/laws.FnExactLeastWeight", spec := "fnExactLeastWeight", plainKeys := false, apart := false }
def FnExactLeastWeightSaid : Prop := fnExactLeastWeightRow.holds Try.pinned (OpenSpec.ofChange fnExactLeastWeightSpec)

/-- ITS FALSE NEIGHBOUR: 'it returns false'. Refute it at one input. -/
def fnExactLeastWeightWrong : ChangeSpec := { name := "fnExactLeastWeight", fn := fun _ => fun
  | [d] => { results := [.lit (.bool false)], args := [d] }
  | _ => none }
def FnExactLeastWeightWrongFalsely : Prop := fnExactLeastWeightRow.holds Try.pinned (OpenSpec.ofChange fnExactLeastWeightWrong)

/-- 'laws.FnExactStepsOf': WHATEVER THE INPUT: true; the input reads as it did. -/
def fnExactStepsOfSpec : ChangeSpec := { name := "fnExactStepsOf", fn := fun _ => fun
  | [d] => { results := [.lit (.bool true)], args := [d] }
  | _ => none }
def fnExactStepsOfRow : OpenClaim := { program := "ytcjdimeofcckeaa", sum := "74169702712dfba421755063a7f68408a2c6f82a7ca37ae6f766ce73167ce700", func := "loop.example/g03203/laws.FnExactStepsOf", spec := "fnExactStepsOf", plainKeys := false, apart := false }
def FnExactStepsOfSaid : Prop := fnExactStepsOfRow.holds Try.pinned (OpenSpec.ofChange fnExactStepsOfSpec)

/-- ITS FALSE NEIGHBOUR: 'it returns false'. Refute it at one input. -/
def fnExactStepsOfWrong : ChangeSpec := { name := "fnExactStepsOf", fn := fun _ => fun
  | [d] => { results := [.lit (.bool false)], args := [d] }
  | _ => none }
def FnExactStepsOfWrongFalsely : Prop := fnExactStepsOfRow.holds Try.pinned (OpenSpec.ofChange fnExactStepsOfWrong)

/-- 'laws.FnExactRewriteSigned': WHATEVER THE INPUT: true; the input reads as it did. -/
def fnExactRewriteSignedSpec : ChangeSpec := { name := "fnExactRewriteSigned", fn := fun _ => fun
  | [d] => { results := [.lit (.bool true)], args := [d] }
  | _ => none }
def fnExactRewriteSignedRow : OpenClaim := { program := "ytcjdimeofcckeaa", sum := "74169702712dfba421755063a7f68408a2c6f82a7ca37ae6f766ce73167ce700", func := "loop.example/g03203/laws.FnExactRewriteSigned", spec := "fnExactRewriteSigned", plainKeys := false, apart := false }
def FnExactRewriteSignedSaid : Prop := fnExactRewriteSignedRow.holds Try.pinned (OpenSpec.ofChange fnExactRewriteSignedSpec)

/-- ITS FALSE NEIGHBOUR: 'it returns false'. Refute it at one input. -/
def fnExactRewriteSignedWrong : ChangeSpec := { name := "fnExactRewriteSigned", fn := fun _ => fun
  | [d] => { results := [.lit (.bool false)], args := [d] }
  | _ => none }
def FnExactRewriteSignedWrongFalsely : Prop := fnExactRewriteSignedRow.holds Try.pinned (OpenSpec.ofChange fnExactRewriteSignedWrong)

/- THE SECOND FORM. 'bulk': how many values and letters a reading holds, each counted each time it is reached (what is shared counts as often as it is met; a slice's spare places count too). A statement '..UptoSaid' is the law's where the arguments, and the package variables that the reading takes, are together of bulk at most 1048576: NARROWER than '..Said'. Prove '..Said' where nothing that the law and all that it calls make is longer than what came in: it says more and counts as full. Else prove '..UptoSaid'. A law counts once. -/
mutual
def uptoBulk {H : Type} : DataW H → Nat
  | .lit (.string bytes) => bytes.length + 1
  | .lit _ => 1
  | .nil => 1
  | .ptr d => uptoBulk d + 1
  | .slice elems spare => uptoBulkAll elems + uptoBulkAll spare + 1
  | .agg parts => uptoBulkAll parts + 1
  | .iface _ d => uptoBulk d + 1
  | .map entries => uptoBulkEntries entries + 1
  | .held _ => 1
def uptoBulkAll {H : Type} : List (DataW H) → Nat
  | [] => 0
  | d :: r => uptoBulk d + uptoBulkAll r
def uptoBulkEntries {H : Type} : List (Lit × DataW H) → Nat
  | [] => 0
  | x :: r => uptoBulkEntry x + uptoBulkEntries r
def uptoBulkEntry {H : Type} : Lit × DataW H → Nat
  | (.string bytes, d) => bytes.length + uptoBulk d + 1
  | (_, d) => uptoBulk d + 1
 end
def uptoSmall : (H : Type) → List (DataW H) → Bool := fun _ ds => decide (uptoBulkAll ds ≤ 1048576)
def OpenSpec.upto (s : _root_.Go.ChangeSpec) : _root_.Go.OpenSpec := { _root_.Go.OpenSpec.ofChange s with cond := some uptoSmall }

/-- 'laws.FnSigned', WHERE WHAT IT READS IS OF BULK AT MOST 1048576: true; the input reads as it did. -/
def fnSignedUptoRow : OpenClaim := { program := "ytcjdimeofcckeaa", sum := "74169702712dfba421755063a7f68408a2c6f82a7ca37ae6f766ce73167ce700", func := "loop.example/g03203/laws.FnSigned", spec := "fnSigned", unfollowed := true, recurses := true, plainKeys := false, apart := false, narrowed := true }
def FnSignedUptoSaid : Prop := fnSignedUptoRow.holds Try.pinned (OpenSpec.upto fnSignedSpec)

/-- 'laws.FnExactSignedOk', WHERE WHAT IT READS IS OF BULK AT MOST 1048576: true; the input reads as it did. -/
def fnExactSignedOkUptoRow : OpenClaim := { program := "ytcjdimeofcckeaa", sum := "74169702712dfba421755063a7f68408a2c6f82a7ca37ae6f766ce73167ce700", func := "loop.example/g03203/laws.FnExactSignedOk", spec := "fnExactSignedOk", plainKeys := false, apart := false, narrowed := true }
def FnExactSignedOkUptoSaid : Prop := fnExactSignedOkUptoRow.holds Try.pinned (OpenSpec.upto fnExactSignedOkSpec)

/-- 'laws.FnExactSignedValue', WHERE WHAT IT READS IS OF BULK AT MOST 1048576: true; the input reads as it did. -/
def fnExactSignedValueUptoRow : OpenClaim := { program := "ytcjdimeofcckeaa", sum := "74169702712dfba421755063a7f68408a2c6f82a7ca37ae6f766ce73167ce700", func := "loop.example/g03203/laws.FnExactSignedValue", spec := "fnExactSignedValue", unfollowed := true, recurses := true, plainKeys := false, apart := false, narrowed := true }
def FnExactSignedValueUptoSaid : Prop := fnExactSignedValueUptoRow.holds Try.pinned (OpenSpec.upto fnExactSignedValueSpec)

/-- 'laws.FnExactSparseDigits', WHERE WHAT IT READS IS OF BULK AT MOST 1048576: true; the input reads as it did. -/
def fnExactSparseDigitsUptoRow : OpenClaim := { program := "ytcjdimeofcckeaa", sum := "74169702712dfba421755063a7f68408a2c6f82a7ca37ae6f766ce73167ce700", func := "loop.example/g03203/laws.FnExactSparseDigits", spec := "fnExactSparseDigits", plainKeys := false, apart := false, narrowed := true }
def FnExactSparseDigitsUptoSaid : Prop := fnExactSparseDigitsUptoRow.holds Try.pinned (OpenSpec.upto fnExactSparseDigitsSpec)

/-- 'laws.FnExactIsSparse', WHERE WHAT IT READS IS OF BULK AT MOST 1048576: true; the input reads as it did. -/
def fnExactIsSparseUptoRow : OpenClaim := { program := "ytcjdimeofcckeaa", sum := "74169702712dfba421755063a7f68408a2c6f82a7ca37ae6f766ce73167ce700", func := "loop.example/g03203/laws.FnExactIsSparse", spec := "fnExactIsSparse", plainKeys := false, apart := false, narrowed := true }
def FnExactIsSparseUptoSaid : Prop := fnExactIsSparseUptoRow.holds Try.pinned (OpenSpec.upto fnExactIsSparseSpec)

/-- 'laws.FnExactWeightOf', WHERE WHAT IT READS IS OF BULK AT MOST 1048576: true; the input reads as it did. -/
def fnExactWeightOfUptoRow : OpenClaim := { program := "ytcjdimeofcckeaa", sum := "74169702712dfba421755063a7f68408a2c6f82a7ca37ae6f766ce73167ce700", func := "loop.example/g03203/laws.FnExactWeightOf", spec := "fnExactWeightOf", plainKeys := false, apart := false, narrowed := true }
def FnExactWeightOfUptoSaid : Prop := fnExactWeightOfUptoRow.holds Try.pinned (OpenSpec.upto fnExactWeightOfSpec)

/-- 'laws.FnExactCountSigned', WHERE WHAT IT READS IS OF BULK AT MOST 1048576: true; the input reads as it did. -/
def fnExactCountSignedUptoRow : OpenClaim := { program := "ytcjdimeofcckeaa", sum := "74169702712dfba421755063a7f68408a2c6f82a7ca37ae6f766ce73167ce700", func := "loop.example/g03203/laws.FnExactCountSigned", spec := "fnExactCountSigned", recurses := true, plainKeys := false, apart := false, narrowed := true }
def FnExactCountSignedUptoSaid : Prop := fnExactCountSignedUptoRow.holds Try.pinned (OpenSpec.upto fnExactCountSignedSpec)

/-- 'laws.FnExactLeastWeight', WHERE WHAT IT READS IS OF BULK AT MOST 1048576: true; the input reads as it did. -/
def fnExactLeastWeightUptoRow : OpenClaim := { program := "ytcjdimeofcckeaa", sum := "74169702712dfba421755063a7f68408a2c6f82a7ca37ae6f766ce73167ce700", func := "loop.example/g03203/laws.FnExactLeastWeight", spec := "fnExactLeastWeight", plainKeys := false, apart := false, narrowed := true }
def FnExactLeastWeightUptoSaid : Prop := fnExactLeastWeightUptoRow.holds Try.pinned (OpenSpec.upto fnExactLeastWeightSpec)

/-- 'laws.FnExactStepsOf', WHERE WHAT IT READS IS OF BULK AT MOST 1048576: true; the input reads as it did. -/
def fnExactStepsOfUptoRow : OpenClaim := { program := "ytcjdimeofcckeaa", sum := "74169702712dfba421755063a7f68408a2c6f82a7ca37ae6f766ce73167ce700", func := "loop.example/g03203/laws.FnExactStepsOf", spec := "fnExactStepsOf", plainKeys := false, apart := false, narrowed := true }
def FnExactStepsOfUptoSaid : Prop := fnExactStepsOfUptoRow.holds Try.pinned (OpenSpec.upto fnExactStepsOfSpec)

/-- 'laws.FnExactRewriteSigned', WHERE WHAT IT READS IS OF BULK AT MOST 1048576: true; the input reads as it did. -/
def fnExactRewriteSignedUptoRow : OpenClaim := { program := "ytcjdimeofcckeaa", sum := "74169702712dfba421755063a7f68408a2c6f82a7ca37ae6f766ce73167ce700", func := "loop.example/g03203/laws.FnExactRewriteSigned", spec := "fnExactRewriteSigned", plainKeys := false, apart := false, narrowed := true }
def FnExactRewriteSignedUptoSaid : Prop := fnExactRewriteSignedUptoRow.holds Try.pinned (OpenSpec.upto fnExactRewriteSignedSpec)

end Rows
end Go.Proofs.Ytcjdimeofcckeaa
