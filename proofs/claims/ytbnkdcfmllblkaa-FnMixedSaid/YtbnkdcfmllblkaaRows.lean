/-
  No cell of these rows narrows 'for every input' (looked for: loops, veiled, ifaces, maps, wideKeys, modest, calm, conditions, laid).
  DERIVED. THE GIVEN ROWS OF THIS SEAT. 10 by the template 'for every input the law returns true; each argument reads behind the call as it read before'; 0 by the template 'total and deterministic' (their statements: YtbnkdcfmllblkaaTotals.lean).
  GIVEN WITH THE SEED: the statements are not yours to turn. If you find one false, say at which input.
  Laid BY PROGRAM, IN A SANDBOX (cutbox-rows.mjs): the forced cells as the released guide's own fill.sh prints them over the translation 5a6725faca2be937… (all of the seat's roots in one cut). By AI agents, Wed Nov 11 2026. No macro, syntax, notation, axiom, sorry.
-/
import Derived.Test.YtbnkdcfmllblkaaChecked
import GoSem.Claim
import GoSem.ClaimJoined
import GoSem.ClaimMapViews
import Derived.JoinedTies
import Derived.KernelRfl
namespace Go.Proofs.Ytbnkdcfmllblkaa
/- THE CELL 'sum', in the pinned program and in every row, IS THE sha256 OF THE DUMP (.gsa) THAT YtbnkdcfmllblkaaProg.lean LOADS. Nothing in Lean hashes anything: it is a label: what it is worth is what the hold of that sum in a sandbox is worth. -/
noncomputable def Try.pinned : Pinned := { name := "ytbnkdcfmllblkaa", sum := "5a6725faca2be9376017c4dc4f33be40993495a3749d66cf4e645b257321dbe1", checked := Try.checked }
namespace Rows
def none {H : Type} : Left H := { results := [], args := [] }

/-- 'laws.FnMixed': WHATEVER THE INPUT: true; the input reads as it did. -/
def fnMixedSpec : ChangeSpec := { name := "fnMixed", fn := fun _ => fun
  | [d] => { results := [.lit (.bool true)], args := [d] }
  | _ => none }
def fnMixedRow : OpenClaim := { program := "ytbnkdcfmllblkaa", sum := "5a6725faca2be9376017c4dc4f33be40993495a3749d66cf4e645b257321dbe1", func := "loop.example/g03203/laws.FnMixed", spec := "fnMixed", apart := false }
def FnMixedSaid : Prop := fnMixedRow.holds Try.pinned (OpenSpec.ofChange fnMixedSpec)

/-- ITS FALSE NEIGHBOUR: 'it returns false'. Refute it at one input. -/
def fnMixedWrong : ChangeSpec := { name := "fnMixed", fn := fun _ => fun
  | [d] => { results := [.lit (.bool false)], args := [d] }
  | _ => none }
def FnMixedWrongFalsely : Prop := fnMixedRow.holds Try.pinned (OpenSpec.ofChange fnMixedWrong)

/-- 'laws.FnExactRadicesOk': WHATEVER THE INPUT: true; the input reads as it did. -/
def fnExactRadicesOkSpec : ChangeSpec := { name := "fnExactRadicesOk", fn := fun _ => fun
  | [d] => { results := [.lit (.bool true)], args := [d] }
  | _ => none }
def fnExactRadicesOkRow : OpenClaim := { program := "ytbnkdcfmllblkaa", sum := "5a6725faca2be9376017c4dc4f33be40993495a3749d66cf4e645b257321dbe1", func := "loop.example/g03203/laws.FnExactRadicesOk", spec := "fnExactRadicesOk", apart := false }
def FnExactRadicesOkSaid : Prop := fnExactRadicesOkRow.holds Try.pinned (OpenSpec.ofChange fnExactRadicesOkSpec)

/-- ITS FALSE NEIGHBOUR: 'it returns false'. Refute it at one input. -/
def fnExactRadicesOkWrong : ChangeSpec := { name := "fnExactRadicesOk", fn := fun _ => fun
  | [d] => { results := [.lit (.bool false)], args := [d] }
  | _ => none }
def FnExactRadicesOkWrongFalsely : Prop := fnExactRadicesOkRow.holds Try.pinned (OpenSpec.ofChange fnExactRadicesOkWrong)

/-- 'laws.FnExactRangeOf': WHATEVER THE INPUT: true; the input reads as it did. -/
def fnExactRangeOfSpec : ChangeSpec := { name := "fnExactRangeOf", fn := fun _ => fun
  | [d] => { results := [.lit (.bool true)], args := [d] }
  | _ => none }
def fnExactRangeOfRow : OpenClaim := { program := "ytbnkdcfmllblkaa", sum := "5a6725faca2be9376017c4dc4f33be40993495a3749d66cf4e645b257321dbe1", func := "loop.example/g03203/laws.FnExactRangeOf", spec := "fnExactRangeOf", apart := false }
def FnExactRangeOfSaid : Prop := fnExactRangeOfRow.holds Try.pinned (OpenSpec.ofChange fnExactRangeOfSpec)

/-- ITS FALSE NEIGHBOUR: 'it returns false'. Refute it at one input. -/
def fnExactRangeOfWrong : ChangeSpec := { name := "fnExactRangeOf", fn := fun _ => fun
  | [d] => { results := [.lit (.bool false)], args := [d] }
  | _ => none }
def FnExactRangeOfWrongFalsely : Prop := fnExactRangeOfRow.holds Try.pinned (OpenSpec.ofChange fnExactRangeOfWrong)

/-- 'laws.FnExactPlacesOf': WHATEVER THE INPUT: true; the input reads as it did. -/
def fnExactPlacesOfSpec : ChangeSpec := { name := "fnExactPlacesOf", fn := fun _ => fun
  | [d] => { results := [.lit (.bool true)], args := [d] }
  | _ => none }
def fnExactPlacesOfRow : OpenClaim := { program := "ytbnkdcfmllblkaa", sum := "5a6725faca2be9376017c4dc4f33be40993495a3749d66cf4e645b257321dbe1", func := "loop.example/g03203/laws.FnExactPlacesOf", spec := "fnExactPlacesOf", apart := false }
def FnExactPlacesOfSaid : Prop := fnExactPlacesOfRow.holds Try.pinned (OpenSpec.ofChange fnExactPlacesOfSpec)

/-- ITS FALSE NEIGHBOUR: 'it returns false'. Refute it at one input. -/
def fnExactPlacesOfWrong : ChangeSpec := { name := "fnExactPlacesOf", fn := fun _ => fun
  | [d] => { results := [.lit (.bool false)], args := [d] }
  | _ => none }
def FnExactPlacesOfWrongFalsely : Prop := fnExactPlacesOfRow.holds Try.pinned (OpenSpec.ofChange fnExactPlacesOfWrong)

/-- 'laws.FnExactMixedDigits': WHATEVER THE INPUT: true; the input reads as it did. -/
def fnExactMixedDigitsSpec : ChangeSpec := { name := "fnExactMixedDigits", fn := fun _ => fun
  | [d1, d2] => { results := [.lit (.bool true)], args := [d1, d2] }
  | _ => none }
def fnExactMixedDigitsRow : OpenClaim := { program := "ytbnkdcfmllblkaa", sum := "5a6725faca2be9376017c4dc4f33be40993495a3749d66cf4e645b257321dbe1", func := "loop.example/g03203/laws.FnExactMixedDigits", spec := "fnExactMixedDigits", apart := false }
def FnExactMixedDigitsSaid : Prop := fnExactMixedDigitsRow.holds Try.pinned (OpenSpec.ofChange fnExactMixedDigitsSpec)

/-- ITS FALSE NEIGHBOUR: 'it returns false'. Refute it at one input. -/
def fnExactMixedDigitsWrong : ChangeSpec := { name := "fnExactMixedDigits", fn := fun _ => fun
  | [d1, d2] => { results := [.lit (.bool false)], args := [d1, d2] }
  | _ => none }
def FnExactMixedDigitsWrongFalsely : Prop := fnExactMixedDigitsRow.holds Try.pinned (OpenSpec.ofChange fnExactMixedDigitsWrong)

/-- 'laws.FnExactMixedOk': WHATEVER THE INPUT: true; the input reads as it did. -/
def fnExactMixedOkSpec : ChangeSpec := { name := "fnExactMixedOk", fn := fun _ => fun
  | [d1, d2] => { results := [.lit (.bool true)], args := [d1, d2] }
  | _ => none }
def fnExactMixedOkRow : OpenClaim := { program := "ytbnkdcfmllblkaa", sum := "5a6725faca2be9376017c4dc4f33be40993495a3749d66cf4e645b257321dbe1", func := "loop.example/g03203/laws.FnExactMixedOk", spec := "fnExactMixedOk", apart := false }
def FnExactMixedOkSaid : Prop := fnExactMixedOkRow.holds Try.pinned (OpenSpec.ofChange fnExactMixedOkSpec)

/-- ITS FALSE NEIGHBOUR: 'it returns false'. Refute it at one input. -/
def fnExactMixedOkWrong : ChangeSpec := { name := "fnExactMixedOk", fn := fun _ => fun
  | [d1, d2] => { results := [.lit (.bool false)], args := [d1, d2] }
  | _ => none }
def FnExactMixedOkWrongFalsely : Prop := fnExactMixedOkRow.holds Try.pinned (OpenSpec.ofChange fnExactMixedOkWrong)

/-- 'laws.FnExactMixedValue': WHATEVER THE INPUT: true; the input reads as it did. -/
def fnExactMixedValueSpec : ChangeSpec := { name := "fnExactMixedValue", fn := fun _ => fun
  | [d1, d2] => { results := [.lit (.bool true)], args := [d1, d2] }
  | _ => none }
def fnExactMixedValueRow : OpenClaim := { program := "ytbnkdcfmllblkaa", sum := "5a6725faca2be9376017c4dc4f33be40993495a3749d66cf4e645b257321dbe1", func := "loop.example/g03203/laws.FnExactMixedValue", spec := "fnExactMixedValue", apart := false }
def FnExactMixedValueSaid : Prop := fnExactMixedValueRow.holds Try.pinned (OpenSpec.ofChange fnExactMixedValueSpec)

/-- ITS FALSE NEIGHBOUR: 'it returns false'. Refute it at one input. -/
def fnExactMixedValueWrong : ChangeSpec := { name := "fnExactMixedValue", fn := fun _ => fun
  | [d1, d2] => { results := [.lit (.bool false)], args := [d1, d2] }
  | _ => none }
def FnExactMixedValueWrongFalsely : Prop := fnExactMixedValueRow.holds Try.pinned (OpenSpec.ofChange fnExactMixedValueWrong)

/-- 'laws.FnExactMixedAdd': WHATEVER THE INPUT: true; the input reads as it did. -/
def fnExactMixedAddSpec : ChangeSpec := { name := "fnExactMixedAdd", fn := fun _ => fun
  | [d1, d2, d3] => { results := [.lit (.bool true)], args := [d1, d2, d3] }
  | _ => none }
def fnExactMixedAddRow : OpenClaim := { program := "ytbnkdcfmllblkaa", sum := "5a6725faca2be9376017c4dc4f33be40993495a3749d66cf4e645b257321dbe1", func := "loop.example/g03203/laws.FnExactMixedAdd", spec := "fnExactMixedAdd", apart := false }
def FnExactMixedAddSaid : Prop := fnExactMixedAddRow.holds Try.pinned (OpenSpec.ofChange fnExactMixedAddSpec)

/-- ITS FALSE NEIGHBOUR: 'it returns false'. Refute it at one input. -/
def fnExactMixedAddWrong : ChangeSpec := { name := "fnExactMixedAdd", fn := fun _ => fun
  | [d1, d2, d3] => { results := [.lit (.bool false)], args := [d1, d2, d3] }
  | _ => none }
def FnExactMixedAddWrongFalsely : Prop := fnExactMixedAddRow.holds Try.pinned (OpenSpec.ofChange fnExactMixedAddWrong)

/-- 'laws.FnExactNextMixed': WHATEVER THE INPUT: true; the input reads as it did. -/
def fnExactNextMixedSpec : ChangeSpec := { name := "fnExactNextMixed", fn := fun _ => fun
  | [d1, d2] => { results := [.lit (.bool true)], args := [d1, d2] }
  | _ => none }
def fnExactNextMixedRow : OpenClaim := { program := "ytbnkdcfmllblkaa", sum := "5a6725faca2be9376017c4dc4f33be40993495a3749d66cf4e645b257321dbe1", func := "loop.example/g03203/laws.FnExactNextMixed", spec := "fnExactNextMixed", apart := false }
def FnExactNextMixedSaid : Prop := fnExactNextMixedRow.holds Try.pinned (OpenSpec.ofChange fnExactNextMixedSpec)

/-- ITS FALSE NEIGHBOUR: 'it returns false'. Refute it at one input. -/
def fnExactNextMixedWrong : ChangeSpec := { name := "fnExactNextMixed", fn := fun _ => fun
  | [d1, d2] => { results := [.lit (.bool false)], args := [d1, d2] }
  | _ => none }
def FnExactNextMixedWrongFalsely : Prop := fnExactNextMixedRow.holds Try.pinned (OpenSpec.ofChange fnExactNextMixedWrong)

/-- 'laws.FnExactMixedCarries': WHATEVER THE INPUT: true; the input reads as it did. -/
def fnExactMixedCarriesSpec : ChangeSpec := { name := "fnExactMixedCarries", fn := fun _ => fun
  | [d1, d2, d3] => { results := [.lit (.bool true)], args := [d1, d2, d3] }
  | _ => none }
def fnExactMixedCarriesRow : OpenClaim := { program := "ytbnkdcfmllblkaa", sum := "5a6725faca2be9376017c4dc4f33be40993495a3749d66cf4e645b257321dbe1", func := "loop.example/g03203/laws.FnExactMixedCarries", spec := "fnExactMixedCarries", apart := false }
def FnExactMixedCarriesSaid : Prop := fnExactMixedCarriesRow.holds Try.pinned (OpenSpec.ofChange fnExactMixedCarriesSpec)

/-- ITS FALSE NEIGHBOUR: 'it returns false'. Refute it at one input. -/
def fnExactMixedCarriesWrong : ChangeSpec := { name := "fnExactMixedCarries", fn := fun _ => fun
  | [d1, d2, d3] => { results := [.lit (.bool false)], args := [d1, d2, d3] }
  | _ => none }
def FnExactMixedCarriesWrongFalsely : Prop := fnExactMixedCarriesRow.holds Try.pinned (OpenSpec.ofChange fnExactMixedCarriesWrong)

/- THE SECOND FORM. 'bulk': how many values and letters a reading holds, each counted each time it is reached (what is shared counts as often as it is met; a slice's spare places count too). A statement '..UptoSaid' is the law's where the arguments, and the package variables that the reading takes, are together of bulk at most 1048576: NARROWER than '..Said'. Prove '..Said' where nothing that the law and all that it calls make is longer than what came in: it says more and counts as full. Else prove '..UptoSaid'. A law counts once. -/
mutual
def uptoBulk {H : Type} : DataW H → Nat
  | .lit (.string bytes) => bytes.length + 1
  | .lit _ => 1
  | .nil => 1
  | .ptr d => uptoBulk d + 1
  | .slice elems spare => uptoBulkAll elems + uptoBulkAll spare + 1
  | .agg parts => uptoBulkAll parts + 1
  | .iface _ d => uptoBulk d + 1
  | .map entries => uptoBulkEntries entries + 1
  | .held _ => 1
def uptoBulkAll {H : Type} : List (DataW H) → Nat
  | [] => 0
  | d :: r => uptoBulk d + uptoBulkAll r
def uptoBulkEntries {H : Type} : List (Lit × DataW H) → Nat
  | [] => 0
  | x :: r => uptoBulkEntry x + uptoBulkEntries r
def uptoBulkEntry {H : Type} : Lit × DataW H → Nat
  | (.string bytes, d) => bytes.length + uptoBulk d + 1
  | (_, d) => uptoBulk d + 1
 end
def uptoSmall : (H : Type) → List (DataW H) → Bool := fun _ ds => decide (uptoBulkAll ds ≤ 1048576)
def OpenSpec.upto (s : _root_.Go.ChangeSpec) : _root_.Go.OpenSpec := { _root_.Go.OpenSpec.ofChange s with cond := some uptoSmall }

/-- 'laws.FnMixed', WHERE WHAT IT READS IS OF BULK AT MOST 1048576: true; the input reads as it did. -/
def fnMixedUptoRow : OpenClaim := { program := "ytbnkdcfmllblkaa", sum := "5a6725faca2be9376017c4dc4f33be40993495a3749d66cf4e645b257321dbe1", func := "loop.example/g03203/laws.FnMixed", spec := "fnMixed", apart := false, narrowed := true }
def FnMixedUptoSaid : Prop := fnMixedUptoRow.holds Try.pinned (OpenSpec.upto fnMixedSpec)

/-- 'laws.FnExactRadicesOk', WHERE WHAT IT READS IS OF BULK AT MOST 1048576: true; the input reads as it did. -/
def fnExactRadicesOkUptoRow : OpenClaim := { program := "ytbnkdcfmllblkaa", sum := "5a6725faca2be9376017c4dc4f33be40993495a3749d66cf4e645b257321dbe1", func := "loop.example/g03203/laws.FnExactRadicesOk", spec := "fnExactRadicesOk", apart := false, narrowed := true }
def FnExactRadicesOkUptoSaid : Prop := fnExactRadicesOkUptoRow.holds Try.pinned (OpenSpec.upto fnExactRadicesOkSpec)

/-- 'laws.FnExactRangeOf', WHERE WHAT IT READS IS OF BULK AT MOST 1048576: true; the input reads as it did. -/
def fnExactRangeOfUptoRow : OpenClaim := { program := "ytbnkdcfmllblkaa", sum := "5a6725faca2be9376017c4dc4f33be40993495a3749d66cf4e645b257321dbe1", func := "loop.example/g03203/laws.FnExactRangeOf", spec := "fnExactRangeOf", apart := false, narrowed := true }
def FnExactRangeOfUptoSaid : Prop := fnExactRangeOfUptoRow.holds Try.pinned (OpenSpec.upto fnExactRangeOfSpec)

/-- 'laws.FnExactPlacesOf', WHERE WHAT IT READS IS OF BULK AT MOST 1048576: true; the input reads as it did. -/
def fnExactPlacesOfUptoRow : OpenClaim := { program := "ytbnkdcfmllblkaa", sum := "5a6725faca2be9376017c4dc4f33be40993495a3749d66cf4e645b257321dbe1", func := "loop.example/g03203/laws.FnExactPlacesOf", spec := "fnExactPlacesOf", apart := false, narrowed := true }
def FnExactPlacesOfUptoSaid : Prop := fnExactPlacesOfUptoRow.holds Try.pinned (OpenSpec.upto fnExactPlacesOfSpec)

/-- 'laws.FnExactMixedDigits', WHERE WHAT IT READS IS OF BULK AT MOST 1048576: true; the input reads as it did. -/
def fnExactMixedDigitsUptoRow : OpenClaim := { program := "ytbnkdcfmllblkaa", sum := "5a6725faca2be9376017c4dc4f33be40993495a3749d66cf4e645b257321dbe1", func := "loop.example/g03203/laws.FnExactMixedDigits", spec := "fnExactMixedDigits", apart := false, narrowed := true }
def FnExactMixedDigitsUptoSaid : Prop := fnExactMixedDigitsUptoRow.holds Try.pinned (OpenSpec.upto fnExactMixedDigitsSpec)

/-- 'laws.FnExactMixedOk', WHERE WHAT IT READS IS OF BULK AT MOST 1048576: true; the input reads as it did. -/
def fnExactMixedOkUptoRow : OpenClaim := { program := "ytbnkdcfmllblkaa", sum := "5a6725faca2be9376017c4dc4f33be40993495a3749d66cf4e645b257321dbe1", func := "loop.example/g03203/laws.FnExactMixedOk", spec := "fnExactMixedOk", apart := false, narrowed := true }
def FnExactMixedOkUptoSaid : Prop := fnExactMixedOkUptoRow.holds Try.pinned (OpenSpec.upto fnExactMixedOkSpec)

/-- 'laws.FnExactMixedValue', WHERE WHAT IT READS IS OF BULK AT MOST 1048576: true; the input reads as it did. -/
def fnExactMixedValueUptoRow : OpenClaim := { program := "ytbnkdcfmllblkaa", sum := "5a6725faca2be9376017c4dc4f33be40993495a3749d66cf4e645b257321dbe1", func := "loop.example/g03203/laws.FnExactMixedValue", spec := "fnExactMixedValue", apart := false, narrowed := true }
def FnExactMixedValueUptoSaid : Prop := fnExactMixedValueUptoRow.holds Try.pinned (OpenSpec.upto fnExactMixedValueSpec)

/-- 'laws.FnExactMixedAdd', WHERE WHAT IT READS IS OF BULK AT MOST 1048576: true; the input reads as it did. -/
def fnExactMixedAddUptoRow : OpenClaim := { program := "ytbnkdcfmllblkaa", sum := "5a6725faca2be9376017c4dc4f33be40993495a3749d66cf4e645b257321dbe1", func := "loop.example/g03203/laws.FnExactMixedAdd", spec := "fnExactMixedAdd", apart := false, narrowed := true }
def FnExactMixedAddUptoSaid : Prop := fnExactMixedAddUptoRow.holds Try.pinned (OpenSpec.upto fnExactMixedAddSpec)

/-- 'laws.FnExactNextMixed', WHERE WHAT IT READS IS OF BULK AT MOST 1048576: true; the input reads as it did. -/
def fnExactNextMixedUptoRow : OpenClaim := { program := "ytbnkdcfmllblkaa", sum := "5a6725faca2be9376017c4dc4f33be40993495a3749d66cf4e645b257321dbe1", func := "loop.example/g03203/laws.FnExactNextMixed", spec := "fnExactNextMixed", apart := false, narrowed := true }
def FnExactNextMixedUptoSaid : Prop := fnExactNextMixedUptoRow.holds Try.pinned (OpenSpec.upto fnExactNextMixedSpec)

/-- 'laws.FnExactMixedCarries', WHERE WHAT IT READS IS OF BULK AT MOST 1048576: true; the input reads as it did. -/
def fnExactMixedCarriesUptoRow : OpenClaim := { program := "ytbnkdcfmllblkaa", sum := "5a6725faca2be9376017c4dc4f33be40993495a3749d66cf4e645b257321dbe1", func := "loop.example/g03203/laws.FnExactMixedCarries", spec := "fnExactMixedCarries", apart := false, narrowed := true }
def FnExactMixedCarriesUptoSaid : Prop := fnExactMixedCarriesUptoRow.holds Try.pinned (OpenSpec.upto fnExactMixedCarriesSpec)

end Rows
end Go.Proofs.Ytbnkdcfmllblkaa
