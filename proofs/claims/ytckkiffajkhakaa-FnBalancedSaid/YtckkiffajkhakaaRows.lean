/-
  No cell of these rows narrows 'for every input' (looked for: loops, veiled, ifaces, maps, wideKeys, modest, calm, conditions, laid).
  DERIVED. THE GIVEN ROWS OF THIS SEAT. 13 by the template 'for every input the law returns true; each argument reads behind the call as it read before'; 0 by the template 'total and deterministic' (their statements: YtckkiffajkhakaaTotals.lean).
  GIVEN WITH THE SEED: the statements are not yours to turn. If you find one false, say at which input.
  Laid BY PROGRAM, IN A SANDBOX (cutbox-rows.mjs): the forced cells as the released guide's own fill.sh prints them over the translation 0204dfee6b46477b… (all of the seat's roots in one cut). By AI agents, Wed Nov 11 2026. No macro, syntax, notation, axiom, sorry.
-/
import Derived.Test.YtckkiffajkhakaaChecked
import GoSem.Claim
import GoSem.ClaimJoined
import GoSem.ClaimMapViews
import Derived.JoinedTies
import Derived.KernelRfl
namespace Go.Proofs.Ytckkiffajkhakaa
/- THE CELL 'sum', in the pinned program and in every row, IS THE sha256 OF THE DUMP (.gsa) THAT YtckkiffajkhakaaProg.lean LOADS. Nothing in Lean hashes anything: it is a label: what it is worth is what the hold of that sum in a sandbox is worth. -/
noncomputable def Try.pinned : Pinned := { name := "ytckkiffajkhakaa", sum := "0204dfee6b46477b733fd8fdc4d9038948facd7b161e49f35359d5829307ff83", checked := Try.checked }
namespace Rows
def none {H : Type} : Left H := { results := [], args := [] }

/-- 'laws.FnNegative': WHATEVER THE INPUT: true; the input reads as it did. -/
def fnNegativeSpec : ChangeSpec := { name := "fnNegative", fn := fun _ => fun
  | [d] => { results := [.lit (.bool true)], args := [d] }
  | _ => none }
def fnNegativeRow : OpenClaim := { program := "ytckkiffajkhakaa", sum := "0204dfee6b46477b733fd8fdc4d9038948facd7b161e49f35359d5829307ff83", func := "loop.example/g03203/laws.FnNegative", spec := "fnNegative", unfollowed := true, recurses := true, apart := false }
def FnNegativeSaid : Prop := fnNegativeRow.holds Try.pinned (OpenSpec.ofChange fnNegativeSpec)

/-- ITS FALSE NEIGHBOUR: 'it returns false'. Refute it at one input. -/
def fnNegativeWrong : ChangeSpec := { name := "fnNegative", fn := fun _ => fun
  | [d] => { results := [.lit (.bool false)], args := [d] }
  | _ => none }
def FnNegativeWrongFalsely : Prop := fnNegativeRow.holds Try.pinned (OpenSpec.ofChange fnNegativeWrong)

/-- 'laws.FnBalanced': WHATEVER THE INPUT: true; the input reads as it did. -/
def fnBalancedSpec : ChangeSpec := { name := "fnBalanced", fn := fun _ => fun
  | [d] => { results := [.lit (.bool true)], args := [d] }
  | _ => none }
def fnBalancedRow : OpenClaim := { program := "ytckkiffajkhakaa", sum := "0204dfee6b46477b733fd8fdc4d9038948facd7b161e49f35359d5829307ff83", func := "loop.example/g03203/laws.FnBalanced", spec := "fnBalanced", inPlace := ["internal/abi.NoEscape"], unfollowed := true, recurses := true, apart := false }
def FnBalancedSaid : Prop := fnBalancedRow.holds Try.pinned (OpenSpec.ofChange fnBalancedSpec)

/-- ITS FALSE NEIGHBOUR: 'it returns false'. Refute it at one input. -/
def fnBalancedWrong : ChangeSpec := { name := "fnBalanced", fn := fun _ => fun
  | [d] => { results := [.lit (.bool false)], args := [d] }
  | _ => none }
def FnBalancedWrongFalsely : Prop := fnBalancedRow.holds Try.pinned (OpenSpec.ofChange fnBalancedWrong)

/-- 'laws.FnExactNegaCompare': WHATEVER THE INPUT: true; the input reads as it did. -/
def fnExactNegaCompareSpec : ChangeSpec := { name := "fnExactNegaCompare", fn := fun _ => fun
  | [d1, d2, d3] => { results := [.lit (.bool true)], args := [d1, d2, d3] }
  | _ => none }
def fnExactNegaCompareRow : OpenClaim := { program := "ytckkiffajkhakaa", sum := "0204dfee6b46477b733fd8fdc4d9038948facd7b161e49f35359d5829307ff83", func := "loop.example/g03203/laws.FnExactNegaCompare", spec := "fnExactNegaCompare", apart := false }
def FnExactNegaCompareSaid : Prop := fnExactNegaCompareRow.holds Try.pinned (OpenSpec.ofChange fnExactNegaCompareSpec)

/-- ITS FALSE NEIGHBOUR: 'it returns false'. Refute it at one input. -/
def fnExactNegaCompareWrong : ChangeSpec := { name := "fnExactNegaCompare", fn := fun _ => fun
  | [d1, d2, d3] => { results := [.lit (.bool false)], args := [d1, d2, d3] }
  | _ => none }
def FnExactNegaCompareWrongFalsely : Prop := fnExactNegaCompareRow.holds Try.pinned (OpenSpec.ofChange fnExactNegaCompareWrong)

/-- 'laws.FnExactBalancedOk': WHATEVER THE INPUT: true; the input reads as it did. -/
def fnExactBalancedOkSpec : ChangeSpec := { name := "fnExactBalancedOk", fn := fun _ => fun
  | [d1, d2] => { results := [.lit (.bool true)], args := [d1, d2] }
  | _ => none }
def fnExactBalancedOkRow : OpenClaim := { program := "ytckkiffajkhakaa", sum := "0204dfee6b46477b733fd8fdc4d9038948facd7b161e49f35359d5829307ff83", func := "loop.example/g03203/laws.FnExactBalancedOk", spec := "fnExactBalancedOk", apart := false }
def FnExactBalancedOkSaid : Prop := fnExactBalancedOkRow.holds Try.pinned (OpenSpec.ofChange fnExactBalancedOkSpec)

/-- ITS FALSE NEIGHBOUR: 'it returns false'. Refute it at one input. -/
def fnExactBalancedOkWrong : ChangeSpec := { name := "fnExactBalancedOk", fn := fun _ => fun
  | [d1, d2] => { results := [.lit (.bool false)], args := [d1, d2] }
  | _ => none }
def FnExactBalancedOkWrongFalsely : Prop := fnExactBalancedOkRow.holds Try.pinned (OpenSpec.ofChange fnExactBalancedOkWrong)

/-- 'laws.FnExactBalancedDigits': WHATEVER THE INPUT: true; the input reads as it did. -/
def fnExactBalancedDigitsSpec : ChangeSpec := { name := "fnExactBalancedDigits", fn := fun _ => fun
  | [d1, d2] => { results := [.lit (.bool true)], args := [d1, d2] }
  | _ => none }
def fnExactBalancedDigitsRow : OpenClaim := { program := "ytckkiffajkhakaa", sum := "0204dfee6b46477b733fd8fdc4d9038948facd7b161e49f35359d5829307ff83", func := "loop.example/g03203/laws.FnExactBalancedDigits", spec := "fnExactBalancedDigits", apart := false }
def FnExactBalancedDigitsSaid : Prop := fnExactBalancedDigitsRow.holds Try.pinned (OpenSpec.ofChange fnExactBalancedDigitsSpec)

/-- ITS FALSE NEIGHBOUR: 'it returns false'. Refute it at one input. -/
def fnExactBalancedDigitsWrong : ChangeSpec := { name := "fnExactBalancedDigits", fn := fun _ => fun
  | [d1, d2] => { results := [.lit (.bool false)], args := [d1, d2] }
  | _ => none }
def FnExactBalancedDigitsWrongFalsely : Prop := fnExactBalancedDigitsRow.holds Try.pinned (OpenSpec.ofChange fnExactBalancedDigitsWrong)

/-- 'laws.FnExactBalancedValue': WHATEVER THE INPUT: true; the input reads as it did. -/
def fnExactBalancedValueSpec : ChangeSpec := { name := "fnExactBalancedValue", fn := fun _ => fun
  | [d1, d2] => { results := [.lit (.bool true)], args := [d1, d2] }
  | _ => none }
def fnExactBalancedValueRow : OpenClaim := { program := "ytckkiffajkhakaa", sum := "0204dfee6b46477b733fd8fdc4d9038948facd7b161e49f35359d5829307ff83", func := "loop.example/g03203/laws.FnExactBalancedValue", spec := "fnExactBalancedValue", unfollowed := true, recurses := true, apart := false }
def FnExactBalancedValueSaid : Prop := fnExactBalancedValueRow.holds Try.pinned (OpenSpec.ofChange fnExactBalancedValueSpec)

/-- ITS FALSE NEIGHBOUR: 'it returns false'. Refute it at one input. -/
def fnExactBalancedValueWrong : ChangeSpec := { name := "fnExactBalancedValue", fn := fun _ => fun
  | [d1, d2] => { results := [.lit (.bool false)], args := [d1, d2] }
  | _ => none }
def FnExactBalancedValueWrongFalsely : Prop := fnExactBalancedValueRow.holds Try.pinned (OpenSpec.ofChange fnExactBalancedValueWrong)

/-- 'laws.FnExactNegateDigits': WHATEVER THE INPUT: true; the input reads as it did. -/
def fnExactNegateDigitsSpec : ChangeSpec := { name := "fnExactNegateDigits", fn := fun _ => fun
  | [d] => { results := [.lit (.bool true)], args := [d] }
  | _ => none }
def fnExactNegateDigitsRow : OpenClaim := { program := "ytckkiffajkhakaa", sum := "0204dfee6b46477b733fd8fdc4d9038948facd7b161e49f35359d5829307ff83", func := "loop.example/g03203/laws.FnExactNegateDigits", spec := "fnExactNegateDigits", apart := false }
def FnExactNegateDigitsSaid : Prop := fnExactNegateDigitsRow.holds Try.pinned (OpenSpec.ofChange fnExactNegateDigitsSpec)

/-- ITS FALSE NEIGHBOUR: 'it returns false'. Refute it at one input. -/
def fnExactNegateDigitsWrong : ChangeSpec := { name := "fnExactNegateDigits", fn := fun _ => fun
  | [d] => { results := [.lit (.bool false)], args := [d] }
  | _ => none }
def FnExactNegateDigitsWrongFalsely : Prop := fnExactNegateDigitsRow.holds Try.pinned (OpenSpec.ofChange fnExactNegateDigitsWrong)

/-- 'laws.FnExactBalancedAdd': WHATEVER THE INPUT: true; the input reads as it did. -/
def fnExactBalancedAddSpec : ChangeSpec := { name := "fnExactBalancedAdd", fn := fun _ => fun
  | [d1, d2, d3] => { results := [.lit (.bool true)], args := [d1, d2, d3] }
  | _ => none }
def fnExactBalancedAddRow : OpenClaim := { program := "ytckkiffajkhakaa", sum := "0204dfee6b46477b733fd8fdc4d9038948facd7b161e49f35359d5829307ff83", func := "loop.example/g03203/laws.FnExactBalancedAdd", spec := "fnExactBalancedAdd", apart := false }
def FnExactBalancedAddSaid : Prop := fnExactBalancedAddRow.holds Try.pinned (OpenSpec.ofChange fnExactBalancedAddSpec)

/-- ITS FALSE NEIGHBOUR: 'it returns false'. Refute it at one input. -/
def fnExactBalancedAddWrong : ChangeSpec := { name := "fnExactBalancedAdd", fn := fun _ => fun
  | [d1, d2, d3] => { results := [.lit (.bool false)], args := [d1, d2, d3] }
  | _ => none }
def FnExactBalancedAddWrongFalsely : Prop := fnExactBalancedAddRow.holds Try.pinned (OpenSpec.ofChange fnExactBalancedAddWrong)

/-- 'laws.FnExactBalancedCompare': WHATEVER THE INPUT: true; the input reads as it did. -/
def fnExactBalancedCompareSpec : ChangeSpec := { name := "fnExactBalancedCompare", fn := fun _ => fun
  | [d1, d2, d3] => { results := [.lit (.bool true)], args := [d1, d2, d3] }
  | _ => none }
def fnExactBalancedCompareRow : OpenClaim := { program := "ytckkiffajkhakaa", sum := "0204dfee6b46477b733fd8fdc4d9038948facd7b161e49f35359d5829307ff83", func := "loop.example/g03203/laws.FnExactBalancedCompare", spec := "fnExactBalancedCompare", apart := false }
def FnExactBalancedCompareSaid : Prop := fnExactBalancedCompareRow.holds Try.pinned (OpenSpec.ofChange fnExactBalancedCompareSpec)

/-- ITS FALSE NEIGHBOUR: 'it returns false'. Refute it at one input. -/
def fnExactBalancedCompareWrong : ChangeSpec := { name := "fnExactBalancedCompare", fn := fun _ => fun
  | [d1, d2, d3] => { results := [.lit (.bool false)], args := [d1, d2, d3] }
  | _ => none }
def FnExactBalancedCompareWrongFalsely : Prop := fnExactBalancedCompareRow.holds Try.pinned (OpenSpec.ofChange fnExactBalancedCompareWrong)

/-- 'laws.FnExactDropPlaces': WHATEVER THE INPUT: true; the input reads as it did. -/
def fnExactDropPlacesSpec : ChangeSpec := { name := "fnExactDropPlaces", fn := fun _ => fun
  | [d1, d2, d3] => { results := [.lit (.bool true)], args := [d1, d2, d3] }
  | _ => none }
def fnExactDropPlacesRow : OpenClaim := { program := "ytckkiffajkhakaa", sum := "0204dfee6b46477b733fd8fdc4d9038948facd7b161e49f35359d5829307ff83", func := "loop.example/g03203/laws.FnExactDropPlaces", spec := "fnExactDropPlaces", apart := false }
def FnExactDropPlacesSaid : Prop := fnExactDropPlacesRow.holds Try.pinned (OpenSpec.ofChange fnExactDropPlacesSpec)

/-- ITS FALSE NEIGHBOUR: 'it returns false'. Refute it at one input. -/
def fnExactDropPlacesWrong : ChangeSpec := { name := "fnExactDropPlaces", fn := fun _ => fun
  | [d1, d2, d3] => { results := [.lit (.bool false)], args := [d1, d2, d3] }
  | _ => none }
def FnExactDropPlacesWrongFalsely : Prop := fnExactDropPlacesRow.holds Try.pinned (OpenSpec.ofChange fnExactDropPlacesWrong)

/-- 'laws.FnExactWeighingOf': WHATEVER THE INPUT: true; the input reads as it did. -/
def fnExactWeighingOfSpec : ChangeSpec := { name := "fnExactWeighingOf", fn := fun _ => fun
  | [d] => { results := [.lit (.bool true)], args := [d] }
  | _ => none }
def fnExactWeighingOfRow : OpenClaim := { program := "ytckkiffajkhakaa", sum := "0204dfee6b46477b733fd8fdc4d9038948facd7b161e49f35359d5829307ff83", func := "loop.example/g03203/laws.FnExactWeighingOf", spec := "fnExactWeighingOf", apart := false }
def FnExactWeighingOfSaid : Prop := fnExactWeighingOfRow.holds Try.pinned (OpenSpec.ofChange fnExactWeighingOfSpec)

/-- ITS FALSE NEIGHBOUR: 'it returns false'. Refute it at one input. -/
def fnExactWeighingOfWrong : ChangeSpec := { name := "fnExactWeighingOf", fn := fun _ => fun
  | [d] => { results := [.lit (.bool false)], args := [d] }
  | _ => none }
def FnExactWeighingOfWrongFalsely : Prop := fnExactWeighingOfRow.holds Try.pinned (OpenSpec.ofChange fnExactWeighingOfWrong)

/-- 'laws.FnExactFormatBalanced': WHATEVER THE INPUT: true; the input reads as it did. -/
def fnExactFormatBalancedSpec : ChangeSpec := { name := "fnExactFormatBalanced", fn := fun _ => fun
  | [d] => { results := [.lit (.bool true)], args := [d] }
  | _ => none }
def fnExactFormatBalancedRow : OpenClaim := { program := "ytckkiffajkhakaa", sum := "0204dfee6b46477b733fd8fdc4d9038948facd7b161e49f35359d5829307ff83", func := "loop.example/g03203/laws.FnExactFormatBalanced", spec := "fnExactFormatBalanced", inPlace := ["internal/abi.NoEscape"], unfollowed := true, recurses := true, apart := false }
def FnExactFormatBalancedSaid : Prop := fnExactFormatBalancedRow.holds Try.pinned (OpenSpec.ofChange fnExactFormatBalancedSpec)

/-- ITS FALSE NEIGHBOUR: 'it returns false'. Refute it at one input. -/
def fnExactFormatBalancedWrong : ChangeSpec := { name := "fnExactFormatBalanced", fn := fun _ => fun
  | [d] => { results := [.lit (.bool false)], args := [d] }
  | _ => none }
def FnExactFormatBalancedWrongFalsely : Prop := fnExactFormatBalancedRow.holds Try.pinned (OpenSpec.ofChange fnExactFormatBalancedWrong)

/-- 'laws.FnExactParseBalanced': WHATEVER THE INPUT: true; the input reads as it did. -/
def fnExactParseBalancedSpec : ChangeSpec := { name := "fnExactParseBalanced", fn := fun _ => fun
  | [d] => { results := [.lit (.bool true)], args := [d] }
  | _ => none }
def fnExactParseBalancedRow : OpenClaim := { program := "ytckkiffajkhakaa", sum := "0204dfee6b46477b733fd8fdc4d9038948facd7b161e49f35359d5829307ff83", func := "loop.example/g03203/laws.FnExactParseBalanced", spec := "fnExactParseBalanced", inPlace := ["internal/bytealg.IndexByteString"], apart := false }
def FnExactParseBalancedSaid : Prop := fnExactParseBalancedRow.holds Try.pinned (OpenSpec.ofChange fnExactParseBalancedSpec)

/-- ITS FALSE NEIGHBOUR: 'it returns false'. Refute it at one input. -/
def fnExactParseBalancedWrong : ChangeSpec := { name := "fnExactParseBalanced", fn := fun _ => fun
  | [d] => { results := [.lit (.bool false)], args := [d] }
  | _ => none }
def FnExactParseBalancedWrongFalsely : Prop := fnExactParseBalancedRow.holds Try.pinned (OpenSpec.ofChange fnExactParseBalancedWrong)

/- THE SECOND FORM. 'bulk': how many values and letters a reading holds, each counted each time it is reached (what is shared counts as often as it is met; a slice's spare places count too). A statement '..UptoSaid' is the law's where the arguments, and the package variables that the reading takes, are together of bulk at most 1048576: NARROWER than '..Said'. Prove '..Said' where nothing that the law and all that it calls make is longer than what came in: it says more and counts as full. Else prove '..UptoSaid'. A law counts once. -/
mutual
def uptoBulk {H : Type} : DataW H → Nat
  | .lit (.string bytes) => bytes.length + 1
  | .lit _ => 1
  | .nil => 1
  | .ptr d => uptoBulk d + 1
  | .slice elems spare => uptoBulkAll elems + uptoBulkAll spare + 1
  | .agg parts => uptoBulkAll parts + 1
  | .iface _ d => uptoBulk d + 1
  | .map entries => uptoBulkEntries entries + 1
  | .held _ => 1
def uptoBulkAll {H : Type} : List (DataW H) → Nat
  | [] => 0
  | d :: r => uptoBulk d + uptoBulkAll r
def uptoBulkEntries {H : Type} : List (Lit × DataW H) → Nat
  | [] => 0
  | x :: r => uptoBulkEntry x + uptoBulkEntries r
def uptoBulkEntry {H : Type} : Lit × DataW H → Nat
  | (.string bytes, d) => bytes.length + uptoBulk d + 1
  | (_, d) => uptoBulk d + 1
 end
def uptoSmall : (H : Type) → List (DataW H) → Bool := fun _ ds => decide (uptoBulkAll ds ≤ 1048576)
def OpenSpec.upto (s : _root_.Go.ChangeSpec) : _root_.Go.OpenSpec := { _root_.Go.OpenSpec.ofChange s with cond := some uptoSmall }

/-- 'laws.FnNegative', WHERE WHAT IT READS IS OF BULK AT MOST 1048576: true; the input reads as it did. -/
def fnNegativeUptoRow : OpenClaim := { program := "ytckkiffajkhakaa", sum := "0204dfee6b46477b733fd8fdc4d9038948facd7b161e49f35359d5829307ff83", func := "loop.example/g03203/laws.FnNegative", spec := "fnNegative", unfollowed := true, recurses := true, apart := false, narrowed := true }
def FnNegativeUptoSaid : Prop := fnNegativeUptoRow.holds Try.pinned (OpenSpec.upto fnNegativeSpec)

/-- 'laws.FnBalanced', WHERE WHAT IT READS IS OF BULK AT MOST 1048576: true; the input reads as it did. -/
def fnBalancedUptoRow : OpenClaim := { program := "ytckkiffajkhakaa", sum := "0204dfee6b46477b733fd8fdc4d9038948facd7b161e49f35359d5829307ff83", func := "loop.example/g03203/laws.FnBalanced", spec := "fnBalanced", inPlace := ["internal/abi.NoEscape"], unfollowed := true, recurses := true, apart := false, narrowed := true }
def FnBalancedUptoSaid : Prop := fnBalancedUptoRow.holds Try.pinned (OpenSpec.upto fnBalancedSpec)

/-- 'laws.FnExactNegaCompare', WHERE WHAT IT READS IS OF BULK AT MOST 1048576: true; the input reads as it did. -/
def fnExactNegaCompareUptoRow : OpenClaim := { program := "ytckkiffajkhakaa", sum := "0204dfee6b46477b733fd8fdc4d9038948facd7b161e49f35359d5829307ff83", func := "loop.example/g03203/laws.FnExactNegaCompare", spec := "fnExactNegaCompare", apart := false, narrowed := true }
def FnExactNegaCompareUptoSaid : Prop := fnExactNegaCompareUptoRow.holds Try.pinned (OpenSpec.upto fnExactNegaCompareSpec)

/-- 'laws.FnExactBalancedOk', WHERE WHAT IT READS IS OF BULK AT MOST 1048576: true; the input reads as it did. -/
def fnExactBalancedOkUptoRow : OpenClaim := { program := "ytckkiffajkhakaa", sum := "0204dfee6b46477b733fd8fdc4d9038948facd7b161e49f35359d5829307ff83", func := "loop.example/g03203/laws.FnExactBalancedOk", spec := "fnExactBalancedOk", apart := false, narrowed := true }
def FnExactBalancedOkUptoSaid : Prop := fnExactBalancedOkUptoRow.holds Try.pinned (OpenSpec.upto fnExactBalancedOkSpec)

/-- 'laws.FnExactBalancedDigits', WHERE WHAT IT READS IS OF BULK AT MOST 1048576: true; the input reads as it did. -/
def fnExactBalancedDigitsUptoRow : OpenClaim := { program := "ytckkiffajkhakaa", sum := "0204dfee6b46477b733fd8fdc4d9038948facd7b161e49f35359d5829307ff83", func := "loop.example/g03203/laws.FnExactBalancedDigits", spec := "fnExactBalancedDigits", apart := false, narrowed := true }
def FnExactBalancedDigitsUptoSaid : Prop := fnExactBalancedDigitsUptoRow.holds Try.pinned (OpenSpec.upto fnExactBalancedDigitsSpec)

/-- 'laws.FnExactBalancedValue', WHERE WHAT IT READS IS OF BULK AT MOST 1048576: true; the input reads as it did. -/
def fnExactBalancedValueUptoRow : OpenClaim := { program := "ytckkiffajkhakaa", sum := "0204dfee6b46477b733fd8fdc4d9038948facd7b161e49f35359d5829307ff83", func := "loop.example/g03203/laws.FnExactBalancedValue", spec := "fnExactBalancedValue", unfollowed := true, recurses := true, apart := false, narrowed := true }
def FnExactBalancedValueUptoSaid : Prop := fnExactBalancedValueUptoRow.holds Try.pinned (OpenSpec.upto fnExactBalancedValueSpec)

/-- 'laws.FnExactNegateDigits', WHERE WHAT IT READS IS OF BULK AT MOST 1048576: true; the input reads as it did. -/
def fnExactNegateDigitsUptoRow : OpenClaim := { program := "ytckkiffajkhakaa", sum := "0204dfee6b46477b733fd8fdc4d9038948facd7b161e49f35359d5829307ff83", func := "loop.example/g03203/laws.FnExactNegateDigits", spec := "fnExactNegateDigits", apart := false, narrowed := true }
def FnExactNegateDigitsUptoSaid : Prop := fnExactNegateDigitsUptoRow.holds Try.pinned (OpenSpec.upto fnExactNegateDigitsSpec)

/-- 'laws.FnExactBalancedAdd', WHERE WHAT IT READS IS OF BULK AT MOST 1048576: true; the input reads as it did. -/
def fnExactBalancedAddUptoRow : OpenClaim := { program := "ytckkiffajkhakaa", sum := "0204dfee6b46477b733fd8fdc4d9038948facd7b161e49f35359d5829307ff83", func := "loop.example/g03203/laws.FnExactBalancedAdd", spec := "fnExactBalancedAdd", apart := false, narrowed := true }
def FnExactBalancedAddUptoSaid : Prop := fnExactBalancedAddUptoRow.holds Try.pinned (OpenSpec.upto fnExactBalancedAddSpec)

/-- 'laws.FnExactBalancedCompare', WHERE WHAT IT READS IS OF BULK AT MOST 1048576: true; the input reads as it did. -/
def fnExactBalancedCompareUptoRow : OpenClaim := { program := "ytckkiffajkhakaa", sum := "0204dfee6b46477b733fd8fdc4d9038948facd7b161e49f35359d5829307ff83", func := "loop.example/g03203/laws.FnExactBalancedCompare", spec := "fnExactBalancedCompare", apart := false, narrowed := true }
def FnExactBalancedCompareUptoSaid : Prop := fnExactBalancedCompareUptoRow.holds Try.pinned (OpenSpec.upto fnExactBalancedCompareSpec)

/-- 'laws.FnExactDropPlaces', WHERE WHAT IT READS IS OF BULK AT MOST 1048576: true; the input reads as it did. -/
def fnExactDropPlacesUptoRow : OpenClaim := { program := "ytckkiffajkhakaa", sum := "0204dfee6b46477b733fd8fdc4d9038948facd7b161e49f35359d5829307ff83", func := "loop.example/g03203/laws.FnExactDropPlaces", spec := "fnExactDropPlaces", apart := false, narrowed := true }
def FnExactDropPlacesUptoSaid : Prop := fnExactDropPlacesUptoRow.holds Try.pinned (OpenSpec.upto fnExactDropPlacesSpec)

/-- 'laws.FnExactWeighingOf', WHERE WHAT IT READS IS OF BULK AT MOST 1048576: true; the input reads as it did. -/
def fnExactWeighingOfUptoRow : OpenClaim := { program := "ytckkiffajkhakaa", sum := "0204dfee6b46477b733fd8fdc4d9038948facd7b161e49f35359d5829307ff83", func := "loop.example/g03203/laws.FnExactWeighingOf", spec := "fnExactWeighingOf", apart := false, narrowed := true }
def FnExactWeighingOfUptoSaid : Prop := fnExactWeighingOfUptoRow.holds Try.pinned (OpenSpec.upto fnExactWeighingOfSpec)

/-- 'laws.FnExactFormatBalanced', WHERE WHAT IT READS IS OF BULK AT MOST 1048576: true; the input reads as it did. -/
def fnExactFormatBalancedUptoRow : OpenClaim := { program := "ytckkiffajkhakaa", sum := "0204dfee6b46477b733fd8fdc4d9038948facd7b161e49f35359d5829307ff83", func := "loop.example/g03203/laws.FnExactFormatBalanced", spec := "fnExactFormatBalanced", inPlace := ["internal/abi.NoEscape"], unfollowed := true, recurses := true, apart := false, narrowed := true }
def FnExactFormatBalancedUptoSaid : Prop := fnExactFormatBalancedUptoRow.holds Try.pinned (OpenSpec.upto fnExactFormatBalancedSpec)

/-- 'laws.FnExactParseBalanced', WHERE WHAT IT READS IS OF BULK AT MOST 1048576: true; the input reads as it did. -/
def fnExactParseBalancedUptoRow : OpenClaim := { program := "ytckkiffajkhakaa", sum := "0204dfee6b46477b733fd8fdc4d9038948facd7b161e49f35359d5829307ff83", func := "loop.example/g03203/laws.FnExactParseBalanced", spec := "fnExactParseBalanced", inPlace := ["internal/bytealg.IndexByteString"], apart := false, narrowed := true }
def FnExactParseBalancedUptoSaid : Prop := fnExactParseBalancedUptoRow.holds Try.pinned (OpenSpec.upto fnExactParseBalancedSpec)

end Rows
end Go.Proofs.Ytckkiffajkhakaa
