/-
  No cell of these rows narrows 'for every input' (looked for: loops, veiled, ifaces, maps, wideKeys, modest, calm, conditions, laid).
  DERIVED. THE GIVEN ROWS OF THIS SEAT. 12 by the template 'for every input the law returns true; each argument reads behind the call as it read before'; 0 by the template 'total and deterministic' (their statements: YtdflpocnfodbhacTotals.lean).
  GIVEN WITH THE SEED: the statements are not yours to turn. If you find one false, say at which input.
  Laid BY PROGRAM, IN A SANDBOX (cutbox-rows.mjs): the forced cells as the released guide's own fill.sh prints them over the translation 4076793b4da62058… (all of the seat's roots in one cut). By AI agents, Wed Nov 11 2026. No macro, syntax, notation, axiom, sorry.
-/
import Derived.Test.YtdflpocnfodbhacChecked
import GoSem.Claim
import GoSem.ClaimJoined
import GoSem.ClaimMapViews
import Derived.JoinedTies
import Derived.KernelRfl
namespace Go.Proofs.Ytdflpocnfodbhac
/- THE CELL 'sum', in the pinned program and in every row, IS THE sha256 OF THE DUMP (.gsa) THAT YtdflpocnfodbhacProg.lean LOADS. Nothing in Lean hashes anything: it is a label: what it is worth is what the hold of that sum in a sandbox is worth. -/
noncomputable def Try.pinned : Pinned := { name := "ytdflpocnfodbhac", sum := "4076793b4da62058e2c7efe49869973b644270e8b5dccb6aad5db5687b695785", checked := Try.checked }
namespace Rows
def none {H : Type} : Left H := { results := [], args := [] }

/-- 'laws.FnExactBalancedAdd': WHATEVER THE INPUT: true; the input reads as it did. -/
def fnExactBalancedAddSpec : ChangeSpec := { name := "fnExactBalancedAdd", fn := fun _ => fun
  | [d1, d2, d3] => { results := [.lit (.bool true)], args := [d1, d2, d3] }
  | _ => none }
def fnExactBalancedAddRow : OpenClaim := { program := "ytdflpocnfodbhac", sum := "4076793b4da62058e2c7efe49869973b644270e8b5dccb6aad5db5687b695785", func := "loop.example/g03203/laws.FnExactBalancedAdd", spec := "fnExactBalancedAdd", apart := false }
def FnExactBalancedAddSaid : Prop := fnExactBalancedAddRow.holds Try.pinned (OpenSpec.ofChange fnExactBalancedAddSpec)

/-- ITS FALSE NEIGHBOUR: 'it returns false'. Refute it at one input. -/
def fnExactBalancedAddWrong : ChangeSpec := { name := "fnExactBalancedAdd", fn := fun _ => fun
  | [d1, d2, d3] => { results := [.lit (.bool false)], args := [d1, d2, d3] }
  | _ => none }
def FnExactBalancedAddWrongFalsely : Prop := fnExactBalancedAddRow.holds Try.pinned (OpenSpec.ofChange fnExactBalancedAddWrong)

/-- 'laws.FnExactBalancedCompare': WHATEVER THE INPUT: true; the input reads as it did. -/
def fnExactBalancedCompareSpec : ChangeSpec := { name := "fnExactBalancedCompare", fn := fun _ => fun
  | [d1, d2, d3] => { results := [.lit (.bool true)], args := [d1, d2, d3] }
  | _ => none }
def fnExactBalancedCompareRow : OpenClaim := { program := "ytdflpocnfodbhac", sum := "4076793b4da62058e2c7efe49869973b644270e8b5dccb6aad5db5687b695785", func := "loop.example/g03203/laws.FnExactBalancedCompare", spec := "fnExactBalancedCompare", apart := false }
def FnExactBalancedCompareSaid : Prop := fnExactBalancedCompareRow.holds Try.pinned (OpenSpec.ofChange fnExactBalancedCompareSpec)

/-- ITS FALSE NEIGHBOUR: 'it returns false'. Refute it at one input. -/
def fnExactBalancedCompareWrong : ChangeSpec := { name := "fnExactBalancedCompare", fn := fun _ => fun
  | [d1, d2, d3] => { results := [.lit (.bool false)], args := [d1, d2, d3] }
  | _ => none }
def FnExactBalancedCompareWrongFalsely : Prop := fnExactBalancedCompareRow.holds Try.pinned (OpenSpec.ofChange fnExactBalancedCompareWrong)

/-- 'laws.FnExactDropPlaces': WHATEVER THE INPUT: true; the input reads as it did. -/
def fnExactDropPlacesSpec : ChangeSpec := { name := "fnExactDropPlaces", fn := fun _ => fun
  | [d1, d2, d3] => { results := [.lit (.bool true)], args := [d1, d2, d3] }
  | _ => none }
def fnExactDropPlacesRow : OpenClaim := { program := "ytdflpocnfodbhac", sum := "4076793b4da62058e2c7efe49869973b644270e8b5dccb6aad5db5687b695785", func := "loop.example/g03203/laws.FnExactDropPlaces", spec := "fnExactDropPlaces", apart := false }
def FnExactDropPlacesSaid : Prop := fnExactDropPlacesRow.holds Try.pinned (OpenSpec.ofChange fnExactDropPlacesSpec)

/-- ITS FALSE NEIGHBOUR: 'it returns false'. Refute it at one input. -/
def fnExactDropPlacesWrong : ChangeSpec := { name := "fnExactDropPlaces", fn := fun _ => fun
  | [d1, d2, d3] => { results := [.lit (.bool false)], args := [d1, d2, d3] }
  | _ => none }
def FnExactDropPlacesWrongFalsely : Prop := fnExactDropPlacesRow.holds Try.pinned (OpenSpec.ofChange fnExactDropPlacesWrong)

/-- 'laws.FnExactFormatBalanced': WHATEVER THE INPUT: true; the input reads as it did. -/
def fnExactFormatBalancedSpec : ChangeSpec := { name := "fnExactFormatBalanced", fn := fun _ => fun
  | [d] => { results := [.lit (.bool true)], args := [d] }
  | _ => none }
def fnExactFormatBalancedRow : OpenClaim := { program := "ytdflpocnfodbhac", sum := "4076793b4da62058e2c7efe49869973b644270e8b5dccb6aad5db5687b695785", func := "loop.example/g03203/laws.FnExactFormatBalanced", spec := "fnExactFormatBalanced", inPlace := ["internal/abi.NoEscape"], unfollowed := true, recurses := true, apart := false }
def FnExactFormatBalancedSaid : Prop := fnExactFormatBalancedRow.holds Try.pinned (OpenSpec.ofChange fnExactFormatBalancedSpec)

/-- ITS FALSE NEIGHBOUR: 'it returns false'. Refute it at one input. -/
def fnExactFormatBalancedWrong : ChangeSpec := { name := "fnExactFormatBalanced", fn := fun _ => fun
  | [d] => { results := [.lit (.bool false)], args := [d] }
  | _ => none }
def FnExactFormatBalancedWrongFalsely : Prop := fnExactFormatBalancedRow.holds Try.pinned (OpenSpec.ofChange fnExactFormatBalancedWrong)

/-- 'laws.FnExactParseBalanced': WHATEVER THE INPUT: true; the input reads as it did. -/
def fnExactParseBalancedSpec : ChangeSpec := { name := "fnExactParseBalanced", fn := fun _ => fun
  | [d] => { results := [.lit (.bool true)], args := [d] }
  | _ => none }
def fnExactParseBalancedRow : OpenClaim := { program := "ytdflpocnfodbhac", sum := "4076793b4da62058e2c7efe49869973b644270e8b5dccb6aad5db5687b695785", func := "loop.example/g03203/laws.FnExactParseBalanced", spec := "fnExactParseBalanced", inPlace := ["internal/bytealg.IndexByteString"], apart := false }
def FnExactParseBalancedSaid : Prop := fnExactParseBalancedRow.holds Try.pinned (OpenSpec.ofChange fnExactParseBalancedSpec)

/-- ITS FALSE NEIGHBOUR: 'it returns false'. Refute it at one input. -/
def fnExactParseBalancedWrong : ChangeSpec := { name := "fnExactParseBalanced", fn := fun _ => fun
  | [d] => { results := [.lit (.bool false)], args := [d] }
  | _ => none }
def FnExactParseBalancedWrongFalsely : Prop := fnExactParseBalancedRow.holds Try.pinned (OpenSpec.ofChange fnExactParseBalancedWrong)

/-- 'laws.FnExactSignedOk': WHATEVER THE INPUT: true; the input reads as it did. -/
def fnExactSignedOkSpec : ChangeSpec := { name := "fnExactSignedOk", fn := fun _ => fun
  | [d] => { results := [.lit (.bool true)], args := [d] }
  | _ => none }
def fnExactSignedOkRow : OpenClaim := { program := "ytdflpocnfodbhac", sum := "4076793b4da62058e2c7efe49869973b644270e8b5dccb6aad5db5687b695785", func := "loop.example/g03203/laws.FnExactSignedOk", spec := "fnExactSignedOk", apart := false }
def FnExactSignedOkSaid : Prop := fnExactSignedOkRow.holds Try.pinned (OpenSpec.ofChange fnExactSignedOkSpec)

/-- ITS FALSE NEIGHBOUR: 'it returns false'. Refute it at one input. -/
def fnExactSignedOkWrong : ChangeSpec := { name := "fnExactSignedOk", fn := fun _ => fun
  | [d] => { results := [.lit (.bool false)], args := [d] }
  | _ => none }
def FnExactSignedOkWrongFalsely : Prop := fnExactSignedOkRow.holds Try.pinned (OpenSpec.ofChange fnExactSignedOkWrong)

/-- 'laws.FnExactSignedValue': WHATEVER THE INPUT: true; the input reads as it did. -/
def fnExactSignedValueSpec : ChangeSpec := { name := "fnExactSignedValue", fn := fun _ => fun
  | [d] => { results := [.lit (.bool true)], args := [d] }
  | _ => none }
def fnExactSignedValueRow : OpenClaim := { program := "ytdflpocnfodbhac", sum := "4076793b4da62058e2c7efe49869973b644270e8b5dccb6aad5db5687b695785", func := "loop.example/g03203/laws.FnExactSignedValue", spec := "fnExactSignedValue", unfollowed := true, recurses := true, apart := false }
def FnExactSignedValueSaid : Prop := fnExactSignedValueRow.holds Try.pinned (OpenSpec.ofChange fnExactSignedValueSpec)

/-- ITS FALSE NEIGHBOUR: 'it returns false'. Refute it at one input. -/
def fnExactSignedValueWrong : ChangeSpec := { name := "fnExactSignedValue", fn := fun _ => fun
  | [d] => { results := [.lit (.bool false)], args := [d] }
  | _ => none }
def FnExactSignedValueWrongFalsely : Prop := fnExactSignedValueRow.holds Try.pinned (OpenSpec.ofChange fnExactSignedValueWrong)

/-- 'laws.FnExactIsSparse': WHATEVER THE INPUT: true; the input reads as it did. -/
def fnExactIsSparseSpec : ChangeSpec := { name := "fnExactIsSparse", fn := fun _ => fun
  | [d] => { results := [.lit (.bool true)], args := [d] }
  | _ => none }
def fnExactIsSparseRow : OpenClaim := { program := "ytdflpocnfodbhac", sum := "4076793b4da62058e2c7efe49869973b644270e8b5dccb6aad5db5687b695785", func := "loop.example/g03203/laws.FnExactIsSparse", spec := "fnExactIsSparse", apart := false }
def FnExactIsSparseSaid : Prop := fnExactIsSparseRow.holds Try.pinned (OpenSpec.ofChange fnExactIsSparseSpec)

/-- ITS FALSE NEIGHBOUR: 'it returns false'. Refute it at one input. -/
def fnExactIsSparseWrong : ChangeSpec := { name := "fnExactIsSparse", fn := fun _ => fun
  | [d] => { results := [.lit (.bool false)], args := [d] }
  | _ => none }
def FnExactIsSparseWrongFalsely : Prop := fnExactIsSparseRow.holds Try.pinned (OpenSpec.ofChange fnExactIsSparseWrong)

/-- 'laws.FnExactWeightOf': WHATEVER THE INPUT: true; the input reads as it did. -/
def fnExactWeightOfSpec : ChangeSpec := { name := "fnExactWeightOf", fn := fun _ => fun
  | [d] => { results := [.lit (.bool true)], args := [d] }
  | _ => none }
def fnExactWeightOfRow : OpenClaim := { program := "ytdflpocnfodbhac", sum := "4076793b4da62058e2c7efe49869973b644270e8b5dccb6aad5db5687b695785", func := "loop.example/g03203/laws.FnExactWeightOf", spec := "fnExactWeightOf", apart := false }
def FnExactWeightOfSaid : Prop := fnExactWeightOfRow.holds Try.pinned (OpenSpec.ofChange fnExactWeightOfSpec)

/-- ITS FALSE NEIGHBOUR: 'it returns false'. Refute it at one input. -/
def fnExactWeightOfWrong : ChangeSpec := { name := "fnExactWeightOf", fn := fun _ => fun
  | [d] => { results := [.lit (.bool false)], args := [d] }
  | _ => none }
def FnExactWeightOfWrongFalsely : Prop := fnExactWeightOfRow.holds Try.pinned (OpenSpec.ofChange fnExactWeightOfWrong)

/-- 'laws.FnExactLeastWeight': WHATEVER THE INPUT: true; the input reads as it did. -/
def fnExactLeastWeightSpec : ChangeSpec := { name := "fnExactLeastWeight", fn := fun _ => fun
  | [d] => { results := [.lit (.bool true)], args := [d] }
  | _ => none }
def fnExactLeastWeightRow : OpenClaim := { program := "ytdflpocnfodbhac", sum := "4076793b4da62058e2c7efe49869973b644270e8b5dccb6aad5db5687b695785", func := "loop.example/g03203/laws.FnExactLeastWeight", spec := "fnExactLeastWeight", apart := false }
def FnExactLeastWeightSaid : Prop := fnExactLeastWeightRow.holds Try.pinned (OpenSpec.ofChange fnExactLeastWeightSpec)

/-- ITS FALSE NEIGHBOUR: 'it returns false'. Refute it at one input. -/
def fnExactLeastWeightWrong : ChangeSpec := { name := "fnExactLeastWeight", fn := fun _ => fun
  | [d] => { results := [.lit (.bool false)], args := [d] }
  | _ => none }
def FnExactLeastWeightWrongFalsely : Prop := fnExactLeastWeightRow.holds Try.pinned (OpenSpec.ofChange fnExactLeastWeightWrong)

/-- 'laws.FnExactStepsOf': WHATEVER THE INPUT: true; the input reads as it did. -/
def fnExactStepsOfSpec : ChangeSpec := { name := "fnExactStepsOf", fn := fun _ => fun
  | [d] => { results := [.lit (.bool true)], args := [d] }
  | _ => none }
def fnExactStepsOfRow : OpenClaim := { program := "ytdflpocnfodbhac", sum := "4076793b4da62058e2c7efe49869973b644270e8b5dccb6aad5db5687b695785", func := "loop.example/g03203/laws.FnExactStepsOf", spec := "fnExactStepsOf", apart := false }
def FnExactStepsOfSaid : Prop := fnExactStepsOfRow.holds Try.pinned (OpenSpec.ofChange fnExactStepsOfSpec)

/-- ITS FALSE NEIGHBOUR: 'it returns false'. Refute it at one input. -/
def fnExactStepsOfWrong : ChangeSpec := { name := "fnExactStepsOf", fn := fun _ => fun
  | [d] => { results := [.lit (.bool false)], args := [d] }
  | _ => none }
def FnExactStepsOfWrongFalsely : Prop := fnExactStepsOfRow.holds Try.pinned (OpenSpec.ofChange fnExactStepsOfWrong)

/-- 'laws.FnExactRewriteSigned': WHATEVER THE INPUT: true; the input reads as it did. -/
def fnExactRewriteSignedSpec : ChangeSpec := { name := "fnExactRewriteSigned", fn := fun _ => fun
  | [d] => { results := [.lit (.bool true)], args := [d] }
  | _ => none }
def fnExactRewriteSignedRow : OpenClaim := { program := "ytdflpocnfodbhac", sum := "4076793b4da62058e2c7efe49869973b644270e8b5dccb6aad5db5687b695785", func := "loop.example/g03203/laws.FnExactRewriteSigned", spec := "fnExactRewriteSigned", apart := false }
def FnExactRewriteSignedSaid : Prop := fnExactRewriteSignedRow.holds Try.pinned (OpenSpec.ofChange fnExactRewriteSignedSpec)

/-- ITS FALSE NEIGHBOUR: 'it returns false'. Refute it at one input. -/
def fnExactRewriteSignedWrong : ChangeSpec := { name := "fnExactRewriteSigned", fn := fun _ => fun
  | [d] => { results := [.lit (.bool false)], args := [d] }
  | _ => none }
def FnExactRewriteSignedWrongFalsely : Prop := fnExactRewriteSignedRow.holds Try.pinned (OpenSpec.ofChange fnExactRewriteSignedWrong)

/- THE SECOND FORM. 'bulk': how many values and letters a reading holds, each counted each time it is reached (what is shared counts as often as it is met; a slice's spare places count too). A statement '..UptoSaid' is the law's where the arguments, and the package variables that the reading takes, are together of bulk at most 1048576: NARROWER than '..Said'. Prove '..Said' where nothing that the law and all that it calls make is longer than what came in: it says more and counts as full. Else prove '..UptoSaid'. A law counts once. -/
mutual
def uptoBulk {H : Type} : DataW H → Nat
  | .lit (.string bytes) => bytes.length + 1
  | .lit _ => 1
  | .nil => 1
  | .ptr d => uptoBulk d + 1
  | .slice elems spare => uptoBulkAll elems + uptoBulkAll spare + 1
  | .agg parts => uptoBulkAll parts + 1
  | .iface _ d => uptoBulk d + 1
  | .map entries => uptoBulkEntries entries + 1
  | .held _ => 1
def uptoBulkAll {H : Type} : List (DataW H) → Nat
  | [] => 0
  | d :: r => uptoBulk d + uptoBulkAll r
def uptoBulkEntries {H : Type} : List (Lit × DataW H) → Nat
  | [] => 0
  | x :: r => uptoBulkEntry x + uptoBulkEntries r
def uptoBulkEntry {H : Type} : Lit × DataW H → Nat
  | (.string bytes, d) => bytes.length + uptoBulk d + 1
  | (_, d) => uptoBulk d + 1
 end
def uptoSmall : (H : Type) → List (DataW H) → Bool := fun _ ds => decide (uptoBulkAll ds ≤ 1048576)
def OpenSpec.upto (s : _root_.Go.ChangeSpec) : _root_.Go.OpenSpec := { _root_.Go.OpenSpec.ofChange s with cond := some uptoSmall }

/-- 'laws.FnExactBalancedAdd', WHERE WHAT IT READS IS OF BULK AT MOST 1048576: true; the input reads as it did. -/
def fnExactBalancedAddUptoRow : OpenClaim := { program := "ytdflpocnfodbhac", sum := "4076793b4da62058e2c7efe49869973b644270e8b5dccb6aad5db5687b695785", func := "loop.example/g03203/laws.FnExactBalancedAdd", spec := "fnExactBalancedAdd", apart := false, narrowed := true }
def FnExactBalancedAddUptoSaid : Prop := fnExactBalancedAddUptoRow.holds Try.pinned (OpenSpec.upto fnExactBalancedAddSpec)

/-- 'laws.FnExactBalancedCompare', WHERE WHAT IT READS IS OF BULK AT MOST 1048576: true; the input reads as it did. -/
def fnExactBalancedCompareUptoRow : OpenClaim := { program := "ytdflpocnfodbhac", sum := "4076793b4da62058e2c7efe49869973b644270e8b5dccb6aad5db5687b695785", func := "loop.example/g03203/laws.FnExactBalancedCompare", spec := "fnExactBalancedCompare", apart := false, narrowed := true }
def FnExactBalancedCompareUptoSaid : Prop := fnExactBalancedCompareUptoRow.holds Try.pinned (OpenSpec.upto fnExactBalancedCompareSpec)

/-- 'laws.FnExactDropPlaces', WHERE WHAT IT READS IS OF BULK AT MOST 1048576: true; the input reads as it did. -/
def fnExactDropPlacesUptoRow : OpenClaim := { program := "ytdflpocnfodbhac", sum := "4076793b4da62058e2c7efe49869973b644270e8b5dccb6aad5db5687b695785", func := "loop.example/g03203/laws.FnExactDropPlaces", spec := "fnExactDropPlaces", apart := false, narrowed := true }
def FnExactDropPlacesUptoSaid : Prop := fnExactDropPlacesUptoRow.holds Try.pinned (OpenSpec.upto fnExactDropPlacesSpec)

/-- 'laws.FnExactFormatBalanced', WHERE WHAT IT READS IS OF BULK AT MOST 1048576: true; the input reads as it did. -/
def fnExactFormatBalancedUptoRow : OpenClaim := { program := "ytdflpocnfodbhac", sum := "4076793b4da62058e2c7efe49869973b644270e8b5dccb6aad5db5687b695785", func := "loop.example/g03203/laws.FnExactFormatBalanced", spec := "fnExactFormatBalanced", inPlace := ["internal/abi.NoEscape"], unfollowed := true, recurses := true, apart := false, narrowed := true }
def FnExactFormatBalancedUptoSaid : Prop := fnExactFormatBalancedUptoRow.holds Try.pinned (OpenSpec.upto fnExactFormatBalancedSpec)

/-- 'laws.FnExactParseBalanced', WHERE WHAT IT READS IS OF BULK AT MOST 1048576: true; the input reads as it did. -/
def fnExactParseBalancedUptoRow : OpenClaim := { program := "ytdflpocnfodbhac", sum := "4076793b4da62058e2c7efe49869973b644270e8b5dccb6aad5db5687b695785", func := "loop.example/g03203/laws.FnExactParseBalanced", spec := "fnExactParseBalanced", inPlace := ["internal/bytealg.IndexByteString"], apart := false, narrowed := true }
def FnExactParseBalancedUptoSaid : Prop := fnExactParseBalancedUptoRow.holds Try.pinned (OpenSpec.upto fnExactParseBalancedSpec)

/-- 'laws.FnExactSignedOk', WHERE WHAT IT READS IS OF BULK AT MOST 1048576: true; the input reads as it did. -/
def fnExactSignedOkUptoRow : OpenClaim := { program := "ytdflpocnfodbhac", sum := "4076793b4da62058e2c7efe49869973b644270e8b5dccb6aad5db5687b695785", func := "loop.example/g03203/laws.FnExactSignedOk", spec := "fnExactSignedOk", apart := false, narrowed := true }
def FnExactSignedOkUptoSaid : Prop := fnExactSignedOkUptoRow.holds Try.pinned (OpenSpec.upto fnExactSignedOkSpec)

/-- 'laws.FnExactSignedValue', WHERE WHAT IT READS IS OF BULK AT MOST 1048576: true; the input reads as it did. -/
def fnExactSignedValueUptoRow : OpenClaim := { program := "ytdflpocnfodbhac", sum := "4076793b4da62058e2c7efe49869973b644270e8b5dccb6aad5db5687b695785", func := "loop.example/g03203/laws.FnExactSignedValue", spec := "fnExactSignedValue", unfollowed := true, recurses := true, apart := false, narrowed := true }
def FnExactSignedValueUptoSaid : Prop := fnExactSignedValueUptoRow.holds Try.pinned (OpenSpec.upto fnExactSignedValueSpec)

/-- 'laws.FnExactIsSparse', WHERE WHAT IT READS IS OF BULK AT MOST 1048576: true; the input reads as it did. -/
def fnExactIsSparseUptoRow : OpenClaim := { program := "ytdflpocnfodbhac", sum := "4076793b4da62058e2c7efe49869973b644270e8b5dccb6aad5db5687b695785", func := "loop.example/g03203/laws.FnExactIsSparse", spec := "fnExactIsSparse", apart := false, narrowed := true }
def FnExactIsSparseUptoSaid : Prop := fnExactIsSparseUptoRow.holds Try.pinned (OpenSpec.upto fnExactIsSparseSpec)

/-- 'laws.FnExactWeightOf', WHERE WHAT IT READS IS OF BULK AT MOST 1048576: true; the input reads as it did. -/
def fnExactWeightOfUptoRow : OpenClaim := { program := "ytdflpocnfodbhac", sum := "4076793b4da62058e2c7efe49869973b644270e8b5dccb6aad5db5687b695785", func := "loop.example/g03203/laws.FnExactWeightOf", spec := "fnExactWeightOf", apart := false, narrowed := true }
def FnExactWeightOfUptoSaid : Prop := fnExactWeightOfUptoRow.holds Try.pinned (OpenSpec.upto fnExactWeightOfSpec)

/-- 'laws.FnExactLeastWeight', WHERE WHAT IT READS IS OF BULK AT MOST 1048576: true; the input reads as it did. -/
def fnExactLeastWeightUptoRow : OpenClaim := { program := "ytdflpocnfodbhac", sum := "4076793b4da62058e2c7efe49869973b644270e8b5dccb6aad5db5687b695785", func := "loop.example/g03203/laws.FnExactLeastWeight", spec := "fnExactLeastWeight", apart := false, narrowed := true }
def FnExactLeastWeightUptoSaid : Prop := fnExactLeastWeightUptoRow.holds Try.pinned (OpenSpec.upto fnExactLeastWeightSpec)

/-- 'laws.FnExactStepsOf', WHERE WHAT IT READS IS OF BULK AT MOST 1048576: true; the input reads as it did. -/
def fnExactStepsOfUptoRow : OpenClaim := { program := "ytdflpocnfodbhac", sum := "4076793b4da62058e2c7efe49869973b644270e8b5dccb6aad5db5687b695785", func := "loop.example/g03203/laws.FnExactStepsOf", spec := "fnExactStepsOf", apart := false, narrowed := true }
def FnExactStepsOfUptoSaid : Prop := fnExactStepsOfUptoRow.holds Try.pinned (OpenSpec.upto fnExactStepsOfSpec)

/-- 'laws.FnExactRewriteSigned', WHERE WHAT IT READS IS OF BULK AT MOST 1048576: true; the input reads as it did. -/
def fnExactRewriteSignedUptoRow : OpenClaim := { program := "ytdflpocnfodbhac", sum := "4076793b4da62058e2c7efe49869973b644270e8b5dccb6aad5db5687b695785", func := "loop.example/g03203/laws.FnExactRewriteSigned", spec := "fnExactRewriteSigned", apart := false, narrowed := true }
def FnExactRewriteSignedUptoSaid : Prop := fnExactRewriteSignedUptoRow.holds Try.pinned (OpenSpec.upto fnExactRewriteSignedSpec)

end Rows
end Go.Proofs.Ytdflpocnfodbhac
