/-
  No cell of these rows narrows 'for every input' (looked for: loops, veiled, ifaces, maps, wideKeys, modest, calm, conditions, laid).
  DERIVED. THE GIVEN ROWS OF THIS SEAT. 9 by the template 'for every input the law returns true; each argument reads behind the call as it read before'; 0 by the template 'total and deterministic' (their statements: YtjdijmccpihkhaaTotals.lean).
  GIVEN WITH THE SEED: the statements are not yours to turn. If you find one false, say at which input.
  Laid BY PROGRAM, IN A SANDBOX (cutbox-rows.mjs): the forced cells as the released guide's own fill.sh prints them over the translation 9899f395760df289… (all of the seat's roots in one cut). By AI agents, Wed Nov 11 2026. No macro, syntax, notation, axiom, sorry.
-/
import Derived.Test.YtjdijmccpihkhaaChecked
import GoSem.Claim
import GoSem.ClaimJoined
import GoSem.ClaimMapViews
import Derived.JoinedTies
import Derived.KernelRfl
namespace Go.Proofs.Ytjdijmccpihkhaa
/- THE CELL 'sum', in the pinned program and in every row, IS THE sha256 OF THE DUMP (.gsa) THAT YtjdijmccpihkhaaProg.lean LOADS. Nothing in Lean hashes anything: it is a label: what it is worth is what the hold of that sum in a sandbox is worth. -/
noncomputable def Try.pinned : Pinned := { name := "ytjdijmccpihkhaa", sum := "9899f395760df28930fccaac2a9dca7e45a4798dcf8366e24774e0bd98da7551", checked := Try.checked }
namespace Rows
def none {H : Type} : Left H := { results := [], args := [] }

/-- 'laws.FnSubsets': WHATEVER THE INPUT: true; the input reads as it did. -/
def fnSubsetsSpec : ChangeSpec := { name := "fnSubsets", fn := fun _ => fun
  | [d] => { results := [.lit (.bool true)], args := [d] }
  | _ => none }
def fnSubsetsRow : OpenClaim := { program := "ytjdijmccpihkhaa", sum := "9899f395760df28930fccaac2a9dca7e45a4798dcf8366e24774e0bd98da7551", func := "loop.example/g03203/laws.FnSubsets", spec := "fnSubsets", unfollowed := true, recurses := true, leaving := true, apart := false }
def FnSubsetsSaid : Prop := fnSubsetsRow.holds Try.pinned (OpenSpec.ofChange fnSubsetsSpec)

/-- ITS FALSE NEIGHBOUR: 'it returns false'. Refute it at one input. -/
def fnSubsetsWrong : ChangeSpec := { name := "fnSubsets", fn := fun _ => fun
  | [d] => { results := [.lit (.bool false)], args := [d] }
  | _ => none }
def FnSubsetsWrongFalsely : Prop := fnSubsetsRow.holds Try.pinned (OpenSpec.ofChange fnSubsetsWrong)

/-- 'laws.FnExactBinomial': WHATEVER THE INPUT: true; the input reads as it did. -/
def fnExactBinomialSpec : ChangeSpec := { name := "fnExactBinomial", fn := fun _ => fun
  | [d1, d2] => { results := [.lit (.bool true)], args := [d1, d2] }
  | _ => none }
def fnExactBinomialRow : OpenClaim := { program := "ytjdijmccpihkhaa", sum := "9899f395760df28930fccaac2a9dca7e45a4798dcf8366e24774e0bd98da7551", func := "loop.example/g03203/laws.FnExactBinomial", spec := "fnExactBinomial", apart := false }
def FnExactBinomialSaid : Prop := fnExactBinomialRow.holds Try.pinned (OpenSpec.ofChange fnExactBinomialSpec)

/-- ITS FALSE NEIGHBOUR: 'it returns false'. Refute it at one input. -/
def fnExactBinomialWrong : ChangeSpec := { name := "fnExactBinomial", fn := fun _ => fun
  | [d1, d2] => { results := [.lit (.bool false)], args := [d1, d2] }
  | _ => none }
def FnExactBinomialWrongFalsely : Prop := fnExactBinomialRow.holds Try.pinned (OpenSpec.ofChange fnExactBinomialWrong)

/-- 'laws.FnExactSubsetOk': WHATEVER THE INPUT: true; the input reads as it did. -/
def fnExactSubsetOkSpec : ChangeSpec := { name := "fnExactSubsetOk", fn := fun _ => fun
  | [d1, d2] => { results := [.lit (.bool true)], args := [d1, d2] }
  | _ => none }
def fnExactSubsetOkRow : OpenClaim := { program := "ytjdijmccpihkhaa", sum := "9899f395760df28930fccaac2a9dca7e45a4798dcf8366e24774e0bd98da7551", func := "loop.example/g03203/laws.FnExactSubsetOk", spec := "fnExactSubsetOk", apart := false }
def FnExactSubsetOkSaid : Prop := fnExactSubsetOkRow.holds Try.pinned (OpenSpec.ofChange fnExactSubsetOkSpec)

/-- ITS FALSE NEIGHBOUR: 'it returns false'. Refute it at one input. -/
def fnExactSubsetOkWrong : ChangeSpec := { name := "fnExactSubsetOk", fn := fun _ => fun
  | [d1, d2] => { results := [.lit (.bool false)], args := [d1, d2] }
  | _ => none }
def FnExactSubsetOkWrongFalsely : Prop := fnExactSubsetOkRow.holds Try.pinned (OpenSpec.ofChange fnExactSubsetOkWrong)

/-- 'laws.FnExactSubsetRank': WHATEVER THE INPUT: true; the input reads as it did. -/
def fnExactSubsetRankSpec : ChangeSpec := { name := "fnExactSubsetRank", fn := fun _ => fun
  | [d] => { results := [.lit (.bool true)], args := [d] }
  | _ => none }
def fnExactSubsetRankRow : OpenClaim := { program := "ytjdijmccpihkhaa", sum := "9899f395760df28930fccaac2a9dca7e45a4798dcf8366e24774e0bd98da7551", func := "loop.example/g03203/laws.FnExactSubsetRank", spec := "fnExactSubsetRank", apart := false }
def FnExactSubsetRankSaid : Prop := fnExactSubsetRankRow.holds Try.pinned (OpenSpec.ofChange fnExactSubsetRankSpec)

/-- ITS FALSE NEIGHBOUR: 'it returns false'. Refute it at one input. -/
def fnExactSubsetRankWrong : ChangeSpec := { name := "fnExactSubsetRank", fn := fun _ => fun
  | [d] => { results := [.lit (.bool false)], args := [d] }
  | _ => none }
def FnExactSubsetRankWrongFalsely : Prop := fnExactSubsetRankRow.holds Try.pinned (OpenSpec.ofChange fnExactSubsetRankWrong)

/-- 'laws.FnExactSubsetAt': WHATEVER THE INPUT: true; the input reads as it did. -/
def fnExactSubsetAtSpec : ChangeSpec := { name := "fnExactSubsetAt", fn := fun _ => fun
  | [d1, d2] => { results := [.lit (.bool true)], args := [d1, d2] }
  | _ => none }
def fnExactSubsetAtRow : OpenClaim := { program := "ytjdijmccpihkhaa", sum := "9899f395760df28930fccaac2a9dca7e45a4798dcf8366e24774e0bd98da7551", func := "loop.example/g03203/laws.FnExactSubsetAt", spec := "fnExactSubsetAt", unfollowed := true, recurses := true, leaving := true, apart := false }
def FnExactSubsetAtSaid : Prop := fnExactSubsetAtRow.holds Try.pinned (OpenSpec.ofChange fnExactSubsetAtSpec)

/-- ITS FALSE NEIGHBOUR: 'it returns false'. Refute it at one input. -/
def fnExactSubsetAtWrong : ChangeSpec := { name := "fnExactSubsetAt", fn := fun _ => fun
  | [d1, d2] => { results := [.lit (.bool false)], args := [d1, d2] }
  | _ => none }
def FnExactSubsetAtWrongFalsely : Prop := fnExactSubsetAtRow.holds Try.pinned (OpenSpec.ofChange fnExactSubsetAtWrong)

/-- 'laws.FnExactNextSubset': WHATEVER THE INPUT: true; the input reads as it did. -/
def fnExactNextSubsetSpec : ChangeSpec := { name := "fnExactNextSubset", fn := fun _ => fun
  | [d] => { results := [.lit (.bool true)], args := [d] }
  | _ => none }
def fnExactNextSubsetRow : OpenClaim := { program := "ytjdijmccpihkhaa", sum := "9899f395760df28930fccaac2a9dca7e45a4798dcf8366e24774e0bd98da7551", func := "loop.example/g03203/laws.FnExactNextSubset", spec := "fnExactNextSubset", unfollowed := true, recurses := true, leaving := true, apart := false }
def FnExactNextSubsetSaid : Prop := fnExactNextSubsetRow.holds Try.pinned (OpenSpec.ofChange fnExactNextSubsetSpec)

/-- ITS FALSE NEIGHBOUR: 'it returns false'. Refute it at one input. -/
def fnExactNextSubsetWrong : ChangeSpec := { name := "fnExactNextSubset", fn := fun _ => fun
  | [d] => { results := [.lit (.bool false)], args := [d] }
  | _ => none }
def FnExactNextSubsetWrongFalsely : Prop := fnExactNextSubsetRow.holds Try.pinned (OpenSpec.ofChange fnExactNextSubsetWrong)

/-- 'laws.FnExactMaskOf': WHATEVER THE INPUT: true; the input reads as it did. -/
def fnExactMaskOfSpec : ChangeSpec := { name := "fnExactMaskOf", fn := fun _ => fun
  | [d] => { results := [.lit (.bool true)], args := [d] }
  | _ => none }
def fnExactMaskOfRow : OpenClaim := { program := "ytjdijmccpihkhaa", sum := "9899f395760df28930fccaac2a9dca7e45a4798dcf8366e24774e0bd98da7551", func := "loop.example/g03203/laws.FnExactMaskOf", spec := "fnExactMaskOf", apart := false }
def FnExactMaskOfSaid : Prop := fnExactMaskOfRow.holds Try.pinned (OpenSpec.ofChange fnExactMaskOfSpec)

/-- ITS FALSE NEIGHBOUR: 'it returns false'. Refute it at one input. -/
def fnExactMaskOfWrong : ChangeSpec := { name := "fnExactMaskOf", fn := fun _ => fun
  | [d] => { results := [.lit (.bool false)], args := [d] }
  | _ => none }
def FnExactMaskOfWrongFalsely : Prop := fnExactMaskOfRow.holds Try.pinned (OpenSpec.ofChange fnExactMaskOfWrong)

/-- 'laws.FnExactSubsetOf': WHATEVER THE INPUT: true; the input reads as it did. -/
def fnExactSubsetOfSpec : ChangeSpec := { name := "fnExactSubsetOf", fn := fun _ => fun
  | [d] => { results := [.lit (.bool true)], args := [d] }
  | _ => none }
def fnExactSubsetOfRow : OpenClaim := { program := "ytjdijmccpihkhaa", sum := "9899f395760df28930fccaac2a9dca7e45a4798dcf8366e24774e0bd98da7551", func := "loop.example/g03203/laws.FnExactSubsetOf", spec := "fnExactSubsetOf", unfollowed := true, recurses := true, leaving := true, apart := false }
def FnExactSubsetOfSaid : Prop := fnExactSubsetOfRow.holds Try.pinned (OpenSpec.ofChange fnExactSubsetOfSpec)

/-- ITS FALSE NEIGHBOUR: 'it returns false'. Refute it at one input. -/
def fnExactSubsetOfWrong : ChangeSpec := { name := "fnExactSubsetOf", fn := fun _ => fun
  | [d] => { results := [.lit (.bool false)], args := [d] }
  | _ => none }
def FnExactSubsetOfWrongFalsely : Prop := fnExactSubsetOfRow.holds Try.pinned (OpenSpec.ofChange fnExactSubsetOfWrong)

/-- 'laws.FnExactOtherSubset': WHATEVER THE INPUT: true; the input reads as it did. -/
def fnExactOtherSubsetSpec : ChangeSpec := { name := "fnExactOtherSubset", fn := fun _ => fun
  | [d1, d2] => { results := [.lit (.bool true)], args := [d1, d2] }
  | _ => none }
def fnExactOtherSubsetRow : OpenClaim := { program := "ytjdijmccpihkhaa", sum := "9899f395760df28930fccaac2a9dca7e45a4798dcf8366e24774e0bd98da7551", func := "loop.example/g03203/laws.FnExactOtherSubset", spec := "fnExactOtherSubset", unfollowed := true, recurses := true, leaving := true, apart := false }
def FnExactOtherSubsetSaid : Prop := fnExactOtherSubsetRow.holds Try.pinned (OpenSpec.ofChange fnExactOtherSubsetSpec)

/-- ITS FALSE NEIGHBOUR: 'it returns false'. Refute it at one input. -/
def fnExactOtherSubsetWrong : ChangeSpec := { name := "fnExactOtherSubset", fn := fun _ => fun
  | [d1, d2] => { results := [.lit (.bool false)], args := [d1, d2] }
  | _ => none }
def FnExactOtherSubsetWrongFalsely : Prop := fnExactOtherSubsetRow.holds Try.pinned (OpenSpec.ofChange fnExactOtherSubsetWrong)

/- THE SECOND FORM. 'bulk': how many values and letters a reading holds, each counted each time it is reached (what is shared counts as often as it is met; a slice's spare places count too). A statement '..UptoSaid' is the law's where the arguments, and the package variables that the reading takes, are together of bulk at most 1048576: NARROWER than '..Said'. Prove '..Said' where nothing that the law and all that it calls make is longer than what came in: it says more and counts as full. Else prove '..UptoSaid'. A law counts once. -/
mutual
def uptoBulk {H : Type} : DataW H → Nat
  | .lit (.string bytes) => bytes.length + 1
  | .lit _ => 1
  | .nil => 1
  | .ptr d => uptoBulk d + 1
  | .slice elems spare => uptoBulkAll elems + uptoBulkAll spare + 1
  | .agg parts => uptoBulkAll parts + 1
  | .iface _ d => uptoBulk d + 1
  | .map entries => uptoBulkEntries entries + 1
  | .held _ => 1
def uptoBulkAll {H : Type} : List (DataW H) → Nat
  | [] => 0
  | d :: r => uptoBulk d + uptoBulkAll r
def uptoBulkEntries {H : Type} : List (Lit × DataW H) → Nat
  | [] => 0
  | x :: r => uptoBulkEntry x + uptoBulkEntries r
def uptoBulkEntry {H : Type} : Lit × DataW H → Nat
  | (.string bytes, d) => bytes.length + uptoBulk d + 1
  | (_, d) => uptoBulk d + 1
 end
def uptoSmall : (H : Type) → List (DataW H) → Bool := fun _ ds => decide (uptoBulkAll ds ≤ 1048576)
def OpenSpec.upto (s : _root_.Go.ChangeSpec) : _root_.Go.OpenSpec := { _root_.Go.OpenSpec.ofChange s with cond := some uptoSmall }

/-- 'laws.FnSubsets', WHERE WHAT IT READS IS OF BULK AT MOST 1048576: true; the input reads as it did. -/
def fnSubsetsUptoRow : OpenClaim := { program := "ytjdijmccpihkhaa", sum := "9899f395760df28930fccaac2a9dca7e45a4798dcf8366e24774e0bd98da7551", func := "loop.example/g03203/laws.FnSubsets", spec := "fnSubsets", unfollowed := true, recurses := true, leaving := true, apart := false, narrowed := true }
def FnSubsetsUptoSaid : Prop := fnSubsetsUptoRow.holds Try.pinned (OpenSpec.upto fnSubsetsSpec)

/-- 'laws.FnExactBinomial', WHERE WHAT IT READS IS OF BULK AT MOST 1048576: true; the input reads as it did. -/
def fnExactBinomialUptoRow : OpenClaim := { program := "ytjdijmccpihkhaa", sum := "9899f395760df28930fccaac2a9dca7e45a4798dcf8366e24774e0bd98da7551", func := "loop.example/g03203/laws.FnExactBinomial", spec := "fnExactBinomial", apart := false, narrowed := true }
def FnExactBinomialUptoSaid : Prop := fnExactBinomialUptoRow.holds Try.pinned (OpenSpec.upto fnExactBinomialSpec)

/-- 'laws.FnExactSubsetOk', WHERE WHAT IT READS IS OF BULK AT MOST 1048576: true; the input reads as it did. -/
def fnExactSubsetOkUptoRow : OpenClaim := { program := "ytjdijmccpihkhaa", sum := "9899f395760df28930fccaac2a9dca7e45a4798dcf8366e24774e0bd98da7551", func := "loop.example/g03203/laws.FnExactSubsetOk", spec := "fnExactSubsetOk", apart := false, narrowed := true }
def FnExactSubsetOkUptoSaid : Prop := fnExactSubsetOkUptoRow.holds Try.pinned (OpenSpec.upto fnExactSubsetOkSpec)

/-- 'laws.FnExactSubsetRank', WHERE WHAT IT READS IS OF BULK AT MOST 1048576: true; the input reads as it did. -/
def fnExactSubsetRankUptoRow : OpenClaim := { program := "ytjdijmccpihkhaa", sum := "9899f395760df28930fccaac2a9dca7e45a4798dcf8366e24774e0bd98da7551", func := "loop.example/g03203/laws.FnExactSubsetRank", spec := "fnExactSubsetRank", apart := false, narrowed := true }
def FnExactSubsetRankUptoSaid : Prop := fnExactSubsetRankUptoRow.holds Try.pinned (OpenSpec.upto fnExactSubsetRankSpec)

/-- 'laws.FnExactSubsetAt', WHERE WHAT IT READS IS OF BULK AT MOST 1048576: true; the input reads as it did. -/
def fnExactSubsetAtUptoRow : OpenClaim := { program := "ytjdijmccpihkhaa", sum := "9899f395760df28930fccaac2a9dca7e45a4798dcf8366e24774e0bd98da7551", func := "loop.example/g03203/laws.FnExactSubsetAt", spec := "fnExactSubsetAt", unfollowed := true, recurses := true, leaving := true, apart := false, narrowed := true }
def FnExactSubsetAtUptoSaid : Prop := fnExactSubsetAtUptoRow.holds Try.pinned (OpenSpec.upto fnExactSubsetAtSpec)

/-- 'laws.FnExactNextSubset', WHERE WHAT IT READS IS OF BULK AT MOST 1048576: true; the input reads as it did. -/
def fnExactNextSubsetUptoRow : OpenClaim := { program := "ytjdijmccpihkhaa", sum := "9899f395760df28930fccaac2a9dca7e45a4798dcf8366e24774e0bd98da7551", func := "loop.example/g03203/laws.FnExactNextSubset", spec := "fnExactNextSubset", unfollowed := true, recurses := true, leaving := true, apart := false, narrowed := true }
def FnExactNextSubsetUptoSaid : Prop := fnExactNextSubsetUptoRow.holds Try.pinned (OpenSpec.upto fnExactNextSubsetSpec)

/-- 'laws.FnExactMaskOf', WHERE WHAT IT READS IS OF BULK AT MOST 1048576: true; the input reads as it did. -/
def fnExactMaskOfUptoRow : OpenClaim := { program := "ytjdijmccpihkhaa", sum := "9899f395760df28930fccaac2a9dca7e45a4798dcf8366e24774e0bd98da7551", func := "loop.example/g03203/laws.FnExactMaskOf", spec := "fnExactMaskOf", apart := false, narrowed := true }
def FnExactMaskOfUptoSaid : Prop := fnExactMaskOfUptoRow.holds Try.pinned (OpenSpec.upto fnExactMaskOfSpec)

/-- 'laws.FnExactSubsetOf', WHERE WHAT IT READS IS OF BULK AT MOST 1048576: true; the input reads as it did. -/
def fnExactSubsetOfUptoRow : OpenClaim := { program := "ytjdijmccpihkhaa", sum := "9899f395760df28930fccaac2a9dca7e45a4798dcf8366e24774e0bd98da7551", func := "loop.example/g03203/laws.FnExactSubsetOf", spec := "fnExactSubsetOf", unfollowed := true, recurses := true, leaving := true, apart := false, narrowed := true }
def FnExactSubsetOfUptoSaid : Prop := fnExactSubsetOfUptoRow.holds Try.pinned (OpenSpec.upto fnExactSubsetOfSpec)

/-- 'laws.FnExactOtherSubset', WHERE WHAT IT READS IS OF BULK AT MOST 1048576: true; the input reads as it did. -/
def fnExactOtherSubsetUptoRow : OpenClaim := { program := "ytjdijmccpihkhaa", sum := "9899f395760df28930fccaac2a9dca7e45a4798dcf8366e24774e0bd98da7551", func := "loop.example/g03203/laws.FnExactOtherSubset", spec := "fnExactOtherSubset", unfollowed := true, recurses := true, leaving := true, apart := false, narrowed := true }
def FnExactOtherSubsetUptoSaid : Prop := fnExactOtherSubsetUptoRow.holds Try.pinned (OpenSpec.upto fnExactOtherSubsetSpec)

end Rows
end Go.Proofs.Ytjdijmccpihkhaa
