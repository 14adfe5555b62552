/-
  No cell of these rows narrows 'for every input' (looked for: loops, veiled, ifaces, maps, wideKeys, modest, calm, conditions, laid).
  DERIVED. THE GIVEN ROWS OF THIS SEAT. 10 by the template 'for every input the law returns true; each argument reads behind the call as it read before'; 0 by the template 'total and deterministic' (their statements: YtdpeleepfjhefaaTotals.lean).
  GIVEN WITH THE SEED: the statements are not yours to turn. If you find one false, say at which input.
  Laid BY PROGRAM, IN A SANDBOX (cutbox-rows.mjs): the forced cells as the released guide's own fill.sh prints them over the translation c53a89c5331c1828… (all of the seat's roots in one cut). By AI agents, Wed Nov 11 2026. No macro, syntax, notation, axiom, sorry.
-/
import Derived.Test.YtdpeleepfjhefaaChecked
import GoSem.Claim
import GoSem.ClaimJoined
import GoSem.ClaimMapViews
import Derived.JoinedTies
import Derived.KernelRfl
namespace Go.Proofs.Ytdpeleepfjhefaa
/- THE CELL 'sum', in the pinned program and in every row, IS THE sha256 OF THE DUMP (.gsa) THAT YtdpeleepfjhefaaProg.lean LOADS. Nothing in Lean hashes anything: it is a label: what it is worth is what the hold of that sum in a sandbox is worth. -/
noncomputable def Try.pinned : Pinned := { name := "ytdpeleepfjhefaa", sum := "c53a89c5331c18285668b60daf944d2f193ff9f1a27d3aceca1bf7ece6022a97", checked := Try.checked }
namespace Rows
def none {H : Type} : Left H := { results := [], args := [] }

/-- 'laws.FnPermutations': WHATEVER THE INPUT: true; the input reads as it did. -/
def fnPermutationsSpec : ChangeSpec := { name := "fnPermutations", fn := fun _ => fun
  | [d] => { results := [.lit (.bool true)], args := [d] }
  | _ => none }
def fnPermutationsRow : OpenClaim := { program := "ytdpeleepfjhefaa", sum := "c53a89c5331c18285668b60daf944d2f193ff9f1a27d3aceca1bf7ece6022a97", func := "loop.example/g03203/laws.FnPermutations", spec := "fnPermutations", unfollowed := true, recurses := true, apart := false }
def FnPermutationsSaid : Prop := fnPermutationsRow.holds Try.pinned (OpenSpec.ofChange fnPermutationsSpec)

/-- ITS FALSE NEIGHBOUR: 'it returns false'. Refute it at one input. -/
def fnPermutationsWrong : ChangeSpec := { name := "fnPermutations", fn := fun _ => fun
  | [d] => { results := [.lit (.bool false)], args := [d] }
  | _ => none }
def FnPermutationsWrongFalsely : Prop := fnPermutationsRow.holds Try.pinned (OpenSpec.ofChange fnPermutationsWrong)

/-- 'laws.FnExactFactorial': WHATEVER THE INPUT: true; the input reads as it did. -/
def fnExactFactorialSpec : ChangeSpec := { name := "fnExactFactorial", fn := fun _ => fun
  | [d] => { results := [.lit (.bool true)], args := [d] }
  | _ => none }
def fnExactFactorialRow : OpenClaim := { program := "ytdpeleepfjhefaa", sum := "c53a89c5331c18285668b60daf944d2f193ff9f1a27d3aceca1bf7ece6022a97", func := "loop.example/g03203/laws.FnExactFactorial", spec := "fnExactFactorial", apart := false }
def FnExactFactorialSaid : Prop := fnExactFactorialRow.holds Try.pinned (OpenSpec.ofChange fnExactFactorialSpec)

/-- ITS FALSE NEIGHBOUR: 'it returns false'. Refute it at one input. -/
def fnExactFactorialWrong : ChangeSpec := { name := "fnExactFactorial", fn := fun _ => fun
  | [d] => { results := [.lit (.bool false)], args := [d] }
  | _ => none }
def FnExactFactorialWrongFalsely : Prop := fnExactFactorialRow.holds Try.pinned (OpenSpec.ofChange fnExactFactorialWrong)

/-- 'laws.FnExactFactorialDigits': WHATEVER THE INPUT: true; the input reads as it did. -/
def fnExactFactorialDigitsSpec : ChangeSpec := { name := "fnExactFactorialDigits", fn := fun _ => fun
  | [d1, d2] => { results := [.lit (.bool true)], args := [d1, d2] }
  | _ => none }
def fnExactFactorialDigitsRow : OpenClaim := { program := "ytdpeleepfjhefaa", sum := "c53a89c5331c18285668b60daf944d2f193ff9f1a27d3aceca1bf7ece6022a97", func := "loop.example/g03203/laws.FnExactFactorialDigits", spec := "fnExactFactorialDigits", apart := false }
def FnExactFactorialDigitsSaid : Prop := fnExactFactorialDigitsRow.holds Try.pinned (OpenSpec.ofChange fnExactFactorialDigitsSpec)

/-- ITS FALSE NEIGHBOUR: 'it returns false'. Refute it at one input. -/
def fnExactFactorialDigitsWrong : ChangeSpec := { name := "fnExactFactorialDigits", fn := fun _ => fun
  | [d1, d2] => { results := [.lit (.bool false)], args := [d1, d2] }
  | _ => none }
def FnExactFactorialDigitsWrongFalsely : Prop := fnExactFactorialDigitsRow.holds Try.pinned (OpenSpec.ofChange fnExactFactorialDigitsWrong)

/-- 'laws.FnExactFactorialValue': WHATEVER THE INPUT: true; the input reads as it did. -/
def fnExactFactorialValueSpec : ChangeSpec := { name := "fnExactFactorialValue", fn := fun _ => fun
  | [d] => { results := [.lit (.bool true)], args := [d] }
  | _ => none }
def fnExactFactorialValueRow : OpenClaim := { program := "ytdpeleepfjhefaa", sum := "c53a89c5331c18285668b60daf944d2f193ff9f1a27d3aceca1bf7ece6022a97", func := "loop.example/g03203/laws.FnExactFactorialValue", spec := "fnExactFactorialValue", apart := false }
def FnExactFactorialValueSaid : Prop := fnExactFactorialValueRow.holds Try.pinned (OpenSpec.ofChange fnExactFactorialValueSpec)

/-- ITS FALSE NEIGHBOUR: 'it returns false'. Refute it at one input. -/
def fnExactFactorialValueWrong : ChangeSpec := { name := "fnExactFactorialValue", fn := fun _ => fun
  | [d] => { results := [.lit (.bool false)], args := [d] }
  | _ => none }
def FnExactFactorialValueWrongFalsely : Prop := fnExactFactorialValueRow.holds Try.pinned (OpenSpec.ofChange fnExactFactorialValueWrong)

/-- 'laws.FnExactPermutationOk': WHATEVER THE INPUT: true; the input reads as it did. -/
def fnExactPermutationOkSpec : ChangeSpec := { name := "fnExactPermutationOk", fn := fun _ => fun
  | [d] => { results := [.lit (.bool true)], args := [d] }
  | _ => none }
def fnExactPermutationOkRow : OpenClaim := { program := "ytdpeleepfjhefaa", sum := "c53a89c5331c18285668b60daf944d2f193ff9f1a27d3aceca1bf7ece6022a97", func := "loop.example/g03203/laws.FnExactPermutationOk", spec := "fnExactPermutationOk", apart := false }
def FnExactPermutationOkSaid : Prop := fnExactPermutationOkRow.holds Try.pinned (OpenSpec.ofChange fnExactPermutationOkSpec)

/-- ITS FALSE NEIGHBOUR: 'it returns false'. Refute it at one input. -/
def fnExactPermutationOkWrong : ChangeSpec := { name := "fnExactPermutationOk", fn := fun _ => fun
  | [d] => { results := [.lit (.bool false)], args := [d] }
  | _ => none }
def FnExactPermutationOkWrongFalsely : Prop := fnExactPermutationOkRow.holds Try.pinned (OpenSpec.ofChange fnExactPermutationOkWrong)

/-- 'laws.FnExactLehmerOf': WHATEVER THE INPUT: true; the input reads as it did. -/
def fnExactLehmerOfSpec : ChangeSpec := { name := "fnExactLehmerOf", fn := fun _ => fun
  | [d] => { results := [.lit (.bool true)], args := [d] }
  | _ => none }
def fnExactLehmerOfRow : OpenClaim := { program := "ytdpeleepfjhefaa", sum := "c53a89c5331c18285668b60daf944d2f193ff9f1a27d3aceca1bf7ece6022a97", func := "loop.example/g03203/laws.FnExactLehmerOf", spec := "fnExactLehmerOf", apart := false }
def FnExactLehmerOfSaid : Prop := fnExactLehmerOfRow.holds Try.pinned (OpenSpec.ofChange fnExactLehmerOfSpec)

/-- ITS FALSE NEIGHBOUR: 'it returns false'. Refute it at one input. -/
def fnExactLehmerOfWrong : ChangeSpec := { name := "fnExactLehmerOf", fn := fun _ => fun
  | [d] => { results := [.lit (.bool false)], args := [d] }
  | _ => none }
def FnExactLehmerOfWrongFalsely : Prop := fnExactLehmerOfRow.holds Try.pinned (OpenSpec.ofChange fnExactLehmerOfWrong)

/-- 'laws.FnExactRankOf': WHATEVER THE INPUT: true; the input reads as it did. -/
def fnExactRankOfSpec : ChangeSpec := { name := "fnExactRankOf", fn := fun _ => fun
  | [d] => { results := [.lit (.bool true)], args := [d] }
  | _ => none }
def fnExactRankOfRow : OpenClaim := { program := "ytdpeleepfjhefaa", sum := "c53a89c5331c18285668b60daf944d2f193ff9f1a27d3aceca1bf7ece6022a97", func := "loop.example/g03203/laws.FnExactRankOf", spec := "fnExactRankOf", apart := false }
def FnExactRankOfSaid : Prop := fnExactRankOfRow.holds Try.pinned (OpenSpec.ofChange fnExactRankOfSpec)

/-- ITS FALSE NEIGHBOUR: 'it returns false'. Refute it at one input. -/
def fnExactRankOfWrong : ChangeSpec := { name := "fnExactRankOf", fn := fun _ => fun
  | [d] => { results := [.lit (.bool false)], args := [d] }
  | _ => none }
def FnExactRankOfWrongFalsely : Prop := fnExactRankOfRow.holds Try.pinned (OpenSpec.ofChange fnExactRankOfWrong)

/-- 'laws.FnExactPermutationAt': WHATEVER THE INPUT: true; the input reads as it did. -/
def fnExactPermutationAtSpec : ChangeSpec := { name := "fnExactPermutationAt", fn := fun _ => fun
  | [d1, d2] => { results := [.lit (.bool true)], args := [d1, d2] }
  | _ => none }
def fnExactPermutationAtRow : OpenClaim := { program := "ytdpeleepfjhefaa", sum := "c53a89c5331c18285668b60daf944d2f193ff9f1a27d3aceca1bf7ece6022a97", func := "loop.example/g03203/laws.FnExactPermutationAt", spec := "fnExactPermutationAt", unfollowed := true, recurses := true, apart := false }
def FnExactPermutationAtSaid : Prop := fnExactPermutationAtRow.holds Try.pinned (OpenSpec.ofChange fnExactPermutationAtSpec)

/-- ITS FALSE NEIGHBOUR: 'it returns false'. Refute it at one input. -/
def fnExactPermutationAtWrong : ChangeSpec := { name := "fnExactPermutationAt", fn := fun _ => fun
  | [d1, d2] => { results := [.lit (.bool false)], args := [d1, d2] }
  | _ => none }
def FnExactPermutationAtWrongFalsely : Prop := fnExactPermutationAtRow.holds Try.pinned (OpenSpec.ofChange fnExactPermutationAtWrong)

/-- 'laws.FnExactNextPermutation': WHATEVER THE INPUT: true; the input reads as it did. -/
def fnExactNextPermutationSpec : ChangeSpec := { name := "fnExactNextPermutation", fn := fun _ => fun
  | [d] => { results := [.lit (.bool true)], args := [d] }
  | _ => none }
def fnExactNextPermutationRow : OpenClaim := { program := "ytdpeleepfjhefaa", sum := "c53a89c5331c18285668b60daf944d2f193ff9f1a27d3aceca1bf7ece6022a97", func := "loop.example/g03203/laws.FnExactNextPermutation", spec := "fnExactNextPermutation", unfollowed := true, recurses := true, apart := false }
def FnExactNextPermutationSaid : Prop := fnExactNextPermutationRow.holds Try.pinned (OpenSpec.ofChange fnExactNextPermutationSpec)

/-- ITS FALSE NEIGHBOUR: 'it returns false'. Refute it at one input. -/
def fnExactNextPermutationWrong : ChangeSpec := { name := "fnExactNextPermutation", fn := fun _ => fun
  | [d] => { results := [.lit (.bool false)], args := [d] }
  | _ => none }
def FnExactNextPermutationWrongFalsely : Prop := fnExactNextPermutationRow.holds Try.pinned (OpenSpec.ofChange fnExactNextPermutationWrong)

/-- 'laws.FnExactCountInversions': WHATEVER THE INPUT: true; the input reads as it did. -/
def fnExactCountInversionsSpec : ChangeSpec := { name := "fnExactCountInversions", fn := fun _ => fun
  | [d] => { results := [.lit (.bool true)], args := [d] }
  | _ => none }
def fnExactCountInversionsRow : OpenClaim := { program := "ytdpeleepfjhefaa", sum := "c53a89c5331c18285668b60daf944d2f193ff9f1a27d3aceca1bf7ece6022a97", func := "loop.example/g03203/laws.FnExactCountInversions", spec := "fnExactCountInversions", unfollowed := true, recurses := true, apart := false }
def FnExactCountInversionsSaid : Prop := fnExactCountInversionsRow.holds Try.pinned (OpenSpec.ofChange fnExactCountInversionsSpec)

/-- ITS FALSE NEIGHBOUR: 'it returns false'. Refute it at one input. -/
def fnExactCountInversionsWrong : ChangeSpec := { name := "fnExactCountInversions", fn := fun _ => fun
  | [d] => { results := [.lit (.bool false)], args := [d] }
  | _ => none }
def FnExactCountInversionsWrongFalsely : Prop := fnExactCountInversionsRow.holds Try.pinned (OpenSpec.ofChange fnExactCountInversionsWrong)

/- THE SECOND FORM. 'bulk': how many values and letters a reading holds, each counted each time it is reached (what is shared counts as often as it is met; a slice's spare places count too). A statement '..UptoSaid' is the law's where the arguments, and the package variables that the reading takes, are together of bulk at most 1048576: NARROWER than '..Said'. Prove '..Said' where nothing that the law and all that it calls make is longer than what came in: it says more and counts as full. Else prove '..UptoSaid'. A law counts once. -/
mutual
def uptoBulk {H : Type} : DataW H → Nat
  | .lit (.string bytes) => bytes.length + 1
  | .lit _ => 1
  | .nil => 1
  | .ptr d => uptoBulk d + 1
  | .slice elems spare => uptoBulkAll elems + uptoBulkAll spare + 1
  | .agg parts => uptoBulkAll parts + 1
  | .iface _ d => uptoBulk d + 1
  | .map entries => uptoBulkEntries entries + 1
  | .held _ => 1
def uptoBulkAll {H : Type} : List (DataW H) → Nat
  | [] => 0
  | d :: r => uptoBulk d + uptoBulkAll r
def uptoBulkEntries {H : Type} : List (Lit × DataW H) → Nat
  | [] => 0
  | x :: r => uptoBulkEntry x + uptoBulkEntries r
def uptoBulkEntry {H : Type} : Lit × DataW H → Nat
  | (.string bytes, d) => bytes.length + uptoBulk d + 1
  | (_, d) => uptoBulk d + 1
 end
def uptoSmall : (H : Type) → List (DataW H) → Bool := fun _ ds => decide (uptoBulkAll ds ≤ 1048576)
def OpenSpec.upto (s : _root_.Go.ChangeSpec) : _root_.Go.OpenSpec := { _root_.Go.OpenSpec.ofChange s with cond := some uptoSmall }

/-- 'laws.FnPermutations', WHERE WHAT IT READS IS OF BULK AT MOST 1048576: true; the input reads as it did. -/
def fnPermutationsUptoRow : OpenClaim := { program := "ytdpeleepfjhefaa", sum := "c53a89c5331c18285668b60daf944d2f193ff9f1a27d3aceca1bf7ece6022a97", func := "loop.example/g03203/laws.FnPermutations", spec := "fnPermutations", unfollowed := true, recurses := true, apart := false, narrowed := true }
def FnPermutationsUptoSaid : Prop := fnPermutationsUptoRow.holds Try.pinned (OpenSpec.upto fnPermutationsSpec)

/-- 'laws.FnExactFactorial', WHERE WHAT IT READS IS OF BULK AT MOST 1048576: true; the input reads as it did. -/
def fnExactFactorialUptoRow : OpenClaim := { program := "ytdpeleepfjhefaa", sum := "c53a89c5331c18285668b60daf944d2f193ff9f1a27d3aceca1bf7ece6022a97", func := "loop.example/g03203/laws.FnExactFactorial", spec := "fnExactFactorial", apart := false, narrowed := true }
def FnExactFactorialUptoSaid : Prop := fnExactFactorialUptoRow.holds Try.pinned (OpenSpec.upto fnExactFactorialSpec)

/-- 'laws.FnExactFactorialDigits', WHERE WHAT IT READS IS OF BULK AT MOST 1048576: true; the input reads as it did. -/
def fnExactFactorialDigitsUptoRow : OpenClaim := { program := "ytdpeleepfjhefaa", sum := "c53a89c5331c18285668b60daf944d2f193ff9f1a27d3aceca1bf7ece6022a97", func := "loop.example/g03203/laws.FnExactFactorialDigits", spec := "fnExactFactorialDigits", apart := false, narrowed := true }
def FnExactFactorialDigitsUptoSaid : Prop := fnExactFactorialDigitsUptoRow.holds Try.pinned (OpenSpec.upto fnExactFactorialDigitsSpec)

/-- 'laws.FnExactFactorialValue', WHERE WHAT IT READS IS OF BULK AT MOST 1048576: true; the input reads as it did. -/
def fnExactFactorialValueUptoRow : OpenClaim := { program := "ytdpeleepfjhefaa", sum := "c53a89c5331c18285668b60daf944d2f193ff9f1a27d3aceca1bf7ece6022a97", func := "loop.example/g03203/laws.FnExactFactorialValue", spec := "fnExactFactorialValue", apart := false, narrowed := true }
def FnExactFactorialValueUptoSaid : Prop := fnExactFactorialValueUptoRow.holds Try.pinned (OpenSpec.upto fnExactFactorialValueSpec)

/-- 'laws.FnExactPermutationOk', WHERE WHAT IT READS IS OF BULK AT MOST 1048576: true; the input reads as it did. -/
def fnExactPermutationOkUptoRow : OpenClaim := { program := "ytdpeleepfjhefaa", sum := "c53a89c5331c18285668b60daf944d2f193ff9f1a27d3aceca1bf7ece6022a97", func := "loop.example/g03203/laws.FnExactPermutationOk", spec := "fnExactPermutationOk", apart := false, narrowed := true }
def FnExactPermutationOkUptoSaid : Prop := fnExactPermutationOkUptoRow.holds Try.pinned (OpenSpec.upto fnExactPermutationOkSpec)

/-- 'laws.FnExactLehmerOf', WHERE WHAT IT READS IS OF BULK AT MOST 1048576: true; the input reads as it did. -/
def fnExactLehmerOfUptoRow : OpenClaim := { program := "ytdpeleepfjhefaa", sum := "c53a89c5331c18285668b60daf944d2f193ff9f1a27d3aceca1bf7ece6022a97", func := "loop.example/g03203/laws.FnExactLehmerOf", spec := "fnExactLehmerOf", apart := false, narrowed := true }
def FnExactLehmerOfUptoSaid : Prop := fnExactLehmerOfUptoRow.holds Try.pinned (OpenSpec.upto fnExactLehmerOfSpec)

/-- 'laws.FnExactRankOf', WHERE WHAT IT READS IS OF BULK AT MOST 1048576: true; the input reads as it did. -/
def fnExactRankOfUptoRow : OpenClaim := { program := "ytdpeleepfjhefaa", sum := "c53a89c5331c18285668b60daf944d2f193ff9f1a27d3aceca1bf7ece6022a97", func := "loop.example/g03203/laws.FnExactRankOf", spec := "fnExactRankOf", apart := false, narrowed := true }
def FnExactRankOfUptoSaid : Prop := fnExactRankOfUptoRow.holds Try.pinned (OpenSpec.upto fnExactRankOfSpec)

/-- 'laws.FnExactPermutationAt', WHERE WHAT IT READS IS OF BULK AT MOST 1048576: true; the input reads as it did. -/
def fnExactPermutationAtUptoRow : OpenClaim := { program := "ytdpeleepfjhefaa", sum := "c53a89c5331c18285668b60daf944d2f193ff9f1a27d3aceca1bf7ece6022a97", func := "loop.example/g03203/laws.FnExactPermutationAt", spec := "fnExactPermutationAt", unfollowed := true, recurses := true, apart := false, narrowed := true }
def FnExactPermutationAtUptoSaid : Prop := fnExactPermutationAtUptoRow.holds Try.pinned (OpenSpec.upto fnExactPermutationAtSpec)

/-- 'laws.FnExactNextPermutation', WHERE WHAT IT READS IS OF BULK AT MOST 1048576: true; the input reads as it did. -/
def fnExactNextPermutationUptoRow : OpenClaim := { program := "ytdpeleepfjhefaa", sum := "c53a89c5331c18285668b60daf944d2f193ff9f1a27d3aceca1bf7ece6022a97", func := "loop.example/g03203/laws.FnExactNextPermutation", spec := "fnExactNextPermutation", unfollowed := true, recurses := true, apart := false, narrowed := true }
def FnExactNextPermutationUptoSaid : Prop := fnExactNextPermutationUptoRow.holds Try.pinned (OpenSpec.upto fnExactNextPermutationSpec)

/-- 'laws.FnExactCountInversions', WHERE WHAT IT READS IS OF BULK AT MOST 1048576: true; the input reads as it did. -/
def fnExactCountInversionsUptoRow : OpenClaim := { program := "ytdpeleepfjhefaa", sum := "c53a89c5331c18285668b60daf944d2f193ff9f1a27d3aceca1bf7ece6022a97", func := "loop.example/g03203/laws.FnExactCountInversions", spec := "fnExactCountInversions", unfollowed := true, recurses := true, apart := false, narrowed := true }
def FnExactCountInversionsUptoSaid : Prop := fnExactCountInversionsUptoRow.holds Try.pinned (OpenSpec.upto fnExactCountInversionsSpec)

end Rows
end Go.Proofs.Ytdpeleepfjhefaa
