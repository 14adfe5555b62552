/-
  No cell of these rows narrows 'for every input' (looked for: loops, veiled, ifaces, maps, wideKeys, modest, calm, conditions, laid).
  DERIVED. THE GIVEN ROWS OF THIS SEAT. 8 by the template 'for every input the law returns true; each argument reads behind the call as it read before'; 0 by the template 'total and deterministic' (their statements: YtkkgihlakilknaaTotals.lean).
  GIVEN WITH THE SEED: the statements are not yours to turn. If you find one false, say at which input.
  Laid BY PROGRAM, IN A SANDBOX (cutbox-rows.mjs): the forced cells as the released guide's own fill.sh prints them over the translation 0962e8d6a50593b3… (all of the seat's roots in one cut). By AI agents, Wed Nov 11 2026. No macro, syntax, notation, axiom, sorry.
-/
import Derived.Test.YtkkgihlakilknaaChecked
import GoSem.Claim
import GoSem.ClaimJoined
import GoSem.ClaimMapViews
import Derived.JoinedTies
import Derived.KernelRfl
namespace Go.Proofs.Ytkkgihlakilknaa
/- THE CELL 'sum', in the pinned program and in every row, IS THE sha256 OF THE DUMP (.gsa) THAT YtkkgihlakilknaaProg.lean LOADS. Nothing in Lean hashes anything: it is a label: what it is worth is what the hold of that sum in a sandbox is worth. -/
noncomputable def Try.pinned : Pinned := { name := "ytkkgihlakilknaa", sum := "0962e8d6a50593b36758f53ed2b4918cd34298a9bc42824d1cfa9b7da7186bc4", checked := Try.checked }
namespace Rows
def none {H : Type} : Left H := { results := [], args := [] }

/-- 'laws.FnNegative': WHATEVER THE INPUT: true; the input reads as it did. -/
def fnNegativeSpec : ChangeSpec := { name := "fnNegative", fn := fun _ => fun
  | [d] => { results := [.lit (.bool true)], args := [d] }
  | _ => none }
def fnNegativeRow : OpenClaim := { program := "ytkkgihlakilknaa", sum := "0962e8d6a50593b36758f53ed2b4918cd34298a9bc42824d1cfa9b7da7186bc4", func := "loop.example/g03203/laws.FnNegative", spec := "fnNegative", unfollowed := true, recurses := true, apart := false }
def FnNegativeSaid : Prop := fnNegativeRow.holds Try.pinned (OpenSpec.ofChange fnNegativeSpec)

/-- ITS FALSE NEIGHBOUR: 'it returns false'. Refute it at one input. -/
def fnNegativeWrong : ChangeSpec := { name := "fnNegative", fn := fun _ => fun
  | [d] => { results := [.lit (.bool false)], args := [d] }
  | _ => none }
def FnNegativeWrongFalsely : Prop := fnNegativeRow.holds Try.pinned (OpenSpec.ofChange fnNegativeWrong)

/-- 'laws.FnExactNegaDigits': WHATEVER THE INPUT: true; the input reads as it did. -/
def fnExactNegaDigitsSpec : ChangeSpec := { name := "fnExactNegaDigits", fn := fun _ => fun
  | [d1, d2] => { results := [.lit (.bool true)], args := [d1, d2] }
  | _ => none }
def fnExactNegaDigitsRow : OpenClaim := { program := "ytkkgihlakilknaa", sum := "0962e8d6a50593b36758f53ed2b4918cd34298a9bc42824d1cfa9b7da7186bc4", func := "loop.example/g03203/laws.FnExactNegaDigits", spec := "fnExactNegaDigits", unfollowed := true, recurses := true, apart := false }
def FnExactNegaDigitsSaid : Prop := fnExactNegaDigitsRow.holds Try.pinned (OpenSpec.ofChange fnExactNegaDigitsSpec)

/-- ITS FALSE NEIGHBOUR: 'it returns false'. Refute it at one input. -/
def fnExactNegaDigitsWrong : ChangeSpec := { name := "fnExactNegaDigits", fn := fun _ => fun
  | [d1, d2] => { results := [.lit (.bool false)], args := [d1, d2] }
  | _ => none }
def FnExactNegaDigitsWrongFalsely : Prop := fnExactNegaDigitsRow.holds Try.pinned (OpenSpec.ofChange fnExactNegaDigitsWrong)

/-- 'laws.FnExactNegaValue': WHATEVER THE INPUT: true; the input reads as it did. -/
def fnExactNegaValueSpec : ChangeSpec := { name := "fnExactNegaValue", fn := fun _ => fun
  | [d1, d2] => { results := [.lit (.bool true)], args := [d1, d2] }
  | _ => none }
def fnExactNegaValueRow : OpenClaim := { program := "ytkkgihlakilknaa", sum := "0962e8d6a50593b36758f53ed2b4918cd34298a9bc42824d1cfa9b7da7186bc4", func := "loop.example/g03203/laws.FnExactNegaValue", spec := "fnExactNegaValue", unfollowed := true, recurses := true, apart := false }
def FnExactNegaValueSaid : Prop := fnExactNegaValueRow.holds Try.pinned (OpenSpec.ofChange fnExactNegaValueSpec)

/-- ITS FALSE NEIGHBOUR: 'it returns false'. Refute it at one input. -/
def fnExactNegaValueWrong : ChangeSpec := { name := "fnExactNegaValue", fn := fun _ => fun
  | [d1, d2] => { results := [.lit (.bool false)], args := [d1, d2] }
  | _ => none }
def FnExactNegaValueWrongFalsely : Prop := fnExactNegaValueRow.holds Try.pinned (OpenSpec.ofChange fnExactNegaValueWrong)

/-- 'laws.FnExactNegaAdd': WHATEVER THE INPUT: true; the input reads as it did. -/
def fnExactNegaAddSpec : ChangeSpec := { name := "fnExactNegaAdd", fn := fun _ => fun
  | [d1, d2, d3] => { results := [.lit (.bool true)], args := [d1, d2, d3] }
  | _ => none }
def fnExactNegaAddRow : OpenClaim := { program := "ytkkgihlakilknaa", sum := "0962e8d6a50593b36758f53ed2b4918cd34298a9bc42824d1cfa9b7da7186bc4", func := "loop.example/g03203/laws.FnExactNegaAdd", spec := "fnExactNegaAdd", unfollowed := true, recurses := true, apart := false }
def FnExactNegaAddSaid : Prop := fnExactNegaAddRow.holds Try.pinned (OpenSpec.ofChange fnExactNegaAddSpec)

/-- ITS FALSE NEIGHBOUR: 'it returns false'. Refute it at one input. -/
def fnExactNegaAddWrong : ChangeSpec := { name := "fnExactNegaAdd", fn := fun _ => fun
  | [d1, d2, d3] => { results := [.lit (.bool false)], args := [d1, d2, d3] }
  | _ => none }
def FnExactNegaAddWrongFalsely : Prop := fnExactNegaAddRow.holds Try.pinned (OpenSpec.ofChange fnExactNegaAddWrong)

/-- 'laws.FnExactNegaTimes': WHATEVER THE INPUT: true; the input reads as it did. -/
def fnExactNegaTimesSpec : ChangeSpec := { name := "fnExactNegaTimes", fn := fun _ => fun
  | [d1, d2, d3] => { results := [.lit (.bool true)], args := [d1, d2, d3] }
  | _ => none }
def fnExactNegaTimesRow : OpenClaim := { program := "ytkkgihlakilknaa", sum := "0962e8d6a50593b36758f53ed2b4918cd34298a9bc42824d1cfa9b7da7186bc4", func := "loop.example/g03203/laws.FnExactNegaTimes", spec := "fnExactNegaTimes", unfollowed := true, recurses := true, apart := false }
def FnExactNegaTimesSaid : Prop := fnExactNegaTimesRow.holds Try.pinned (OpenSpec.ofChange fnExactNegaTimesSpec)

/-- ITS FALSE NEIGHBOUR: 'it returns false'. Refute it at one input. -/
def fnExactNegaTimesWrong : ChangeSpec := { name := "fnExactNegaTimes", fn := fun _ => fun
  | [d1, d2, d3] => { results := [.lit (.bool false)], args := [d1, d2, d3] }
  | _ => none }
def FnExactNegaTimesWrongFalsely : Prop := fnExactNegaTimesRow.holds Try.pinned (OpenSpec.ofChange fnExactNegaTimesWrong)

/-- 'laws.FnExactNegaSign': WHATEVER THE INPUT: true; the input reads as it did. -/
def fnExactNegaSignSpec : ChangeSpec := { name := "fnExactNegaSign", fn := fun _ => fun
  | [d1, d2] => { results := [.lit (.bool true)], args := [d1, d2] }
  | _ => none }
def fnExactNegaSignRow : OpenClaim := { program := "ytkkgihlakilknaa", sum := "0962e8d6a50593b36758f53ed2b4918cd34298a9bc42824d1cfa9b7da7186bc4", func := "loop.example/g03203/laws.FnExactNegaSign", spec := "fnExactNegaSign", apart := false }
def FnExactNegaSignSaid : Prop := fnExactNegaSignRow.holds Try.pinned (OpenSpec.ofChange fnExactNegaSignSpec)

/-- ITS FALSE NEIGHBOUR: 'it returns false'. Refute it at one input. -/
def fnExactNegaSignWrong : ChangeSpec := { name := "fnExactNegaSign", fn := fun _ => fun
  | [d1, d2] => { results := [.lit (.bool false)], args := [d1, d2] }
  | _ => none }
def FnExactNegaSignWrongFalsely : Prop := fnExactNegaSignRow.holds Try.pinned (OpenSpec.ofChange fnExactNegaSignWrong)

/-- 'laws.FnExactNegaRange': WHATEVER THE INPUT: true; the input reads as it did. -/
def fnExactNegaRangeSpec : ChangeSpec := { name := "fnExactNegaRange", fn := fun _ => fun
  | [d1, d2] => { results := [.lit (.bool true)], args := [d1, d2] }
  | _ => none }
def fnExactNegaRangeRow : OpenClaim := { program := "ytkkgihlakilknaa", sum := "0962e8d6a50593b36758f53ed2b4918cd34298a9bc42824d1cfa9b7da7186bc4", func := "loop.example/g03203/laws.FnExactNegaRange", spec := "fnExactNegaRange", apart := false }
def FnExactNegaRangeSaid : Prop := fnExactNegaRangeRow.holds Try.pinned (OpenSpec.ofChange fnExactNegaRangeSpec)

/-- ITS FALSE NEIGHBOUR: 'it returns false'. Refute it at one input. -/
def fnExactNegaRangeWrong : ChangeSpec := { name := "fnExactNegaRange", fn := fun _ => fun
  | [d1, d2] => { results := [.lit (.bool false)], args := [d1, d2] }
  | _ => none }
def FnExactNegaRangeWrongFalsely : Prop := fnExactNegaRangeRow.holds Try.pinned (OpenSpec.ofChange fnExactNegaRangeWrong)

/-- 'laws.FnExactNegaCompare': WHATEVER THE INPUT: true; the input reads as it did. -/
def fnExactNegaCompareSpec : ChangeSpec := { name := "fnExactNegaCompare", fn := fun _ => fun
  | [d1, d2, d3] => { results := [.lit (.bool true)], args := [d1, d2, d3] }
  | _ => none }
def fnExactNegaCompareRow : OpenClaim := { program := "ytkkgihlakilknaa", sum := "0962e8d6a50593b36758f53ed2b4918cd34298a9bc42824d1cfa9b7da7186bc4", func := "loop.example/g03203/laws.FnExactNegaCompare", spec := "fnExactNegaCompare", apart := false }
def FnExactNegaCompareSaid : Prop := fnExactNegaCompareRow.holds Try.pinned (OpenSpec.ofChange fnExactNegaCompareSpec)

/-- ITS FALSE NEIGHBOUR: 'it returns false'. Refute it at one input. -/
def fnExactNegaCompareWrong : ChangeSpec := { name := "fnExactNegaCompare", fn := fun _ => fun
  | [d1, d2, d3] => { results := [.lit (.bool false)], args := [d1, d2, d3] }
  | _ => none }
def FnExactNegaCompareWrongFalsely : Prop := fnExactNegaCompareRow.holds Try.pinned (OpenSpec.ofChange fnExactNegaCompareWrong)

/- THE SECOND FORM. 'bulk': how many values and letters a reading holds, each counted each time it is reached (what is shared counts as often as it is met; a slice's spare places count too). A statement '..UptoSaid' is the law's where the arguments, and the package variables that the reading takes, are together of bulk at most 1048576: NARROWER than '..Said'. Prove '..Said' where nothing that the law and all that it calls make is longer than what came in: it says more and counts as full. Else prove '..UptoSaid'. A law counts once. -/
mutual
def uptoBulk {H : Type} : DataW H → Nat
  | .lit (.string bytes) => bytes.length + 1
  | .lit _ => 1
  | .nil => 1
  | .ptr d => uptoBulk d + 1
  | .slice elems spare => uptoBulkAll elems + uptoBulkAll spare + 1
  | .agg parts => uptoBulkAll parts + 1
  | .iface _ d => uptoBulk d + 1
  | .map entries => uptoBulkEntries entries + 1
  | .held _ => 1
def uptoBulkAll {H : Type} : List (DataW H) → Nat
  | [] => 0
  | d :: r => uptoBulk d + uptoBulkAll r
def uptoBulkEntries {H : Type} : List (Lit × DataW H) → Nat
  | [] => 0
  | x :: r => uptoBulkEntry x + uptoBulkEntries r
def uptoBulkEntry {H : Type} : Lit × DataW H → Nat
  | (.string bytes, d) => bytes.length + uptoBulk d + 1
  | (_, d) => uptoBulk d + 1
 end
def uptoSmall : (H : Type) → List (DataW H) → Bool := fun _ ds => decide (uptoBulkAll ds ≤ 1048576)
def OpenSpec.upto (s : _root_.Go.ChangeSpec) : _root_.Go.OpenSpec := { _root_.Go.OpenSpec.ofChange s with cond := some uptoSmall }

/-- 'laws.FnNegative', WHERE WHAT IT READS IS OF BULK AT MOST 1048576: true; the input reads as it did. -/
def fnNegativeUptoRow : OpenClaim := { program := "ytkkgihlakilknaa", sum := "0962e8d6a50593b36758f53ed2b4918cd34298a9bc42824d1cfa9b7da7186bc4", func := "loop.example/g03203/laws.FnNegative", spec := "fnNegative", unfollowed := true, recurses := true, apart := false, narrowed := true }
def FnNegativeUptoSaid : Prop := fnNegativeUptoRow.holds Try.pinned (OpenSpec.upto fnNegativeSpec)

/-- 'laws.FnExactNegaDigits', WHERE WHAT IT READS IS OF BULK AT MOST 1048576: true; the input reads as it did. -/
def fnExactNegaDigitsUptoRow : OpenClaim := { program := "ytkkgihlakilknaa", sum := "0962e8d6a50593b36758f53ed2b4918cd34298a9bc42824d1cfa9b7da7186bc4", func := "loop.example/g03203/laws.FnExactNegaDigits", spec := "fnExactNegaDigits", unfollowed := true, recurses := true, apart := false, narrowed := true }
def FnExactNegaDigitsUptoSaid : Prop := fnExactNegaDigitsUptoRow.holds Try.pinned (OpenSpec.upto fnExactNegaDigitsSpec)

/-- 'laws.FnExactNegaValue', WHERE WHAT IT READS IS OF BULK AT MOST 1048576: true; the input reads as it did. -/
def fnExactNegaValueUptoRow : OpenClaim := { program := "ytkkgihlakilknaa", sum := "0962e8d6a50593b36758f53ed2b4918cd34298a9bc42824d1cfa9b7da7186bc4", func := "loop.example/g03203/laws.FnExactNegaValue", spec := "fnExactNegaValue", unfollowed := true, recurses := true, apart := false, narrowed := true }
def FnExactNegaValueUptoSaid : Prop := fnExactNegaValueUptoRow.holds Try.pinned (OpenSpec.upto fnExactNegaValueSpec)

/-- 'laws.FnExactNegaAdd', WHERE WHAT IT READS IS OF BULK AT MOST 1048576: true; the input reads as it did. -/
def fnExactNegaAddUptoRow : OpenClaim := { program := "ytkkgihlakilknaa", sum := "0962e8d6a50593b36758f53ed2b4918cd34298a9bc42824d1cfa9b7da7186bc4", func := "loop.example/g03203/laws.FnExactNegaAdd", spec := "fnExactNegaAdd", unfollowed := true, recurses := true, apart := false, narrowed := true }
def FnExactNegaAddUptoSaid : Prop := fnExactNegaAddUptoRow.holds Try.pinned (OpenSpec.upto fnExactNegaAddSpec)

/-- 'laws.FnExactNegaTimes', WHERE WHAT IT READS IS OF BULK AT MOST 1048576: true; the input reads as it did. -/
def fnExactNegaTimesUptoRow : OpenClaim := { program := "ytkkgihlakilknaa", sum := "0962e8d6a50593b36758f53ed2b4918cd34298a9bc42824d1cfa9b7da7186bc4", func := "loop.example/g03203/laws.FnExactNegaTimes", spec := "fnExactNegaTimes", unfollowed := true, recurses := true, apart := false, narrowed := true }
def FnExactNegaTimesUptoSaid : Prop := fnExactNegaTimesUptoRow.holds Try.pinned (OpenSpec.upto fnExactNegaTimesSpec)

/-- 'laws.FnExactNegaSign', WHERE WHAT IT READS IS OF BULK AT MOST 1048576: true; the input reads as it did. -/
def fnExactNegaSignUptoRow : OpenClaim := { program := "ytkkgihlakilknaa", sum := "0962e8d6a50593b36758f53ed2b4918cd34298a9bc42824d1cfa9b7da7186bc4", func := "loop.example/g03203/laws.FnExactNegaSign", spec := "fnExactNegaSign", apart := false, narrowed := true }
def FnExactNegaSignUptoSaid : Prop := fnExactNegaSignUptoRow.holds Try.pinned (OpenSpec.upto fnExactNegaSignSpec)

/-- 'laws.FnExactNegaRange', WHERE WHAT IT READS IS OF BULK AT MOST 1048576: true; the input reads as it did. -/
def fnExactNegaRangeUptoRow : OpenClaim := { program := "ytkkgihlakilknaa", sum := "0962e8d6a50593b36758f53ed2b4918cd34298a9bc42824d1cfa9b7da7186bc4", func := "loop.example/g03203/laws.FnExactNegaRange", spec := "fnExactNegaRange", apart := false, narrowed := true }
def FnExactNegaRangeUptoSaid : Prop := fnExactNegaRangeUptoRow.holds Try.pinned (OpenSpec.upto fnExactNegaRangeSpec)

/-- 'laws.FnExactNegaCompare', WHERE WHAT IT READS IS OF BULK AT MOST 1048576: true; the input reads as it did. -/
def fnExactNegaCompareUptoRow : OpenClaim := { program := "ytkkgihlakilknaa", sum := "0962e8d6a50593b36758f53ed2b4918cd34298a9bc42824d1cfa9b7da7186bc4", func := "loop.example/g03203/laws.FnExactNegaCompare", spec := "fnExactNegaCompare", apart := false, narrowed := true }
def FnExactNegaCompareUptoSaid : Prop := fnExactNegaCompareUptoRow.holds Try.pinned (OpenSpec.upto fnExactNegaCompareSpec)

end Rows
end Go.Proofs.Ytkkgihlakilknaa
