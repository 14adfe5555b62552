/-
  No cell of these rows narrows 'for every input' (looked for: loops, veiled, ifaces, maps, wideKeys, modest, calm, conditions, laid).
  DERIVED. THE GIVEN ROWS OF THIS SEAT. 11 by the template 'for every input the law returns true; each argument reads behind the call as it read before'; 0 by the template 'total and deterministic' (their statements: YtgmghlnhjleecabTotals.lean).
  GIVEN WITH THE SEED: the statements are not yours to turn. If you find one false, say at which input.
  Laid BY PROGRAM, IN A SANDBOX (cutbox-rows.mjs): the forced cells as the released guide's own fill.sh prints them over the translation e2cb01622fb398eb… (all of the seat's roots in one cut). By AI agents, Wed Nov 11 2026. No macro, syntax, notation, axiom, sorry.
-/
import Derived.Test.YtgmghlnhjleecabChecked
import GoSem.Claim
import GoSem.ClaimJoined
import GoSem.ClaimMapViews
import Derived.JoinedTies
import Derived.KernelRfl
namespace Go.Proofs.Ytgmghlnhjleecab
/- THE CELL 'sum', in the pinned program and in every row, IS THE sha256 OF THE DUMP (.gsa) THAT YtgmghlnhjleecabProg.lean LOADS. Nothing in Lean hashes anything: it is a label: what it is worth is what the hold of that sum in a sandbox is worth. -/
noncomputable def Try.pinned : Pinned := { name := "ytgmghlnhjleecab", sum := "e2cb01622fb398ebc2f0396481aaea630adbb7f8fd06de315ffd08a5bff6ab89", checked := Try.checked }
namespace Rows
def none {H : Type} : Left H := { results := [], args := [] }

/-- 'laws.FnLong': WHATEVER THE INPUT: true; the input reads as it did. -/
def fnLongSpec : ChangeSpec := { name := "fnLong", fn := fun _ => fun
  | [d] => { results := [.lit (.bool true)], args := [d] }
  | _ => none }
def fnLongRow : OpenClaim := { program := "ytgmghlnhjleecab", sum := "e2cb01622fb398ebc2f0396481aaea630adbb7f8fd06de315ffd08a5bff6ab89", func := "loop.example/g03203/laws.FnLong", spec := "fnLong", unfollowed := true, recurses := true, apart := false }
def FnLongSaid : Prop := fnLongRow.holds Try.pinned (OpenSpec.ofChange fnLongSpec)

/-- ITS FALSE NEIGHBOUR: 'it returns false'. Refute it at one input. -/
def fnLongWrong : ChangeSpec := { name := "fnLong", fn := fun _ => fun
  | [d] => { results := [.lit (.bool false)], args := [d] }
  | _ => none }
def FnLongWrongFalsely : Prop := fnLongRow.holds Try.pinned (OpenSpec.ofChange fnLongWrong)

/-- 'laws.FnExactAddDigits': WHATEVER THE INPUT: true; the input reads as it did. -/
def fnExactAddDigitsSpec : ChangeSpec := { name := "fnExactAddDigits", fn := fun _ => fun
  | [d1, d2, d3] => { results := [.lit (.bool true)], args := [d1, d2, d3] }
  | _ => none }
def fnExactAddDigitsRow : OpenClaim := { program := "ytgmghlnhjleecab", sum := "e2cb01622fb398ebc2f0396481aaea630adbb7f8fd06de315ffd08a5bff6ab89", func := "loop.example/g03203/laws.FnExactAddDigits", spec := "fnExactAddDigits", apart := false }
def FnExactAddDigitsSaid : Prop := fnExactAddDigitsRow.holds Try.pinned (OpenSpec.ofChange fnExactAddDigitsSpec)

/-- ITS FALSE NEIGHBOUR: 'it returns false'. Refute it at one input. -/
def fnExactAddDigitsWrong : ChangeSpec := { name := "fnExactAddDigits", fn := fun _ => fun
  | [d1, d2, d3] => { results := [.lit (.bool false)], args := [d1, d2, d3] }
  | _ => none }
def FnExactAddDigitsWrongFalsely : Prop := fnExactAddDigitsRow.holds Try.pinned (OpenSpec.ofChange fnExactAddDigitsWrong)

/-- 'laws.FnExactMinusDigits': WHATEVER THE INPUT: true; the input reads as it did. -/
def fnExactMinusDigitsSpec : ChangeSpec := { name := "fnExactMinusDigits", fn := fun _ => fun
  | [d1, d2, d3] => { results := [.lit (.bool true)], args := [d1, d2, d3] }
  | _ => none }
def fnExactMinusDigitsRow : OpenClaim := { program := "ytgmghlnhjleecab", sum := "e2cb01622fb398ebc2f0396481aaea630adbb7f8fd06de315ffd08a5bff6ab89", func := "loop.example/g03203/laws.FnExactMinusDigits", spec := "fnExactMinusDigits", unfollowed := true, recurses := true, apart := false }
def FnExactMinusDigitsSaid : Prop := fnExactMinusDigitsRow.holds Try.pinned (OpenSpec.ofChange fnExactMinusDigitsSpec)

/-- ITS FALSE NEIGHBOUR: 'it returns false'. Refute it at one input. -/
def fnExactMinusDigitsWrong : ChangeSpec := { name := "fnExactMinusDigits", fn := fun _ => fun
  | [d1, d2, d3] => { results := [.lit (.bool false)], args := [d1, d2, d3] }
  | _ => none }
def FnExactMinusDigitsWrongFalsely : Prop := fnExactMinusDigitsRow.holds Try.pinned (OpenSpec.ofChange fnExactMinusDigitsWrong)

/-- 'laws.FnExactTimesDigits': WHATEVER THE INPUT: true; the input reads as it did. -/
def fnExactTimesDigitsSpec : ChangeSpec := { name := "fnExactTimesDigits", fn := fun _ => fun
  | [d1, d2, d3] => { results := [.lit (.bool true)], args := [d1, d2, d3] }
  | _ => none }
def fnExactTimesDigitsRow : OpenClaim := { program := "ytgmghlnhjleecab", sum := "e2cb01622fb398ebc2f0396481aaea630adbb7f8fd06de315ffd08a5bff6ab89", func := "loop.example/g03203/laws.FnExactTimesDigits", spec := "fnExactTimesDigits", apart := false }
def FnExactTimesDigitsSaid : Prop := fnExactTimesDigitsRow.holds Try.pinned (OpenSpec.ofChange fnExactTimesDigitsSpec)

/-- ITS FALSE NEIGHBOUR: 'it returns false'. Refute it at one input. -/
def fnExactTimesDigitsWrong : ChangeSpec := { name := "fnExactTimesDigits", fn := fun _ => fun
  | [d1, d2, d3] => { results := [.lit (.bool false)], args := [d1, d2, d3] }
  | _ => none }
def FnExactTimesDigitsWrongFalsely : Prop := fnExactTimesDigitsRow.holds Try.pinned (OpenSpec.ofChange fnExactTimesDigitsWrong)

/-- 'laws.FnExactCompareDigits': WHATEVER THE INPUT: true; the input reads as it did. -/
def fnExactCompareDigitsSpec : ChangeSpec := { name := "fnExactCompareDigits", fn := fun _ => fun
  | [d1, d2, d3] => { results := [.lit (.bool true)], args := [d1, d2, d3] }
  | _ => none }
def fnExactCompareDigitsRow : OpenClaim := { program := "ytgmghlnhjleecab", sum := "e2cb01622fb398ebc2f0396481aaea630adbb7f8fd06de315ffd08a5bff6ab89", func := "loop.example/g03203/laws.FnExactCompareDigits", spec := "fnExactCompareDigits", unfollowed := true, recurses := true, apart := false }
def FnExactCompareDigitsSaid : Prop := fnExactCompareDigitsRow.holds Try.pinned (OpenSpec.ofChange fnExactCompareDigitsSpec)

/-- ITS FALSE NEIGHBOUR: 'it returns false'. Refute it at one input. -/
def fnExactCompareDigitsWrong : ChangeSpec := { name := "fnExactCompareDigits", fn := fun _ => fun
  | [d1, d2, d3] => { results := [.lit (.bool false)], args := [d1, d2, d3] }
  | _ => none }
def FnExactCompareDigitsWrongFalsely : Prop := fnExactCompareDigitsRow.holds Try.pinned (OpenSpec.ofChange fnExactCompareDigitsWrong)

/-- 'laws.FnExactDivideDigits': WHATEVER THE INPUT: true; the input reads as it did. -/
def fnExactDivideDigitsSpec : ChangeSpec := { name := "fnExactDivideDigits", fn := fun _ => fun
  | [d1, d2, d3] => { results := [.lit (.bool true)], args := [d1, d2, d3] }
  | _ => none }
def fnExactDivideDigitsRow : OpenClaim := { program := "ytgmghlnhjleecab", sum := "e2cb01622fb398ebc2f0396481aaea630adbb7f8fd06de315ffd08a5bff6ab89", func := "loop.example/g03203/laws.FnExactDivideDigits", spec := "fnExactDivideDigits", unfollowed := true, recurses := true, apart := false }
def FnExactDivideDigitsSaid : Prop := fnExactDivideDigitsRow.holds Try.pinned (OpenSpec.ofChange fnExactDivideDigitsSpec)

/-- ITS FALSE NEIGHBOUR: 'it returns false'. Refute it at one input. -/
def fnExactDivideDigitsWrong : ChangeSpec := { name := "fnExactDivideDigits", fn := fun _ => fun
  | [d1, d2, d3] => { results := [.lit (.bool false)], args := [d1, d2, d3] }
  | _ => none }
def FnExactDivideDigitsWrongFalsely : Prop := fnExactDivideDigitsRow.holds Try.pinned (OpenSpec.ofChange fnExactDivideDigitsWrong)

/-- 'laws.FnExactPowerDigits': WHATEVER THE INPUT: true; the input reads as it did. -/
def fnExactPowerDigitsSpec : ChangeSpec := { name := "fnExactPowerDigits", fn := fun _ => fun
  | [d1, d2, d3] => { results := [.lit (.bool true)], args := [d1, d2, d3] }
  | _ => none }
def fnExactPowerDigitsRow : OpenClaim := { program := "ytgmghlnhjleecab", sum := "e2cb01622fb398ebc2f0396481aaea630adbb7f8fd06de315ffd08a5bff6ab89", func := "loop.example/g03203/laws.FnExactPowerDigits", spec := "fnExactPowerDigits", apart := false }
def FnExactPowerDigitsSaid : Prop := fnExactPowerDigitsRow.holds Try.pinned (OpenSpec.ofChange fnExactPowerDigitsSpec)

/-- ITS FALSE NEIGHBOUR: 'it returns false'. Refute it at one input. -/
def fnExactPowerDigitsWrong : ChangeSpec := { name := "fnExactPowerDigits", fn := fun _ => fun
  | [d1, d2, d3] => { results := [.lit (.bool false)], args := [d1, d2, d3] }
  | _ => none }
def FnExactPowerDigitsWrongFalsely : Prop := fnExactPowerDigitsRow.holds Try.pinned (OpenSpec.ofChange fnExactPowerDigitsWrong)

/-- 'laws.FnExactRootDigits': WHATEVER THE INPUT: true; the input reads as it did. -/
def fnExactRootDigitsSpec : ChangeSpec := { name := "fnExactRootDigits", fn := fun _ => fun
  | [d1, d2] => { results := [.lit (.bool true)], args := [d1, d2] }
  | _ => none }
def fnExactRootDigitsRow : OpenClaim := { program := "ytgmghlnhjleecab", sum := "e2cb01622fb398ebc2f0396481aaea630adbb7f8fd06de315ffd08a5bff6ab89", func := "loop.example/g03203/laws.FnExactRootDigits", spec := "fnExactRootDigits", unfollowed := true, recurses := true, apart := false }
def FnExactRootDigitsSaid : Prop := fnExactRootDigitsRow.holds Try.pinned (OpenSpec.ofChange fnExactRootDigitsSpec)

/-- ITS FALSE NEIGHBOUR: 'it returns false'. Refute it at one input. -/
def fnExactRootDigitsWrong : ChangeSpec := { name := "fnExactRootDigits", fn := fun _ => fun
  | [d1, d2] => { results := [.lit (.bool false)], args := [d1, d2] }
  | _ => none }
def FnExactRootDigitsWrongFalsely : Prop := fnExactRootDigitsRow.holds Try.pinned (OpenSpec.ofChange fnExactRootDigitsWrong)

/-- 'laws.FnExactConvertDigits': WHATEVER THE INPUT: true; the input reads as it did. -/
def fnExactConvertDigitsSpec : ChangeSpec := { name := "fnExactConvertDigits", fn := fun _ => fun
  | [d1, d2, d3] => { results := [.lit (.bool true)], args := [d1, d2, d3] }
  | _ => none }
def fnExactConvertDigitsRow : OpenClaim := { program := "ytgmghlnhjleecab", sum := "e2cb01622fb398ebc2f0396481aaea630adbb7f8fd06de315ffd08a5bff6ab89", func := "loop.example/g03203/laws.FnExactConvertDigits", spec := "fnExactConvertDigits", unfollowed := true, recurses := true, apart := false }
def FnExactConvertDigitsSaid : Prop := fnExactConvertDigitsRow.holds Try.pinned (OpenSpec.ofChange fnExactConvertDigitsSpec)

/-- ITS FALSE NEIGHBOUR: 'it returns false'. Refute it at one input. -/
def fnExactConvertDigitsWrong : ChangeSpec := { name := "fnExactConvertDigits", fn := fun _ => fun
  | [d1, d2, d3] => { results := [.lit (.bool false)], args := [d1, d2, d3] }
  | _ => none }
def FnExactConvertDigitsWrongFalsely : Prop := fnExactConvertDigitsRow.holds Try.pinned (OpenSpec.ofChange fnExactConvertDigitsWrong)

/-- 'laws.FnBalanced': WHATEVER THE INPUT: true; the input reads as it did. -/
def fnBalancedSpec : ChangeSpec := { name := "fnBalanced", fn := fun _ => fun
  | [d] => { results := [.lit (.bool true)], args := [d] }
  | _ => none }
def fnBalancedRow : OpenClaim := { program := "ytgmghlnhjleecab", sum := "e2cb01622fb398ebc2f0396481aaea630adbb7f8fd06de315ffd08a5bff6ab89", func := "loop.example/g03203/laws.FnBalanced", spec := "fnBalanced", inPlace := ["internal/abi.NoEscape"], unfollowed := true, recurses := true, apart := false }
def FnBalancedSaid : Prop := fnBalancedRow.holds Try.pinned (OpenSpec.ofChange fnBalancedSpec)

/-- ITS FALSE NEIGHBOUR: 'it returns false'. Refute it at one input. -/
def fnBalancedWrong : ChangeSpec := { name := "fnBalanced", fn := fun _ => fun
  | [d] => { results := [.lit (.bool false)], args := [d] }
  | _ => none }
def FnBalancedWrongFalsely : Prop := fnBalancedRow.holds Try.pinned (OpenSpec.ofChange fnBalancedWrong)

/-- 'laws.FnExactBalancedOk': WHATEVER THE INPUT: true; the input reads as it did. -/
def fnExactBalancedOkSpec : ChangeSpec := { name := "fnExactBalancedOk", fn := fun _ => fun
  | [d1, d2] => { results := [.lit (.bool true)], args := [d1, d2] }
  | _ => none }
def fnExactBalancedOkRow : OpenClaim := { program := "ytgmghlnhjleecab", sum := "e2cb01622fb398ebc2f0396481aaea630adbb7f8fd06de315ffd08a5bff6ab89", func := "loop.example/g03203/laws.FnExactBalancedOk", spec := "fnExactBalancedOk", apart := false }
def FnExactBalancedOkSaid : Prop := fnExactBalancedOkRow.holds Try.pinned (OpenSpec.ofChange fnExactBalancedOkSpec)

/-- ITS FALSE NEIGHBOUR: 'it returns false'. Refute it at one input. -/
def fnExactBalancedOkWrong : ChangeSpec := { name := "fnExactBalancedOk", fn := fun _ => fun
  | [d1, d2] => { results := [.lit (.bool false)], args := [d1, d2] }
  | _ => none }
def FnExactBalancedOkWrongFalsely : Prop := fnExactBalancedOkRow.holds Try.pinned (OpenSpec.ofChange fnExactBalancedOkWrong)

/- THE SECOND FORM. 'bulk': how many values and letters a reading holds, each counted each time it is reached (what is shared counts as often as it is met; a slice's spare places count too). A statement '..UptoSaid' is the law's where the arguments, and the package variables that the reading takes, are together of bulk at most 1048576: NARROWER than '..Said'. Prove '..Said' where nothing that the law and all that it calls make is longer than what came in: it says more and counts as full. Else prove '..UptoSaid'. A law counts once. -/
mutual
def uptoBulk {H : Type} : DataW H → Nat
  | .lit (.string bytes) => bytes.length + 1
  | .lit _ => 1
  | .nil => 1
  | .ptr d => uptoBulk d + 1
  | .slice elems spare => uptoBulkAll elems + uptoBulkAll spare + 1
  | .agg parts => uptoBulkAll parts + 1
  | .iface _ d => uptoBulk d + 1
  | .map entries => uptoBulkEntries entries + 1
  | .held _ => 1
def uptoBulkAll {H : Type} : List (DataW H) → Nat
  | [] => 0
  | d :: r => uptoBulk d + uptoBulkAll r
def uptoBulkEntries {H : Type} : List (Lit × DataW H) → Nat
  | [] => 0
  | x :: r => uptoBulkEntry x + uptoBulkEntries r
def uptoBulkEntry {H : Type} : Lit × DataW H → Nat
  | (.string bytes, d) => bytes.length + uptoBulk d + 1
  | (_, d) => uptoBulk d + 1
 end
def uptoSmall : (H : Type) → List (DataW H) → Bool := fun _ ds => decide (uptoBulkAll ds ≤ 1048576)
def OpenSpec.upto (s : _root_.Go.ChangeSpec) : _root_.Go.OpenSpec := { _root_.Go.OpenSpec.ofChange s with cond := some uptoSmall }

/-- 'laws.FnLong', WHERE WHAT IT READS IS OF BULK AT MOST 1048576: true; the input reads as it did. -/
def fnLongUptoRow : OpenClaim := { program := "ytgmghlnhjleecab", sum := "e2cb01622fb398ebc2f0396481aaea630adbb7f8fd06de315ffd08a5bff6ab89", func := "loop.example/g03203/laws.FnLong", spec := "fnLong", unfollowed := true, recurses := true, apart := false, narrowed := true }
def FnLongUptoSaid : Prop := fnLongUptoRow.holds Try.pinned (OpenSpec.upto fnLongSpec)

/-- 'laws.FnExactAddDigits', WHERE WHAT IT READS IS OF BULK AT MOST 1048576: true; the input reads as it did. -/
def fnExactAddDigitsUptoRow : OpenClaim := { program := "ytgmghlnhjleecab", sum := "e2cb01622fb398ebc2f0396481aaea630adbb7f8fd06de315ffd08a5bff6ab89", func := "loop.example/g03203/laws.FnExactAddDigits", spec := "fnExactAddDigits", apart := false, narrowed := true }
def FnExactAddDigitsUptoSaid : Prop := fnExactAddDigitsUptoRow.holds Try.pinned (OpenSpec.upto fnExactAddDigitsSpec)

/-- 'laws.FnExactMinusDigits', WHERE WHAT IT READS IS OF BULK AT MOST 1048576: true; the input reads as it did. -/
def fnExactMinusDigitsUptoRow : OpenClaim := { program := "ytgmghlnhjleecab", sum := "e2cb01622fb398ebc2f0396481aaea630adbb7f8fd06de315ffd08a5bff6ab89", func := "loop.example/g03203/laws.FnExactMinusDigits", spec := "fnExactMinusDigits", unfollowed := true, recurses := true, apart := false, narrowed := true }
def FnExactMinusDigitsUptoSaid : Prop := fnExactMinusDigitsUptoRow.holds Try.pinned (OpenSpec.upto fnExactMinusDigitsSpec)

/-- 'laws.FnExactTimesDigits', WHERE WHAT IT READS IS OF BULK AT MOST 1048576: true; the input reads as it did. -/
def fnExactTimesDigitsUptoRow : OpenClaim := { program := "ytgmghlnhjleecab", sum := "e2cb01622fb398ebc2f0396481aaea630adbb7f8fd06de315ffd08a5bff6ab89", func := "loop.example/g03203/laws.FnExactTimesDigits", spec := "fnExactTimesDigits", apart := false, narrowed := true }
def FnExactTimesDigitsUptoSaid : Prop := fnExactTimesDigitsUptoRow.holds Try.pinned (OpenSpec.upto fnExactTimesDigitsSpec)

/-- 'laws.FnExactCompareDigits', WHERE WHAT IT READS IS OF BULK AT MOST 1048576: true; the input reads as it did. -/
def fnExactCompareDigitsUptoRow : OpenClaim := { program := "ytgmghlnhjleecab", sum := "e2cb01622fb398ebc2f0396481aaea630adbb7f8fd06de315ffd08a5bff6ab89", func := "loop.example/g03203/laws.FnExactCompareDigits", spec := "fnExactCompareDigits", unfollowed := true, recurses := true, apart := false, narrowed := true }
def FnExactCompareDigitsUptoSaid : Prop := fnExactCompareDigitsUptoRow.holds Try.pinned (OpenSpec.upto fnExactCompareDigitsSpec)

/-- 'laws.FnExactDivideDigits', WHERE WHAT IT READS IS OF BULK AT MOST 1048576: true; the input reads as it did. -/
def fnExactDivideDigitsUptoRow : OpenClaim := { program := "ytgmghlnhjleecab", sum := "e2cb01622fb398ebc2f0396481aaea630adbb7f8fd06de315ffd08a5bff6ab89", func := "loop.example/g03203/laws.FnExactDivideDigits", spec := "fnExactDivideDigits", unfollowed := true, recurses := true, apart := false, narrowed := true }
def FnExactDivideDigitsUptoSaid : Prop := fnExactDivideDigitsUptoRow.holds Try.pinned (OpenSpec.upto fnExactDivideDigitsSpec)

/-- 'laws.FnExactPowerDigits', WHERE WHAT IT READS IS OF BULK AT MOST 1048576: true; the input reads as it did. -/
def fnExactPowerDigitsUptoRow : OpenClaim := { program := "ytgmghlnhjleecab", sum := "e2cb01622fb398ebc2f0396481aaea630adbb7f8fd06de315ffd08a5bff6ab89", func := "loop.example/g03203/laws.FnExactPowerDigits", spec := "fnExactPowerDigits", apart := false, narrowed := true }
def FnExactPowerDigitsUptoSaid : Prop := fnExactPowerDigitsUptoRow.holds Try.pinned (OpenSpec.upto fnExactPowerDigitsSpec)

/-- 'laws.FnExactRootDigits', WHERE WHAT IT READS IS OF BULK AT MOST 1048576: true; the input reads as it did. -/
def fnExactRootDigitsUptoRow : OpenClaim := { program := "ytgmghlnhjleecab", sum := "e2cb01622fb398ebc2f0396481aaea630adbb7f8fd06de315ffd08a5bff6ab89", func := "loop.example/g03203/laws.FnExactRootDigits", spec := "fnExactRootDigits", unfollowed := true, recurses := true, apart := false, narrowed := true }
def FnExactRootDigitsUptoSaid : Prop := fnExactRootDigitsUptoRow.holds Try.pinned (OpenSpec.upto fnExactRootDigitsSpec)

/-- 'laws.FnExactConvertDigits', WHERE WHAT IT READS IS OF BULK AT MOST 1048576: true; the input reads as it did. -/
def fnExactConvertDigitsUptoRow : OpenClaim := { program := "ytgmghlnhjleecab", sum := "e2cb01622fb398ebc2f0396481aaea630adbb7f8fd06de315ffd08a5bff6ab89", func := "loop.example/g03203/laws.FnExactConvertDigits", spec := "fnExactConvertDigits", unfollowed := true, recurses := true, apart := false, narrowed := true }
def FnExactConvertDigitsUptoSaid : Prop := fnExactConvertDigitsUptoRow.holds Try.pinned (OpenSpec.upto fnExactConvertDigitsSpec)

/-- 'laws.FnBalanced', WHERE WHAT IT READS IS OF BULK AT MOST 1048576: true; the input reads as it did. -/
def fnBalancedUptoRow : OpenClaim := { program := "ytgmghlnhjleecab", sum := "e2cb01622fb398ebc2f0396481aaea630adbb7f8fd06de315ffd08a5bff6ab89", func := "loop.example/g03203/laws.FnBalanced", spec := "fnBalanced", inPlace := ["internal/abi.NoEscape"], unfollowed := true, recurses := true, apart := false, narrowed := true }
def FnBalancedUptoSaid : Prop := fnBalancedUptoRow.holds Try.pinned (OpenSpec.upto fnBalancedSpec)

/-- 'laws.FnExactBalancedOk', WHERE WHAT IT READS IS OF BULK AT MOST 1048576: true; the input reads as it did. -/
def fnExactBalancedOkUptoRow : OpenClaim := { program := "ytgmghlnhjleecab", sum := "e2cb01622fb398ebc2f0396481aaea630adbb7f8fd06de315ffd08a5bff6ab89", func := "loop.example/g03203/laws.FnExactBalancedOk", spec := "fnExactBalancedOk", apart := false, narrowed := true }
def FnExactBalancedOkUptoSaid : Prop := fnExactBalancedOkUptoRow.holds Try.pinned (OpenSpec.upto fnExactBalancedOkSpec)

end Rows
end Go.Proofs.Ytgmghlnhjleecab
