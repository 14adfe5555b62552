/-
  No cell of these rows narrows 'for every input' (looked for: loops, veiled, ifaces, maps, wideKeys, modest, calm, conditions, laid).
  DERIVED. THE GIVEN ROWS OF THIS SEAT. 12 by the template 'for every input the law returns true; each argument reads behind the call as it read before'; 0 by the template 'total and deterministic' (their statements: YtdflpocnfodbhabTotals.lean).
  GIVEN WITH THE SEED: the statements are not yours to turn. If you find one false, say at which input.
  Laid BY PROGRAM, IN A SANDBOX (cutbox-rows.mjs): the forced cells as the released guide's own fill.sh prints them over the translation 9a40395741e46449… (all of the seat's roots in one cut). By AI agents, Wed Nov 11 2026. No macro, syntax, notation, axiom, sorry.
-/
import Derived.Test.YtdflpocnfodbhabChecked
import GoSem.Claim
import GoSem.ClaimJoined
import GoSem.ClaimMapViews
import Derived.JoinedTies
import Derived.KernelRfl
namespace Go.Proofs.Ytdflpocnfodbhab
/- THE CELL 'sum', in the pinned program and in every row, IS THE sha256 OF THE DUMP (.gsa) THAT YtdflpocnfodbhabProg.lean LOADS. Nothing in Lean hashes anything: it is a label: what it is worth is what the hold of that sum in a sandbox is worth. -/
noncomputable def Try.pinned : Pinned := { name := "ytdflpocnfodbhab", sum := "9a40395741e4644975c1523f720a22e072eaf5997c5284e1eae4e71b38233a35", checked := Try.checked }
namespace Rows
def none {H : Type} : Left H := { results := [], args := [] }

/-- 'laws.FnExactCompareDigits': WHATEVER THE INPUT: true; the input reads as it did. -/
def fnExactCompareDigitsSpec : ChangeSpec := { name := "fnExactCompareDigits", fn := fun _ => fun
  | [d1, d2, d3] => { results := [.lit (.bool true)], args := [d1, d2, d3] }
  | _ => none }
def fnExactCompareDigitsRow : OpenClaim := { program := "ytdflpocnfodbhab", sum := "9a40395741e4644975c1523f720a22e072eaf5997c5284e1eae4e71b38233a35", func := "loop.example/g03203/laws.FnExactCompareDigits", spec := "fnExactCompareDigits", unfollowed := true, recurses := true, apart := false }
def FnExactCompareDigitsSaid : Prop := fnExactCompareDigitsRow.holds Try.pinned (OpenSpec.ofChange fnExactCompareDigitsSpec)

/-- ITS FALSE NEIGHBOUR: 'it returns false'. Refute it at one input. -/
def fnExactCompareDigitsWrong : ChangeSpec := { name := "fnExactCompareDigits", fn := fun _ => fun
  | [d1, d2, d3] => { results := [.lit (.bool false)], args := [d1, d2, d3] }
  | _ => none }
def FnExactCompareDigitsWrongFalsely : Prop := fnExactCompareDigitsRow.holds Try.pinned (OpenSpec.ofChange fnExactCompareDigitsWrong)

/-- 'laws.FnExactDivideDigits': WHATEVER THE INPUT: true; the input reads as it did. -/
def fnExactDivideDigitsSpec : ChangeSpec := { name := "fnExactDivideDigits", fn := fun _ => fun
  | [d1, d2, d3] => { results := [.lit (.bool true)], args := [d1, d2, d3] }
  | _ => none }
def fnExactDivideDigitsRow : OpenClaim := { program := "ytdflpocnfodbhab", sum := "9a40395741e4644975c1523f720a22e072eaf5997c5284e1eae4e71b38233a35", func := "loop.example/g03203/laws.FnExactDivideDigits", spec := "fnExactDivideDigits", unfollowed := true, recurses := true, apart := false }
def FnExactDivideDigitsSaid : Prop := fnExactDivideDigitsRow.holds Try.pinned (OpenSpec.ofChange fnExactDivideDigitsSpec)

/-- ITS FALSE NEIGHBOUR: 'it returns false'. Refute it at one input. -/
def fnExactDivideDigitsWrong : ChangeSpec := { name := "fnExactDivideDigits", fn := fun _ => fun
  | [d1, d2, d3] => { results := [.lit (.bool false)], args := [d1, d2, d3] }
  | _ => none }
def FnExactDivideDigitsWrongFalsely : Prop := fnExactDivideDigitsRow.holds Try.pinned (OpenSpec.ofChange fnExactDivideDigitsWrong)

/-- 'laws.FnExactPowerDigits': WHATEVER THE INPUT: true; the input reads as it did. -/
def fnExactPowerDigitsSpec : ChangeSpec := { name := "fnExactPowerDigits", fn := fun _ => fun
  | [d1, d2, d3] => { results := [.lit (.bool true)], args := [d1, d2, d3] }
  | _ => none }
def fnExactPowerDigitsRow : OpenClaim := { program := "ytdflpocnfodbhab", sum := "9a40395741e4644975c1523f720a22e072eaf5997c5284e1eae4e71b38233a35", func := "loop.example/g03203/laws.FnExactPowerDigits", spec := "fnExactPowerDigits", apart := false }
def FnExactPowerDigitsSaid : Prop := fnExactPowerDigitsRow.holds Try.pinned (OpenSpec.ofChange fnExactPowerDigitsSpec)

/-- ITS FALSE NEIGHBOUR: 'it returns false'. Refute it at one input. -/
def fnExactPowerDigitsWrong : ChangeSpec := { name := "fnExactPowerDigits", fn := fun _ => fun
  | [d1, d2, d3] => { results := [.lit (.bool false)], args := [d1, d2, d3] }
  | _ => none }
def FnExactPowerDigitsWrongFalsely : Prop := fnExactPowerDigitsRow.holds Try.pinned (OpenSpec.ofChange fnExactPowerDigitsWrong)

/-- 'laws.FnExactRootDigits': WHATEVER THE INPUT: true; the input reads as it did. -/
def fnExactRootDigitsSpec : ChangeSpec := { name := "fnExactRootDigits", fn := fun _ => fun
  | [d1, d2] => { results := [.lit (.bool true)], args := [d1, d2] }
  | _ => none }
def fnExactRootDigitsRow : OpenClaim := { program := "ytdflpocnfodbhab", sum := "9a40395741e4644975c1523f720a22e072eaf5997c5284e1eae4e71b38233a35", func := "loop.example/g03203/laws.FnExactRootDigits", spec := "fnExactRootDigits", unfollowed := true, recurses := true, apart := false }
def FnExactRootDigitsSaid : Prop := fnExactRootDigitsRow.holds Try.pinned (OpenSpec.ofChange fnExactRootDigitsSpec)

/-- ITS FALSE NEIGHBOUR: 'it returns false'. Refute it at one input. -/
def fnExactRootDigitsWrong : ChangeSpec := { name := "fnExactRootDigits", fn := fun _ => fun
  | [d1, d2] => { results := [.lit (.bool false)], args := [d1, d2] }
  | _ => none }
def FnExactRootDigitsWrongFalsely : Prop := fnExactRootDigitsRow.holds Try.pinned (OpenSpec.ofChange fnExactRootDigitsWrong)

/-- 'laws.FnExactConvertDigits': WHATEVER THE INPUT: true; the input reads as it did. -/
def fnExactConvertDigitsSpec : ChangeSpec := { name := "fnExactConvertDigits", fn := fun _ => fun
  | [d1, d2, d3] => { results := [.lit (.bool true)], args := [d1, d2, d3] }
  | _ => none }
def fnExactConvertDigitsRow : OpenClaim := { program := "ytdflpocnfodbhab", sum := "9a40395741e4644975c1523f720a22e072eaf5997c5284e1eae4e71b38233a35", func := "loop.example/g03203/laws.FnExactConvertDigits", spec := "fnExactConvertDigits", unfollowed := true, recurses := true, apart := false }
def FnExactConvertDigitsSaid : Prop := fnExactConvertDigitsRow.holds Try.pinned (OpenSpec.ofChange fnExactConvertDigitsSpec)

/-- ITS FALSE NEIGHBOUR: 'it returns false'. Refute it at one input. -/
def fnExactConvertDigitsWrong : ChangeSpec := { name := "fnExactConvertDigits", fn := fun _ => fun
  | [d1, d2, d3] => { results := [.lit (.bool false)], args := [d1, d2, d3] }
  | _ => none }
def FnExactConvertDigitsWrongFalsely : Prop := fnExactConvertDigitsRow.holds Try.pinned (OpenSpec.ofChange fnExactConvertDigitsWrong)

/-- 'laws.FnExactNegaValue': WHATEVER THE INPUT: true; the input reads as it did. -/
def fnExactNegaValueSpec : ChangeSpec := { name := "fnExactNegaValue", fn := fun _ => fun
  | [d1, d2] => { results := [.lit (.bool true)], args := [d1, d2] }
  | _ => none }
def fnExactNegaValueRow : OpenClaim := { program := "ytdflpocnfodbhab", sum := "9a40395741e4644975c1523f720a22e072eaf5997c5284e1eae4e71b38233a35", func := "loop.example/g03203/laws.FnExactNegaValue", spec := "fnExactNegaValue", unfollowed := true, recurses := true, apart := false }
def FnExactNegaValueSaid : Prop := fnExactNegaValueRow.holds Try.pinned (OpenSpec.ofChange fnExactNegaValueSpec)

/-- ITS FALSE NEIGHBOUR: 'it returns false'. Refute it at one input. -/
def fnExactNegaValueWrong : ChangeSpec := { name := "fnExactNegaValue", fn := fun _ => fun
  | [d1, d2] => { results := [.lit (.bool false)], args := [d1, d2] }
  | _ => none }
def FnExactNegaValueWrongFalsely : Prop := fnExactNegaValueRow.holds Try.pinned (OpenSpec.ofChange fnExactNegaValueWrong)

/-- 'laws.FnExactNegaAdd': WHATEVER THE INPUT: true; the input reads as it did. -/
def fnExactNegaAddSpec : ChangeSpec := { name := "fnExactNegaAdd", fn := fun _ => fun
  | [d1, d2, d3] => { results := [.lit (.bool true)], args := [d1, d2, d3] }
  | _ => none }
def fnExactNegaAddRow : OpenClaim := { program := "ytdflpocnfodbhab", sum := "9a40395741e4644975c1523f720a22e072eaf5997c5284e1eae4e71b38233a35", func := "loop.example/g03203/laws.FnExactNegaAdd", spec := "fnExactNegaAdd", unfollowed := true, recurses := true, apart := false }
def FnExactNegaAddSaid : Prop := fnExactNegaAddRow.holds Try.pinned (OpenSpec.ofChange fnExactNegaAddSpec)

/-- ITS FALSE NEIGHBOUR: 'it returns false'. Refute it at one input. -/
def fnExactNegaAddWrong : ChangeSpec := { name := "fnExactNegaAdd", fn := fun _ => fun
  | [d1, d2, d3] => { results := [.lit (.bool false)], args := [d1, d2, d3] }
  | _ => none }
def FnExactNegaAddWrongFalsely : Prop := fnExactNegaAddRow.holds Try.pinned (OpenSpec.ofChange fnExactNegaAddWrong)

/-- 'laws.FnExactNegaTimes': WHATEVER THE INPUT: true; the input reads as it did. -/
def fnExactNegaTimesSpec : ChangeSpec := { name := "fnExactNegaTimes", fn := fun _ => fun
  | [d1, d2, d3] => { results := [.lit (.bool true)], args := [d1, d2, d3] }
  | _ => none }
def fnExactNegaTimesRow : OpenClaim := { program := "ytdflpocnfodbhab", sum := "9a40395741e4644975c1523f720a22e072eaf5997c5284e1eae4e71b38233a35", func := "loop.example/g03203/laws.FnExactNegaTimes", spec := "fnExactNegaTimes", unfollowed := true, recurses := true, apart := false }
def FnExactNegaTimesSaid : Prop := fnExactNegaTimesRow.holds Try.pinned (OpenSpec.ofChange fnExactNegaTimesSpec)

/-- ITS FALSE NEIGHBOUR: 'it returns false'. Refute it at one input. -/
def fnExactNegaTimesWrong : ChangeSpec := { name := "fnExactNegaTimes", fn := fun _ => fun
  | [d1, d2, d3] => { results := [.lit (.bool false)], args := [d1, d2, d3] }
  | _ => none }
def FnExactNegaTimesWrongFalsely : Prop := fnExactNegaTimesRow.holds Try.pinned (OpenSpec.ofChange fnExactNegaTimesWrong)

/-- 'laws.FnExactNegaSign': WHATEVER THE INPUT: true; the input reads as it did. -/
def fnExactNegaSignSpec : ChangeSpec := { name := "fnExactNegaSign", fn := fun _ => fun
  | [d1, d2] => { results := [.lit (.bool true)], args := [d1, d2] }
  | _ => none }
def fnExactNegaSignRow : OpenClaim := { program := "ytdflpocnfodbhab", sum := "9a40395741e4644975c1523f720a22e072eaf5997c5284e1eae4e71b38233a35", func := "loop.example/g03203/laws.FnExactNegaSign", spec := "fnExactNegaSign", apart := false }
def FnExactNegaSignSaid : Prop := fnExactNegaSignRow.holds Try.pinned (OpenSpec.ofChange fnExactNegaSignSpec)

/-- ITS FALSE NEIGHBOUR: 'it returns false'. Refute it at one input. -/
def fnExactNegaSignWrong : ChangeSpec := { name := "fnExactNegaSign", fn := fun _ => fun
  | [d1, d2] => { results := [.lit (.bool false)], args := [d1, d2] }
  | _ => none }
def FnExactNegaSignWrongFalsely : Prop := fnExactNegaSignRow.holds Try.pinned (OpenSpec.ofChange fnExactNegaSignWrong)

/-- 'laws.FnExactNegaCompare': WHATEVER THE INPUT: true; the input reads as it did. -/
def fnExactNegaCompareSpec : ChangeSpec := { name := "fnExactNegaCompare", fn := fun _ => fun
  | [d1, d2, d3] => { results := [.lit (.bool true)], args := [d1, d2, d3] }
  | _ => none }
def fnExactNegaCompareRow : OpenClaim := { program := "ytdflpocnfodbhab", sum := "9a40395741e4644975c1523f720a22e072eaf5997c5284e1eae4e71b38233a35", func := "loop.example/g03203/laws.FnExactNegaCompare", spec := "fnExactNegaCompare", apart := false }
def FnExactNegaCompareSaid : Prop := fnExactNegaCompareRow.holds Try.pinned (OpenSpec.ofChange fnExactNegaCompareSpec)

/-- ITS FALSE NEIGHBOUR: 'it returns false'. Refute it at one input. -/
def fnExactNegaCompareWrong : ChangeSpec := { name := "fnExactNegaCompare", fn := fun _ => fun
  | [d1, d2, d3] => { results := [.lit (.bool false)], args := [d1, d2, d3] }
  | _ => none }
def FnExactNegaCompareWrongFalsely : Prop := fnExactNegaCompareRow.holds Try.pinned (OpenSpec.ofChange fnExactNegaCompareWrong)

/-- 'laws.FnExactBalancedOk': WHATEVER THE INPUT: true; the input reads as it did. -/
def fnExactBalancedOkSpec : ChangeSpec := { name := "fnExactBalancedOk", fn := fun _ => fun
  | [d1, d2] => { results := [.lit (.bool true)], args := [d1, d2] }
  | _ => none }
def fnExactBalancedOkRow : OpenClaim := { program := "ytdflpocnfodbhab", sum := "9a40395741e4644975c1523f720a22e072eaf5997c5284e1eae4e71b38233a35", func := "loop.example/g03203/laws.FnExactBalancedOk", spec := "fnExactBalancedOk", apart := false }
def FnExactBalancedOkSaid : Prop := fnExactBalancedOkRow.holds Try.pinned (OpenSpec.ofChange fnExactBalancedOkSpec)

/-- ITS FALSE NEIGHBOUR: 'it returns false'. Refute it at one input. -/
def fnExactBalancedOkWrong : ChangeSpec := { name := "fnExactBalancedOk", fn := fun _ => fun
  | [d1, d2] => { results := [.lit (.bool false)], args := [d1, d2] }
  | _ => none }
def FnExactBalancedOkWrongFalsely : Prop := fnExactBalancedOkRow.holds Try.pinned (OpenSpec.ofChange fnExactBalancedOkWrong)

/-- 'laws.FnExactBalancedValue': WHATEVER THE INPUT: true; the input reads as it did. -/
def fnExactBalancedValueSpec : ChangeSpec := { name := "fnExactBalancedValue", fn := fun _ => fun
  | [d1, d2] => { results := [.lit (.bool true)], args := [d1, d2] }
  | _ => none }
def fnExactBalancedValueRow : OpenClaim := { program := "ytdflpocnfodbhab", sum := "9a40395741e4644975c1523f720a22e072eaf5997c5284e1eae4e71b38233a35", func := "loop.example/g03203/laws.FnExactBalancedValue", spec := "fnExactBalancedValue", unfollowed := true, recurses := true, apart := false }
def FnExactBalancedValueSaid : Prop := fnExactBalancedValueRow.holds Try.pinned (OpenSpec.ofChange fnExactBalancedValueSpec)

/-- ITS FALSE NEIGHBOUR: 'it returns false'. Refute it at one input. -/
def fnExactBalancedValueWrong : ChangeSpec := { name := "fnExactBalancedValue", fn := fun _ => fun
  | [d1, d2] => { results := [.lit (.bool false)], args := [d1, d2] }
  | _ => none }
def FnExactBalancedValueWrongFalsely : Prop := fnExactBalancedValueRow.holds Try.pinned (OpenSpec.ofChange fnExactBalancedValueWrong)

/- THE SECOND FORM. 'bulk': how many values and letters a reading holds, each counted each time it is reached (what is shared counts as often as it is met; a slice's spare places count too). A statement '..UptoSaid' is the law's where the arguments, and the package variables that the reading takes, are together of bulk at most 1048576: NARROWER than '..Said'. Prove '..Said' where nothing that the law and all that it calls make is longer than what came in: it says more and counts as full. Else prove '..UptoSaid'. A law counts once. -/
mutual
def uptoBulk {H : Type} : DataW H → Nat
  | .lit (.string bytes) => bytes.length + 1
  | .lit _ => 1
  | .nil => 1
  | .ptr d => uptoBulk d + 1
  | .slice elems spare => uptoBulkAll elems + uptoBulkAll spare + 1
  | .agg parts => uptoBulkAll parts + 1
  | .iface _ d => uptoBulk d + 1
  | .map entries => uptoBulkEntries entries + 1
  | .held _ => 1
def uptoBulkAll {H : Type} : List (DataW H) → Nat
  | [] => 0
  | d :: r => uptoBulk d + uptoBulkAll r
def uptoBulkEntries {H : Type} : List (Lit × DataW H) → Nat
  | [] => 0
  | x :: r => uptoBulkEntry x + uptoBulkEntries r
def uptoBulkEntry {H : Type} : Lit × DataW H → Nat
  | (.string bytes, d) => bytes.length + uptoBulk d + 1
  | (_, d) => uptoBulk d + 1
 end
def uptoSmall : (H : Type) → List (DataW H) → Bool := fun _ ds => decide (uptoBulkAll ds ≤ 1048576)
def OpenSpec.upto (s : _root_.Go.ChangeSpec) : _root_.Go.OpenSpec := { _root_.Go.OpenSpec.ofChange s with cond := some uptoSmall }

/-- 'laws.FnExactCompareDigits', WHERE WHAT IT READS IS OF BULK AT MOST 1048576: true; the input reads as it did. -/
def fnExactCompareDigitsUptoRow : OpenClaim := { program := "ytdflpocnfodbhab", sum := "9a40395741e4644975c1523f720a22e072eaf5997c5284e1eae4e71b38233a35", func := "loop.example/g03203/laws.FnExactCompareDigits", spec := "fnExactCompareDigits", unfollowed := true, recurses := true, apart := false, narrowed := true }
def FnExactCompareDigitsUptoSaid : Prop := fnExactCompareDigitsUptoRow.holds Try.pinned (OpenSpec.upto fnExactCompareDigitsSpec)

/-- 'laws.FnExactDivideDigits', WHERE WHAT IT READS IS OF BULK AT MOST 1048576: true; the input reads as it did. -/
def fnExactDivideDigitsUptoRow : OpenClaim := { program := "ytdflpocnfodbhab", sum := "9a40395741e4644975c1523f720a22e072eaf5997c5284e1eae4e71b38233a35", func := "loop.example/g03203/laws.FnExactDivideDigits", spec := "fnExactDivideDigits", unfollowed := true, recurses := true, apart := false, narrowed := true }
def FnExactDivideDigitsUptoSaid : Prop := fnExactDivideDigitsUptoRow.holds Try.pinned (OpenSpec.upto fnExactDivideDigitsSpec)

/-- 'laws.FnExactPowerDigits', WHERE WHAT IT READS IS OF BULK AT MOST 1048576: true; the input reads as it did. -/
def fnExactPowerDigitsUptoRow : OpenClaim := { program := "ytdflpocnfodbhab", sum := "9a40395741e4644975c1523f720a22e072eaf5997c5284e1eae4e71b38233a35", func := "loop.example/g03203/laws.FnExactPowerDigits", spec := "fnExactPowerDigits", apart := false, narrowed := true }
def FnExactPowerDigitsUptoSaid : Prop := fnExactPowerDigitsUptoRow.holds Try.pinned (OpenSpec.upto fnExactPowerDigitsSpec)

/-- 'laws.FnExactRootDigits', WHERE WHAT IT READS IS OF BULK AT MOST 1048576: true; the input reads as it did. -/
def fnExactRootDigitsUptoRow : OpenClaim := { program := "ytdflpocnfodbhab", sum := "9a40395741e4644975c1523f720a22e072eaf5997c5284e1eae4e71b38233a35", func := "loop.example/g03203/laws.FnExactRootDigits", spec := "fnExactRootDigits", unfollowed := true, recurses := true, apart := false, narrowed := true }
def FnExactRootDigitsUptoSaid : Prop := fnExactRootDigitsUptoRow.holds Try.pinned (OpenSpec.upto fnExactRootDigitsSpec)

/-- 'laws.FnExactConvertDigits', WHERE WHAT IT READS IS OF BULK AT MOST 1048576: true; the input reads as it did. -/
def fnExactConvertDigitsUptoRow : OpenClaim := { program := "ytdflpocnfodbhab", sum := "9a40395741e4644975c1523f720a22e072eaf5997c5284e1eae4e71b38233a35", func := "loop.example/g03203/laws.FnExactConvertDigits", spec := "fnExactConvertDigits", unfollowed := true, recurses := true, apart := false, narrowed := true }
def FnExactConvertDigitsUptoSaid : Prop := fnExactConvertDigitsUptoRow.holds Try.pinned (OpenSpec.upto fnExactConvertDigitsSpec)

/-- 'laws.FnExactNegaValue', WHERE WHAT IT READS IS OF BULK AT MOST 1048576: true; the input reads as it did. -/
def fnExactNegaValueUptoRow : OpenClaim := { program := "ytdflpocnfodbhab", sum := "9a40395741e4644975c1523f720a22e072eaf5997c5284e1eae4e71b38233a35", func := "loop.example/g03203/laws.FnExactNegaValue", spec := "fnExactNegaValue", unfollowed := true, recurses := true, apart := false, narrowed := true }
def FnExactNegaValueUptoSaid : Prop := fnExactNegaValueUptoRow.holds Try.pinned (OpenSpec.upto fnExactNegaValueSpec)

/-- 'laws.FnExactNegaAdd', WHERE WHAT IT READS IS OF BULK AT MOST 1048576: true; the input reads as it did. -/
def fnExactNegaAddUptoRow : OpenClaim := { program := "ytdflpocnfodbhab", sum := "9a40395741e4644975c1523f720a22e072eaf5997c5284e1eae4e71b38233a35", func := "loop.example/g03203/laws.FnExactNegaAdd", spec := "fnExactNegaAdd", unfollowed := true, recurses := true, apart := false, narrowed := true }
def FnExactNegaAddUptoSaid : Prop := fnExactNegaAddUptoRow.holds Try.pinned (OpenSpec.upto fnExactNegaAddSpec)

/-- 'laws.FnExactNegaTimes', WHERE WHAT IT READS IS OF BULK AT MOST 1048576: true; the input reads as it did. -/
def fnExactNegaTimesUptoRow : OpenClaim := { program := "ytdflpocnfodbhab", sum := "9a40395741e4644975c1523f720a22e072eaf5997c5284e1eae4e71b38233a35", func := "loop.example/g03203/laws.FnExactNegaTimes", spec := "fnExactNegaTimes", unfollowed := true, recurses := true, apart := false, narrowed := true }
def FnExactNegaTimesUptoSaid : Prop := fnExactNegaTimesUptoRow.holds Try.pinned (OpenSpec.upto fnExactNegaTimesSpec)

/-- 'laws.FnExactNegaSign', WHERE WHAT IT READS IS OF BULK AT MOST 1048576: true; the input reads as it did. -/
def fnExactNegaSignUptoRow : OpenClaim := { program := "ytdflpocnfodbhab", sum := "9a40395741e4644975c1523f720a22e072eaf5997c5284e1eae4e71b38233a35", func := "loop.example/g03203/laws.FnExactNegaSign", spec := "fnExactNegaSign", apart := false, narrowed := true }
def FnExactNegaSignUptoSaid : Prop := fnExactNegaSignUptoRow.holds Try.pinned (OpenSpec.upto fnExactNegaSignSpec)

/-- 'laws.FnExactNegaCompare', WHERE WHAT IT READS IS OF BULK AT MOST 1048576: true; the input reads as it did. -/
def fnExactNegaCompareUptoRow : OpenClaim := { program := "ytdflpocnfodbhab", sum := "9a40395741e4644975c1523f720a22e072eaf5997c5284e1eae4e71b38233a35", func := "loop.example/g03203/laws.FnExactNegaCompare", spec := "fnExactNegaCompare", apart := false, narrowed := true }
def FnExactNegaCompareUptoSaid : Prop := fnExactNegaCompareUptoRow.holds Try.pinned (OpenSpec.upto fnExactNegaCompareSpec)

/-- 'laws.FnExactBalancedOk', WHERE WHAT IT READS IS OF BULK AT MOST 1048576: true; the input reads as it did. -/
def fnExactBalancedOkUptoRow : OpenClaim := { program := "ytdflpocnfodbhab", sum := "9a40395741e4644975c1523f720a22e072eaf5997c5284e1eae4e71b38233a35", func := "loop.example/g03203/laws.FnExactBalancedOk", spec := "fnExactBalancedOk", apart := false, narrowed := true }
def FnExactBalancedOkUptoSaid : Prop := fnExactBalancedOkUptoRow.holds Try.pinned (OpenSpec.upto fnExactBalancedOkSpec)

/-- 'laws.FnExactBalancedValue', WHERE WHAT IT READS IS OF BULK AT MOST 1048576: true; the input reads as it did. -/
def fnExactBalancedValueUptoRow : OpenClaim := { program := "ytdflpocnfodbhab", sum := "9a40395741e4644975c1523f720a22e072eaf5997c5284e1eae4e71b38233a35", func := "loop.example/g03203/laws.FnExactBalancedValue", spec := "fnExactBalancedValue", unfollowed := true, recurses := true, apart := false, narrowed := true }
def FnExactBalancedValueUptoSaid : Prop := fnExactBalancedValueUptoRow.holds Try.pinned (OpenSpec.upto fnExactBalancedValueSpec)

end Rows
end Go.Proofs.Ytdflpocnfodbhab
