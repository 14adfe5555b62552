/-
  No cell of these rows narrows 'for every input' (looked for: loops, veiled, ifaces, maps, wideKeys, modest, calm, conditions, laid).
  DERIVED. THE GIVEN ROWS OF THIS SEAT. 11 by the template 'for every input the law returns true; each argument reads behind the call as it read before'; 0 by the template 'total and deterministic' (their statements: YtgmghlnhjleecaaTotals.lean).
  GIVEN WITH THE SEED: the statements are not yours to turn. If you find one false, say at which input.
  Laid BY PROGRAM, IN A SANDBOX (cutbox-rows.mjs): the forced cells as the released guide's own fill.sh prints them over the translation 76dd364a12a52ae7… (all of the seat's roots in one cut). By AI agents, Wed Nov 11 2026. No macro, syntax, notation, axiom, sorry.
-/
import Derived.Test.YtgmghlnhjleecaaChecked
import GoSem.Claim
import GoSem.ClaimJoined
import GoSem.ClaimMapViews
import Derived.JoinedTies
import Derived.KernelRfl
namespace Go.Proofs.Ytgmghlnhjleecaa
/- THE CELL 'sum', in the pinned program and in every row, IS THE sha256 OF THE DUMP (.gsa) THAT YtgmghlnhjleecaaProg.lean LOADS. Nothing in Lean hashes anything: it is a label: what it is worth is what the hold of that sum in a sandbox is worth. -/
noncomputable def Try.pinned : Pinned := { name := "ytgmghlnhjleecaa", sum := "76dd364a12a52ae7a278618bd5371026a0ebbb5fc419cbba418e28622ef8bc98", checked := Try.checked }
namespace Rows
def none {H : Type} : Left H := { results := [], args := [] }

/-- 'laws.FnDigits': WHATEVER THE INPUT: true; the input reads as it did. -/
def fnDigitsSpec : ChangeSpec := { name := "fnDigits", fn := fun _ => fun
  | [d] => { results := [.lit (.bool true)], args := [d] }
  | _ => none }
def fnDigitsRow : OpenClaim := { program := "ytgmghlnhjleecaa", sum := "76dd364a12a52ae7a278618bd5371026a0ebbb5fc419cbba418e28622ef8bc98", func := "loop.example/g03203/laws.FnDigits", spec := "fnDigits", inPlace := ["internal/abi.NoEscape"], unfollowed := true, recurses := true, apart := false }
def FnDigitsSaid : Prop := fnDigitsRow.holds Try.pinned (OpenSpec.ofChange fnDigitsSpec)

/-- ITS FALSE NEIGHBOUR: 'it returns false'. Refute it at one input. -/
def fnDigitsWrong : ChangeSpec := { name := "fnDigits", fn := fun _ => fun
  | [d] => { results := [.lit (.bool false)], args := [d] }
  | _ => none }
def FnDigitsWrongFalsely : Prop := fnDigitsRow.holds Try.pinned (OpenSpec.ofChange fnDigitsWrong)

/-- 'laws.FnExactDigitsOk': WHATEVER THE INPUT: true; the input reads as it did. -/
def fnExactDigitsOkSpec : ChangeSpec := { name := "fnExactDigitsOk", fn := fun _ => fun
  | [d1, d2] => { results := [.lit (.bool true)], args := [d1, d2] }
  | _ => none }
def fnExactDigitsOkRow : OpenClaim := { program := "ytgmghlnhjleecaa", sum := "76dd364a12a52ae7a278618bd5371026a0ebbb5fc419cbba418e28622ef8bc98", func := "loop.example/g03203/laws.FnExactDigitsOk", spec := "fnExactDigitsOk", apart := false }
def FnExactDigitsOkSaid : Prop := fnExactDigitsOkRow.holds Try.pinned (OpenSpec.ofChange fnExactDigitsOkSpec)

/-- ITS FALSE NEIGHBOUR: 'it returns false'. Refute it at one input. -/
def fnExactDigitsOkWrong : ChangeSpec := { name := "fnExactDigitsOk", fn := fun _ => fun
  | [d1, d2] => { results := [.lit (.bool false)], args := [d1, d2] }
  | _ => none }
def FnExactDigitsOkWrongFalsely : Prop := fnExactDigitsOkRow.holds Try.pinned (OpenSpec.ofChange fnExactDigitsOkWrong)

/-- 'laws.FnExactValueOf': WHATEVER THE INPUT: true; the input reads as it did. -/
def fnExactValueOfSpec : ChangeSpec := { name := "fnExactValueOf", fn := fun _ => fun
  | [d1, d2] => { results := [.lit (.bool true)], args := [d1, d2] }
  | _ => none }
def fnExactValueOfRow : OpenClaim := { program := "ytgmghlnhjleecaa", sum := "76dd364a12a52ae7a278618bd5371026a0ebbb5fc419cbba418e28622ef8bc98", func := "loop.example/g03203/laws.FnExactValueOf", spec := "fnExactValueOf", unfollowed := true, recurses := true, apart := false }
def FnExactValueOfSaid : Prop := fnExactValueOfRow.holds Try.pinned (OpenSpec.ofChange fnExactValueOfSpec)

/-- ITS FALSE NEIGHBOUR: 'it returns false'. Refute it at one input. -/
def fnExactValueOfWrong : ChangeSpec := { name := "fnExactValueOf", fn := fun _ => fun
  | [d1, d2] => { results := [.lit (.bool false)], args := [d1, d2] }
  | _ => none }
def FnExactValueOfWrongFalsely : Prop := fnExactValueOfRow.holds Try.pinned (OpenSpec.ofChange fnExactValueOfWrong)

/-- 'laws.FnExactFormatDigits': WHATEVER THE INPUT: true; the input reads as it did. -/
def fnExactFormatDigitsSpec : ChangeSpec := { name := "fnExactFormatDigits", fn := fun _ => fun
  | [d1, d2] => { results := [.lit (.bool true)], args := [d1, d2] }
  | _ => none }
def fnExactFormatDigitsRow : OpenClaim := { program := "ytgmghlnhjleecaa", sum := "76dd364a12a52ae7a278618bd5371026a0ebbb5fc419cbba418e28622ef8bc98", func := "loop.example/g03203/laws.FnExactFormatDigits", spec := "fnExactFormatDigits", inPlace := ["internal/abi.NoEscape"], unfollowed := true, recurses := true, apart := false }
def FnExactFormatDigitsSaid : Prop := fnExactFormatDigitsRow.holds Try.pinned (OpenSpec.ofChange fnExactFormatDigitsSpec)

/-- ITS FALSE NEIGHBOUR: 'it returns false'. Refute it at one input. -/
def fnExactFormatDigitsWrong : ChangeSpec := { name := "fnExactFormatDigits", fn := fun _ => fun
  | [d1, d2] => { results := [.lit (.bool false)], args := [d1, d2] }
  | _ => none }
def FnExactFormatDigitsWrongFalsely : Prop := fnExactFormatDigitsRow.holds Try.pinned (OpenSpec.ofChange fnExactFormatDigitsWrong)

/-- 'laws.FnExactParseDigits': WHATEVER THE INPUT: true; the input reads as it did. -/
def fnExactParseDigitsSpec : ChangeSpec := { name := "fnExactParseDigits", fn := fun _ => fun
  | [d1, d2] => { results := [.lit (.bool true)], args := [d1, d2] }
  | _ => none }
def fnExactParseDigitsRow : OpenClaim := { program := "ytgmghlnhjleecaa", sum := "76dd364a12a52ae7a278618bd5371026a0ebbb5fc419cbba418e28622ef8bc98", func := "loop.example/g03203/laws.FnExactParseDigits", spec := "fnExactParseDigits", inPlace := ["internal/bytealg.IndexByteString"], apart := false }
def FnExactParseDigitsSaid : Prop := fnExactParseDigitsRow.holds Try.pinned (OpenSpec.ofChange fnExactParseDigitsSpec)

/-- ITS FALSE NEIGHBOUR: 'it returns false'. Refute it at one input. -/
def fnExactParseDigitsWrong : ChangeSpec := { name := "fnExactParseDigits", fn := fun _ => fun
  | [d1, d2] => { results := [.lit (.bool false)], args := [d1, d2] }
  | _ => none }
def FnExactParseDigitsWrongFalsely : Prop := fnExactParseDigitsRow.holds Try.pinned (OpenSpec.ofChange fnExactParseDigitsWrong)

/-- 'laws.FnNegative': WHATEVER THE INPUT: true; the input reads as it did. -/
def fnNegativeSpec : ChangeSpec := { name := "fnNegative", fn := fun _ => fun
  | [d] => { results := [.lit (.bool true)], args := [d] }
  | _ => none }
def fnNegativeRow : OpenClaim := { program := "ytgmghlnhjleecaa", sum := "76dd364a12a52ae7a278618bd5371026a0ebbb5fc419cbba418e28622ef8bc98", func := "loop.example/g03203/laws.FnNegative", spec := "fnNegative", unfollowed := true, recurses := true, apart := false }
def FnNegativeSaid : Prop := fnNegativeRow.holds Try.pinned (OpenSpec.ofChange fnNegativeSpec)

/-- ITS FALSE NEIGHBOUR: 'it returns false'. Refute it at one input. -/
def fnNegativeWrong : ChangeSpec := { name := "fnNegative", fn := fun _ => fun
  | [d] => { results := [.lit (.bool false)], args := [d] }
  | _ => none }
def FnNegativeWrongFalsely : Prop := fnNegativeRow.holds Try.pinned (OpenSpec.ofChange fnNegativeWrong)

/-- 'laws.FnExactNegaValue': WHATEVER THE INPUT: true; the input reads as it did. -/
def fnExactNegaValueSpec : ChangeSpec := { name := "fnExactNegaValue", fn := fun _ => fun
  | [d1, d2] => { results := [.lit (.bool true)], args := [d1, d2] }
  | _ => none }
def fnExactNegaValueRow : OpenClaim := { program := "ytgmghlnhjleecaa", sum := "76dd364a12a52ae7a278618bd5371026a0ebbb5fc419cbba418e28622ef8bc98", func := "loop.example/g03203/laws.FnExactNegaValue", spec := "fnExactNegaValue", unfollowed := true, recurses := true, apart := false }
def FnExactNegaValueSaid : Prop := fnExactNegaValueRow.holds Try.pinned (OpenSpec.ofChange fnExactNegaValueSpec)

/-- ITS FALSE NEIGHBOUR: 'it returns false'. Refute it at one input. -/
def fnExactNegaValueWrong : ChangeSpec := { name := "fnExactNegaValue", fn := fun _ => fun
  | [d1, d2] => { results := [.lit (.bool false)], args := [d1, d2] }
  | _ => none }
def FnExactNegaValueWrongFalsely : Prop := fnExactNegaValueRow.holds Try.pinned (OpenSpec.ofChange fnExactNegaValueWrong)

/-- 'laws.FnExactNegaAdd': WHATEVER THE INPUT: true; the input reads as it did. -/
def fnExactNegaAddSpec : ChangeSpec := { name := "fnExactNegaAdd", fn := fun _ => fun
  | [d1, d2, d3] => { results := [.lit (.bool true)], args := [d1, d2, d3] }
  | _ => none }
def fnExactNegaAddRow : OpenClaim := { program := "ytgmghlnhjleecaa", sum := "76dd364a12a52ae7a278618bd5371026a0ebbb5fc419cbba418e28622ef8bc98", func := "loop.example/g03203/laws.FnExactNegaAdd", spec := "fnExactNegaAdd", unfollowed := true, recurses := true, apart := false }
def FnExactNegaAddSaid : Prop := fnExactNegaAddRow.holds Try.pinned (OpenSpec.ofChange fnExactNegaAddSpec)

/-- ITS FALSE NEIGHBOUR: 'it returns false'. Refute it at one input. -/
def fnExactNegaAddWrong : ChangeSpec := { name := "fnExactNegaAdd", fn := fun _ => fun
  | [d1, d2, d3] => { results := [.lit (.bool false)], args := [d1, d2, d3] }
  | _ => none }
def FnExactNegaAddWrongFalsely : Prop := fnExactNegaAddRow.holds Try.pinned (OpenSpec.ofChange fnExactNegaAddWrong)

/-- 'laws.FnExactNegaTimes': WHATEVER THE INPUT: true; the input reads as it did. -/
def fnExactNegaTimesSpec : ChangeSpec := { name := "fnExactNegaTimes", fn := fun _ => fun
  | [d1, d2, d3] => { results := [.lit (.bool true)], args := [d1, d2, d3] }
  | _ => none }
def fnExactNegaTimesRow : OpenClaim := { program := "ytgmghlnhjleecaa", sum := "76dd364a12a52ae7a278618bd5371026a0ebbb5fc419cbba418e28622ef8bc98", func := "loop.example/g03203/laws.FnExactNegaTimes", spec := "fnExactNegaTimes", unfollowed := true, recurses := true, apart := false }
def FnExactNegaTimesSaid : Prop := fnExactNegaTimesRow.holds Try.pinned (OpenSpec.ofChange fnExactNegaTimesSpec)

/-- ITS FALSE NEIGHBOUR: 'it returns false'. Refute it at one input. -/
def fnExactNegaTimesWrong : ChangeSpec := { name := "fnExactNegaTimes", fn := fun _ => fun
  | [d1, d2, d3] => { results := [.lit (.bool false)], args := [d1, d2, d3] }
  | _ => none }
def FnExactNegaTimesWrongFalsely : Prop := fnExactNegaTimesRow.holds Try.pinned (OpenSpec.ofChange fnExactNegaTimesWrong)

/-- 'laws.FnExactNegaSign': WHATEVER THE INPUT: true; the input reads as it did. -/
def fnExactNegaSignSpec : ChangeSpec := { name := "fnExactNegaSign", fn := fun _ => fun
  | [d1, d2] => { results := [.lit (.bool true)], args := [d1, d2] }
  | _ => none }
def fnExactNegaSignRow : OpenClaim := { program := "ytgmghlnhjleecaa", sum := "76dd364a12a52ae7a278618bd5371026a0ebbb5fc419cbba418e28622ef8bc98", func := "loop.example/g03203/laws.FnExactNegaSign", spec := "fnExactNegaSign", apart := false }
def FnExactNegaSignSaid : Prop := fnExactNegaSignRow.holds Try.pinned (OpenSpec.ofChange fnExactNegaSignSpec)

/-- ITS FALSE NEIGHBOUR: 'it returns false'. Refute it at one input. -/
def fnExactNegaSignWrong : ChangeSpec := { name := "fnExactNegaSign", fn := fun _ => fun
  | [d1, d2] => { results := [.lit (.bool false)], args := [d1, d2] }
  | _ => none }
def FnExactNegaSignWrongFalsely : Prop := fnExactNegaSignRow.holds Try.pinned (OpenSpec.ofChange fnExactNegaSignWrong)

/-- 'laws.FnExactNegaCompare': WHATEVER THE INPUT: true; the input reads as it did. -/
def fnExactNegaCompareSpec : ChangeSpec := { name := "fnExactNegaCompare", fn := fun _ => fun
  | [d1, d2, d3] => { results := [.lit (.bool true)], args := [d1, d2, d3] }
  | _ => none }
def fnExactNegaCompareRow : OpenClaim := { program := "ytgmghlnhjleecaa", sum := "76dd364a12a52ae7a278618bd5371026a0ebbb5fc419cbba418e28622ef8bc98", func := "loop.example/g03203/laws.FnExactNegaCompare", spec := "fnExactNegaCompare", apart := false }
def FnExactNegaCompareSaid : Prop := fnExactNegaCompareRow.holds Try.pinned (OpenSpec.ofChange fnExactNegaCompareSpec)

/-- ITS FALSE NEIGHBOUR: 'it returns false'. Refute it at one input. -/
def fnExactNegaCompareWrong : ChangeSpec := { name := "fnExactNegaCompare", fn := fun _ => fun
  | [d1, d2, d3] => { results := [.lit (.bool false)], args := [d1, d2, d3] }
  | _ => none }
def FnExactNegaCompareWrongFalsely : Prop := fnExactNegaCompareRow.holds Try.pinned (OpenSpec.ofChange fnExactNegaCompareWrong)

/- THE SECOND FORM. 'bulk': how many values and letters a reading holds, each counted each time it is reached (what is shared counts as often as it is met; a slice's spare places count too). A statement '..UptoSaid' is the law's where the arguments, and the package variables that the reading takes, are together of bulk at most 1048576: NARROWER than '..Said'. Prove '..Said' where nothing that the law and all that it calls make is longer than what came in: it says more and counts as full. Else prove '..UptoSaid'. A law counts once. -/
mutual
def uptoBulk {H : Type} : DataW H → Nat
  | .lit (.string bytes) => bytes.length + 1
  | .lit _ => 1
  | .nil => 1
  | .ptr d => uptoBulk d + 1
  | .slice elems spare => uptoBulkAll elems + uptoBulkAll spare + 1
  | .agg parts => uptoBulkAll parts + 1
  | .iface _ d => uptoBulk d + 1
  | .map entries => uptoBulkEntries entries + 1
  | .held _ => 1
def uptoBulkAll {H : Type} : List (DataW H) → Nat
  | [] => 0
  | d :: r => uptoBulk d + uptoBulkAll r
def uptoBulkEntries {H : Type} : List (Lit × DataW H) → Nat
  | [] => 0
  | x :: r => uptoBulkEntry x + uptoBulkEntries r
def uptoBulkEntry {H : Type} : Lit × DataW H → Nat
  | (.string bytes, d) => bytes.length + uptoBulk d + 1
  | (_, d) => uptoBulk d + 1
 end
def uptoSmall : (H : Type) → List (DataW H) → Bool := fun _ ds => decide (uptoBulkAll ds ≤ 1048576)
def OpenSpec.upto (s : _root_.Go.ChangeSpec) : _root_.Go.OpenSpec := { _root_.Go.OpenSpec.ofChange s with cond := some uptoSmall }

/-- 'laws.FnDigits', WHERE WHAT IT READS IS OF BULK AT MOST 1048576: true; the input reads as it did. -/
def fnDigitsUptoRow : OpenClaim := { program := "ytgmghlnhjleecaa", sum := "76dd364a12a52ae7a278618bd5371026a0ebbb5fc419cbba418e28622ef8bc98", func := "loop.example/g03203/laws.FnDigits", spec := "fnDigits", inPlace := ["internal/abi.NoEscape"], unfollowed := true, recurses := true, apart := false, narrowed := true }
def FnDigitsUptoSaid : Prop := fnDigitsUptoRow.holds Try.pinned (OpenSpec.upto fnDigitsSpec)

/-- 'laws.FnExactDigitsOk', WHERE WHAT IT READS IS OF BULK AT MOST 1048576: true; the input reads as it did. -/
def fnExactDigitsOkUptoRow : OpenClaim := { program := "ytgmghlnhjleecaa", sum := "76dd364a12a52ae7a278618bd5371026a0ebbb5fc419cbba418e28622ef8bc98", func := "loop.example/g03203/laws.FnExactDigitsOk", spec := "fnExactDigitsOk", apart := false, narrowed := true }
def FnExactDigitsOkUptoSaid : Prop := fnExactDigitsOkUptoRow.holds Try.pinned (OpenSpec.upto fnExactDigitsOkSpec)

/-- 'laws.FnExactValueOf', WHERE WHAT IT READS IS OF BULK AT MOST 1048576: true; the input reads as it did. -/
def fnExactValueOfUptoRow : OpenClaim := { program := "ytgmghlnhjleecaa", sum := "76dd364a12a52ae7a278618bd5371026a0ebbb5fc419cbba418e28622ef8bc98", func := "loop.example/g03203/laws.FnExactValueOf", spec := "fnExactValueOf", unfollowed := true, recurses := true, apart := false, narrowed := true }
def FnExactValueOfUptoSaid : Prop := fnExactValueOfUptoRow.holds Try.pinned (OpenSpec.upto fnExactValueOfSpec)

/-- 'laws.FnExactFormatDigits', WHERE WHAT IT READS IS OF BULK AT MOST 1048576: true; the input reads as it did. -/
def fnExactFormatDigitsUptoRow : OpenClaim := { program := "ytgmghlnhjleecaa", sum := "76dd364a12a52ae7a278618bd5371026a0ebbb5fc419cbba418e28622ef8bc98", func := "loop.example/g03203/laws.FnExactFormatDigits", spec := "fnExactFormatDigits", inPlace := ["internal/abi.NoEscape"], unfollowed := true, recurses := true, apart := false, narrowed := true }
def FnExactFormatDigitsUptoSaid : Prop := fnExactFormatDigitsUptoRow.holds Try.pinned (OpenSpec.upto fnExactFormatDigitsSpec)

/-- 'laws.FnExactParseDigits', WHERE WHAT IT READS IS OF BULK AT MOST 1048576: true; the input reads as it did. -/
def fnExactParseDigitsUptoRow : OpenClaim := { program := "ytgmghlnhjleecaa", sum := "76dd364a12a52ae7a278618bd5371026a0ebbb5fc419cbba418e28622ef8bc98", func := "loop.example/g03203/laws.FnExactParseDigits", spec := "fnExactParseDigits", inPlace := ["internal/bytealg.IndexByteString"], apart := false, narrowed := true }
def FnExactParseDigitsUptoSaid : Prop := fnExactParseDigitsUptoRow.holds Try.pinned (OpenSpec.upto fnExactParseDigitsSpec)

/-- 'laws.FnNegative', WHERE WHAT IT READS IS OF BULK AT MOST 1048576: true; the input reads as it did. -/
def fnNegativeUptoRow : OpenClaim := { program := "ytgmghlnhjleecaa", sum := "76dd364a12a52ae7a278618bd5371026a0ebbb5fc419cbba418e28622ef8bc98", func := "loop.example/g03203/laws.FnNegative", spec := "fnNegative", unfollowed := true, recurses := true, apart := false, narrowed := true }
def FnNegativeUptoSaid : Prop := fnNegativeUptoRow.holds Try.pinned (OpenSpec.upto fnNegativeSpec)

/-- 'laws.FnExactNegaValue', WHERE WHAT IT READS IS OF BULK AT MOST 1048576: true; the input reads as it did. -/
def fnExactNegaValueUptoRow : OpenClaim := { program := "ytgmghlnhjleecaa", sum := "76dd364a12a52ae7a278618bd5371026a0ebbb5fc419cbba418e28622ef8bc98", func := "loop.example/g03203/laws.FnExactNegaValue", spec := "fnExactNegaValue", unfollowed := true, recurses := true, apart := false, narrowed := true }
def FnExactNegaValueUptoSaid : Prop := fnExactNegaValueUptoRow.holds Try.pinned (OpenSpec.upto fnExactNegaValueSpec)

/-- 'laws.FnExactNegaAdd', WHERE WHAT IT READS IS OF BULK AT MOST 1048576: true; the input reads as it did. -/
def fnExactNegaAddUptoRow : OpenClaim := { program := "ytgmghlnhjleecaa", sum := "76dd364a12a52ae7a278618bd5371026a0ebbb5fc419cbba418e28622ef8bc98", func := "loop.example/g03203/laws.FnExactNegaAdd", spec := "fnExactNegaAdd", unfollowed := true, recurses := true, apart := false, narrowed := true }
def FnExactNegaAddUptoSaid : Prop := fnExactNegaAddUptoRow.holds Try.pinned (OpenSpec.upto fnExactNegaAddSpec)

/-- 'laws.FnExactNegaTimes', WHERE WHAT IT READS IS OF BULK AT MOST 1048576: true; the input reads as it did. -/
def fnExactNegaTimesUptoRow : OpenClaim := { program := "ytgmghlnhjleecaa", sum := "76dd364a12a52ae7a278618bd5371026a0ebbb5fc419cbba418e28622ef8bc98", func := "loop.example/g03203/laws.FnExactNegaTimes", spec := "fnExactNegaTimes", unfollowed := true, recurses := true, apart := false, narrowed := true }
def FnExactNegaTimesUptoSaid : Prop := fnExactNegaTimesUptoRow.holds Try.pinned (OpenSpec.upto fnExactNegaTimesSpec)

/-- 'laws.FnExactNegaSign', WHERE WHAT IT READS IS OF BULK AT MOST 1048576: true; the input reads as it did. -/
def fnExactNegaSignUptoRow : OpenClaim := { program := "ytgmghlnhjleecaa", sum := "76dd364a12a52ae7a278618bd5371026a0ebbb5fc419cbba418e28622ef8bc98", func := "loop.example/g03203/laws.FnExactNegaSign", spec := "fnExactNegaSign", apart := false, narrowed := true }
def FnExactNegaSignUptoSaid : Prop := fnExactNegaSignUptoRow.holds Try.pinned (OpenSpec.upto fnExactNegaSignSpec)

/-- 'laws.FnExactNegaCompare', WHERE WHAT IT READS IS OF BULK AT MOST 1048576: true; the input reads as it did. -/
def fnExactNegaCompareUptoRow : OpenClaim := { program := "ytgmghlnhjleecaa", sum := "76dd364a12a52ae7a278618bd5371026a0ebbb5fc419cbba418e28622ef8bc98", func := "loop.example/g03203/laws.FnExactNegaCompare", spec := "fnExactNegaCompare", apart := false, narrowed := true }
def FnExactNegaCompareUptoSaid : Prop := fnExactNegaCompareUptoRow.holds Try.pinned (OpenSpec.upto fnExactNegaCompareSpec)

end Rows
end Go.Proofs.Ytgmghlnhjleecaa
