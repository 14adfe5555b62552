/-
  No cell of these rows narrows 'for every input' (looked for: loops, veiled, ifaces, maps, wideKeys, modest, calm, conditions, laid).
  DERIVED. THE GIVEN ROWS OF THIS SEAT. 11 by the template 'for every input the law returns true; each argument reads behind the call as it read before'; 0 by the template 'total and deterministic' (their statements: YtedjmoliihejcaaTotals.lean).
  GIVEN WITH THE SEED: the statements are not yours to turn. If you find one false, say at which input.
  Laid BY PROGRAM, IN A SANDBOX (cutbox-rows.mjs): the forced cells as the released guide's own fill.sh prints them over the translation 00038f74f63eb3b2… (all of the seat's roots in one cut). By AI agents, Wed Nov 11 2026. No macro, syntax, notation, axiom, sorry.
-/
import Derived.Test.YtedjmoliihejcaaChecked
import GoSem.Claim
import GoSem.ClaimJoined
import GoSem.ClaimMapViews
import Derived.JoinedTies
import Derived.KernelRfl
namespace Go.Proofs.Ytedjmoliihejcaa
/- THE CELL 'sum', in the pinned program and in every row, IS THE sha256 OF THE DUMP (.gsa) THAT YtedjmoliihejcaaProg.lean LOADS. Nothing in Lean hashes anything: it is a label: what it is worth is what the hold of that sum in a sandbox is worth. -/
noncomputable def Try.pinned : Pinned := { name := "ytedjmoliihejcaa", sum := "00038f74f63eb3b20aa2150188531daa1f8bfab3fe81a5dc9d8d69d361c2ef81", checked := Try.checked }
namespace Rows
def none {H : Type} : Left H := { results := [], args := [] }

/-- 'laws.FnDigits': WHATEVER THE INPUT: true; the input reads as it did. -/
def fnDigitsSpec : ChangeSpec := { name := "fnDigits", fn := fun _ => fun
  | [d] => { results := [.lit (.bool true)], args := [d] }
  | _ => none }
def fnDigitsRow : OpenClaim := { program := "ytedjmoliihejcaa", sum := "00038f74f63eb3b20aa2150188531daa1f8bfab3fe81a5dc9d8d69d361c2ef81", func := "loop.example/g03203/laws.FnDigits", spec := "fnDigits", inPlace := ["internal/abi.NoEscape"], unfollowed := true, recurses := true, apart := false }
def FnDigitsSaid : Prop := fnDigitsRow.holds Try.pinned (OpenSpec.ofChange fnDigitsSpec)

/-- ITS FALSE NEIGHBOUR: 'it returns false'. Refute it at one input. -/
def fnDigitsWrong : ChangeSpec := { name := "fnDigits", fn := fun _ => fun
  | [d] => { results := [.lit (.bool false)], args := [d] }
  | _ => none }
def FnDigitsWrongFalsely : Prop := fnDigitsRow.holds Try.pinned (OpenSpec.ofChange fnDigitsWrong)

/-- 'laws.FnExactBaseOk': WHATEVER THE INPUT: true; the input reads as it did. -/
def fnExactBaseOkSpec : ChangeSpec := { name := "fnExactBaseOk", fn := fun _ => fun
  | [d] => { results := [.lit (.bool true)], args := [d] }
  | _ => none }
def fnExactBaseOkRow : OpenClaim := { program := "ytedjmoliihejcaa", sum := "00038f74f63eb3b20aa2150188531daa1f8bfab3fe81a5dc9d8d69d361c2ef81", func := "loop.example/g03203/laws.FnExactBaseOk", spec := "fnExactBaseOk", apart := false }
def FnExactBaseOkSaid : Prop := fnExactBaseOkRow.holds Try.pinned (OpenSpec.ofChange fnExactBaseOkSpec)

/-- ITS FALSE NEIGHBOUR: 'it returns false'. Refute it at one input. -/
def fnExactBaseOkWrong : ChangeSpec := { name := "fnExactBaseOk", fn := fun _ => fun
  | [d] => { results := [.lit (.bool false)], args := [d] }
  | _ => none }
def FnExactBaseOkWrongFalsely : Prop := fnExactBaseOkRow.holds Try.pinned (OpenSpec.ofChange fnExactBaseOkWrong)

/-- 'laws.FnExactDigitsOk': WHATEVER THE INPUT: true; the input reads as it did. -/
def fnExactDigitsOkSpec : ChangeSpec := { name := "fnExactDigitsOk", fn := fun _ => fun
  | [d1, d2] => { results := [.lit (.bool true)], args := [d1, d2] }
  | _ => none }
def fnExactDigitsOkRow : OpenClaim := { program := "ytedjmoliihejcaa", sum := "00038f74f63eb3b20aa2150188531daa1f8bfab3fe81a5dc9d8d69d361c2ef81", func := "loop.example/g03203/laws.FnExactDigitsOk", spec := "fnExactDigitsOk", apart := false }
def FnExactDigitsOkSaid : Prop := fnExactDigitsOkRow.holds Try.pinned (OpenSpec.ofChange fnExactDigitsOkSpec)

/-- ITS FALSE NEIGHBOUR: 'it returns false'. Refute it at one input. -/
def fnExactDigitsOkWrong : ChangeSpec := { name := "fnExactDigitsOk", fn := fun _ => fun
  | [d1, d2] => { results := [.lit (.bool false)], args := [d1, d2] }
  | _ => none }
def FnExactDigitsOkWrongFalsely : Prop := fnExactDigitsOkRow.holds Try.pinned (OpenSpec.ofChange fnExactDigitsOkWrong)

/-- 'laws.FnExactDigitsOf': WHATEVER THE INPUT: true; the input reads as it did. -/
def fnExactDigitsOfSpec : ChangeSpec := { name := "fnExactDigitsOf", fn := fun _ => fun
  | [d1, d2] => { results := [.lit (.bool true)], args := [d1, d2] }
  | _ => none }
def fnExactDigitsOfRow : OpenClaim := { program := "ytedjmoliihejcaa", sum := "00038f74f63eb3b20aa2150188531daa1f8bfab3fe81a5dc9d8d69d361c2ef81", func := "loop.example/g03203/laws.FnExactDigitsOf", spec := "fnExactDigitsOf", unfollowed := true, recurses := true, apart := false }
def FnExactDigitsOfSaid : Prop := fnExactDigitsOfRow.holds Try.pinned (OpenSpec.ofChange fnExactDigitsOfSpec)

/-- ITS FALSE NEIGHBOUR: 'it returns false'. Refute it at one input. -/
def fnExactDigitsOfWrong : ChangeSpec := { name := "fnExactDigitsOf", fn := fun _ => fun
  | [d1, d2] => { results := [.lit (.bool false)], args := [d1, d2] }
  | _ => none }
def FnExactDigitsOfWrongFalsely : Prop := fnExactDigitsOfRow.holds Try.pinned (OpenSpec.ofChange fnExactDigitsOfWrong)

/-- 'laws.FnExactValueOf': WHATEVER THE INPUT: true; the input reads as it did. -/
def fnExactValueOfSpec : ChangeSpec := { name := "fnExactValueOf", fn := fun _ => fun
  | [d1, d2] => { results := [.lit (.bool true)], args := [d1, d2] }
  | _ => none }
def fnExactValueOfRow : OpenClaim := { program := "ytedjmoliihejcaa", sum := "00038f74f63eb3b20aa2150188531daa1f8bfab3fe81a5dc9d8d69d361c2ef81", func := "loop.example/g03203/laws.FnExactValueOf", spec := "fnExactValueOf", unfollowed := true, recurses := true, apart := false }
def FnExactValueOfSaid : Prop := fnExactValueOfRow.holds Try.pinned (OpenSpec.ofChange fnExactValueOfSpec)

/-- ITS FALSE NEIGHBOUR: 'it returns false'. Refute it at one input. -/
def fnExactValueOfWrong : ChangeSpec := { name := "fnExactValueOf", fn := fun _ => fun
  | [d1, d2] => { results := [.lit (.bool false)], args := [d1, d2] }
  | _ => none }
def FnExactValueOfWrongFalsely : Prop := fnExactValueOfRow.holds Try.pinned (OpenSpec.ofChange fnExactValueOfWrong)

/-- 'laws.FnExactCountDigits': WHATEVER THE INPUT: true; the input reads as it did. -/
def fnExactCountDigitsSpec : ChangeSpec := { name := "fnExactCountDigits", fn := fun _ => fun
  | [d1, d2] => { results := [.lit (.bool true)], args := [d1, d2] }
  | _ => none }
def fnExactCountDigitsRow : OpenClaim := { program := "ytedjmoliihejcaa", sum := "00038f74f63eb3b20aa2150188531daa1f8bfab3fe81a5dc9d8d69d361c2ef81", func := "loop.example/g03203/laws.FnExactCountDigits", spec := "fnExactCountDigits", unfollowed := true, recurses := true, apart := false }
def FnExactCountDigitsSaid : Prop := fnExactCountDigitsRow.holds Try.pinned (OpenSpec.ofChange fnExactCountDigitsSpec)

/-- ITS FALSE NEIGHBOUR: 'it returns false'. Refute it at one input. -/
def fnExactCountDigitsWrong : ChangeSpec := { name := "fnExactCountDigits", fn := fun _ => fun
  | [d1, d2] => { results := [.lit (.bool false)], args := [d1, d2] }
  | _ => none }
def FnExactCountDigitsWrongFalsely : Prop := fnExactCountDigitsRow.holds Try.pinned (OpenSpec.ofChange fnExactCountDigitsWrong)

/-- 'laws.FnExactDigitAt': WHATEVER THE INPUT: true; the input reads as it did. -/
def fnExactDigitAtSpec : ChangeSpec := { name := "fnExactDigitAt", fn := fun _ => fun
  | [d1, d2, d3] => { results := [.lit (.bool true)], args := [d1, d2, d3] }
  | _ => none }
def fnExactDigitAtRow : OpenClaim := { program := "ytedjmoliihejcaa", sum := "00038f74f63eb3b20aa2150188531daa1f8bfab3fe81a5dc9d8d69d361c2ef81", func := "loop.example/g03203/laws.FnExactDigitAt", spec := "fnExactDigitAt", unfollowed := true, recurses := true, apart := false }
def FnExactDigitAtSaid : Prop := fnExactDigitAtRow.holds Try.pinned (OpenSpec.ofChange fnExactDigitAtSpec)

/-- ITS FALSE NEIGHBOUR: 'it returns false'. Refute it at one input. -/
def fnExactDigitAtWrong : ChangeSpec := { name := "fnExactDigitAt", fn := fun _ => fun
  | [d1, d2, d3] => { results := [.lit (.bool false)], args := [d1, d2, d3] }
  | _ => none }
def FnExactDigitAtWrongFalsely : Prop := fnExactDigitAtRow.holds Try.pinned (OpenSpec.ofChange fnExactDigitAtWrong)

/-- 'laws.FnExactDigitSum': WHATEVER THE INPUT: true; the input reads as it did. -/
def fnExactDigitSumSpec : ChangeSpec := { name := "fnExactDigitSum", fn := fun _ => fun
  | [d1, d2] => { results := [.lit (.bool true)], args := [d1, d2] }
  | _ => none }
def fnExactDigitSumRow : OpenClaim := { program := "ytedjmoliihejcaa", sum := "00038f74f63eb3b20aa2150188531daa1f8bfab3fe81a5dc9d8d69d361c2ef81", func := "loop.example/g03203/laws.FnExactDigitSum", spec := "fnExactDigitSum", unfollowed := true, recurses := true, apart := false }
def FnExactDigitSumSaid : Prop := fnExactDigitSumRow.holds Try.pinned (OpenSpec.ofChange fnExactDigitSumSpec)

/-- ITS FALSE NEIGHBOUR: 'it returns false'. Refute it at one input. -/
def fnExactDigitSumWrong : ChangeSpec := { name := "fnExactDigitSum", fn := fun _ => fun
  | [d1, d2] => { results := [.lit (.bool false)], args := [d1, d2] }
  | _ => none }
def FnExactDigitSumWrongFalsely : Prop := fnExactDigitSumRow.holds Try.pinned (OpenSpec.ofChange fnExactDigitSumWrong)

/-- 'laws.FnExactReverseNumber': WHATEVER THE INPUT: true; the input reads as it did. -/
def fnExactReverseNumberSpec : ChangeSpec := { name := "fnExactReverseNumber", fn := fun _ => fun
  | [d1, d2] => { results := [.lit (.bool true)], args := [d1, d2] }
  | _ => none }
def fnExactReverseNumberRow : OpenClaim := { program := "ytedjmoliihejcaa", sum := "00038f74f63eb3b20aa2150188531daa1f8bfab3fe81a5dc9d8d69d361c2ef81", func := "loop.example/g03203/laws.FnExactReverseNumber", spec := "fnExactReverseNumber", unfollowed := true, recurses := true, apart := false }
def FnExactReverseNumberSaid : Prop := fnExactReverseNumberRow.holds Try.pinned (OpenSpec.ofChange fnExactReverseNumberSpec)

/-- ITS FALSE NEIGHBOUR: 'it returns false'. Refute it at one input. -/
def fnExactReverseNumberWrong : ChangeSpec := { name := "fnExactReverseNumber", fn := fun _ => fun
  | [d1, d2] => { results := [.lit (.bool false)], args := [d1, d2] }
  | _ => none }
def FnExactReverseNumberWrongFalsely : Prop := fnExactReverseNumberRow.holds Try.pinned (OpenSpec.ofChange fnExactReverseNumberWrong)

/-- 'laws.FnExactFormatDigits': WHATEVER THE INPUT: true; the input reads as it did. -/
def fnExactFormatDigitsSpec : ChangeSpec := { name := "fnExactFormatDigits", fn := fun _ => fun
  | [d1, d2] => { results := [.lit (.bool true)], args := [d1, d2] }
  | _ => none }
def fnExactFormatDigitsRow : OpenClaim := { program := "ytedjmoliihejcaa", sum := "00038f74f63eb3b20aa2150188531daa1f8bfab3fe81a5dc9d8d69d361c2ef81", func := "loop.example/g03203/laws.FnExactFormatDigits", spec := "fnExactFormatDigits", inPlace := ["internal/abi.NoEscape"], unfollowed := true, recurses := true, apart := false }
def FnExactFormatDigitsSaid : Prop := fnExactFormatDigitsRow.holds Try.pinned (OpenSpec.ofChange fnExactFormatDigitsSpec)

/-- ITS FALSE NEIGHBOUR: 'it returns false'. Refute it at one input. -/
def fnExactFormatDigitsWrong : ChangeSpec := { name := "fnExactFormatDigits", fn := fun _ => fun
  | [d1, d2] => { results := [.lit (.bool false)], args := [d1, d2] }
  | _ => none }
def FnExactFormatDigitsWrongFalsely : Prop := fnExactFormatDigitsRow.holds Try.pinned (OpenSpec.ofChange fnExactFormatDigitsWrong)

/-- 'laws.FnExactParseDigits': WHATEVER THE INPUT: true; the input reads as it did. -/
def fnExactParseDigitsSpec : ChangeSpec := { name := "fnExactParseDigits", fn := fun _ => fun
  | [d1, d2] => { results := [.lit (.bool true)], args := [d1, d2] }
  | _ => none }
def fnExactParseDigitsRow : OpenClaim := { program := "ytedjmoliihejcaa", sum := "00038f74f63eb3b20aa2150188531daa1f8bfab3fe81a5dc9d8d69d361c2ef81", func := "loop.example/g03203/laws.FnExactParseDigits", spec := "fnExactParseDigits", inPlace := ["internal/bytealg.IndexByteString"], apart := false }
def FnExactParseDigitsSaid : Prop := fnExactParseDigitsRow.holds Try.pinned (OpenSpec.ofChange fnExactParseDigitsSpec)

/-- ITS FALSE NEIGHBOUR: 'it returns false'. Refute it at one input. -/
def fnExactParseDigitsWrong : ChangeSpec := { name := "fnExactParseDigits", fn := fun _ => fun
  | [d1, d2] => { results := [.lit (.bool false)], args := [d1, d2] }
  | _ => none }
def FnExactParseDigitsWrongFalsely : Prop := fnExactParseDigitsRow.holds Try.pinned (OpenSpec.ofChange fnExactParseDigitsWrong)

/- THE SECOND FORM. 'bulk': how many values and letters a reading holds, each counted each time it is reached (what is shared counts as often as it is met; a slice's spare places count too). A statement '..UptoSaid' is the law's where the arguments, and the package variables that the reading takes, are together of bulk at most 1048576: NARROWER than '..Said'. Prove '..Said' where nothing that the law and all that it calls make is longer than what came in: it says more and counts as full. Else prove '..UptoSaid'. A law counts once. -/
mutual
def uptoBulk {H : Type} : DataW H → Nat
  | .lit (.string bytes) => bytes.length + 1
  | .lit _ => 1
  | .nil => 1
  | .ptr d => uptoBulk d + 1
  | .slice elems spare => uptoBulkAll elems + uptoBulkAll spare + 1
  | .agg parts => uptoBulkAll parts + 1
  | .iface _ d => uptoBulk d + 1
  | .map entries => uptoBulkEntries entries + 1
  | .held _ => 1
def uptoBulkAll {H : Type} : List (DataW H) → Nat
  | [] => 0
  | d :: r => uptoBulk d + uptoBulkAll r
def uptoBulkEntries {H : Type} : List (Lit × DataW H) → Nat
  | [] => 0
  | x :: r => uptoBulkEntry x + uptoBulkEntries r
def uptoBulkEntry {H : Type} : Lit × DataW H → Nat
  | (.string bytes, d) => bytes.length + uptoBulk d + 1
  | (_, d) => uptoBulk d + 1
 end
def uptoSmall : (H : Type) → List (DataW H) → Bool := fun _ ds => decide (uptoBulkAll ds ≤ 1048576)
def OpenSpec.upto (s : _root_.Go.ChangeSpec) : _root_.Go.OpenSpec := { _root_.Go.OpenSpec.ofChange s with cond := some uptoSmall }

/-- 'laws.FnDigits', WHERE WHAT IT READS IS OF BULK AT MOST 1048576: true; the input reads as it did. -/
def fnDigitsUptoRow : OpenClaim := { program := "ytedjmoliihejcaa", sum := "00038f74f63eb3b20aa2150188531daa1f8bfab3fe81a5dc9d8d69d361c2ef81", func := "loop.example/g03203/laws.FnDigits", spec := "fnDigits", inPlace := ["internal/abi.NoEscape"], unfollowed := true, recurses := true, apart := false, narrowed := true }
def FnDigitsUptoSaid : Prop := fnDigitsUptoRow.holds Try.pinned (OpenSpec.upto fnDigitsSpec)

/-- 'laws.FnExactBaseOk', WHERE WHAT IT READS IS OF BULK AT MOST 1048576: true; the input reads as it did. -/
def fnExactBaseOkUptoRow : OpenClaim := { program := "ytedjmoliihejcaa", sum := "00038f74f63eb3b20aa2150188531daa1f8bfab3fe81a5dc9d8d69d361c2ef81", func := "loop.example/g03203/laws.FnExactBaseOk", spec := "fnExactBaseOk", apart := false, narrowed := true }
def FnExactBaseOkUptoSaid : Prop := fnExactBaseOkUptoRow.holds Try.pinned (OpenSpec.upto fnExactBaseOkSpec)

/-- 'laws.FnExactDigitsOk', WHERE WHAT IT READS IS OF BULK AT MOST 1048576: true; the input reads as it did. -/
def fnExactDigitsOkUptoRow : OpenClaim := { program := "ytedjmoliihejcaa", sum := "00038f74f63eb3b20aa2150188531daa1f8bfab3fe81a5dc9d8d69d361c2ef81", func := "loop.example/g03203/laws.FnExactDigitsOk", spec := "fnExactDigitsOk", apart := false, narrowed := true }
def FnExactDigitsOkUptoSaid : Prop := fnExactDigitsOkUptoRow.holds Try.pinned (OpenSpec.upto fnExactDigitsOkSpec)

/-- 'laws.FnExactDigitsOf', WHERE WHAT IT READS IS OF BULK AT MOST 1048576: true; the input reads as it did. -/
def fnExactDigitsOfUptoRow : OpenClaim := { program := "ytedjmoliihejcaa", sum := "00038f74f63eb3b20aa2150188531daa1f8bfab3fe81a5dc9d8d69d361c2ef81", func := "loop.example/g03203/laws.FnExactDigitsOf", spec := "fnExactDigitsOf", unfollowed := true, recurses := true, apart := false, narrowed := true }
def FnExactDigitsOfUptoSaid : Prop := fnExactDigitsOfUptoRow.holds Try.pinned (OpenSpec.upto fnExactDigitsOfSpec)

/-- 'laws.FnExactValueOf', WHERE WHAT IT READS IS OF BULK AT MOST 1048576: true; the input reads as it did. -/
def fnExactValueOfUptoRow : OpenClaim := { program := "ytedjmoliihejcaa", sum := "00038f74f63eb3b20aa2150188531daa1f8bfab3fe81a5dc9d8d69d361c2ef81", func := "loop.example/g03203/laws.FnExactValueOf", spec := "fnExactValueOf", unfollowed := true, recurses := true, apart := false, narrowed := true }
def FnExactValueOfUptoSaid : Prop := fnExactValueOfUptoRow.holds Try.pinned (OpenSpec.upto fnExactValueOfSpec)

/-- 'laws.FnExactCountDigits', WHERE WHAT IT READS IS OF BULK AT MOST 1048576: true; the input reads as it did. -/
def fnExactCountDigitsUptoRow : OpenClaim := { program := "ytedjmoliihejcaa", sum := "00038f74f63eb3b20aa2150188531daa1f8bfab3fe81a5dc9d8d69d361c2ef81", func := "loop.example/g03203/laws.FnExactCountDigits", spec := "fnExactCountDigits", unfollowed := true, recurses := true, apart := false, narrowed := true }
def FnExactCountDigitsUptoSaid : Prop := fnExactCountDigitsUptoRow.holds Try.pinned (OpenSpec.upto fnExactCountDigitsSpec)

/-- 'laws.FnExactDigitAt', WHERE WHAT IT READS IS OF BULK AT MOST 1048576: true; the input reads as it did. -/
def fnExactDigitAtUptoRow : OpenClaim := { program := "ytedjmoliihejcaa", sum := "00038f74f63eb3b20aa2150188531daa1f8bfab3fe81a5dc9d8d69d361c2ef81", func := "loop.example/g03203/laws.FnExactDigitAt", spec := "fnExactDigitAt", unfollowed := true, recurses := true, apart := false, narrowed := true }
def FnExactDigitAtUptoSaid : Prop := fnExactDigitAtUptoRow.holds Try.pinned (OpenSpec.upto fnExactDigitAtSpec)

/-- 'laws.FnExactDigitSum', WHERE WHAT IT READS IS OF BULK AT MOST 1048576: true; the input reads as it did. -/
def fnExactDigitSumUptoRow : OpenClaim := { program := "ytedjmoliihejcaa", sum := "00038f74f63eb3b20aa2150188531daa1f8bfab3fe81a5dc9d8d69d361c2ef81", func := "loop.example/g03203/laws.FnExactDigitSum", spec := "fnExactDigitSum", unfollowed := true, recurses := true, apart := false, narrowed := true }
def FnExactDigitSumUptoSaid : Prop := fnExactDigitSumUptoRow.holds Try.pinned (OpenSpec.upto fnExactDigitSumSpec)

/-- 'laws.FnExactReverseNumber', WHERE WHAT IT READS IS OF BULK AT MOST 1048576: true; the input reads as it did. -/
def fnExactReverseNumberUptoRow : OpenClaim := { program := "ytedjmoliihejcaa", sum := "00038f74f63eb3b20aa2150188531daa1f8bfab3fe81a5dc9d8d69d361c2ef81", func := "loop.example/g03203/laws.FnExactReverseNumber", spec := "fnExactReverseNumber", unfollowed := true, recurses := true, apart := false, narrowed := true }
def FnExactReverseNumberUptoSaid : Prop := fnExactReverseNumberUptoRow.holds Try.pinned (OpenSpec.upto fnExactReverseNumberSpec)

/-- 'laws.FnExactFormatDigits', WHERE WHAT IT READS IS OF BULK AT MOST 1048576: true; the input reads as it did. -/
def fnExactFormatDigitsUptoRow : OpenClaim := { program := "ytedjmoliihejcaa", sum := "00038f74f63eb3b20aa2150188531daa1f8bfab3fe81a5dc9d8d69d361c2ef81", func := "loop.example/g03203/laws.FnExactFormatDigits", spec := "fnExactFormatDigits", inPlace := ["internal/abi.NoEscape"], unfollowed := true, recurses := true, apart := false, narrowed := true }
def FnExactFormatDigitsUptoSaid : Prop := fnExactFormatDigitsUptoRow.holds Try.pinned (OpenSpec.upto fnExactFormatDigitsSpec)

/-- 'laws.FnExactParseDigits', WHERE WHAT IT READS IS OF BULK AT MOST 1048576: true; the input reads as it did. -/
def fnExactParseDigitsUptoRow : OpenClaim := { program := "ytedjmoliihejcaa", sum := "00038f74f63eb3b20aa2150188531daa1f8bfab3fe81a5dc9d8d69d361c2ef81", func := "loop.example/g03203/laws.FnExactParseDigits", spec := "fnExactParseDigits", inPlace := ["internal/bytealg.IndexByteString"], apart := false, narrowed := true }
def FnExactParseDigitsUptoSaid : Prop := fnExactParseDigitsUptoRow.holds Try.pinned (OpenSpec.upto fnExactParseDigitsSpec)

end Rows
end Go.Proofs.Ytedjmoliihejcaa
