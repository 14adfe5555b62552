/-
  No cell of these rows narrows 'for every input' (looked for: loops, veiled, ifaces, maps, wideKeys, modest, calm, conditions, laid).
  DERIVED. THE GIVEN ROWS OF THIS SEAT. 12 by the template 'for every input the law returns true; each argument reads behind the call as it read before'; 0 by the template 'total and deterministic' (their statements: YtdflpocnfodbhaaTotals.lean).
  GIVEN WITH THE SEED: the statements are not yours to turn. If you find one false, say at which input.
  Laid BY PROGRAM, IN A SANDBOX (cutbox-rows.mjs): the forced cells as the released guide's own fill.sh prints them over the translation d216b37fc3fbbd68… (all of the seat's roots in one cut). By AI agents, Wed Nov 11 2026. No macro, syntax, notation, axiom, sorry.
-/
import Derived.Test.YtdflpocnfodbhaaChecked
import GoSem.Claim
import GoSem.ClaimJoined
import GoSem.ClaimMapViews
import Derived.JoinedTies
import Derived.KernelRfl
namespace Go.Proofs.Ytdflpocnfodbhaa
/- THE CELL 'sum', in the pinned program and in every row, IS THE sha256 OF THE DUMP (.gsa) THAT YtdflpocnfodbhaaProg.lean LOADS. Nothing in Lean hashes anything: it is a label: what it is worth is what the hold of that sum in a sandbox is worth. -/
noncomputable def Try.pinned : Pinned := { name := "ytdflpocnfodbhaa", sum := "d216b37fc3fbbd680a3aab90463313715f51324a7e7609564a2d4cc2f6ad3ba5", checked := Try.checked }
namespace Rows
def none {H : Type} : Left H := { results := [], args := [] }

/-- 'laws.FnDigits': WHATEVER THE INPUT: true; the input reads as it did. -/
def fnDigitsSpec : ChangeSpec := { name := "fnDigits", fn := fun _ => fun
  | [d] => { results := [.lit (.bool true)], args := [d] }
  | _ => none }
def fnDigitsRow : OpenClaim := { program := "ytdflpocnfodbhaa", sum := "d216b37fc3fbbd680a3aab90463313715f51324a7e7609564a2d4cc2f6ad3ba5", func := "loop.example/g03203/laws.FnDigits", spec := "fnDigits", inPlace := ["internal/abi.NoEscape"], unfollowed := true, recurses := true, plainKeys := false, apart := false }
def FnDigitsSaid : Prop := fnDigitsRow.holds Try.pinned (OpenSpec.ofChange fnDigitsSpec)

/-- ITS FALSE NEIGHBOUR: 'it returns false'. Refute it at one input. -/
def fnDigitsWrong : ChangeSpec := { name := "fnDigits", fn := fun _ => fun
  | [d] => { results := [.lit (.bool false)], args := [d] }
  | _ => none }
def FnDigitsWrongFalsely : Prop := fnDigitsRow.holds Try.pinned (OpenSpec.ofChange fnDigitsWrong)

/-- 'laws.FnLong': WHATEVER THE INPUT: true; the input reads as it did. -/
def fnLongSpec : ChangeSpec := { name := "fnLong", fn := fun _ => fun
  | [d] => { results := [.lit (.bool true)], args := [d] }
  | _ => none }
def fnLongRow : OpenClaim := { program := "ytdflpocnfodbhaa", sum := "d216b37fc3fbbd680a3aab90463313715f51324a7e7609564a2d4cc2f6ad3ba5", func := "loop.example/g03203/laws.FnLong", spec := "fnLong", unfollowed := true, recurses := true, plainKeys := false, apart := false }
def FnLongSaid : Prop := fnLongRow.holds Try.pinned (OpenSpec.ofChange fnLongSpec)

/-- ITS FALSE NEIGHBOUR: 'it returns false'. Refute it at one input. -/
def fnLongWrong : ChangeSpec := { name := "fnLong", fn := fun _ => fun
  | [d] => { results := [.lit (.bool false)], args := [d] }
  | _ => none }
def FnLongWrongFalsely : Prop := fnLongRow.holds Try.pinned (OpenSpec.ofChange fnLongWrong)

/-- 'laws.FnNegative': WHATEVER THE INPUT: true; the input reads as it did. -/
def fnNegativeSpec : ChangeSpec := { name := "fnNegative", fn := fun _ => fun
  | [d] => { results := [.lit (.bool true)], args := [d] }
  | _ => none }
def fnNegativeRow : OpenClaim := { program := "ytdflpocnfodbhaa", sum := "d216b37fc3fbbd680a3aab90463313715f51324a7e7609564a2d4cc2f6ad3ba5", func := "loop.example/g03203/laws.FnNegative", spec := "fnNegative", unfollowed := true, recurses := true, plainKeys := false, apart := false }
def FnNegativeSaid : Prop := fnNegativeRow.holds Try.pinned (OpenSpec.ofChange fnNegativeSpec)

/-- ITS FALSE NEIGHBOUR: 'it returns false'. Refute it at one input. -/
def fnNegativeWrong : ChangeSpec := { name := "fnNegative", fn := fun _ => fun
  | [d] => { results := [.lit (.bool false)], args := [d] }
  | _ => none }
def FnNegativeWrongFalsely : Prop := fnNegativeRow.holds Try.pinned (OpenSpec.ofChange fnNegativeWrong)

/-- 'laws.FnBalanced': WHATEVER THE INPUT: true; the input reads as it did. -/
def fnBalancedSpec : ChangeSpec := { name := "fnBalanced", fn := fun _ => fun
  | [d] => { results := [.lit (.bool true)], args := [d] }
  | _ => none }
def fnBalancedRow : OpenClaim := { program := "ytdflpocnfodbhaa", sum := "d216b37fc3fbbd680a3aab90463313715f51324a7e7609564a2d4cc2f6ad3ba5", func := "loop.example/g03203/laws.FnBalanced", spec := "fnBalanced", inPlace := ["internal/abi.NoEscape"], unfollowed := true, recurses := true, plainKeys := false, apart := false }
def FnBalancedSaid : Prop := fnBalancedRow.holds Try.pinned (OpenSpec.ofChange fnBalancedSpec)

/-- ITS FALSE NEIGHBOUR: 'it returns false'. Refute it at one input. -/
def fnBalancedWrong : ChangeSpec := { name := "fnBalanced", fn := fun _ => fun
  | [d] => { results := [.lit (.bool false)], args := [d] }
  | _ => none }
def FnBalancedWrongFalsely : Prop := fnBalancedRow.holds Try.pinned (OpenSpec.ofChange fnBalancedWrong)

/-- 'laws.FnSigned': WHATEVER THE INPUT: true; the input reads as it did. -/
def fnSignedSpec : ChangeSpec := { name := "fnSigned", fn := fun _ => fun
  | [d] => { results := [.lit (.bool true)], args := [d] }
  | _ => none }
def fnSignedRow : OpenClaim := { program := "ytdflpocnfodbhaa", sum := "d216b37fc3fbbd680a3aab90463313715f51324a7e7609564a2d4cc2f6ad3ba5", func := "loop.example/g03203/laws.FnSigned", spec := "fnSigned", unfollowed := true, recurses := true, plainKeys := false, apart := false }
def FnSignedSaid : Prop := fnSignedRow.holds Try.pinned (OpenSpec.ofChange fnSignedSpec)

/-- ITS FALSE NEIGHBOUR: 'it returns false'. Refute it at one input. -/
def fnSignedWrong : ChangeSpec := { name := "fnSigned", fn := fun _ => fun
  | [d] => { results := [.lit (.bool false)], args := [d] }
  | _ => none }
def FnSignedWrongFalsely : Prop := fnSignedRow.holds Try.pinned (OpenSpec.ofChange fnSignedWrong)

/-- 'laws.FnExactDigitsOk': WHATEVER THE INPUT: true; the input reads as it did. -/
def fnExactDigitsOkSpec : ChangeSpec := { name := "fnExactDigitsOk", fn := fun _ => fun
  | [d1, d2] => { results := [.lit (.bool true)], args := [d1, d2] }
  | _ => none }
def fnExactDigitsOkRow : OpenClaim := { program := "ytdflpocnfodbhaa", sum := "d216b37fc3fbbd680a3aab90463313715f51324a7e7609564a2d4cc2f6ad3ba5", func := "loop.example/g03203/laws.FnExactDigitsOk", spec := "fnExactDigitsOk", plainKeys := false, apart := false }
def FnExactDigitsOkSaid : Prop := fnExactDigitsOkRow.holds Try.pinned (OpenSpec.ofChange fnExactDigitsOkSpec)

/-- ITS FALSE NEIGHBOUR: 'it returns false'. Refute it at one input. -/
def fnExactDigitsOkWrong : ChangeSpec := { name := "fnExactDigitsOk", fn := fun _ => fun
  | [d1, d2] => { results := [.lit (.bool false)], args := [d1, d2] }
  | _ => none }
def FnExactDigitsOkWrongFalsely : Prop := fnExactDigitsOkRow.holds Try.pinned (OpenSpec.ofChange fnExactDigitsOkWrong)

/-- 'laws.FnExactValueOf': WHATEVER THE INPUT: true; the input reads as it did. -/
def fnExactValueOfSpec : ChangeSpec := { name := "fnExactValueOf", fn := fun _ => fun
  | [d1, d2] => { results := [.lit (.bool true)], args := [d1, d2] }
  | _ => none }
def fnExactValueOfRow : OpenClaim := { program := "ytdflpocnfodbhaa", sum := "d216b37fc3fbbd680a3aab90463313715f51324a7e7609564a2d4cc2f6ad3ba5", func := "loop.example/g03203/laws.FnExactValueOf", spec := "fnExactValueOf", unfollowed := true, recurses := true, plainKeys := false, apart := false }
def FnExactValueOfSaid : Prop := fnExactValueOfRow.holds Try.pinned (OpenSpec.ofChange fnExactValueOfSpec)

/-- ITS FALSE NEIGHBOUR: 'it returns false'. Refute it at one input. -/
def fnExactValueOfWrong : ChangeSpec := { name := "fnExactValueOf", fn := fun _ => fun
  | [d1, d2] => { results := [.lit (.bool false)], args := [d1, d2] }
  | _ => none }
def FnExactValueOfWrongFalsely : Prop := fnExactValueOfRow.holds Try.pinned (OpenSpec.ofChange fnExactValueOfWrong)

/-- 'laws.FnExactFormatDigits': WHATEVER THE INPUT: true; the input reads as it did. -/
def fnExactFormatDigitsSpec : ChangeSpec := { name := "fnExactFormatDigits", fn := fun _ => fun
  | [d1, d2] => { results := [.lit (.bool true)], args := [d1, d2] }
  | _ => none }
def fnExactFormatDigitsRow : OpenClaim := { program := "ytdflpocnfodbhaa", sum := "d216b37fc3fbbd680a3aab90463313715f51324a7e7609564a2d4cc2f6ad3ba5", func := "loop.example/g03203/laws.FnExactFormatDigits", spec := "fnExactFormatDigits", inPlace := ["internal/abi.NoEscape"], unfollowed := true, recurses := true, plainKeys := false, apart := false }
def FnExactFormatDigitsSaid : Prop := fnExactFormatDigitsRow.holds Try.pinned (OpenSpec.ofChange fnExactFormatDigitsSpec)

/-- ITS FALSE NEIGHBOUR: 'it returns false'. Refute it at one input. -/
def fnExactFormatDigitsWrong : ChangeSpec := { name := "fnExactFormatDigits", fn := fun _ => fun
  | [d1, d2] => { results := [.lit (.bool false)], args := [d1, d2] }
  | _ => none }
def FnExactFormatDigitsWrongFalsely : Prop := fnExactFormatDigitsRow.holds Try.pinned (OpenSpec.ofChange fnExactFormatDigitsWrong)

/-- 'laws.FnExactParseDigits': WHATEVER THE INPUT: true; the input reads as it did. -/
def fnExactParseDigitsSpec : ChangeSpec := { name := "fnExactParseDigits", fn := fun _ => fun
  | [d1, d2] => { results := [.lit (.bool true)], args := [d1, d2] }
  | _ => none }
def fnExactParseDigitsRow : OpenClaim := { program := "ytdflpocnfodbhaa", sum := "d216b37fc3fbbd680a3aab90463313715f51324a7e7609564a2d4cc2f6ad3ba5", func := "loop.example/g03203/laws.FnExactParseDigits", spec := "fnExactParseDigits", inPlace := ["internal/bytealg.IndexByteString"], plainKeys := false, apart := false }
def FnExactParseDigitsSaid : Prop := fnExactParseDigitsRow.holds Try.pinned (OpenSpec.ofChange fnExactParseDigitsSpec)

/-- ITS FALSE NEIGHBOUR: 'it returns false'. Refute it at one input. -/
def fnExactParseDigitsWrong : ChangeSpec := { name := "fnExactParseDigits", fn := fun _ => fun
  | [d1, d2] => { results := [.lit (.bool false)], args := [d1, d2] }
  | _ => none }
def FnExactParseDigitsWrongFalsely : Prop := fnExactParseDigitsRow.holds Try.pinned (OpenSpec.ofChange fnExactParseDigitsWrong)

/-- 'laws.FnExactAddDigits': WHATEVER THE INPUT: true; the input reads as it did. -/
def fnExactAddDigitsSpec : ChangeSpec := { name := "fnExactAddDigits", fn := fun _ => fun
  | [d1, d2, d3] => { results := [.lit (.bool true)], args := [d1, d2, d3] }
  | _ => none }
def fnExactAddDigitsRow : OpenClaim := { program := "ytdflpocnfodbhaa", sum := "d216b37fc3fbbd680a3aab90463313715f51324a7e7609564a2d4cc2f6ad3ba5", func := "loop.example/g03203/laws.FnExactAddDigits", spec := "fnExactAddDigits", plainKeys := false, apart := false }
def FnExactAddDigitsSaid : Prop := fnExactAddDigitsRow.holds Try.pinned (OpenSpec.ofChange fnExactAddDigitsSpec)

/-- ITS FALSE NEIGHBOUR: 'it returns false'. Refute it at one input. -/
def fnExactAddDigitsWrong : ChangeSpec := { name := "fnExactAddDigits", fn := fun _ => fun
  | [d1, d2, d3] => { results := [.lit (.bool false)], args := [d1, d2, d3] }
  | _ => none }
def FnExactAddDigitsWrongFalsely : Prop := fnExactAddDigitsRow.holds Try.pinned (OpenSpec.ofChange fnExactAddDigitsWrong)

/-- 'laws.FnExactMinusDigits': WHATEVER THE INPUT: true; the input reads as it did. -/
def fnExactMinusDigitsSpec : ChangeSpec := { name := "fnExactMinusDigits", fn := fun _ => fun
  | [d1, d2, d3] => { results := [.lit (.bool true)], args := [d1, d2, d3] }
  | _ => none }
def fnExactMinusDigitsRow : OpenClaim := { program := "ytdflpocnfodbhaa", sum := "d216b37fc3fbbd680a3aab90463313715f51324a7e7609564a2d4cc2f6ad3ba5", func := "loop.example/g03203/laws.FnExactMinusDigits", spec := "fnExactMinusDigits", unfollowed := true, recurses := true, plainKeys := false, apart := false }
def FnExactMinusDigitsSaid : Prop := fnExactMinusDigitsRow.holds Try.pinned (OpenSpec.ofChange fnExactMinusDigitsSpec)

/-- ITS FALSE NEIGHBOUR: 'it returns false'. Refute it at one input. -/
def fnExactMinusDigitsWrong : ChangeSpec := { name := "fnExactMinusDigits", fn := fun _ => fun
  | [d1, d2, d3] => { results := [.lit (.bool false)], args := [d1, d2, d3] }
  | _ => none }
def FnExactMinusDigitsWrongFalsely : Prop := fnExactMinusDigitsRow.holds Try.pinned (OpenSpec.ofChange fnExactMinusDigitsWrong)

/-- 'laws.FnExactTimesDigits': WHATEVER THE INPUT: true; the input reads as it did. -/
def fnExactTimesDigitsSpec : ChangeSpec := { name := "fnExactTimesDigits", fn := fun _ => fun
  | [d1, d2, d3] => { results := [.lit (.bool true)], args := [d1, d2, d3] }
  | _ => none }
def fnExactTimesDigitsRow : OpenClaim := { program := "ytdflpocnfodbhaa", sum := "d216b37fc3fbbd680a3aab90463313715f51324a7e7609564a2d4cc2f6ad3ba5", func := "loop.example/g03203/laws.FnExactTimesDigits", spec := "fnExactTimesDigits", plainKeys := false, apart := false }
def FnExactTimesDigitsSaid : Prop := fnExactTimesDigitsRow.holds Try.pinned (OpenSpec.ofChange fnExactTimesDigitsSpec)

/-- ITS FALSE NEIGHBOUR: 'it returns false'. Refute it at one input. -/
def fnExactTimesDigitsWrong : ChangeSpec := { name := "fnExactTimesDigits", fn := fun _ => fun
  | [d1, d2, d3] => { results := [.lit (.bool false)], args := [d1, d2, d3] }
  | _ => none }
def FnExactTimesDigitsWrongFalsely : Prop := fnExactTimesDigitsRow.holds Try.pinned (OpenSpec.ofChange fnExactTimesDigitsWrong)

/- THE SECOND FORM. 'bulk': how many values and letters a reading holds, each counted each time it is reached (what is shared counts as often as it is met; a slice's spare places count too). A statement '..UptoSaid' is the law's where the arguments, and the package variables that the reading takes, are together of bulk at most 1048576: NARROWER than '..Said'. Prove '..Said' where nothing that the law and all that it calls make is longer than what came in: it says more and counts as full. Else prove '..UptoSaid'. A law counts once. -/
mutual
def uptoBulk {H : Type} : DataW H → Nat
  | .lit (.string bytes) => bytes.length + 1
  | .lit _ => 1
  | .nil => 1
  | .ptr d => uptoBulk d + 1
  | .slice elems spare => uptoBulkAll elems + uptoBulkAll spare + 1
  | .agg parts => uptoBulkAll parts + 1
  | .iface _ d => uptoBulk d + 1
  | .map entries => uptoBulkEntries entries + 1
  | .held _ => 1
def uptoBulkAll {H : Type} : List (DataW H) → Nat
  | [] => 0
  | d :: r => uptoBulk d + uptoBulkAll r
def uptoBulkEntries {H : Type} : List (Lit × DataW H) → Nat
  | [] => 0
  | x :: r => uptoBulkEntry x + uptoBulkEntries r
def uptoBulkEntry {H : Type} : Lit × DataW H → Nat
  | (.string bytes, d) => bytes.length + uptoBulk d + 1
  | (_, d) => uptoBulk d + 1
 end
def uptoSmall : (H : Type) → List (DataW H) → Bool := fun _ ds => decide (uptoBulkAll ds ≤ 1048576)
def OpenSpec.upto (s : _root_.Go.ChangeSpec) : _root_.Go.OpenSpec := { _root_.Go.OpenSpec.ofChange s with cond := some uptoSmall }

/-- 'laws.FnDigits', WHERE WHAT IT READS IS OF BULK AT MOST 1048576: true; the input reads as it did. -/
def fnDigitsUptoRow : OpenClaim := { program := "ytdflpocnfodbhaa", sum := "d216b37fc3fbbd680a3aab90463313715f51324a7e7609564a2d4cc2f6ad3ba5", func := "loop.example/g03203/laws.FnDigits", spec := "fnDigits", inPlace := ["internal/abi.NoEscape"], unfollowed := true, recurses := true, plainKeys := false, apart := false, narrowed := true }
def FnDigitsUptoSaid : Prop := fnDigitsUptoRow.holds Try.pinned (OpenSpec.upto fnDigitsSpec)

/-- 'laws.FnLong', WHERE WHAT IT READS IS OF BULK AT MOST 1048576: true; the input reads as it did. -/
def fnLongUptoRow : OpenClaim := { program := "ytdflpocnfodbhaa", sum := "d216b37fc3fbbd680a3aab90463313715f51324a7e7609564a2d4cc2f6ad3ba5", func := "loop.example/g03203/laws.FnLong", spec := "fnLong", unfollowed := true, recurses := true, plainKeys := false, apart := false, narrowed := true }
def FnLongUptoSaid : Prop := fnLongUptoRow.holds Try.pinned (OpenSpec.upto fnLongSpec)

/-- 'laws.FnNegative', WHERE WHAT IT READS IS OF BULK AT MOST 1048576: true; the input reads as it did. -/
def fnNegativeUptoRow : OpenClaim := { program := "ytdflpocnfodbhaa", sum := "d216b37fc3fbbd680a3aab90463313715f51324a7e7609564a2d4cc2f6ad3ba5", func := "loop.example/g03203/laws.FnNegative", spec := "fnNegative", unfollowed := true, recurses := true, plainKeys := false, apart := false, narrowed := true }
def FnNegativeUptoSaid : Prop := fnNegativeUptoRow.holds Try.pinned (OpenSpec.upto fnNegativeSpec)

/-- 'laws.FnBalanced', WHERE WHAT IT READS IS OF BULK AT MOST 1048576: true; the input reads as it did. -/
def fnBalancedUptoRow : OpenClaim := { program := "ytdflpocnfodbhaa", sum := "d216b37fc3fbbd680a3aab90463313715f51324a7e7609564a2d4cc2f6ad3ba5", func := "loop.example/g03203/laws.FnBalanced", spec := "fnBalanced", inPlace := ["internal/abi.NoEscape"], unfollowed := true, recurses := true, plainKeys := false, apart := false, narrowed := true }
def FnBalancedUptoSaid : Prop := fnBalancedUptoRow.holds Try.pinned (OpenSpec.upto fnBalancedSpec)

/-- 'laws.FnSigned', WHERE WHAT IT READS IS OF BULK AT MOST 1048576: true; the input reads as it did. -/
def fnSignedUptoRow : OpenClaim := { program := "ytdflpocnfodbhaa", sum := "d216b37fc3fbbd680a3aab90463313715f51324a7e7609564a2d4cc2f6ad3ba5", func := "loop.example/g03203/laws.FnSigned", spec := "fnSigned", unfollowed := true, recurses := true, plainKeys := false, apart := false, narrowed := true }
def FnSignedUptoSaid : Prop := fnSignedUptoRow.holds Try.pinned (OpenSpec.upto fnSignedSpec)

/-- 'laws.FnExactDigitsOk', WHERE WHAT IT READS IS OF BULK AT MOST 1048576: true; the input reads as it did. -/
def fnExactDigitsOkUptoRow : OpenClaim := { program := "ytdflpocnfodbhaa", sum := "d216b37fc3fbbd680a3aab90463313715f51324a7e7609564a2d4cc2f6ad3ba5", func := "loop.example/g03203/laws.FnExactDigitsOk", spec := "fnExactDigitsOk", plainKeys := false, apart := false, narrowed := true }
def FnExactDigitsOkUptoSaid : Prop := fnExactDigitsOkUptoRow.holds Try.pinned (OpenSpec.upto fnExactDigitsOkSpec)

/-- 'laws.FnExactValueOf', WHERE WHAT IT READS IS OF BULK AT MOST 1048576: true; the input reads as it did. -/
def fnExactValueOfUptoRow : OpenClaim := { program := "ytdflpocnfodbhaa", sum := "d216b37fc3fbbd680a3aab90463313715f51324a7e7609564a2d4cc2f6ad3ba5", func := "loop.example/g03203/laws.FnExactValueOf", spec := "fnExactValueOf", unfollowed := true, recurses := true, plainKeys := false, apart := false, narrowed := true }
def FnExactValueOfUptoSaid : Prop := fnExactValueOfUptoRow.holds Try.pinned (OpenSpec.upto fnExactValueOfSpec)

/-- 'laws.FnExactFormatDigits', WHERE WHAT IT READS IS OF BULK AT MOST 1048576: true; the input reads as it did. -/
def fnExactFormatDigitsUptoRow : OpenClaim := { program := "ytdflpocnfodbhaa", sum := "d216b37fc3fbbd680a3aab90463313715f51324a7e7609564a2d4cc2f6ad3ba5", func := "loop.example/g03203/laws.FnExactFormatDigits", spec := "fnExactFormatDigits", inPlace := ["internal/abi.NoEscape"], unfollowed := true, recurses := true, plainKeys := false, apart := false, narrowed := true }
def FnExactFormatDigitsUptoSaid : Prop := fnExactFormatDigitsUptoRow.holds Try.pinned (OpenSpec.upto fnExactFormatDigitsSpec)

/-- 'laws.FnExactParseDigits', WHERE WHAT IT READS IS OF BULK AT MOST 1048576: true; the input reads as it did. -/
def fnExactParseDigitsUptoRow : OpenClaim := { program := "ytdflpocnfodbhaa", sum := "d216b37fc3fbbd680a3aab90463313715f51324a7e7609564a2d4cc2f6ad3ba5", func := "loop.example/g03203/laws.FnExactParseDigits", spec := "fnExactParseDigits", inPlace := ["internal/bytealg.IndexByteString"], plainKeys := false, apart := false, narrowed := true }
def FnExactParseDigitsUptoSaid : Prop := fnExactParseDigitsUptoRow.holds Try.pinned (OpenSpec.upto fnExactParseDigitsSpec)

/-- 'laws.FnExactAddDigits', WHERE WHAT IT READS IS OF BULK AT MOST 1048576: true; the input reads as it did. -/
def fnExactAddDigitsUptoRow : OpenClaim := { program := "ytdflpocnfodbhaa", sum := "d216b37fc3fbbd680a3aab90463313715f51324a7e7609564a2d4cc2f6ad3ba5", func := "loop.example/g03203/laws.FnExactAddDigits", spec := "fnExactAddDigits", plainKeys := false, apart := false, narrowed := true }
def FnExactAddDigitsUptoSaid : Prop := fnExactAddDigitsUptoRow.holds Try.pinned (OpenSpec.upto fnExactAddDigitsSpec)

/-- 'laws.FnExactMinusDigits', WHERE WHAT IT READS IS OF BULK AT MOST 1048576: true; the input reads as it did. -/
def fnExactMinusDigitsUptoRow : OpenClaim := { program := "ytdflpocnfodbhaa", sum := "d216b37fc3fbbd680a3aab90463313715f51324a7e7609564a2d4cc2f6ad3ba5", func := "loop.example/g03203/laws.FnExactMinusDigits", spec := "fnExactMinusDigits", unfollowed := true, recurses := true, plainKeys := false, apart := false, narrowed := true }
def FnExactMinusDigitsUptoSaid : Prop := fnExactMinusDigitsUptoRow.holds Try.pinned (OpenSpec.upto fnExactMinusDigitsSpec)

/-- 'laws.FnExactTimesDigits', WHERE WHAT IT READS IS OF BULK AT MOST 1048576: true; the input reads as it did. -/
def fnExactTimesDigitsUptoRow : OpenClaim := { program := "ytdflpocnfodbhaa", sum := "d216b37fc3fbbd680a3aab90463313715f51324a7e7609564a2d4cc2f6ad3ba5", func := "loop.example/g03203/laws.FnExactTimesDigits", spec := "fnExactTimesDigits", plainKeys := false, apart := false, narrowed := true }
def FnExactTimesDigitsUptoSaid : Prop := fnExactTimesDigitsUptoRow.holds Try.pinned (OpenSpec.upto fnExactTimesDigitsSpec)

end Rows
end Go.Proofs.Ytdflpocnfodbhaa
