/-
  No cell of these rows narrows 'for every input' (looked for: loops, veiled, ifaces, maps, wideKeys, modest, calm, conditions, laid).
  DERIVED. THE GIVEN ROWS OF THIS SEAT. 10 by the template 'for every input the law returns true; each argument reads behind the call as it read before'; 0 by the template 'total and deterministic' (their statements: YtbfoaibgenepoaaTotals.lean).
  GIVEN WITH THE SEED: the statements are not yours to turn. If you find one false, say at which input.
  Laid BY PROGRAM, IN A SANDBOX (cutbox-rows.mjs): the forced cells as the released guide's own fill.sh prints them over the translation c06a230a46dcdb24… (all of the seat's roots in one cut). By AI agents, Wed Nov 11 2026. No macro, syntax, notation, axiom, sorry.
-/
import Derived.Test.YtbfoaibgenepoaaChecked
import GoSem.Claim
import GoSem.ClaimJoined
import GoSem.ClaimMapViews
import Derived.JoinedTies
import Derived.KernelRfl
namespace Go.Proofs.Ytbfoaibgenepoaa
/- THE CELL 'sum', in the pinned program and in every row, IS THE sha256 OF THE DUMP (.gsa) THAT YtbfoaibgenepoaaProg.lean LOADS. Nothing in Lean hashes anything: it is a label: what it is worth is what the hold of that sum in a sandbox is worth. -/
noncomputable def Try.pinned : Pinned := { name := "ytbfoaibgenepoaa", sum := "c06a230a46dcdb249d31c2f58a8dc44e3cf4ef5f7ea31755788c4f31017c74bd", checked := Try.checked }
namespace Rows
def none {H : Type} : Left H := { results := [], args := [] }

/-- 'laws.FnCoins': WHATEVER THE INPUT: true; the input reads as it did. -/
def fnCoinsSpec : ChangeSpec := { name := "fnCoins", fn := fun _ => fun
  | [d] => { results := [.lit (.bool true)], args := [d] }
  | _ => none }
def fnCoinsRow : OpenClaim := { program := "ytbfoaibgenepoaa", sum := "c06a230a46dcdb249d31c2f58a8dc44e3cf4ef5f7ea31755788c4f31017c74bd", func := "loop.example/g03203/laws.FnCoins", spec := "fnCoins", unfollowed := true, recurses := true, apart := false }
def FnCoinsSaid : Prop := fnCoinsRow.holds Try.pinned (OpenSpec.ofChange fnCoinsSpec)

/-- ITS FALSE NEIGHBOUR: 'it returns false'. Refute it at one input. -/
def fnCoinsWrong : ChangeSpec := { name := "fnCoins", fn := fun _ => fun
  | [d] => { results := [.lit (.bool false)], args := [d] }
  | _ => none }
def FnCoinsWrongFalsely : Prop := fnCoinsRow.holds Try.pinned (OpenSpec.ofChange fnCoinsWrong)

/-- 'laws.FnExactCoinsOk': WHATEVER THE INPUT: true; the input reads as it did. -/
def fnExactCoinsOkSpec : ChangeSpec := { name := "fnExactCoinsOk", fn := fun _ => fun
  | [d] => { results := [.lit (.bool true)], args := [d] }
  | _ => none }
def fnExactCoinsOkRow : OpenClaim := { program := "ytbfoaibgenepoaa", sum := "c06a230a46dcdb249d31c2f58a8dc44e3cf4ef5f7ea31755788c4f31017c74bd", func := "loop.example/g03203/laws.FnExactCoinsOk", spec := "fnExactCoinsOk", apart := false }
def FnExactCoinsOkSaid : Prop := fnExactCoinsOkRow.holds Try.pinned (OpenSpec.ofChange fnExactCoinsOkSpec)

/-- ITS FALSE NEIGHBOUR: 'it returns false'. Refute it at one input. -/
def fnExactCoinsOkWrong : ChangeSpec := { name := "fnExactCoinsOk", fn := fun _ => fun
  | [d] => { results := [.lit (.bool false)], args := [d] }
  | _ => none }
def FnExactCoinsOkWrongFalsely : Prop := fnExactCoinsOkRow.holds Try.pinned (OpenSpec.ofChange fnExactCoinsOkWrong)

/-- 'laws.FnExactGreedyCoins': WHATEVER THE INPUT: true; the input reads as it did. -/
def fnExactGreedyCoinsSpec : ChangeSpec := { name := "fnExactGreedyCoins", fn := fun _ => fun
  | [d1, d2] => { results := [.lit (.bool true)], args := [d1, d2] }
  | _ => none }
def fnExactGreedyCoinsRow : OpenClaim := { program := "ytbfoaibgenepoaa", sum := "c06a230a46dcdb249d31c2f58a8dc44e3cf4ef5f7ea31755788c4f31017c74bd", func := "loop.example/g03203/laws.FnExactGreedyCoins", spec := "fnExactGreedyCoins", unfollowed := true, recurses := true, apart := false }
def FnExactGreedyCoinsSaid : Prop := fnExactGreedyCoinsRow.holds Try.pinned (OpenSpec.ofChange fnExactGreedyCoinsSpec)

/-- ITS FALSE NEIGHBOUR: 'it returns false'. Refute it at one input. -/
def fnExactGreedyCoinsWrong : ChangeSpec := { name := "fnExactGreedyCoins", fn := fun _ => fun
  | [d1, d2] => { results := [.lit (.bool false)], args := [d1, d2] }
  | _ => none }
def FnExactGreedyCoinsWrongFalsely : Prop := fnExactGreedyCoinsRow.holds Try.pinned (OpenSpec.ofChange fnExactGreedyCoinsWrong)

/-- 'laws.FnExactCoinsValue': WHATEVER THE INPUT: true; the input reads as it did. -/
def fnExactCoinsValueSpec : ChangeSpec := { name := "fnExactCoinsValue", fn := fun _ => fun
  | [d1, d2] => { results := [.lit (.bool true)], args := [d1, d2] }
  | _ => none }
def fnExactCoinsValueRow : OpenClaim := { program := "ytbfoaibgenepoaa", sum := "c06a230a46dcdb249d31c2f58a8dc44e3cf4ef5f7ea31755788c4f31017c74bd", func := "loop.example/g03203/laws.FnExactCoinsValue", spec := "fnExactCoinsValue", apart := false }
def FnExactCoinsValueSaid : Prop := fnExactCoinsValueRow.holds Try.pinned (OpenSpec.ofChange fnExactCoinsValueSpec)

/-- ITS FALSE NEIGHBOUR: 'it returns false'. Refute it at one input. -/
def fnExactCoinsValueWrong : ChangeSpec := { name := "fnExactCoinsValue", fn := fun _ => fun
  | [d1, d2] => { results := [.lit (.bool false)], args := [d1, d2] }
  | _ => none }
def FnExactCoinsValueWrongFalsely : Prop := fnExactCoinsValueRow.holds Try.pinned (OpenSpec.ofChange fnExactCoinsValueWrong)

/-- 'laws.FnExactIsGreedy': WHATEVER THE INPUT: true; the input reads as it did. -/
def fnExactIsGreedySpec : ChangeSpec := { name := "fnExactIsGreedy", fn := fun _ => fun
  | [d1, d2] => { results := [.lit (.bool true)], args := [d1, d2] }
  | _ => none }
def fnExactIsGreedyRow : OpenClaim := { program := "ytbfoaibgenepoaa", sum := "c06a230a46dcdb249d31c2f58a8dc44e3cf4ef5f7ea31755788c4f31017c74bd", func := "loop.example/g03203/laws.FnExactIsGreedy", spec := "fnExactIsGreedy", unfollowed := true, recurses := true, apart := false }
def FnExactIsGreedySaid : Prop := fnExactIsGreedyRow.holds Try.pinned (OpenSpec.ofChange fnExactIsGreedySpec)

/-- ITS FALSE NEIGHBOUR: 'it returns false'. Refute it at one input. -/
def fnExactIsGreedyWrong : ChangeSpec := { name := "fnExactIsGreedy", fn := fun _ => fun
  | [d1, d2] => { results := [.lit (.bool false)], args := [d1, d2] }
  | _ => none }
def FnExactIsGreedyWrongFalsely : Prop := fnExactIsGreedyRow.holds Try.pinned (OpenSpec.ofChange fnExactIsGreedyWrong)

/-- 'laws.FnExactFewestCoins': WHATEVER THE INPUT: true; the input reads as it did. -/
def fnExactFewestCoinsSpec : ChangeSpec := { name := "fnExactFewestCoins", fn := fun _ => fun
  | [d1, d2] => { results := [.lit (.bool true)], args := [d1, d2] }
  | _ => none }
def fnExactFewestCoinsRow : OpenClaim := { program := "ytbfoaibgenepoaa", sum := "c06a230a46dcdb249d31c2f58a8dc44e3cf4ef5f7ea31755788c4f31017c74bd", func := "loop.example/g03203/laws.FnExactFewestCoins", spec := "fnExactFewestCoins", unfollowed := true, recurses := true, apart := false }
def FnExactFewestCoinsSaid : Prop := fnExactFewestCoinsRow.holds Try.pinned (OpenSpec.ofChange fnExactFewestCoinsSpec)

/-- ITS FALSE NEIGHBOUR: 'it returns false'. Refute it at one input. -/
def fnExactFewestCoinsWrong : ChangeSpec := { name := "fnExactFewestCoins", fn := fun _ => fun
  | [d1, d2] => { results := [.lit (.bool false)], args := [d1, d2] }
  | _ => none }
def FnExactFewestCoinsWrongFalsely : Prop := fnExactFewestCoinsRow.holds Try.pinned (OpenSpec.ofChange fnExactFewestCoinsWrong)

/-- 'laws.FnExactFirstUngreedy': WHATEVER THE INPUT: true; the input reads as it did. -/
def fnExactFirstUngreedySpec : ChangeSpec := { name := "fnExactFirstUngreedy", fn := fun _ => fun
  | [d1, d2] => { results := [.lit (.bool true)], args := [d1, d2] }
  | _ => none }
def fnExactFirstUngreedyRow : OpenClaim := { program := "ytbfoaibgenepoaa", sum := "c06a230a46dcdb249d31c2f58a8dc44e3cf4ef5f7ea31755788c4f31017c74bd", func := "loop.example/g03203/laws.FnExactFirstUngreedy", spec := "fnExactFirstUngreedy", unfollowed := true, recurses := true, apart := false }
def FnExactFirstUngreedySaid : Prop := fnExactFirstUngreedyRow.holds Try.pinned (OpenSpec.ofChange fnExactFirstUngreedySpec)

/-- ITS FALSE NEIGHBOUR: 'it returns false'. Refute it at one input. -/
def fnExactFirstUngreedyWrong : ChangeSpec := { name := "fnExactFirstUngreedy", fn := fun _ => fun
  | [d1, d2] => { results := [.lit (.bool false)], args := [d1, d2] }
  | _ => none }
def FnExactFirstUngreedyWrongFalsely : Prop := fnExactFirstUngreedyRow.holds Try.pinned (OpenSpec.ofChange fnExactFirstUngreedyWrong)

/-- 'laws.FnExactCountCoins': WHATEVER THE INPUT: true; the input reads as it did. -/
def fnExactCountCoinsSpec : ChangeSpec := { name := "fnExactCountCoins", fn := fun _ => fun
  | [d1, d2] => { results := [.lit (.bool true)], args := [d1, d2] }
  | _ => none }
def fnExactCountCoinsRow : OpenClaim := { program := "ytbfoaibgenepoaa", sum := "c06a230a46dcdb249d31c2f58a8dc44e3cf4ef5f7ea31755788c4f31017c74bd", func := "loop.example/g03203/laws.FnExactCountCoins", spec := "fnExactCountCoins", unfollowed := true, recurses := true, apart := false }
def FnExactCountCoinsSaid : Prop := fnExactCountCoinsRow.holds Try.pinned (OpenSpec.ofChange fnExactCountCoinsSpec)

/-- ITS FALSE NEIGHBOUR: 'it returns false'. Refute it at one input. -/
def fnExactCountCoinsWrong : ChangeSpec := { name := "fnExactCountCoins", fn := fun _ => fun
  | [d1, d2] => { results := [.lit (.bool false)], args := [d1, d2] }
  | _ => none }
def FnExactCountCoinsWrongFalsely : Prop := fnExactCountCoinsRow.holds Try.pinned (OpenSpec.ofChange fnExactCountCoinsWrong)

/-- 'laws.FnExactRecurrentCoins': WHATEVER THE INPUT: true; the input reads as it did. -/
def fnExactRecurrentCoinsSpec : ChangeSpec := { name := "fnExactRecurrentCoins", fn := fun _ => fun
  | [d1, d2, d3] => { results := [.lit (.bool true)], args := [d1, d2, d3] }
  | _ => none }
def fnExactRecurrentCoinsRow : OpenClaim := { program := "ytbfoaibgenepoaa", sum := "c06a230a46dcdb249d31c2f58a8dc44e3cf4ef5f7ea31755788c4f31017c74bd", func := "loop.example/g03203/laws.FnExactRecurrentCoins", spec := "fnExactRecurrentCoins", apart := false }
def FnExactRecurrentCoinsSaid : Prop := fnExactRecurrentCoinsRow.holds Try.pinned (OpenSpec.ofChange fnExactRecurrentCoinsSpec)

/-- ITS FALSE NEIGHBOUR: 'it returns false'. Refute it at one input. -/
def fnExactRecurrentCoinsWrong : ChangeSpec := { name := "fnExactRecurrentCoins", fn := fun _ => fun
  | [d1, d2, d3] => { results := [.lit (.bool false)], args := [d1, d2, d3] }
  | _ => none }
def FnExactRecurrentCoinsWrongFalsely : Prop := fnExactRecurrentCoinsRow.holds Try.pinned (OpenSpec.ofChange fnExactRecurrentCoinsWrong)

/-- 'laws.FnExactLeastDigits': WHATEVER THE INPUT: true; the input reads as it did. -/
def fnExactLeastDigitsSpec : ChangeSpec := { name := "fnExactLeastDigits", fn := fun _ => fun
  | [d1, d2] => { results := [.lit (.bool true)], args := [d1, d2] }
  | _ => none }
def fnExactLeastDigitsRow : OpenClaim := { program := "ytbfoaibgenepoaa", sum := "c06a230a46dcdb249d31c2f58a8dc44e3cf4ef5f7ea31755788c4f31017c74bd", func := "loop.example/g03203/laws.FnExactLeastDigits", spec := "fnExactLeastDigits", unfollowed := true, recurses := true, apart := false }
def FnExactLeastDigitsSaid : Prop := fnExactLeastDigitsRow.holds Try.pinned (OpenSpec.ofChange fnExactLeastDigitsSpec)

/-- ITS FALSE NEIGHBOUR: 'it returns false'. Refute it at one input. -/
def fnExactLeastDigitsWrong : ChangeSpec := { name := "fnExactLeastDigits", fn := fun _ => fun
  | [d1, d2] => { results := [.lit (.bool false)], args := [d1, d2] }
  | _ => none }
def FnExactLeastDigitsWrongFalsely : Prop := fnExactLeastDigitsRow.holds Try.pinned (OpenSpec.ofChange fnExactLeastDigitsWrong)

/- THE SECOND FORM. 'bulk': how many values and letters a reading holds, each counted each time it is reached (what is shared counts as often as it is met; a slice's spare places count too). A statement '..UptoSaid' is the law's where the arguments, and the package variables that the reading takes, are together of bulk at most 1048576: NARROWER than '..Said'. Prove '..Said' where nothing that the law and all that it calls make is longer than what came in: it says more and counts as full. Else prove '..UptoSaid'. A law counts once. -/
mutual
def uptoBulk {H : Type} : DataW H → Nat
  | .lit (.string bytes) => bytes.length + 1
  | .lit _ => 1
  | .nil => 1
  | .ptr d => uptoBulk d + 1
  | .slice elems spare => uptoBulkAll elems + uptoBulkAll spare + 1
  | .agg parts => uptoBulkAll parts + 1
  | .iface _ d => uptoBulk d + 1
  | .map entries => uptoBulkEntries entries + 1
  | .held _ => 1
def uptoBulkAll {H : Type} : List (DataW H) → Nat
  | [] => 0
  | d :: r => uptoBulk d + uptoBulkAll r
def uptoBulkEntries {H : Type} : List (Lit × DataW H) → Nat
  | [] => 0
  | x :: r => uptoBulkEntry x + uptoBulkEntries r
def uptoBulkEntry {H : Type} : Lit × DataW H → Nat
  | (.string bytes, d) => bytes.length + uptoBulk d + 1
  | (_, d) => uptoBulk d + 1
 end
def uptoSmall : (H : Type) → List (DataW H) → Bool := fun _ ds => decide (uptoBulkAll ds ≤ 1048576)
def OpenSpec.upto (s : _root_.Go.ChangeSpec) : _root_.Go.OpenSpec := { _root_.Go.OpenSpec.ofChange s with cond := some uptoSmall }

/-- 'laws.FnCoins', WHERE WHAT IT READS IS OF BULK AT MOST 1048576: true; the input reads as it did. -/
def fnCoinsUptoRow : OpenClaim := { program := "ytbfoaibgenepoaa", sum := "c06a230a46dcdb249d31c2f58a8dc44e3cf4ef5f7ea31755788c4f31017c74bd", func := "loop.example/g03203/laws.FnCoins", spec := "fnCoins", unfollowed := true, recurses := true, apart := false, narrowed := true }
def FnCoinsUptoSaid : Prop := fnCoinsUptoRow.holds Try.pinned (OpenSpec.upto fnCoinsSpec)

/-- 'laws.FnExactCoinsOk', WHERE WHAT IT READS IS OF BULK AT MOST 1048576: true; the input reads as it did. -/
def fnExactCoinsOkUptoRow : OpenClaim := { program := "ytbfoaibgenepoaa", sum := "c06a230a46dcdb249d31c2f58a8dc44e3cf4ef5f7ea31755788c4f31017c74bd", func := "loop.example/g03203/laws.FnExactCoinsOk", spec := "fnExactCoinsOk", apart := false, narrowed := true }
def FnExactCoinsOkUptoSaid : Prop := fnExactCoinsOkUptoRow.holds Try.pinned (OpenSpec.upto fnExactCoinsOkSpec)

/-- 'laws.FnExactGreedyCoins', WHERE WHAT IT READS IS OF BULK AT MOST 1048576: true; the input reads as it did. -/
def fnExactGreedyCoinsUptoRow : OpenClaim := { program := "ytbfoaibgenepoaa", sum := "c06a230a46dcdb249d31c2f58a8dc44e3cf4ef5f7ea31755788c4f31017c74bd", func := "loop.example/g03203/laws.FnExactGreedyCoins", spec := "fnExactGreedyCoins", unfollowed := true, recurses := true, apart := false, narrowed := true }
def FnExactGreedyCoinsUptoSaid : Prop := fnExactGreedyCoinsUptoRow.holds Try.pinned (OpenSpec.upto fnExactGreedyCoinsSpec)

/-- 'laws.FnExactCoinsValue', WHERE WHAT IT READS IS OF BULK AT MOST 1048576: true; the input reads as it did. -/
def fnExactCoinsValueUptoRow : OpenClaim := { program := "ytbfoaibgenepoaa", sum := "c06a230a46dcdb249d31c2f58a8dc44e3cf4ef5f7ea31755788c4f31017c74bd", func := "loop.example/g03203/laws.FnExactCoinsValue", spec := "fnExactCoinsValue", apart := false, narrowed := true }
def FnExactCoinsValueUptoSaid : Prop := fnExactCoinsValueUptoRow.holds Try.pinned (OpenSpec.upto fnExactCoinsValueSpec)

/-- 'laws.FnExactIsGreedy', WHERE WHAT IT READS IS OF BULK AT MOST 1048576: true; the input reads as it did. -/
def fnExactIsGreedyUptoRow : OpenClaim := { program := "ytbfoaibgenepoaa", sum := "c06a230a46dcdb249d31c2f58a8dc44e3cf4ef5f7ea31755788c4f31017c74bd", func := "loop.example/g03203/laws.FnExactIsGreedy", spec := "fnExactIsGreedy", unfollowed := true, recurses := true, apart := false, narrowed := true }
def FnExactIsGreedyUptoSaid : Prop := fnExactIsGreedyUptoRow.holds Try.pinned (OpenSpec.upto fnExactIsGreedySpec)

/-- 'laws.FnExactFewestCoins', WHERE WHAT IT READS IS OF BULK AT MOST 1048576: true; the input reads as it did. -/
def fnExactFewestCoinsUptoRow : OpenClaim := { program := "ytbfoaibgenepoaa", sum := "c06a230a46dcdb249d31c2f58a8dc44e3cf4ef5f7ea31755788c4f31017c74bd", func := "loop.example/g03203/laws.FnExactFewestCoins", spec := "fnExactFewestCoins", unfollowed := true, recurses := true, apart := false, narrowed := true }
def FnExactFewestCoinsUptoSaid : Prop := fnExactFewestCoinsUptoRow.holds Try.pinned (OpenSpec.upto fnExactFewestCoinsSpec)

/-- 'laws.FnExactFirstUngreedy', WHERE WHAT IT READS IS OF BULK AT MOST 1048576: true; the input reads as it did. -/
def fnExactFirstUngreedyUptoRow : OpenClaim := { program := "ytbfoaibgenepoaa", sum := "c06a230a46dcdb249d31c2f58a8dc44e3cf4ef5f7ea31755788c4f31017c74bd", func := "loop.example/g03203/laws.FnExactFirstUngreedy", spec := "fnExactFirstUngreedy", unfollowed := true, recurses := true, apart := false, narrowed := true }
def FnExactFirstUngreedyUptoSaid : Prop := fnExactFirstUngreedyUptoRow.holds Try.pinned (OpenSpec.upto fnExactFirstUngreedySpec)

/-- 'laws.FnExactCountCoins', WHERE WHAT IT READS IS OF BULK AT MOST 1048576: true; the input reads as it did. -/
def fnExactCountCoinsUptoRow : OpenClaim := { program := "ytbfoaibgenepoaa", sum := "c06a230a46dcdb249d31c2f58a8dc44e3cf4ef5f7ea31755788c4f31017c74bd", func := "loop.example/g03203/laws.FnExactCountCoins", spec := "fnExactCountCoins", unfollowed := true, recurses := true, apart := false, narrowed := true }
def FnExactCountCoinsUptoSaid : Prop := fnExactCountCoinsUptoRow.holds Try.pinned (OpenSpec.upto fnExactCountCoinsSpec)

/-- 'laws.FnExactRecurrentCoins', WHERE WHAT IT READS IS OF BULK AT MOST 1048576: true; the input reads as it did. -/
def fnExactRecurrentCoinsUptoRow : OpenClaim := { program := "ytbfoaibgenepoaa", sum := "c06a230a46dcdb249d31c2f58a8dc44e3cf4ef5f7ea31755788c4f31017c74bd", func := "loop.example/g03203/laws.FnExactRecurrentCoins", spec := "fnExactRecurrentCoins", apart := false, narrowed := true }
def FnExactRecurrentCoinsUptoSaid : Prop := fnExactRecurrentCoinsUptoRow.holds Try.pinned (OpenSpec.upto fnExactRecurrentCoinsSpec)

/-- 'laws.FnExactLeastDigits', WHERE WHAT IT READS IS OF BULK AT MOST 1048576: true; the input reads as it did. -/
def fnExactLeastDigitsUptoRow : OpenClaim := { program := "ytbfoaibgenepoaa", sum := "c06a230a46dcdb249d31c2f58a8dc44e3cf4ef5f7ea31755788c4f31017c74bd", func := "loop.example/g03203/laws.FnExactLeastDigits", spec := "fnExactLeastDigits", unfollowed := true, recurses := true, apart := false, narrowed := true }
def FnExactLeastDigitsUptoSaid : Prop := fnExactLeastDigitsUptoRow.holds Try.pinned (OpenSpec.upto fnExactLeastDigitsSpec)

end Rows
end Go.Proofs.Ytbfoaibgenepoaa
