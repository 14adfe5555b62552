/-
  DERIVED. GIVEN WITH THE SEED: THE CARDS: each row of YtbnkdcfmllblkaaDoorRows.lean that lists a variable, with what it lists TIED to the program's text (the seventh form; the later family's looks); each row that meets fmt, with fmt's text TOLD by the authors' own Lean function (tested against real Go, not proved from fmt's source: count such statements apart). THE CARD IS WHAT COUNTS. Prove the row's statement (the work); the ties are given (YtbnkdcfmllblkaaDoorTie.lean); close each card by the builder's one call (the guide's Derived/Test/ToyasCard.lean, 'card_holds'). Laid BY PROGRAM, IN A SANDBOX (cutbox-door.mjs). By AI agents, Wed Nov 11 2026. No macro, syntax, notation, axiom, sorry.
-/
import Derived.Test.YtbnkdcfmllblkaaDoorRows
import GoSem.ClaimSeven
namespace Go.Proofs.YtbnkdcfmllblkaaDoor
namespace Rows

/-- THE TIED CARD OF 'laws.FnExactFormatMixed'. -/
def fnExactFormatMixedCard : Claim7 := { stood := { row := fnExactFormatMixedRow, standIns := [], harness := (true, "d47046aa8597b5e9c7af6725916dc856d3a0ea849056e35edd02b141ba1f6687"), looks := true }, kinds := [], alts := [], laidByText := true, laidKinds := [.data, .data, .data], laidTests := true, laidLooks := .later }
def FnExactFormatMixedCardSaid : Prop := Claim7.holds Tryd.pinned (.plain (OpenSpec.ofChange fnExactFormatMixedSpec)) fnExactFormatMixedCard

/-- THE TIED CARD OF 'laws.FnExactParseMixed'. -/
def fnExactParseMixedCard : Claim7 := { stood := { row := fnExactParseMixedRow, standIns := [], harness := (true, "d47046aa8597b5e9c7af6725916dc856d3a0ea849056e35edd02b141ba1f6687"), looks := true }, kinds := [], alts := [], laidByText := true, laidKinds := [.data, .data, .data, .sentinel, .sentinel], laidTests := true, laidLooks := .later }
def FnExactParseMixedCardSaid : Prop := Claim7.holds Tryd.pinned (.plain (OpenSpec.ofChange fnExactParseMixedSpec)) fnExactParseMixedCard

/-- THE SECOND FORM's CARD OF 'laws.FnExactFormatMixed'. -/
def fnExactFormatMixedUptoCard : Claim7 := { stood := { row := fnExactFormatMixedUptoRow, standIns := [], harness := (true, "d47046aa8597b5e9c7af6725916dc856d3a0ea849056e35edd02b141ba1f6687"), looks := true }, kinds := [], alts := [], laidByText := true, laidKinds := [.data, .data, .data], laidTests := true, laidLooks := .later }
def FnExactFormatMixedUptoCardSaid : Prop := Claim7.holds Tryd.pinned (.plain (OpenSpec.upto fnExactFormatMixedSpec)) fnExactFormatMixedUptoCard

/-- THE SECOND FORM's CARD OF 'laws.FnExactParseMixed'. -/
def fnExactParseMixedUptoCard : Claim7 := { stood := { row := fnExactParseMixedUptoRow, standIns := [], harness := (true, "d47046aa8597b5e9c7af6725916dc856d3a0ea849056e35edd02b141ba1f6687"), looks := true }, kinds := [], alts := [], laidByText := true, laidKinds := [.data, .data, .data, .sentinel, .sentinel], laidTests := true, laidLooks := .later }
def FnExactParseMixedUptoCardSaid : Prop := Claim7.holds Tryd.pinned (.plain (OpenSpec.upto fnExactParseMixedSpec)) fnExactParseMixedUptoCard
end Rows
end Go.Proofs.YtbnkdcfmllblkaaDoor
