/-
  DERIVED. GIVEN WITH THE SEED: THE CARDS: each row of YtleadjkndciniaaDoorRows.lean that lists a variable, with what it lists TIED to the program's text (the seventh form; the later family's looks); each row that meets fmt, with fmt's text TOLD by the authors' own Lean function (tested against real Go, not proved from fmt's source: count such statements apart). THE CARD IS WHAT COUNTS. Prove the row's statement (the work); the ties are given (YtleadjkndciniaaDoorTie.lean); close each card by the builder's one call (the guide's Derived/Test/ToyasCard.lean, 'card_holds'). Laid BY PROGRAM, IN A SANDBOX (cutbox-door.mjs). By AI agents, Wed Nov 11 2026. No macro, syntax, notation, axiom, sorry.
-/
import Derived.Test.YtleadjkndciniaaDoorRows
import GoSem.ClaimSeven
namespace Go.Proofs.YtleadjkndciniaaDoor
namespace Rows

/-- THE TIED CARD OF 'laws.FnGray'. -/
def fnGrayCard : Claim7 := { stood := { row := fnGrayRow, standIns := [], harness := (true, "bc5752ceddddf763f0521e60157872f364adf9d7a2be89f5ee3080c2272c7d11"), looks := false }, kinds := [], alts := [], laidByText := true, laidKinds := [.data, .data], laidTests := true, laidLooks := .later }
def FnGrayCardSaid : Prop := Claim7.holds Tryd.pinned (.plain (OpenSpec.ofChange fnGraySpec)) fnGrayCard

/-- THE TIED CARD OF 'laws.FnExactFlipIndex'. -/
def fnExactFlipIndexCard : Claim7 := { stood := { row := fnExactFlipIndexRow, standIns := [], harness := (true, "bc5752ceddddf763f0521e60157872f364adf9d7a2be89f5ee3080c2272c7d11"), looks := false }, kinds := [], alts := [], laidByText := true, laidKinds := [.data, .data], laidTests := true, laidLooks := .later }
def FnExactFlipIndexCardSaid : Prop := Claim7.holds Tryd.pinned (.plain (OpenSpec.ofChange fnExactFlipIndexSpec)) fnExactFlipIndexCard

/-- THE TIED CARD OF 'laws.FnExactGrayCycle'. -/
def fnExactGrayCycleCard : Claim7 := { stood := { row := fnExactGrayCycleRow, standIns := [], harness := (true, "bc5752ceddddf763f0521e60157872f364adf9d7a2be89f5ee3080c2272c7d11"), looks := false }, kinds := [], alts := [], laidByText := true, laidKinds := [.data, .data], laidTests := true, laidLooks := .later }
def FnExactGrayCycleCardSaid : Prop := Claim7.holds Tryd.pinned (.plain (OpenSpec.ofChange fnExactGrayCycleSpec)) fnExactGrayCycleCard

/-- THE SECOND FORM's CARD OF 'laws.FnGray'. -/
def fnGrayUptoCard : Claim7 := { stood := { row := fnGrayUptoRow, standIns := [], harness := (true, "bc5752ceddddf763f0521e60157872f364adf9d7a2be89f5ee3080c2272c7d11"), looks := false }, kinds := [], alts := [], laidByText := true, laidKinds := [.data, .data], laidTests := true, laidLooks := .later }
def FnGrayUptoCardSaid : Prop := Claim7.holds Tryd.pinned (.plain (OpenSpec.upto fnGraySpec)) fnGrayUptoCard

/-- THE SECOND FORM's CARD OF 'laws.FnExactFlipIndex'. -/
def fnExactFlipIndexUptoCard : Claim7 := { stood := { row := fnExactFlipIndexUptoRow, standIns := [], harness := (true, "bc5752ceddddf763f0521e60157872f364adf9d7a2be89f5ee3080c2272c7d11"), looks := false }, kinds := [], alts := [], laidByText := true, laidKinds := [.data, .data], laidTests := true, laidLooks := .later }
def FnExactFlipIndexUptoCardSaid : Prop := Claim7.holds Tryd.pinned (.plain (OpenSpec.upto fnExactFlipIndexSpec)) fnExactFlipIndexUptoCard

/-- THE SECOND FORM's CARD OF 'laws.FnExactGrayCycle'. -/
def fnExactGrayCycleUptoCard : Claim7 := { stood := { row := fnExactGrayCycleUptoRow, standIns := [], harness := (true, "bc5752ceddddf763f0521e60157872f364adf9d7a2be89f5ee3080c2272c7d11"), looks := false }, kinds := [], alts := [], laidByText := true, laidKinds := [.data, .data], laidTests := true, laidLooks := .later }
def FnExactGrayCycleUptoCardSaid : Prop := Claim7.holds Tryd.pinned (.plain (OpenSpec.upto fnExactGrayCycleSpec)) fnExactGrayCycleUptoCard
end Rows
end Go.Proofs.YtleadjkndciniaaDoor
