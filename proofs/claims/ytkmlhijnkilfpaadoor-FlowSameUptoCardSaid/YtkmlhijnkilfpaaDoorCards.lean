/-
  DERIVED. GIVEN WITH THE SEED: THE CARDS: each row of YtkmlhijnkilfpaaDoorRows.lean that lists a variable, with what it lists TIED to the program's text (the seventh form; the later family's looks); each row that meets fmt, with fmt's text TOLD by the authors' own Lean function (tested against real Go, not proved from fmt's source: count such statements apart). THE CARD IS WHAT COUNTS. Prove the row's statement (the work); the ties are given (YtkmlhijnkilfpaaDoorTie.lean); close each card by the builder's one call (the guide's Derived/Test/ToyasCard.lean, 'card_holds'). Laid BY PROGRAM, IN A SANDBOX (cutbox-door.mjs). By AI agents, Wed Nov 11 2026. No macro, syntax, notation, axiom, sorry.
-/
import Derived.Test.YtkmlhijnkilfpaaDoorRows
import GoSem.ClaimSeven
namespace Go.Proofs.YtkmlhijnkilfpaaDoor
namespace Rows

/-- THE TIED CARD OF 'bobbinlaw11.FlowCuts'. -/
def flowCutsCard : Claim7 := { stood := { row := flowCutsRow, standIns := [], harness := (true, "e6a0bd0d9cb8a3f5c258d0e6ad26f21013f131355607a5308a5ba0c980f2c646"), looks := false }, kinds := [], alts := [], laidByText := true, laidKinds := [.data, .data], laidTests := true, laidLooks := .later }
def FlowCutsCardSaid : Prop := Claim7.holds Tryd.pinned (.plain (OpenSpec.ofChange flowCutsSpec)) flowCutsCard

/-- THE TIED CARD OF 'bobbinlaw11.FlowMay'. -/
def flowMayCard : Claim7 := { stood := { row := flowMayRow, standIns := [], harness := (true, "e6a0bd0d9cb8a3f5c258d0e6ad26f21013f131355607a5308a5ba0c980f2c646"), looks := false }, kinds := [], alts := [], laidByText := true, laidKinds := [.data, .data], laidTests := true, laidLooks := .later }
def FlowMayCardSaid : Prop := Claim7.holds Tryd.pinned (.plain (OpenSpec.ofChange flowMaySpec)) flowMayCard

/-- THE TIED CARD OF 'bobbinlaw11.FlowSame'. -/
def flowSameCard : Claim7 := { stood := { row := flowSameRow, standIns := [], harness := (true, "e6a0bd0d9cb8a3f5c258d0e6ad26f21013f131355607a5308a5ba0c980f2c646"), looks := false }, kinds := [], alts := [], laidByText := true, laidKinds := [.data, .data], laidTests := true, laidLooks := .later }
def FlowSameCardSaid : Prop := Claim7.holds Tryd.pinned (.plain (OpenSpec.ofChange flowSameSpec)) flowSameCard

/-- THE SECOND FORM's CARD OF 'bobbinlaw11.FlowCuts'. -/
def flowCutsUptoCard : Claim7 := { stood := { row := flowCutsUptoRow, standIns := [], harness := (true, "e6a0bd0d9cb8a3f5c258d0e6ad26f21013f131355607a5308a5ba0c980f2c646"), looks := false }, kinds := [], alts := [], laidByText := true, laidKinds := [.data, .data], laidTests := true, laidLooks := .later }
def FlowCutsUptoCardSaid : Prop := Claim7.holds Tryd.pinned (.plain (OpenSpec.upto flowCutsSpec)) flowCutsUptoCard

/-- THE SECOND FORM's CARD OF 'bobbinlaw11.FlowMay'. -/
def flowMayUptoCard : Claim7 := { stood := { row := flowMayUptoRow, standIns := [], harness := (true, "e6a0bd0d9cb8a3f5c258d0e6ad26f21013f131355607a5308a5ba0c980f2c646"), looks := false }, kinds := [], alts := [], laidByText := true, laidKinds := [.data, .data], laidTests := true, laidLooks := .later }
def FlowMayUptoCardSaid : Prop := Claim7.holds Tryd.pinned (.plain (OpenSpec.upto flowMaySpec)) flowMayUptoCard

/-- THE SECOND FORM's CARD OF 'bobbinlaw11.FlowSame'. -/
def flowSameUptoCard : Claim7 := { stood := { row := flowSameUptoRow, standIns := [], harness := (true, "e6a0bd0d9cb8a3f5c258d0e6ad26f21013f131355607a5308a5ba0c980f2c646"), looks := false }, kinds := [], alts := [], laidByText := true, laidKinds := [.data, .data], laidTests := true, laidLooks := .later }
def FlowSameUptoCardSaid : Prop := Claim7.holds Tryd.pinned (.plain (OpenSpec.upto flowSameSpec)) flowSameUptoCard
end Rows
end Go.Proofs.YtkmlhijnkilfpaaDoor
