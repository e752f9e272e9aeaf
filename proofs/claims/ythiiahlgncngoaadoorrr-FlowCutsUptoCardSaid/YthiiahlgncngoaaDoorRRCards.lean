/-
  DERIVED. GIVEN WITH THE SEED: THE CARDS: each row of YthiiahlgncngoaaDoorRRRows.lean that lists a variable, with what it lists TIED to the program's text (the seventh form; the later family's looks); each row that meets fmt, with fmt's text TOLD by the authors' own Lean function (tested against real Go, not proved from fmt's source: count such statements apart). THE CARD IS WHAT COUNTS. Prove the row's statement (the work); the ties are given (YthiiahlgncngoaaDoorRRTie.lean); close each card by the builder's one call (the guide's Derived/Test/ToyasCard.lean, 'card_holds'). Laid BY PROGRAM, IN A SANDBOX (cutbox-door.mjs). By AI agents, Wed Nov 11 2026. No macro, syntax, notation, axiom, sorry.
-/
import Derived.Test.YthiiahlgncngoaaDoorRRRows
import GoSem.ClaimSeven
namespace Go.Proofs.YthiiahlgncngoaaDoorRR
namespace Rows

/-- THE TIED CARD OF 'bobbinlaw11.FlowCuts'. -/
def flowCutsCard : Claim7 := { stood := { row := flowCutsRow, standIns := [], harness := (true, "e638231ceeb65a2e503dc55fc6cca4dc4bea20690cf647bed3ce64af34ef4d2e"), looks := false }, kinds := [], alts := [], laidByText := true, laidKinds := [.data, .data], laidTests := true, laidLooks := .later }
def FlowCutsCardSaid : Prop := Claim7.holds Tryd.pinned (.plain (OpenSpec.ofChange flowCutsSpec)) flowCutsCard

/-- THE TIED CARD OF 'bobbinlaw11.FlowAll'. -/
def flowAllCard : Claim7 := { stood := { row := flowAllRow, standIns := [], harness := (true, "e638231ceeb65a2e503dc55fc6cca4dc4bea20690cf647bed3ce64af34ef4d2e"), looks := false }, kinds := [], alts := [], laidByText := true, laidKinds := [.data, .data], laidTests := true, laidLooks := .later }
def FlowAllCardSaid : Prop := Claim7.holds Tryd.pinned (.plain (OpenSpec.ofChange flowAllSpec)) flowAllCard

/-- THE TIED CARD OF 'bobbinlaw11.FlowSame'. -/
def flowSameCard : Claim7 := { stood := { row := flowSameRow, standIns := [], harness := (true, "e638231ceeb65a2e503dc55fc6cca4dc4bea20690cf647bed3ce64af34ef4d2e"), looks := false }, kinds := [], alts := [], laidByText := true, laidKinds := [.data, .data], laidTests := true, laidLooks := .later }
def FlowSameCardSaid : Prop := Claim7.holds Tryd.pinned (.plain (OpenSpec.ofChange flowSameSpec)) flowSameCard

/-- THE SECOND FORM's CARD OF 'bobbinlaw11.FlowCuts'. -/
def flowCutsUptoCard : Claim7 := { stood := { row := flowCutsUptoRow, standIns := [], harness := (true, "e638231ceeb65a2e503dc55fc6cca4dc4bea20690cf647bed3ce64af34ef4d2e"), looks := false }, kinds := [], alts := [], laidByText := true, laidKinds := [.data, .data], laidTests := true, laidLooks := .later }
def FlowCutsUptoCardSaid : Prop := Claim7.holds Tryd.pinned (.plain (OpenSpec.upto flowCutsSpec)) flowCutsUptoCard

/-- THE SECOND FORM's CARD OF 'bobbinlaw11.FlowAll'. -/
def flowAllUptoCard : Claim7 := { stood := { row := flowAllUptoRow, standIns := [], harness := (true, "e638231ceeb65a2e503dc55fc6cca4dc4bea20690cf647bed3ce64af34ef4d2e"), looks := false }, kinds := [], alts := [], laidByText := true, laidKinds := [.data, .data], laidTests := true, laidLooks := .later }
def FlowAllUptoCardSaid : Prop := Claim7.holds Tryd.pinned (.plain (OpenSpec.upto flowAllSpec)) flowAllUptoCard

/-- THE SECOND FORM's CARD OF 'bobbinlaw11.FlowSame'. -/
def flowSameUptoCard : Claim7 := { stood := { row := flowSameUptoRow, standIns := [], harness := (true, "e638231ceeb65a2e503dc55fc6cca4dc4bea20690cf647bed3ce64af34ef4d2e"), looks := false }, kinds := [], alts := [], laidByText := true, laidKinds := [.data, .data], laidTests := true, laidLooks := .later }
def FlowSameUptoCardSaid : Prop := Claim7.holds Tryd.pinned (.plain (OpenSpec.upto flowSameSpec)) flowSameUptoCard
end Rows
end Go.Proofs.YthiiahlgncngoaaDoorRR
