/-
  DERIVED. GIVEN WITH THE SEED: THE CARDS: each row of YtjpmgnpjdikdnaaGreatDoorRows.lean that lists a variable, with what it lists TIED to the program's text (the seventh form; the later family's looks); each row that meets fmt, with fmt's text TOLD by the authors' own Lean function (tested against real Go, not proved from fmt's source: count such statements apart). THE CARD IS WHAT COUNTS. Prove the row's statement (the work); the ties are given (YtjpmgnpjdikdnaaGreatDoorTie.lean); close each card by the builder's one call (the guide's Derived/Test/ToyasCard.lean, 'card_holds'). Laid BY PROGRAM, IN A SANDBOX (cutbox-door.mjs). By AI agents, Wed Nov 11 2026. No macro, syntax, notation, axiom, sorry.
-/
import Derived.Test.YtjpmgnpjdikdnaaGreatDoorRows
import GoSem.ClaimSeven
namespace Go.Proofs.YtjpmgnpjdikdnaaGreatDoor
namespace Rows

/-- THE TIED CARD OF 'bobbinlaw03.ParseReads'. -/
def parseReadsCard : Claim7 := { stood := { row := parseReadsRow, standIns := [], harness := (true, "431e676d5f42ef2a57f04584561dd153b146deb09a7d216c63ba12092808692b"), looks := true }, kinds := [], alts := [], laidByText := true, laidKinds := [.data, .data, .data, .sentinel, .sentinel, .data, .data, .data, .data, .data], laidTests := true, laidLooks := .later }
def ParseReadsCardSaid : Prop := Claim7.holds Tryz.pinned (.plain (OpenSpec.ofChange parseReadsSpec)) parseReadsCard

/-- THE TIED CARD OF 'bobbinlaw03.ParseTexts'. -/
def parseTextsCard : Claim7 := { stood := { row := parseTextsRow, standIns := [], harness := (true, "431e676d5f42ef2a57f04584561dd153b146deb09a7d216c63ba12092808692b"), looks := true }, kinds := [], alts := [], laidByText := true, laidKinds := [.data, .data, .data, .sentinel, .sentinel, .data, .data, .data, .data, .data], laidTests := true, laidLooks := .later }
def ParseTextsCardSaid : Prop := Claim7.holds Tryz.pinned (.plain (OpenSpec.ofChange parseTextsSpec)) parseTextsCard

/-- THE TIED CARD OF 'bobbinlaw05.TypesNames'. -/
def typesNamesCard : Claim7 := { stood := { row := typesNamesRow, standIns := [], harness := (true, "431e676d5f42ef2a57f04584561dd153b146deb09a7d216c63ba12092808692b"), looks := true }, kinds := [], alts := [], laidByText := true, laidKinds := [.data, .data, .data, .sentinel, .sentinel, .data, .data, .data, .data, .data], laidTests := true, laidLooks := .later }
def TypesNamesCardSaid : Prop := Claim7.holds Tryz.pinned (.plain (OpenSpec.ofChange typesNamesSpec)) typesNamesCard

/-- THE TIED CARD OF 'bobbinlaw05.TypesParts'. -/
def typesPartsCard : Claim7 := { stood := { row := typesPartsRow, standIns := [], harness := (true, "431e676d5f42ef2a57f04584561dd153b146deb09a7d216c63ba12092808692b"), looks := true }, kinds := [], alts := [], laidByText := true, laidKinds := [.data, .data, .data, .sentinel, .sentinel, .data, .data, .data, .data, .data], laidTests := true, laidLooks := .later }
def TypesPartsCardSaid : Prop := Claim7.holds Tryz.pinned (.plain (OpenSpec.ofChange typesPartsSpec)) typesPartsCard

/-- THE TIED CARD OF 'bobbinlaw06.FlatMakes'. -/
def flatMakesCard : Claim7 := { stood := { row := flatMakesRow, standIns := [], harness := (true, "431e676d5f42ef2a57f04584561dd153b146deb09a7d216c63ba12092808692b"), looks := true }, kinds := [], alts := [], laidByText := true, laidKinds := [.data, .data, .data, .data], laidTests := true, laidLooks := .later }
def FlatMakesCardSaid : Prop := Claim7.holds Tryz.pinned (.plain (OpenSpec.ofChange flatMakesSpec)) flatMakesCard

/-- THE TIED CARD OF 'bobbinlaw06.FlatForward'. -/
def flatForwardCard : Claim7 := { stood := { row := flatForwardRow, standIns := [], harness := (true, "431e676d5f42ef2a57f04584561dd153b146deb09a7d216c63ba12092808692b"), looks := true }, kinds := [], alts := [], laidByText := true, laidKinds := [.data, .data, .data, .data], laidTests := true, laidLooks := .later }
def FlatForwardCardSaid : Prop := Claim7.holds Tryz.pinned (.plain (OpenSpec.ofChange flatForwardSpec)) flatForwardCard

/-- THE TIED CARD OF 'bobbinlaw06.FlatDecls'. -/
def flatDeclsCard : Claim7 := { stood := { row := flatDeclsRow, standIns := [], harness := (true, "431e676d5f42ef2a57f04584561dd153b146deb09a7d216c63ba12092808692b"), looks := true }, kinds := [], alts := [], laidByText := true, laidKinds := [.data, .data, .data, .data], laidTests := true, laidLooks := .later }
def FlatDeclsCardSaid : Prop := Claim7.holds Tryz.pinned (.plain (OpenSpec.ofChange flatDeclsSpec)) flatDeclsCard

/-- THE TIED CARD OF 'bobbinlaw06.FlatMore'. -/
def flatMoreCard : Claim7 := { stood := { row := flatMoreRow, standIns := [], harness := (true, "431e676d5f42ef2a57f04584561dd153b146deb09a7d216c63ba12092808692b"), looks := true }, kinds := [], alts := [], laidByText := true, laidKinds := [.data, .data, .data, .data], laidTests := true, laidLooks := .later }
def FlatMoreCardSaid : Prop := Claim7.holds Tryz.pinned (.plain (OpenSpec.ofChange flatMoreSpec)) flatMoreCard

/-- THE SECOND FORM's CARD OF 'bobbinlaw03.ParseReads'. -/
def parseReadsUptoCard : Claim7 := { stood := { row := parseReadsUptoRow, standIns := [], harness := (true, "431e676d5f42ef2a57f04584561dd153b146deb09a7d216c63ba12092808692b"), looks := true }, kinds := [], alts := [], laidByText := true, laidKinds := [.data, .data, .data, .sentinel, .sentinel, .data, .data, .data, .data, .data], laidTests := true, laidLooks := .later }
def ParseReadsUptoCardSaid : Prop := Claim7.holds Tryz.pinned (.plain (OpenSpec.upto parseReadsSpec)) parseReadsUptoCard

/-- THE SECOND FORM's CARD OF 'bobbinlaw03.ParseTexts'. -/
def parseTextsUptoCard : Claim7 := { stood := { row := parseTextsUptoRow, standIns := [], harness := (true, "431e676d5f42ef2a57f04584561dd153b146deb09a7d216c63ba12092808692b"), looks := true }, kinds := [], alts := [], laidByText := true, laidKinds := [.data, .data, .data, .sentinel, .sentinel, .data, .data, .data, .data, .data], laidTests := true, laidLooks := .later }
def ParseTextsUptoCardSaid : Prop := Claim7.holds Tryz.pinned (.plain (OpenSpec.upto parseTextsSpec)) parseTextsUptoCard

/-- THE SECOND FORM's CARD OF 'bobbinlaw05.TypesNames'. -/
def typesNamesUptoCard : Claim7 := { stood := { row := typesNamesUptoRow, standIns := [], harness := (true, "431e676d5f42ef2a57f04584561dd153b146deb09a7d216c63ba12092808692b"), looks := true }, kinds := [], alts := [], laidByText := true, laidKinds := [.data, .data, .data, .sentinel, .sentinel, .data, .data, .data, .data, .data], laidTests := true, laidLooks := .later }
def TypesNamesUptoCardSaid : Prop := Claim7.holds Tryz.pinned (.plain (OpenSpec.upto typesNamesSpec)) typesNamesUptoCard

/-- THE SECOND FORM's CARD OF 'bobbinlaw05.TypesParts'. -/
def typesPartsUptoCard : Claim7 := { stood := { row := typesPartsUptoRow, standIns := [], harness := (true, "431e676d5f42ef2a57f04584561dd153b146deb09a7d216c63ba12092808692b"), looks := true }, kinds := [], alts := [], laidByText := true, laidKinds := [.data, .data, .data, .sentinel, .sentinel, .data, .data, .data, .data, .data], laidTests := true, laidLooks := .later }
def TypesPartsUptoCardSaid : Prop := Claim7.holds Tryz.pinned (.plain (OpenSpec.upto typesPartsSpec)) typesPartsUptoCard

/-- THE SECOND FORM's CARD OF 'bobbinlaw06.FlatMakes'. -/
def flatMakesUptoCard : Claim7 := { stood := { row := flatMakesUptoRow, standIns := [], harness := (true, "431e676d5f42ef2a57f04584561dd153b146deb09a7d216c63ba12092808692b"), looks := true }, kinds := [], alts := [], laidByText := true, laidKinds := [.data, .data, .data, .data], laidTests := true, laidLooks := .later }
def FlatMakesUptoCardSaid : Prop := Claim7.holds Tryz.pinned (.plain (OpenSpec.upto flatMakesSpec)) flatMakesUptoCard

/-- THE SECOND FORM's CARD OF 'bobbinlaw06.FlatForward'. -/
def flatForwardUptoCard : Claim7 := { stood := { row := flatForwardUptoRow, standIns := [], harness := (true, "431e676d5f42ef2a57f04584561dd153b146deb09a7d216c63ba12092808692b"), looks := true }, kinds := [], alts := [], laidByText := true, laidKinds := [.data, .data, .data, .data], laidTests := true, laidLooks := .later }
def FlatForwardUptoCardSaid : Prop := Claim7.holds Tryz.pinned (.plain (OpenSpec.upto flatForwardSpec)) flatForwardUptoCard

/-- THE SECOND FORM's CARD OF 'bobbinlaw06.FlatDecls'. -/
def flatDeclsUptoCard : Claim7 := { stood := { row := flatDeclsUptoRow, standIns := [], harness := (true, "431e676d5f42ef2a57f04584561dd153b146deb09a7d216c63ba12092808692b"), looks := true }, kinds := [], alts := [], laidByText := true, laidKinds := [.data, .data, .data, .data], laidTests := true, laidLooks := .later }
def FlatDeclsUptoCardSaid : Prop := Claim7.holds Tryz.pinned (.plain (OpenSpec.upto flatDeclsSpec)) flatDeclsUptoCard

/-- THE SECOND FORM's CARD OF 'bobbinlaw06.FlatMore'. -/
def flatMoreUptoCard : Claim7 := { stood := { row := flatMoreUptoRow, standIns := [], harness := (true, "431e676d5f42ef2a57f04584561dd153b146deb09a7d216c63ba12092808692b"), looks := true }, kinds := [], alts := [], laidByText := true, laidKinds := [.data, .data, .data, .data], laidTests := true, laidLooks := .later }
def FlatMoreUptoCardSaid : Prop := Claim7.holds Tryz.pinned (.plain (OpenSpec.upto flatMoreSpec)) flatMoreUptoCard
end Rows
end Go.Proofs.YtjpmgnpjdikdnaaGreatDoor
