/-
  DERIVED. GIVEN WITH THE SEED: THE CARDS: each row of YtoigpbajefkpoaaGreatDoorRows.lean that lists a variable, with what it lists TIED to the program's text (the seventh form; the later family's looks); each row that meets fmt, with fmt's text TOLD by the authors' own Lean function (tested against real Go, not proved from fmt's source: count such statements apart). THE CARD IS WHAT COUNTS. Prove the row's statement (the work); the ties are given (YtoigpbajefkpoaaGreatDoorTie.lean); close each card by the builder's one call (the guide's Derived/Test/ToyasCard.lean, 'card_holds'). Laid BY PROGRAM, IN A SANDBOX (cutbox-door.mjs). By AI agents, Wed Nov 11 2026. No macro, syntax, notation, axiom, sorry.
-/
import Derived.Test.YtoigpbajefkpoaaGreatDoorRows
import GoSem.ClaimSeven
namespace Go.Proofs.YtoigpbajefkpoaaGreatDoor
namespace Rows

/-- THE TIED CARD OF 'baileylaw08.ParseText'. -/
def parseTextCard : Claim7 := { stood := { row := parseTextRow, standIns := [], harness := (true, "4eb1a4575a6a8c9e9453ab49d11da4c8c7b0b3a64fac1b49f6d814d3bf1c61b4"), looks := true }, kinds := [], alts := [], laidByText := true, laidKinds := [.data, .data, .data, .handle], laidTests := true, laidLooks := .later }
def ParseTextCardSaid : Prop := Claim7.holds Tryz.pinned (.plain (OpenSpec.ofChange parseTextSpec)) parseTextCard

/-- THE TIED CARD OF 'baileylaw08.ParsePrint'. -/
def parsePrintCard : Claim7 := { stood := { row := parsePrintRow, standIns := [], harness := (true, "4eb1a4575a6a8c9e9453ab49d11da4c8c7b0b3a64fac1b49f6d814d3bf1c61b4"), looks := true }, kinds := [], alts := [], laidByText := true, laidKinds := [.data, .data, .data, .handle], laidTests := true, laidLooks := .later }
def ParsePrintCardSaid : Prop := Claim7.holds Tryz.pinned (.plain (OpenSpec.ofChange parsePrintSpec)) parsePrintCard

/-- THE TIED CARD OF 'baileylaw08.ParseBack'. -/
def parseBackCard : Claim7 := { stood := { row := parseBackRow, standIns := [], harness := (true, "4eb1a4575a6a8c9e9453ab49d11da4c8c7b0b3a64fac1b49f6d814d3bf1c61b4"), looks := true }, kinds := [], alts := [], laidByText := true, laidKinds := [.data, .data, .data, .handle], laidTests := true, laidLooks := .later }
def ParseBackCardSaid : Prop := Claim7.holds Tryz.pinned (.plain (OpenSpec.ofChange parseBackSpec)) parseBackCard

/-- THE TIED CARD OF 'baileylaw08.ParseMany'. -/
def parseManyCard : Claim7 := { stood := { row := parseManyRow, standIns := [], harness := (true, "4eb1a4575a6a8c9e9453ab49d11da4c8c7b0b3a64fac1b49f6d814d3bf1c61b4"), looks := true }, kinds := [], alts := [], laidByText := true, laidKinds := [.data, .data, .data, .handle], laidTests := true, laidLooks := .later }
def ParseManyCardSaid : Prop := Claim7.holds Tryz.pinned (.plain (OpenSpec.ofChange parseManySpec)) parseManyCard

/-- THE TIED CARD OF 'baileylaw08.ParseNil'. -/
def parseNilCard : Claim7 := { stood := { row := parseNilRow, standIns := [], harness := (true, "4eb1a4575a6a8c9e9453ab49d11da4c8c7b0b3a64fac1b49f6d814d3bf1c61b4"), looks := true }, kinds := [], alts := [], laidByText := true, laidKinds := [.data, .data, .data, .handle], laidTests := true, laidLooks := .later }
def ParseNilCardSaid : Prop := Claim7.holds Tryz.pinned (.plain (OpenSpec.ofChange parseNilSpec)) parseNilCard

/-- THE TIED CARD OF 'baileylaw08.ParseParts'. -/
def parsePartsCard : Claim7 := { stood := { row := parsePartsRow, standIns := [], harness := (true, "4eb1a4575a6a8c9e9453ab49d11da4c8c7b0b3a64fac1b49f6d814d3bf1c61b4"), looks := true }, kinds := [], alts := [], laidByText := true, laidKinds := [.data, .data, .data, .handle], laidTests := true, laidLooks := .later }
def ParsePartsCardSaid : Prop := Claim7.holds Tryz.pinned (.plain (OpenSpec.ofChange parsePartsSpec)) parsePartsCard

/-- THE SECOND FORM's CARD OF 'baileylaw08.ParseText'. -/
def parseTextUptoCard : Claim7 := { stood := { row := parseTextUptoRow, standIns := [], harness := (true, "4eb1a4575a6a8c9e9453ab49d11da4c8c7b0b3a64fac1b49f6d814d3bf1c61b4"), looks := true }, kinds := [], alts := [], laidByText := true, laidKinds := [.data, .data, .data, .handle], laidTests := true, laidLooks := .later }
def ParseTextUptoCardSaid : Prop := Claim7.holds Tryz.pinned (.plain (OpenSpec.upto parseTextSpec)) parseTextUptoCard

/-- THE SECOND FORM's CARD OF 'baileylaw08.ParsePrint'. -/
def parsePrintUptoCard : Claim7 := { stood := { row := parsePrintUptoRow, standIns := [], harness := (true, "4eb1a4575a6a8c9e9453ab49d11da4c8c7b0b3a64fac1b49f6d814d3bf1c61b4"), looks := true }, kinds := [], alts := [], laidByText := true, laidKinds := [.data, .data, .data, .handle], laidTests := true, laidLooks := .later }
def ParsePrintUptoCardSaid : Prop := Claim7.holds Tryz.pinned (.plain (OpenSpec.upto parsePrintSpec)) parsePrintUptoCard

/-- THE SECOND FORM's CARD OF 'baileylaw08.ParseBack'. -/
def parseBackUptoCard : Claim7 := { stood := { row := parseBackUptoRow, standIns := [], harness := (true, "4eb1a4575a6a8c9e9453ab49d11da4c8c7b0b3a64fac1b49f6d814d3bf1c61b4"), looks := true }, kinds := [], alts := [], laidByText := true, laidKinds := [.data, .data, .data, .handle], laidTests := true, laidLooks := .later }
def ParseBackUptoCardSaid : Prop := Claim7.holds Tryz.pinned (.plain (OpenSpec.upto parseBackSpec)) parseBackUptoCard

/-- THE SECOND FORM's CARD OF 'baileylaw08.ParseMany'. -/
def parseManyUptoCard : Claim7 := { stood := { row := parseManyUptoRow, standIns := [], harness := (true, "4eb1a4575a6a8c9e9453ab49d11da4c8c7b0b3a64fac1b49f6d814d3bf1c61b4"), looks := true }, kinds := [], alts := [], laidByText := true, laidKinds := [.data, .data, .data, .handle], laidTests := true, laidLooks := .later }
def ParseManyUptoCardSaid : Prop := Claim7.holds Tryz.pinned (.plain (OpenSpec.upto parseManySpec)) parseManyUptoCard

/-- THE SECOND FORM's CARD OF 'baileylaw08.ParseNil'. -/
def parseNilUptoCard : Claim7 := { stood := { row := parseNilUptoRow, standIns := [], harness := (true, "4eb1a4575a6a8c9e9453ab49d11da4c8c7b0b3a64fac1b49f6d814d3bf1c61b4"), looks := true }, kinds := [], alts := [], laidByText := true, laidKinds := [.data, .data, .data, .handle], laidTests := true, laidLooks := .later }
def ParseNilUptoCardSaid : Prop := Claim7.holds Tryz.pinned (.plain (OpenSpec.upto parseNilSpec)) parseNilUptoCard

/-- THE SECOND FORM's CARD OF 'baileylaw08.ParseParts'. -/
def parsePartsUptoCard : Claim7 := { stood := { row := parsePartsUptoRow, standIns := [], harness := (true, "4eb1a4575a6a8c9e9453ab49d11da4c8c7b0b3a64fac1b49f6d814d3bf1c61b4"), looks := true }, kinds := [], alts := [], laidByText := true, laidKinds := [.data, .data, .data, .handle], laidTests := true, laidLooks := .later }
def ParsePartsUptoCardSaid : Prop := Claim7.holds Tryz.pinned (.plain (OpenSpec.upto parsePartsSpec)) parsePartsUptoCard
end Rows
end Go.Proofs.YtoigpbajefkpoaaGreatDoor
