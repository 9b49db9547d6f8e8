/-
  DERIVED. GIVEN WITH THE SEED: THE CARDS: each row of YtkaojokhdleeiaaGreatDoorRows.lean that lists a variable, with what it lists TIED to the program's text (the seventh form; the later family's looks); each row that meets fmt, with fmt's text TOLD by the authors' own Lean function (tested against real Go, not proved from fmt's source: count such statements apart). THE CARD IS WHAT COUNTS. Prove the row's statement (the work); the ties are given (YtkaojokhdleeiaaGreatDoorTie.lean); close each card by the builder's one call (the guide's Derived/Test/ToyasCard.lean, 'card_holds'). Laid BY PROGRAM, IN A SANDBOX (cutbox-door.mjs). By AI agents, Wed Nov 11 2026. No macro, syntax, notation, axiom, sorry.
-/
import Derived.Test.YtkaojokhdleeiaaGreatDoorRows
import GoSem.ClaimSeven
namespace Go.Proofs.YtkaojokhdleeiaaGreatDoor
namespace Rows

/-- THE TIED CARD OF 'donatuslaw6.ReadAll'. -/
def readAllCard : Claim7 := { stood := { row := readAllRow, standIns := [], harness := (true, "a34ec45f1bf4a802a45acaf3f737525841640676f706a3d95b9ddd94c0393142"), looks := true }, kinds := [], alts := [], laidByText := true, laidKinds := [.data, .data, .data, .sentinel, .sentinel], laidTests := true, laidLooks := .later }
def ReadAllCardSaid : Prop := Claim7.holds Tryz.pinned (.plain (OpenSpec.ofChange readAllSpec)) readAllCard

/-- THE TIED CARD OF 'donatuslaw6.ReadWords'. -/
def readWordsCard : Claim7 := { stood := { row := readWordsRow, standIns := [], harness := (true, "a34ec45f1bf4a802a45acaf3f737525841640676f706a3d95b9ddd94c0393142"), looks := true }, kinds := [], alts := [], laidByText := true, laidKinds := [.data, .data, .data, .sentinel, .sentinel], laidTests := true, laidLooks := .later }
def ReadWordsCardSaid : Prop := Claim7.holds Tryz.pinned (.plain (OpenSpec.ofChange readWordsSpec)) readWordsCard

/-- THE TIED CARD OF 'donatuslaw6.ReadParts'. -/
def readPartsCard : Claim7 := { stood := { row := readPartsRow, standIns := [], harness := (true, "a34ec45f1bf4a802a45acaf3f737525841640676f706a3d95b9ddd94c0393142"), looks := true }, kinds := [], alts := [], laidByText := true, laidKinds := [.data, .data, .data, .sentinel, .sentinel], laidTests := true, laidLooks := .later }
def ReadPartsCardSaid : Prop := Claim7.holds Tryz.pinned (.plain (OpenSpec.ofChange readPartsSpec)) readPartsCard

/-- THE TIED CARD OF 'donatuslaw6.ReadLong'. -/
def readLongCard : Claim7 := { stood := { row := readLongRow, standIns := [], harness := (true, "a34ec45f1bf4a802a45acaf3f737525841640676f706a3d95b9ddd94c0393142"), looks := true }, kinds := [], alts := [], laidByText := true, laidKinds := [.data, .data, .data, .sentinel, .sentinel], laidTests := true, laidLooks := .later }
def ReadLongCardSaid : Prop := Claim7.holds Tryz.pinned (.plain (OpenSpec.ofChange readLongSpec)) readLongCard

/-- THE TIED CARD OF 'donatuslaw6.ReadTokens'. -/
def readTokensCard : Claim7 := { stood := { row := readTokensRow, standIns := [], harness := (true, "a34ec45f1bf4a802a45acaf3f737525841640676f706a3d95b9ddd94c0393142"), looks := true }, kinds := [], alts := [], laidByText := true, laidKinds := [.data, .data, .data, .sentinel, .sentinel], laidTests := true, laidLooks := .later }
def ReadTokensCardSaid : Prop := Claim7.holds Tryz.pinned (.plain (OpenSpec.ofChange readTokensSpec)) readTokensCard

/-- THE TIED CARD OF 'donatuslaw6.ReadRules'. -/
def readRulesCard : Claim7 := { stood := { row := readRulesRow, standIns := [], harness := (true, "a34ec45f1bf4a802a45acaf3f737525841640676f706a3d95b9ddd94c0393142"), looks := true }, kinds := [], alts := [], laidByText := true, laidKinds := [.data, .data, .data, .sentinel, .sentinel], laidTests := true, laidLooks := .later }
def ReadRulesCardSaid : Prop := Claim7.holds Tryz.pinned (.plain (OpenSpec.ofChange readRulesSpec)) readRulesCard

/-- THE SECOND FORM's CARD OF 'donatuslaw6.ReadAll'. -/
def readAllUptoCard : Claim7 := { stood := { row := readAllUptoRow, standIns := [], harness := (true, "a34ec45f1bf4a802a45acaf3f737525841640676f706a3d95b9ddd94c0393142"), looks := true }, kinds := [], alts := [], laidByText := true, laidKinds := [.data, .data, .data, .sentinel, .sentinel], laidTests := true, laidLooks := .later }
def ReadAllUptoCardSaid : Prop := Claim7.holds Tryz.pinned (.plain (OpenSpec.upto readAllSpec)) readAllUptoCard

/-- THE SECOND FORM's CARD OF 'donatuslaw6.ReadWords'. -/
def readWordsUptoCard : Claim7 := { stood := { row := readWordsUptoRow, standIns := [], harness := (true, "a34ec45f1bf4a802a45acaf3f737525841640676f706a3d95b9ddd94c0393142"), looks := true }, kinds := [], alts := [], laidByText := true, laidKinds := [.data, .data, .data, .sentinel, .sentinel], laidTests := true, laidLooks := .later }
def ReadWordsUptoCardSaid : Prop := Claim7.holds Tryz.pinned (.plain (OpenSpec.upto readWordsSpec)) readWordsUptoCard

/-- THE SECOND FORM's CARD OF 'donatuslaw6.ReadParts'. -/
def readPartsUptoCard : Claim7 := { stood := { row := readPartsUptoRow, standIns := [], harness := (true, "a34ec45f1bf4a802a45acaf3f737525841640676f706a3d95b9ddd94c0393142"), looks := true }, kinds := [], alts := [], laidByText := true, laidKinds := [.data, .data, .data, .sentinel, .sentinel], laidTests := true, laidLooks := .later }
def ReadPartsUptoCardSaid : Prop := Claim7.holds Tryz.pinned (.plain (OpenSpec.upto readPartsSpec)) readPartsUptoCard

/-- THE SECOND FORM's CARD OF 'donatuslaw6.ReadLong'. -/
def readLongUptoCard : Claim7 := { stood := { row := readLongUptoRow, standIns := [], harness := (true, "a34ec45f1bf4a802a45acaf3f737525841640676f706a3d95b9ddd94c0393142"), looks := true }, kinds := [], alts := [], laidByText := true, laidKinds := [.data, .data, .data, .sentinel, .sentinel], laidTests := true, laidLooks := .later }
def ReadLongUptoCardSaid : Prop := Claim7.holds Tryz.pinned (.plain (OpenSpec.upto readLongSpec)) readLongUptoCard

/-- THE SECOND FORM's CARD OF 'donatuslaw6.ReadTokens'. -/
def readTokensUptoCard : Claim7 := { stood := { row := readTokensUptoRow, standIns := [], harness := (true, "a34ec45f1bf4a802a45acaf3f737525841640676f706a3d95b9ddd94c0393142"), looks := true }, kinds := [], alts := [], laidByText := true, laidKinds := [.data, .data, .data, .sentinel, .sentinel], laidTests := true, laidLooks := .later }
def ReadTokensUptoCardSaid : Prop := Claim7.holds Tryz.pinned (.plain (OpenSpec.upto readTokensSpec)) readTokensUptoCard

/-- THE SECOND FORM's CARD OF 'donatuslaw6.ReadRules'. -/
def readRulesUptoCard : Claim7 := { stood := { row := readRulesUptoRow, standIns := [], harness := (true, "a34ec45f1bf4a802a45acaf3f737525841640676f706a3d95b9ddd94c0393142"), looks := true }, kinds := [], alts := [], laidByText := true, laidKinds := [.data, .data, .data, .sentinel, .sentinel], laidTests := true, laidLooks := .later }
def ReadRulesUptoCardSaid : Prop := Claim7.holds Tryz.pinned (.plain (OpenSpec.upto readRulesSpec)) readRulesUptoCard
end Rows
end Go.Proofs.YtkaojokhdleeiaaGreatDoor
