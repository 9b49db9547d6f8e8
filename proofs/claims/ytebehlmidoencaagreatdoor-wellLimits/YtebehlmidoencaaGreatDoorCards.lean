/-
  DERIVED. GIVEN WITH THE SEED: THE CARDS: each row of YtebehlmidoencaaGreatDoorRows.lean that lists a variable, with what it lists TIED to the program's text (the seventh form; the later family's looks); each row that meets fmt, with fmt's text TOLD by the authors' own Lean function (tested against real Go, not proved from fmt's source: count such statements apart). THE CARD IS WHAT COUNTS. Prove the row's statement (the work); the ties are given (YtebehlmidoencaaGreatDoorTie.lean); close each card by the builder's one call (the guide's Derived/Test/ToyasCard.lean, 'card_holds'). Laid BY PROGRAM, IN A SANDBOX (cutbox-door.mjs). By AI agents, Wed Nov 11 2026. No macro, syntax, notation, axiom, sorry.
-/
import Derived.Test.YtebehlmidoencaaGreatDoorRows
import GoSem.ClaimSeven
namespace Go.Proofs.YtebehlmidoencaaGreatDoor
namespace Rows

/-- THE TIED CARD OF 'donatuslaw7.WellAll'. -/
def wellAllCard : Claim7 := { stood := { row := wellAllRow, standIns := [], harness := (true, "08a893462700bd46a194e27f97dd7829a9dfa3398a209d6b1c2ae5fb9c9a65e3"), looks := true }, kinds := [], alts := [], laidByText := true, laidKinds := [.data, .data, .data, .sentinel, .sentinel], laidTests := true, laidLooks := .later }
def WellAllCardSaid : Prop := Claim7.holds Tryz.pinned (.plain (OpenSpec.ofChange wellAllSpec)) wellAllCard

/-- THE TIED CARD OF 'donatuslaw7.WellSets'. -/
def wellSetsCard : Claim7 := { stood := { row := wellSetsRow, standIns := [], harness := (true, "08a893462700bd46a194e27f97dd7829a9dfa3398a209d6b1c2ae5fb9c9a65e3"), looks := true }, kinds := [], alts := [], laidByText := true, laidKinds := [.data, .data, .data, .sentinel, .sentinel], laidTests := true, laidLooks := .later }
def WellSetsCardSaid : Prop := Claim7.holds Tryz.pinned (.plain (OpenSpec.ofChange wellSetsSpec)) wellSetsCard

/-- THE TIED CARD OF 'donatuslaw7.WellRules'. -/
def wellRulesCard : Claim7 := { stood := { row := wellRulesRow, standIns := [], harness := (true, "08a893462700bd46a194e27f97dd7829a9dfa3398a209d6b1c2ae5fb9c9a65e3"), looks := true }, kinds := [], alts := [], laidByText := true, laidKinds := [.data, .data, .data, .sentinel, .sentinel], laidTests := true, laidLooks := .later }
def WellRulesCardSaid : Prop := Claim7.holds Tryz.pinned (.plain (OpenSpec.ofChange wellRulesSpec)) wellRulesCard

/-- THE TIED CARD OF 'donatuslaw7.WellLimits'. -/
def wellLimitsCard : Claim7 := { stood := { row := wellLimitsRow, standIns := [], harness := (true, "08a893462700bd46a194e27f97dd7829a9dfa3398a209d6b1c2ae5fb9c9a65e3"), looks := true }, kinds := [], alts := [], laidByText := true, laidKinds := [.data, .data, .data, .sentinel, .sentinel], laidTests := true, laidLooks := .later }
def WellLimitsCardSaid : Prop := Claim7.holds Tryz.pinned (.plain (OpenSpec.ofChange wellLimitsSpec)) wellLimitsCard

/-- THE TIED CARD OF 'donatuslaw7.WellNames'. -/
def wellNamesCard : Claim7 := { stood := { row := wellNamesRow, standIns := [], harness := (true, "08a893462700bd46a194e27f97dd7829a9dfa3398a209d6b1c2ae5fb9c9a65e3"), looks := true }, kinds := [], alts := [], laidByText := true, laidKinds := [.data, .data, .data, .sentinel, .sentinel], laidTests := true, laidLooks := .later }
def WellNamesCardSaid : Prop := Claim7.holds Tryz.pinned (.plain (OpenSpec.ofChange wellNamesSpec)) wellNamesCard

/-- THE SECOND FORM's CARD OF 'donatuslaw7.WellAll'. -/
def wellAllUptoCard : Claim7 := { stood := { row := wellAllUptoRow, standIns := [], harness := (true, "08a893462700bd46a194e27f97dd7829a9dfa3398a209d6b1c2ae5fb9c9a65e3"), looks := true }, kinds := [], alts := [], laidByText := true, laidKinds := [.data, .data, .data, .sentinel, .sentinel], laidTests := true, laidLooks := .later }
def WellAllUptoCardSaid : Prop := Claim7.holds Tryz.pinned (.plain (OpenSpec.upto wellAllSpec)) wellAllUptoCard

/-- THE SECOND FORM's CARD OF 'donatuslaw7.WellSets'. -/
def wellSetsUptoCard : Claim7 := { stood := { row := wellSetsUptoRow, standIns := [], harness := (true, "08a893462700bd46a194e27f97dd7829a9dfa3398a209d6b1c2ae5fb9c9a65e3"), looks := true }, kinds := [], alts := [], laidByText := true, laidKinds := [.data, .data, .data, .sentinel, .sentinel], laidTests := true, laidLooks := .later }
def WellSetsUptoCardSaid : Prop := Claim7.holds Tryz.pinned (.plain (OpenSpec.upto wellSetsSpec)) wellSetsUptoCard

/-- THE SECOND FORM's CARD OF 'donatuslaw7.WellRules'. -/
def wellRulesUptoCard : Claim7 := { stood := { row := wellRulesUptoRow, standIns := [], harness := (true, "08a893462700bd46a194e27f97dd7829a9dfa3398a209d6b1c2ae5fb9c9a65e3"), looks := true }, kinds := [], alts := [], laidByText := true, laidKinds := [.data, .data, .data, .sentinel, .sentinel], laidTests := true, laidLooks := .later }
def WellRulesUptoCardSaid : Prop := Claim7.holds Tryz.pinned (.plain (OpenSpec.upto wellRulesSpec)) wellRulesUptoCard

/-- THE SECOND FORM's CARD OF 'donatuslaw7.WellLimits'. -/
def wellLimitsUptoCard : Claim7 := { stood := { row := wellLimitsUptoRow, standIns := [], harness := (true, "08a893462700bd46a194e27f97dd7829a9dfa3398a209d6b1c2ae5fb9c9a65e3"), looks := true }, kinds := [], alts := [], laidByText := true, laidKinds := [.data, .data, .data, .sentinel, .sentinel], laidTests := true, laidLooks := .later }
def WellLimitsUptoCardSaid : Prop := Claim7.holds Tryz.pinned (.plain (OpenSpec.upto wellLimitsSpec)) wellLimitsUptoCard

/-- THE SECOND FORM's CARD OF 'donatuslaw7.WellNames'. -/
def wellNamesUptoCard : Claim7 := { stood := { row := wellNamesUptoRow, standIns := [], harness := (true, "08a893462700bd46a194e27f97dd7829a9dfa3398a209d6b1c2ae5fb9c9a65e3"), looks := true }, kinds := [], alts := [], laidByText := true, laidKinds := [.data, .data, .data, .sentinel, .sentinel], laidTests := true, laidLooks := .later }
def WellNamesUptoCardSaid : Prop := Claim7.holds Tryz.pinned (.plain (OpenSpec.upto wellNamesSpec)) wellNamesUptoCard
end Rows
end Go.Proofs.YtebehlmidoencaaGreatDoor
