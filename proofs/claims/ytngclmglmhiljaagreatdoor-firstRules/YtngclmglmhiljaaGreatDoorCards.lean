/-
  DERIVED. GIVEN WITH THE SEED: THE CARDS: each row of YtngclmglmhiljaaGreatDoorRows.lean that lists a variable, with what it lists TIED to the program's text (the seventh form; the later family's looks); each row that meets fmt, with fmt's text TOLD by the authors' own Lean function (tested against real Go, not proved from fmt's source: count such statements apart). THE CARD IS WHAT COUNTS. Prove the row's statement (the work); the ties are given (YtngclmglmhiljaaGreatDoorTie.lean); close each card by the builder's one call (the guide's Derived/Test/ToyasCard.lean, 'card_holds'). Laid BY PROGRAM, IN A SANDBOX (cutbox-door.mjs). By AI agents, Wed Nov 11 2026. No macro, syntax, notation, axiom, sorry.
-/
import Derived.Test.YtngclmglmhiljaaGreatDoorRows
import GoSem.ClaimSeven
namespace Go.Proofs.YtngclmglmhiljaaGreatDoor
namespace Rows

/-- THE TIED CARD OF 'donatuslaw8.FirstAll'. -/
def firstAllCard : Claim7 := { stood := { row := firstAllRow, standIns := [], harness := (true, "452abb9618eebf26fc9e01cab527c591e73f20c162a4812a8340780f19967501"), looks := true }, kinds := [], alts := [], laidByText := true, laidKinds := [.data, .data, .data, .sentinel, .sentinel], laidTests := true, laidLooks := .later }
def FirstAllCardSaid : Prop := Claim7.holds Tryz.pinned (.plain (OpenSpec.ofChange firstAllSpec)) firstAllCard

/-- THE TIED CARD OF 'donatuslaw8.FirstRules'. -/
def firstRulesCard : Claim7 := { stood := { row := firstRulesRow, standIns := [], harness := (true, "452abb9618eebf26fc9e01cab527c591e73f20c162a4812a8340780f19967501"), looks := true }, kinds := [], alts := [], laidByText := true, laidKinds := [.data, .data, .data, .sentinel, .sentinel], laidTests := true, laidLooks := .later }
def FirstRulesCardSaid : Prop := Claim7.holds Tryz.pinned (.plain (OpenSpec.ofChange firstRulesSpec)) firstRulesCard

/-- THE TIED CARD OF 'donatuslaw8.FirstLaws'. -/
def firstLawsCard : Claim7 := { stood := { row := firstLawsRow, standIns := [], harness := (true, "452abb9618eebf26fc9e01cab527c591e73f20c162a4812a8340780f19967501"), looks := true }, kinds := [], alts := [], laidByText := true, laidKinds := [.data, .data, .data, .sentinel, .sentinel], laidTests := true, laidLooks := .later }
def FirstLawsCardSaid : Prop := Claim7.holds Tryz.pinned (.plain (OpenSpec.ofChange firstLawsSpec)) firstLawsCard

/-- THE TIED CARD OF 'donatuslaw8.FirstNone'. -/
def firstNoneCard : Claim7 := { stood := { row := firstNoneRow, standIns := [], harness := (true, "452abb9618eebf26fc9e01cab527c591e73f20c162a4812a8340780f19967501"), looks := true }, kinds := [], alts := [], laidByText := true, laidKinds := [.data, .data, .data, .sentinel, .sentinel], laidTests := true, laidLooks := .later }
def FirstNoneCardSaid : Prop := Claim7.holds Tryz.pinned (.plain (OpenSpec.ofChange firstNoneSpec)) firstNoneCard

/-- THE TIED CARD OF 'donatuslaw8.FirstChains'. -/
def firstChainsCard : Claim7 := { stood := { row := firstChainsRow, standIns := [], harness := (true, "452abb9618eebf26fc9e01cab527c591e73f20c162a4812a8340780f19967501"), looks := true }, kinds := [], alts := [], laidByText := true, laidKinds := [.data, .data, .data, .sentinel, .sentinel], laidTests := true, laidLooks := .later }
def FirstChainsCardSaid : Prop := Claim7.holds Tryz.pinned (.plain (OpenSpec.ofChange firstChainsSpec)) firstChainsCard

/-- THE TIED CARD OF 'donatuslaw8.FirstAny'. -/
def firstAnyCard : Claim7 := { stood := { row := firstAnyRow, standIns := [], harness := (true, "452abb9618eebf26fc9e01cab527c591e73f20c162a4812a8340780f19967501"), looks := true }, kinds := [], alts := [], laidByText := true, laidKinds := [.data, .data, .data, .sentinel, .sentinel], laidTests := true, laidLooks := .later }
def FirstAnyCardSaid : Prop := Claim7.holds Tryz.pinned (.plain (OpenSpec.ofChange firstAnySpec)) firstAnyCard

/-- THE SECOND FORM's CARD OF 'donatuslaw8.FirstAll'. -/
def firstAllUptoCard : Claim7 := { stood := { row := firstAllUptoRow, standIns := [], harness := (true, "452abb9618eebf26fc9e01cab527c591e73f20c162a4812a8340780f19967501"), looks := true }, kinds := [], alts := [], laidByText := true, laidKinds := [.data, .data, .data, .sentinel, .sentinel], laidTests := true, laidLooks := .later }
def FirstAllUptoCardSaid : Prop := Claim7.holds Tryz.pinned (.plain (OpenSpec.upto firstAllSpec)) firstAllUptoCard

/-- THE SECOND FORM's CARD OF 'donatuslaw8.FirstRules'. -/
def firstRulesUptoCard : Claim7 := { stood := { row := firstRulesUptoRow, standIns := [], harness := (true, "452abb9618eebf26fc9e01cab527c591e73f20c162a4812a8340780f19967501"), looks := true }, kinds := [], alts := [], laidByText := true, laidKinds := [.data, .data, .data, .sentinel, .sentinel], laidTests := true, laidLooks := .later }
def FirstRulesUptoCardSaid : Prop := Claim7.holds Tryz.pinned (.plain (OpenSpec.upto firstRulesSpec)) firstRulesUptoCard

/-- THE SECOND FORM's CARD OF 'donatuslaw8.FirstLaws'. -/
def firstLawsUptoCard : Claim7 := { stood := { row := firstLawsUptoRow, standIns := [], harness := (true, "452abb9618eebf26fc9e01cab527c591e73f20c162a4812a8340780f19967501"), looks := true }, kinds := [], alts := [], laidByText := true, laidKinds := [.data, .data, .data, .sentinel, .sentinel], laidTests := true, laidLooks := .later }
def FirstLawsUptoCardSaid : Prop := Claim7.holds Tryz.pinned (.plain (OpenSpec.upto firstLawsSpec)) firstLawsUptoCard

/-- THE SECOND FORM's CARD OF 'donatuslaw8.FirstNone'. -/
def firstNoneUptoCard : Claim7 := { stood := { row := firstNoneUptoRow, standIns := [], harness := (true, "452abb9618eebf26fc9e01cab527c591e73f20c162a4812a8340780f19967501"), looks := true }, kinds := [], alts := [], laidByText := true, laidKinds := [.data, .data, .data, .sentinel, .sentinel], laidTests := true, laidLooks := .later }
def FirstNoneUptoCardSaid : Prop := Claim7.holds Tryz.pinned (.plain (OpenSpec.upto firstNoneSpec)) firstNoneUptoCard

/-- THE SECOND FORM's CARD OF 'donatuslaw8.FirstChains'. -/
def firstChainsUptoCard : Claim7 := { stood := { row := firstChainsUptoRow, standIns := [], harness := (true, "452abb9618eebf26fc9e01cab527c591e73f20c162a4812a8340780f19967501"), looks := true }, kinds := [], alts := [], laidByText := true, laidKinds := [.data, .data, .data, .sentinel, .sentinel], laidTests := true, laidLooks := .later }
def FirstChainsUptoCardSaid : Prop := Claim7.holds Tryz.pinned (.plain (OpenSpec.upto firstChainsSpec)) firstChainsUptoCard

/-- THE SECOND FORM's CARD OF 'donatuslaw8.FirstAny'. -/
def firstAnyUptoCard : Claim7 := { stood := { row := firstAnyUptoRow, standIns := [], harness := (true, "452abb9618eebf26fc9e01cab527c591e73f20c162a4812a8340780f19967501"), looks := true }, kinds := [], alts := [], laidByText := true, laidKinds := [.data, .data, .data, .sentinel, .sentinel], laidTests := true, laidLooks := .later }
def FirstAnyUptoCardSaid : Prop := Claim7.holds Tryz.pinned (.plain (OpenSpec.upto firstAnySpec)) firstAnyUptoCard
end Rows
end Go.Proofs.YtngclmglmhiljaaGreatDoor
