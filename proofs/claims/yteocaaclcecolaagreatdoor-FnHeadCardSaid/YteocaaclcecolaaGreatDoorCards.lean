/-
  DERIVED. GIVEN WITH THE SEED: THE CARDS: each row of YteocaaclcecolaaGreatDoorRows.lean that lists a variable, with what it lists TIED to the program's text (the seventh form; the later family's looks); each row that meets fmt, with fmt's text TOLD by the authors' own Lean function (tested against real Go, not proved from fmt's source: count such statements apart). THE CARD IS WHAT COUNTS. Prove the row's statement (the work); the ties are given (YteocaaclcecolaaGreatDoorTie.lean); close each card by the builder's one call (the guide's Derived/Test/ToyasCard.lean, 'card_holds'). Laid BY PROGRAM, IN A SANDBOX (cutbox-door.mjs). By AI agents, Wed Nov 11 2026. No macro, syntax, notation, axiom, sorry.
-/
import Derived.Test.YteocaaclcecolaaGreatDoorRows
import GoSem.ClaimSeven
namespace Go.Proofs.YteocaaclcecolaaGreatDoor
namespace Rows

/-- THE TIED CARD OF 'laws.FnHead'. -/
def fnHeadCard : Claim7 := { stood := { row := fnHeadRow, standIns := [], harness := (true, "4f5b6372f11c72e2d900631640ce8db6ecdad36ef20b9ce25b21477e0cdaf2ff"), looks := false }, kinds := [], alts := [], laidByText := true, laidKinds := [.data, .pinned], laidTests := true, laidLooks := .later }
def FnHeadCardSaid : Prop := Claim7.holds Tryz.pinned (.plain (OpenSpec.ofChange fnHeadSpec)) fnHeadCard

/-- THE TIED CARD OF 'laws.FnExactIniHead'. -/
def fnExactIniHeadCard : Claim7 := { stood := { row := fnExactIniHeadRow, standIns := [], harness := (true, "4f5b6372f11c72e2d900631640ce8db6ecdad36ef20b9ce25b21477e0cdaf2ff"), looks := false }, kinds := [], alts := [], laidByText := true, laidKinds := [.data, .pinned], laidTests := true, laidLooks := .later }
def FnExactIniHeadCardSaid : Prop := Claim7.holds Tryz.pinned (.plain (OpenSpec.ofChange fnExactIniHeadSpec)) fnExactIniHeadCard

/-- THE TIED CARD OF 'laws.FnExactIniPair'. -/
def fnExactIniPairCard : Claim7 := { stood := { row := fnExactIniPairRow, standIns := [], harness := (true, "4f5b6372f11c72e2d900631640ce8db6ecdad36ef20b9ce25b21477e0cdaf2ff"), looks := false }, kinds := [], alts := [], laidByText := true, laidKinds := [.data, .pinned], laidTests := true, laidLooks := .later }
def FnExactIniPairCardSaid : Prop := Claim7.holds Tryz.pinned (.plain (OpenSpec.ofChange fnExactIniPairSpec)) fnExactIniPairCard

/-- THE SECOND FORM's CARD OF 'laws.FnHead'. -/
def fnHeadUptoCard : Claim7 := { stood := { row := fnHeadUptoRow, standIns := [], harness := (true, "4f5b6372f11c72e2d900631640ce8db6ecdad36ef20b9ce25b21477e0cdaf2ff"), looks := false }, kinds := [], alts := [], laidByText := true, laidKinds := [.data, .pinned], laidTests := true, laidLooks := .later }
def FnHeadUptoCardSaid : Prop := Claim7.holds Tryz.pinned (.plain (OpenSpec.upto fnHeadSpec)) fnHeadUptoCard

/-- THE SECOND FORM's CARD OF 'laws.FnExactIniHead'. -/
def fnExactIniHeadUptoCard : Claim7 := { stood := { row := fnExactIniHeadUptoRow, standIns := [], harness := (true, "4f5b6372f11c72e2d900631640ce8db6ecdad36ef20b9ce25b21477e0cdaf2ff"), looks := false }, kinds := [], alts := [], laidByText := true, laidKinds := [.data, .pinned], laidTests := true, laidLooks := .later }
def FnExactIniHeadUptoCardSaid : Prop := Claim7.holds Tryz.pinned (.plain (OpenSpec.upto fnExactIniHeadSpec)) fnExactIniHeadUptoCard

/-- THE SECOND FORM's CARD OF 'laws.FnExactIniPair'. -/
def fnExactIniPairUptoCard : Claim7 := { stood := { row := fnExactIniPairUptoRow, standIns := [], harness := (true, "4f5b6372f11c72e2d900631640ce8db6ecdad36ef20b9ce25b21477e0cdaf2ff"), looks := false }, kinds := [], alts := [], laidByText := true, laidKinds := [.data, .pinned], laidTests := true, laidLooks := .later }
def FnExactIniPairUptoCardSaid : Prop := Claim7.holds Tryz.pinned (.plain (OpenSpec.upto fnExactIniPairSpec)) fnExactIniPairUptoCard
end Rows
end Go.Proofs.YteocaaclcecolaaGreatDoor
