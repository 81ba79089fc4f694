/-
  DERIVED. GIVEN WITH THE SEED: THE CARDS: each row of YtkhkpjnpjgnckaaGreatDoorRows.lean that lists a variable, with what it lists TIED to the program's text (the seventh form; the later family's looks); each row that meets fmt, with fmt's text TOLD by the authors' own Lean function (tested against real Go, not proved from fmt's source: count such statements apart). THE CARD IS WHAT COUNTS. Prove the row's statement (the work); the ties are given (YtkhkpjnpjgnckaaGreatDoorTie.lean); close each card by the builder's one call (the guide's Derived/Test/ToyasCard.lean, 'card_holds'). Laid BY PROGRAM, IN A SANDBOX (cutbox-door.mjs). By AI agents, Wed Nov 11 2026. No macro, syntax, notation, axiom, sorry.
-/
import Derived.Test.YtkhkpjnpjgnckaaGreatDoorRows
import GoSem.ClaimSeven
namespace Go.Proofs.YtkhkpjnpjgnckaaGreatDoor
namespace Rows

/-- THE TIED CARD OF 'laws.FnHead'. -/
def fnHeadCard : Claim7 := { stood := { row := fnHeadRow, standIns := [], harness := (true, "e4dd4e4c1e918c47004522e3a900378b9a8623aaaf02d7cf6f9e4bf30fb84f41"), looks := false }, kinds := [], alts := [], laidByText := true, laidKinds := [.data, .pinned], laidTests := true, laidLooks := .later }
def FnHeadCardSaid : Prop := Claim7.holds Tryz.pinned (.plain (OpenSpec.ofChange fnHeadSpec)) fnHeadCard

/-- THE TIED CARD OF 'laws.FnShell'. -/
def fnShellCard : Claim7 := { stood := { row := fnShellRow, standIns := [], harness := (true, "e4dd4e4c1e918c47004522e3a900378b9a8623aaaf02d7cf6f9e4bf30fb84f41"), looks := false }, kinds := [], alts := [], laidByText := true, laidKinds := [.data, .pinned], laidTests := true, laidLooks := .later }
def FnShellCardSaid : Prop := Claim7.holds Tryz.pinned (.plain (OpenSpec.ofChange fnShellSpec)) fnShellCard

/-- THE TIED CARD OF 'laws.FnExactEnvPair'. -/
def fnExactEnvPairCard : Claim7 := { stood := { row := fnExactEnvPairRow, standIns := [], harness := (true, "e4dd4e4c1e918c47004522e3a900378b9a8623aaaf02d7cf6f9e4bf30fb84f41"), looks := false }, kinds := [], alts := [], laidByText := true, laidKinds := [.data, .pinned], laidTests := true, laidLooks := .later }
def FnExactEnvPairCardSaid : Prop := Claim7.holds Tryz.pinned (.plain (OpenSpec.ofChange fnExactEnvPairSpec)) fnExactEnvPairCard

/-- THE SECOND FORM's CARD OF 'laws.FnHead'. -/
def fnHeadUptoCard : Claim7 := { stood := { row := fnHeadUptoRow, standIns := [], harness := (true, "e4dd4e4c1e918c47004522e3a900378b9a8623aaaf02d7cf6f9e4bf30fb84f41"), looks := false }, kinds := [], alts := [], laidByText := true, laidKinds := [.data, .pinned], laidTests := true, laidLooks := .later }
def FnHeadUptoCardSaid : Prop := Claim7.holds Tryz.pinned (.plain (OpenSpec.upto fnHeadSpec)) fnHeadUptoCard

/-- THE SECOND FORM's CARD OF 'laws.FnShell'. -/
def fnShellUptoCard : Claim7 := { stood := { row := fnShellUptoRow, standIns := [], harness := (true, "e4dd4e4c1e918c47004522e3a900378b9a8623aaaf02d7cf6f9e4bf30fb84f41"), looks := false }, kinds := [], alts := [], laidByText := true, laidKinds := [.data, .pinned], laidTests := true, laidLooks := .later }
def FnShellUptoCardSaid : Prop := Claim7.holds Tryz.pinned (.plain (OpenSpec.upto fnShellSpec)) fnShellUptoCard

/-- THE SECOND FORM's CARD OF 'laws.FnExactEnvPair'. -/
def fnExactEnvPairUptoCard : Claim7 := { stood := { row := fnExactEnvPairUptoRow, standIns := [], harness := (true, "e4dd4e4c1e918c47004522e3a900378b9a8623aaaf02d7cf6f9e4bf30fb84f41"), looks := false }, kinds := [], alts := [], laidByText := true, laidKinds := [.data, .pinned], laidTests := true, laidLooks := .later }
def FnExactEnvPairUptoCardSaid : Prop := Claim7.holds Tryz.pinned (.plain (OpenSpec.upto fnExactEnvPairSpec)) fnExactEnvPairUptoCard
end Rows
end Go.Proofs.YtkhkpjnpjgnckaaGreatDoor
