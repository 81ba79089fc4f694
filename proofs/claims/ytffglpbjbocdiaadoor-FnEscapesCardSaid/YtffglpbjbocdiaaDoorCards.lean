/-
  DERIVED. GIVEN WITH THE SEED: THE CARDS: each row of YtffglpbjbocdiaaDoorRows.lean that lists a variable, with what it lists TIED to the program's text (the seventh form; the later family's looks); each row that meets fmt, with fmt's text TOLD by the authors' own Lean function (tested against real Go, not proved from fmt's source: count such statements apart). THE CARD IS WHAT COUNTS. Prove the row's statement (the work); the ties are given (YtffglpbjbocdiaaDoorTie.lean); close each card by the builder's one call (the guide's Derived/Test/ToyasCard.lean, 'card_holds'). Laid BY PROGRAM, IN A SANDBOX (cutbox-door.mjs). By AI agents, Wed Nov 11 2026. No macro, syntax, notation, axiom, sorry.
-/
import Derived.Test.YtffglpbjbocdiaaDoorRows
import GoSem.ClaimSeven
namespace Go.Proofs.YtffglpbjbocdiaaDoor
namespace Rows

/-- THE TIED CARD OF 'laws.FnSigns'. -/
def fnSignsCard : Claim7 := { stood := { row := fnSignsRow, standIns := [], harness := (true, "3c0040b6c66d9aab890a7b781801a338199b660eb8bc167d863bb6458e18294d"), looks := false }, kinds := [], alts := [], laidByText := true, laidKinds := [.data, .pinned], laidTests := true, laidLooks := .later }
def FnSignsCardSaid : Prop := Claim7.holds Tryd.pinned (.plain (OpenSpec.ofChange fnSignsSpec)) fnSignsCard

/-- THE TIED CARD OF 'laws.FnEscapes'. -/
def fnEscapesCard : Claim7 := { stood := { row := fnEscapesRow, standIns := [], harness := (true, "3c0040b6c66d9aab890a7b781801a338199b660eb8bc167d863bb6458e18294d"), looks := false }, kinds := [], alts := [], laidByText := true, laidKinds := [.data, .pinned], laidTests := true, laidLooks := .later }
def FnEscapesCardSaid : Prop := Claim7.holds Tryd.pinned (.plain (OpenSpec.ofChange fnEscapesSpec)) fnEscapesCard

/-- THE TIED CARD OF 'laws.FnSign'. -/
def fnSignCard : Claim7 := { stood := { row := fnSignRow, standIns := [], harness := (true, "3c0040b6c66d9aab890a7b781801a338199b660eb8bc167d863bb6458e18294d"), looks := false }, kinds := [], alts := [], laidByText := true, laidKinds := [.data, .pinned], laidTests := true, laidLooks := .later }
def FnSignCardSaid : Prop := Claim7.holds Tryd.pinned (.plain (OpenSpec.ofChange fnSignSpec)) fnSignCard

/-- THE TIED CARD OF 'laws.FnExactSigns'. -/
def fnExactSignsCard : Claim7 := { stood := { row := fnExactSignsRow, standIns := [], harness := (true, "3c0040b6c66d9aab890a7b781801a338199b660eb8bc167d863bb6458e18294d"), looks := false }, kinds := [], alts := [], laidByText := true, laidKinds := [.data, .pinned], laidTests := true, laidLooks := .later }
def FnExactSignsCardSaid : Prop := Claim7.holds Tryd.pinned (.plain (OpenSpec.ofChange fnExactSignsSpec)) fnExactSignsCard

/-- THE TIED CARD OF 'laws.FnExactPutEscapes'. -/
def fnExactPutEscapesCard : Claim7 := { stood := { row := fnExactPutEscapesRow, standIns := [], harness := (true, "3c0040b6c66d9aab890a7b781801a338199b660eb8bc167d863bb6458e18294d"), looks := false }, kinds := [], alts := [], laidByText := true, laidKinds := [.data, .pinned], laidTests := true, laidLooks := .later }
def FnExactPutEscapesCardSaid : Prop := Claim7.holds Tryd.pinned (.plain (OpenSpec.ofChange fnExactPutEscapesSpec)) fnExactPutEscapesCard

/-- THE TIED CARD OF 'laws.FnExactGetEscapes'. -/
def fnExactGetEscapesCard : Claim7 := { stood := { row := fnExactGetEscapesRow, standIns := [], harness := (true, "3c0040b6c66d9aab890a7b781801a338199b660eb8bc167d863bb6458e18294d"), looks := false }, kinds := [], alts := [], laidByText := true, laidKinds := [.data, .pinned], laidTests := true, laidLooks := .later }
def FnExactGetEscapesCardSaid : Prop := Claim7.holds Tryd.pinned (.plain (OpenSpec.ofChange fnExactGetEscapesSpec)) fnExactGetEscapesCard

/-- THE SECOND FORM's CARD OF 'laws.FnSigns'. -/
def fnSignsUptoCard : Claim7 := { stood := { row := fnSignsUptoRow, standIns := [], harness := (true, "3c0040b6c66d9aab890a7b781801a338199b660eb8bc167d863bb6458e18294d"), looks := false }, kinds := [], alts := [], laidByText := true, laidKinds := [.data, .pinned], laidTests := true, laidLooks := .later }
def FnSignsUptoCardSaid : Prop := Claim7.holds Tryd.pinned (.plain (OpenSpec.upto fnSignsSpec)) fnSignsUptoCard

/-- THE SECOND FORM's CARD OF 'laws.FnEscapes'. -/
def fnEscapesUptoCard : Claim7 := { stood := { row := fnEscapesUptoRow, standIns := [], harness := (true, "3c0040b6c66d9aab890a7b781801a338199b660eb8bc167d863bb6458e18294d"), looks := false }, kinds := [], alts := [], laidByText := true, laidKinds := [.data, .pinned], laidTests := true, laidLooks := .later }
def FnEscapesUptoCardSaid : Prop := Claim7.holds Tryd.pinned (.plain (OpenSpec.upto fnEscapesSpec)) fnEscapesUptoCard

/-- THE SECOND FORM's CARD OF 'laws.FnSign'. -/
def fnSignUptoCard : Claim7 := { stood := { row := fnSignUptoRow, standIns := [], harness := (true, "3c0040b6c66d9aab890a7b781801a338199b660eb8bc167d863bb6458e18294d"), looks := false }, kinds := [], alts := [], laidByText := true, laidKinds := [.data, .pinned], laidTests := true, laidLooks := .later }
def FnSignUptoCardSaid : Prop := Claim7.holds Tryd.pinned (.plain (OpenSpec.upto fnSignSpec)) fnSignUptoCard

/-- THE SECOND FORM's CARD OF 'laws.FnExactSigns'. -/
def fnExactSignsUptoCard : Claim7 := { stood := { row := fnExactSignsUptoRow, standIns := [], harness := (true, "3c0040b6c66d9aab890a7b781801a338199b660eb8bc167d863bb6458e18294d"), looks := false }, kinds := [], alts := [], laidByText := true, laidKinds := [.data, .pinned], laidTests := true, laidLooks := .later }
def FnExactSignsUptoCardSaid : Prop := Claim7.holds Tryd.pinned (.plain (OpenSpec.upto fnExactSignsSpec)) fnExactSignsUptoCard

/-- THE SECOND FORM's CARD OF 'laws.FnExactPutEscapes'. -/
def fnExactPutEscapesUptoCard : Claim7 := { stood := { row := fnExactPutEscapesUptoRow, standIns := [], harness := (true, "3c0040b6c66d9aab890a7b781801a338199b660eb8bc167d863bb6458e18294d"), looks := false }, kinds := [], alts := [], laidByText := true, laidKinds := [.data, .pinned], laidTests := true, laidLooks := .later }
def FnExactPutEscapesUptoCardSaid : Prop := Claim7.holds Tryd.pinned (.plain (OpenSpec.upto fnExactPutEscapesSpec)) fnExactPutEscapesUptoCard

/-- THE SECOND FORM's CARD OF 'laws.FnExactGetEscapes'. -/
def fnExactGetEscapesUptoCard : Claim7 := { stood := { row := fnExactGetEscapesUptoRow, standIns := [], harness := (true, "3c0040b6c66d9aab890a7b781801a338199b660eb8bc167d863bb6458e18294d"), looks := false }, kinds := [], alts := [], laidByText := true, laidKinds := [.data, .pinned], laidTests := true, laidLooks := .later }
def FnExactGetEscapesUptoCardSaid : Prop := Claim7.holds Tryd.pinned (.plain (OpenSpec.upto fnExactGetEscapesSpec)) fnExactGetEscapesUptoCard
end Rows
end Go.Proofs.YtffglpbjbocdiaaDoor
