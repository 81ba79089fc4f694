/-
  DERIVED. GIVEN WITH THE SEED: THE CARDS: each row of YtflnpkckdjmljaaDoorRows.lean that lists a variable, with what it lists TIED to the program's text (the seventh form; the later family's looks); each row that meets fmt, with fmt's text TOLD by the authors' own Lean function (tested against real Go, not proved from fmt's source: count such statements apart). THE CARD IS WHAT COUNTS. Prove the row's statement (the work); the ties are given (YtflnpkckdjmljaaDoorTie.lean); close each card by the builder's one call (the guide's Derived/Test/ToyasCard.lean, 'card_holds'). Laid BY PROGRAM, IN A SANDBOX (cutbox-door.mjs). By AI agents, Wed Nov 11 2026. No macro, syntax, notation, axiom, sorry.
-/
import Derived.Test.YtflnpkckdjmljaaDoorRows
import GoSem.ClaimSeven
namespace Go.Proofs.YtflnpkckdjmljaaDoor
namespace Rows

/-- THE TIED CARD OF 'laws.FnProps'. -/
def fnPropsCard : Claim7 := { stood := { row := fnPropsRow, standIns := [], harness := (true, "9a6b93eb1633657217b207ac659d0660cfc0ebd83523d545c3f706891f965ab6"), looks := false }, kinds := [], alts := [], laidByText := true, laidKinds := [.data, .pinned], laidTests := true, laidLooks := .later }
def FnPropsCardSaid : Prop := Claim7.holds Tryd.pinned (.plain (OpenSpec.ofChange fnPropsSpec)) fnPropsCard

/-- THE TIED CARD OF 'laws.FnExactParseProps'. -/
def fnExactParsePropsCard : Claim7 := { stood := { row := fnExactParsePropsRow, standIns := [], harness := (true, "9a6b93eb1633657217b207ac659d0660cfc0ebd83523d545c3f706891f965ab6"), looks := false }, kinds := [], alts := [], laidByText := true, laidKinds := [.data, .pinned], laidTests := true, laidLooks := .later }
def FnExactParsePropsCardSaid : Prop := Claim7.holds Tryd.pinned (.plain (OpenSpec.ofChange fnExactParsePropsSpec)) fnExactParsePropsCard

/-- THE TIED CARD OF 'laws.FnExactPropKey'. -/
def fnExactPropKeyCard : Claim7 := { stood := { row := fnExactPropKeyRow, standIns := [], harness := (true, "9a6b93eb1633657217b207ac659d0660cfc0ebd83523d545c3f706891f965ab6"), looks := false }, kinds := [], alts := [], laidByText := true, laidKinds := [.data, .pinned], laidTests := true, laidLooks := .later }
def FnExactPropKeyCardSaid : Prop := Claim7.holds Tryd.pinned (.plain (OpenSpec.ofChange fnExactPropKeySpec)) fnExactPropKeyCard

/-- THE TIED CARD OF 'laws.FnExactPropValue'. -/
def fnExactPropValueCard : Claim7 := { stood := { row := fnExactPropValueRow, standIns := [], harness := (true, "9a6b93eb1633657217b207ac659d0660cfc0ebd83523d545c3f706891f965ab6"), looks := false }, kinds := [], alts := [], laidByText := true, laidKinds := [.data, .pinned], laidTests := true, laidLooks := .later }
def FnExactPropValueCardSaid : Prop := Claim7.holds Tryd.pinned (.plain (OpenSpec.ofChange fnExactPropValueSpec)) fnExactPropValueCard

/-- THE TIED CARD OF 'laws.FnExactPropPair'. -/
def fnExactPropPairCard : Claim7 := { stood := { row := fnExactPropPairRow, standIns := [], harness := (true, "9a6b93eb1633657217b207ac659d0660cfc0ebd83523d545c3f706891f965ab6"), looks := false }, kinds := [], alts := [], laidByText := true, laidKinds := [.data, .pinned], laidTests := true, laidLooks := .later }
def FnExactPropPairCardSaid : Prop := Claim7.holds Tryd.pinned (.plain (OpenSpec.ofChange fnExactPropPairSpec)) fnExactPropPairCard

/-- THE SECOND FORM's CARD OF 'laws.FnProps'. -/
def fnPropsUptoCard : Claim7 := { stood := { row := fnPropsUptoRow, standIns := [], harness := (true, "9a6b93eb1633657217b207ac659d0660cfc0ebd83523d545c3f706891f965ab6"), looks := false }, kinds := [], alts := [], laidByText := true, laidKinds := [.data, .pinned], laidTests := true, laidLooks := .later }
def FnPropsUptoCardSaid : Prop := Claim7.holds Tryd.pinned (.plain (OpenSpec.upto fnPropsSpec)) fnPropsUptoCard

/-- THE SECOND FORM's CARD OF 'laws.FnExactParseProps'. -/
def fnExactParsePropsUptoCard : Claim7 := { stood := { row := fnExactParsePropsUptoRow, standIns := [], harness := (true, "9a6b93eb1633657217b207ac659d0660cfc0ebd83523d545c3f706891f965ab6"), looks := false }, kinds := [], alts := [], laidByText := true, laidKinds := [.data, .pinned], laidTests := true, laidLooks := .later }
def FnExactParsePropsUptoCardSaid : Prop := Claim7.holds Tryd.pinned (.plain (OpenSpec.upto fnExactParsePropsSpec)) fnExactParsePropsUptoCard

/-- THE SECOND FORM's CARD OF 'laws.FnExactPropKey'. -/
def fnExactPropKeyUptoCard : Claim7 := { stood := { row := fnExactPropKeyUptoRow, standIns := [], harness := (true, "9a6b93eb1633657217b207ac659d0660cfc0ebd83523d545c3f706891f965ab6"), looks := false }, kinds := [], alts := [], laidByText := true, laidKinds := [.data, .pinned], laidTests := true, laidLooks := .later }
def FnExactPropKeyUptoCardSaid : Prop := Claim7.holds Tryd.pinned (.plain (OpenSpec.upto fnExactPropKeySpec)) fnExactPropKeyUptoCard

/-- THE SECOND FORM's CARD OF 'laws.FnExactPropValue'. -/
def fnExactPropValueUptoCard : Claim7 := { stood := { row := fnExactPropValueUptoRow, standIns := [], harness := (true, "9a6b93eb1633657217b207ac659d0660cfc0ebd83523d545c3f706891f965ab6"), looks := false }, kinds := [], alts := [], laidByText := true, laidKinds := [.data, .pinned], laidTests := true, laidLooks := .later }
def FnExactPropValueUptoCardSaid : Prop := Claim7.holds Tryd.pinned (.plain (OpenSpec.upto fnExactPropValueSpec)) fnExactPropValueUptoCard

/-- THE SECOND FORM's CARD OF 'laws.FnExactPropPair'. -/
def fnExactPropPairUptoCard : Claim7 := { stood := { row := fnExactPropPairUptoRow, standIns := [], harness := (true, "9a6b93eb1633657217b207ac659d0660cfc0ebd83523d545c3f706891f965ab6"), looks := false }, kinds := [], alts := [], laidByText := true, laidKinds := [.data, .pinned], laidTests := true, laidLooks := .later }
def FnExactPropPairUptoCardSaid : Prop := Claim7.holds Tryd.pinned (.plain (OpenSpec.upto fnExactPropPairSpec)) fnExactPropPairUptoCard
end Rows
end Go.Proofs.YtflnpkckdjmljaaDoor
