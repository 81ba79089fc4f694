/-
  DERIVED. GIVEN WITH THE SEED: THE CARDS: each row of YtflnpkckdjmljaaGreatDoorRows.lean that lists a variable, with what it lists TIED to the program's text (the seventh form; the later family's looks); each row that meets fmt, with fmt's text TOLD by the authors' own Lean function (tested against real Go, not proved from fmt's source: count such statements apart). THE CARD IS WHAT COUNTS. Prove the row's statement (the work); the ties are given (YtflnpkckdjmljaaGreatDoorTie.lean); close each card by the builder's one call (the guide's Derived/Test/ToyasCard.lean, 'card_holds'). Laid BY PROGRAM, IN A SANDBOX (cutbox-door.mjs). By AI agents, Wed Nov 11 2026. No macro, syntax, notation, axiom, sorry.
-/
import Derived.Test.YtflnpkckdjmljaaGreatDoorRows
import GoSem.ClaimSeven
namespace Go.Proofs.YtflnpkckdjmljaaGreatDoor
namespace Rows

/-- THE TIED CARD OF 'laws.FnProp'. -/
def fnPropCard : Claim7 := { stood := { row := fnPropRow, standIns := [], harness := (true, "ec12a286e94fbf3314756c94f79b0b57e8fc13d414be5672988c325490855f7c"), looks := false }, kinds := [], alts := [], laidByText := true, laidKinds := [.data, .pinned], laidTests := true, laidLooks := .later }
def FnPropCardSaid : Prop := Claim7.holds Tryz.pinned (.plain (OpenSpec.ofChange fnPropSpec)) fnPropCard

/-- THE TIED CARD OF 'laws.FnLong'. -/
def fnLongCard : Claim7 := { stood := { row := fnLongRow, standIns := [], harness := (true, "ec12a286e94fbf3314756c94f79b0b57e8fc13d414be5672988c325490855f7c"), looks := false }, kinds := [], alts := [], laidByText := true, laidKinds := [.data, .pinned], laidTests := true, laidLooks := .later }
def FnLongCardSaid : Prop := Claim7.holds Tryz.pinned (.plain (OpenSpec.ofChange fnLongSpec)) fnLongCard

/-- THE SECOND FORM's CARD OF 'laws.FnProp'. -/
def fnPropUptoCard : Claim7 := { stood := { row := fnPropUptoRow, standIns := [], harness := (true, "ec12a286e94fbf3314756c94f79b0b57e8fc13d414be5672988c325490855f7c"), looks := false }, kinds := [], alts := [], laidByText := true, laidKinds := [.data, .pinned], laidTests := true, laidLooks := .later }
def FnPropUptoCardSaid : Prop := Claim7.holds Tryz.pinned (.plain (OpenSpec.upto fnPropSpec)) fnPropUptoCard

/-- THE SECOND FORM's CARD OF 'laws.FnLong'. -/
def fnLongUptoCard : Claim7 := { stood := { row := fnLongUptoRow, standIns := [], harness := (true, "ec12a286e94fbf3314756c94f79b0b57e8fc13d414be5672988c325490855f7c"), looks := false }, kinds := [], alts := [], laidByText := true, laidKinds := [.data, .pinned], laidTests := true, laidLooks := .later }
def FnLongUptoCardSaid : Prop := Claim7.holds Tryz.pinned (.plain (OpenSpec.upto fnLongSpec)) fnLongUptoCard
end Rows
end Go.Proofs.YtflnpkckdjmljaaGreatDoor
