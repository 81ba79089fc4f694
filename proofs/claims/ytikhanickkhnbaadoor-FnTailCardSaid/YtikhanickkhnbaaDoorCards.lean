/-
  DERIVED. GIVEN WITH THE SEED: THE CARDS: each row of YtikhanickkhnbaaDoorRows.lean that lists a variable, with what it lists TIED to the program's text (the seventh form; the later family's looks); each row that meets fmt, with fmt's text TOLD by the authors' own Lean function (tested against real Go, not proved from fmt's source: count such statements apart). THE CARD IS WHAT COUNTS. Prove the row's statement (the work); the ties are given (YtikhanickkhnbaaDoorTie.lean); close each card by the builder's one call (the guide's Derived/Test/ToyasCard.lean, 'card_holds'). Laid BY PROGRAM, IN A SANDBOX (cutbox-door.mjs). By AI agents, Wed Nov 11 2026. No macro, syntax, notation, axiom, sorry.
-/
import Derived.Test.YtikhanickkhnbaaDoorRows
import GoSem.ClaimSeven
namespace Go.Proofs.YtikhanickkhnbaaDoor
namespace Rows

/-- THE TIED CARD OF 'laws.FnLines'. -/
def fnLinesCard : Claim7 := { stood := { row := fnLinesRow, standIns := [], harness := (true, "14240fd02a807e6ea00520947e7eda732b2473450a6177c2d63f2bc9d712f547"), looks := false }, kinds := [], alts := [], laidByText := true, laidKinds := [.data, .pinned], laidTests := true, laidLooks := .later }
def FnLinesCardSaid : Prop := Claim7.holds Tryd.pinned (.plain (OpenSpec.ofChange fnLinesSpec)) fnLinesCard

/-- THE TIED CARD OF 'laws.FnTail'. -/
def fnTailCard : Claim7 := { stood := { row := fnTailRow, standIns := [], harness := (true, "14240fd02a807e6ea00520947e7eda732b2473450a6177c2d63f2bc9d712f547"), looks := false }, kinds := [], alts := [], laidByText := true, laidKinds := [.data, .pinned], laidTests := true, laidLooks := .later }
def FnTailCardSaid : Prop := Claim7.holds Tryd.pinned (.plain (OpenSpec.ofChange fnTailSpec)) fnTailCard

/-- THE TIED CARD OF 'laws.FnExactTail'. -/
def fnExactTailCard : Claim7 := { stood := { row := fnExactTailRow, standIns := [], harness := (true, "14240fd02a807e6ea00520947e7eda732b2473450a6177c2d63f2bc9d712f547"), looks := false }, kinds := [], alts := [], laidByText := true, laidKinds := [.data, .pinned], laidTests := true, laidLooks := .later }
def FnExactTailCardSaid : Prop := Claim7.holds Tryd.pinned (.plain (OpenSpec.ofChange fnExactTailSpec)) fnExactTailCard

/-- THE SECOND FORM's CARD OF 'laws.FnLines'. -/
def fnLinesUptoCard : Claim7 := { stood := { row := fnLinesUptoRow, standIns := [], harness := (true, "14240fd02a807e6ea00520947e7eda732b2473450a6177c2d63f2bc9d712f547"), looks := false }, kinds := [], alts := [], laidByText := true, laidKinds := [.data, .pinned], laidTests := true, laidLooks := .later }
def FnLinesUptoCardSaid : Prop := Claim7.holds Tryd.pinned (.plain (OpenSpec.upto fnLinesSpec)) fnLinesUptoCard

/-- THE SECOND FORM's CARD OF 'laws.FnTail'. -/
def fnTailUptoCard : Claim7 := { stood := { row := fnTailUptoRow, standIns := [], harness := (true, "14240fd02a807e6ea00520947e7eda732b2473450a6177c2d63f2bc9d712f547"), looks := false }, kinds := [], alts := [], laidByText := true, laidKinds := [.data, .pinned], laidTests := true, laidLooks := .later }
def FnTailUptoCardSaid : Prop := Claim7.holds Tryd.pinned (.plain (OpenSpec.upto fnTailSpec)) fnTailUptoCard

/-- THE SECOND FORM's CARD OF 'laws.FnExactTail'. -/
def fnExactTailUptoCard : Claim7 := { stood := { row := fnExactTailUptoRow, standIns := [], harness := (true, "14240fd02a807e6ea00520947e7eda732b2473450a6177c2d63f2bc9d712f547"), looks := false }, kinds := [], alts := [], laidByText := true, laidKinds := [.data, .pinned], laidTests := true, laidLooks := .later }
def FnExactTailUptoCardSaid : Prop := Claim7.holds Tryd.pinned (.plain (OpenSpec.upto fnExactTailSpec)) fnExactTailUptoCard
end Rows
end Go.Proofs.YtikhanickkhnbaaDoor
