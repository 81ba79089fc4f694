/-
  DERIVED. GIVEN WITH THE SEED: THE CARDS: each row of YtcphmgdeigbemaaDoorRows.lean that lists a variable, with what it lists TIED to the program's text (the seventh form; the later family's looks); each row that meets fmt, with fmt's text TOLD by the authors' own Lean function (tested against real Go, not proved from fmt's source: count such statements apart). THE CARD IS WHAT COUNTS. Prove the row's statement (the work); the ties are given (YtcphmgdeigbemaaDoorTie.lean); close each card by the builder's one call (the guide's Derived/Test/ToyasCard.lean, 'card_holds'). Laid BY PROGRAM, IN A SANDBOX (cutbox-door.mjs). By AI agents, Wed Nov 11 2026. No macro, syntax, notation, axiom, sorry.
-/
import Derived.Test.YtcphmgdeigbemaaDoorRows
import GoSem.ClaimSeven
namespace Go.Proofs.YtcphmgdeigbemaaDoor
namespace Rows

/-- THE TIED CARD OF 'laws.FnJoined'. -/
def fnJoinedCard : Claim7 := { stood := { row := fnJoinedRow, standIns := [], harness := (true, "d8178d873e702bf09e4ef02c3f87b36d57eb739bf170f3a0664dbc5152469b55"), looks := false }, kinds := [], alts := [], laidByText := true, laidKinds := [.data, .pinned], laidTests := true, laidLooks := .later }
def FnJoinedCardSaid : Prop := Claim7.holds Tryd.pinned (.plain (OpenSpec.ofChange fnJoinedSpec)) fnJoinedCard

/-- THE TIED CARD OF 'laws.FnExactBare'. -/
def fnExactBareCard : Claim7 := { stood := { row := fnExactBareRow, standIns := [], harness := (true, "d8178d873e702bf09e4ef02c3f87b36d57eb739bf170f3a0664dbc5152469b55"), looks := false }, kinds := [], alts := [], laidByText := true, laidKinds := [.data, .pinned], laidTests := true, laidLooks := .later }
def FnExactBareCardSaid : Prop := Claim7.holds Tryd.pinned (.plain (OpenSpec.ofChange fnExactBareSpec)) fnExactBareCard

/-- THE TIED CARD OF 'laws.FnExactQuoted'. -/
def fnExactQuotedCard : Claim7 := { stood := { row := fnExactQuotedRow, standIns := [], harness := (true, "d8178d873e702bf09e4ef02c3f87b36d57eb739bf170f3a0664dbc5152469b55"), looks := false }, kinds := [], alts := [], laidByText := true, laidKinds := [.data, .pinned], laidTests := true, laidLooks := .later }
def FnExactQuotedCardSaid : Prop := Claim7.holds Tryd.pinned (.plain (OpenSpec.ofChange fnExactQuotedSpec)) fnExactQuotedCard

/-- THE SECOND FORM's CARD OF 'laws.FnJoined'. -/
def fnJoinedUptoCard : Claim7 := { stood := { row := fnJoinedUptoRow, standIns := [], harness := (true, "d8178d873e702bf09e4ef02c3f87b36d57eb739bf170f3a0664dbc5152469b55"), looks := false }, kinds := [], alts := [], laidByText := true, laidKinds := [.data, .pinned], laidTests := true, laidLooks := .later }
def FnJoinedUptoCardSaid : Prop := Claim7.holds Tryd.pinned (.plain (OpenSpec.upto fnJoinedSpec)) fnJoinedUptoCard

/-- THE SECOND FORM's CARD OF 'laws.FnExactBare'. -/
def fnExactBareUptoCard : Claim7 := { stood := { row := fnExactBareUptoRow, standIns := [], harness := (true, "d8178d873e702bf09e4ef02c3f87b36d57eb739bf170f3a0664dbc5152469b55"), looks := false }, kinds := [], alts := [], laidByText := true, laidKinds := [.data, .pinned], laidTests := true, laidLooks := .later }
def FnExactBareUptoCardSaid : Prop := Claim7.holds Tryd.pinned (.plain (OpenSpec.upto fnExactBareSpec)) fnExactBareUptoCard

/-- THE SECOND FORM's CARD OF 'laws.FnExactQuoted'. -/
def fnExactQuotedUptoCard : Claim7 := { stood := { row := fnExactQuotedUptoRow, standIns := [], harness := (true, "d8178d873e702bf09e4ef02c3f87b36d57eb739bf170f3a0664dbc5152469b55"), looks := false }, kinds := [], alts := [], laidByText := true, laidKinds := [.data, .pinned], laidTests := true, laidLooks := .later }
def FnExactQuotedUptoCardSaid : Prop := Claim7.holds Tryd.pinned (.plain (OpenSpec.upto fnExactQuotedSpec)) fnExactQuotedUptoCard
end Rows
end Go.Proofs.YtcphmgdeigbemaaDoor
