/-
  DERIVED. GIVEN WITH THE SEED: THE CARDS: each row of YthljlkngmfbeoaaDoorRows.lean that lists a variable, with what it lists TIED to the program's text (the seventh form; the later family's looks); each row that meets fmt, with fmt's text TOLD by the authors' own Lean function (tested against real Go, not proved from fmt's source: count such statements apart). THE CARD IS WHAT COUNTS. Prove the row's statement (the work); the ties are given (YthljlkngmfbeoaaDoorTie.lean); close each card by the builder's one call (the guide's Derived/Test/ToyasCard.lean, 'card_holds'). Laid BY PROGRAM, IN A SANDBOX (cutbox-door.mjs). By AI agents, Wed Nov 11 2026. No macro, syntax, notation, axiom, sorry.
-/
import Derived.Test.YthljlkngmfbeoaaDoorRows
import GoSem.ClaimSeven
namespace Go.Proofs.YthljlkngmfbeoaaDoor
namespace Rows

/-- THE TIED CARD OF 'laws.FnLines2'. -/
def fnLines2Card : Claim7 := { stood := { row := fnLines2Row, standIns := [], harness := (true, "11ba7ad08f6315693c8f6d1cee82322ce427faedbb4e2a818be6accf791f446b"), looks := false }, kinds := [], alts := [], laidByText := true, laidKinds := [.data, .pinned], laidTests := true, laidLooks := .later }
def FnLines2CardSaid : Prop := Claim7.holds Tryd.pinned (.plain (OpenSpec.ofChange fnLines2Spec)) fnLines2Card

/-- THE TIED CARD OF 'laws.FnExactPlain'. -/
def fnExactPlainCard : Claim7 := { stood := { row := fnExactPlainRow, standIns := [], harness := (true, "11ba7ad08f6315693c8f6d1cee82322ce427faedbb4e2a818be6accf791f446b"), looks := false }, kinds := [], alts := [], laidByText := true, laidKinds := [.data, .pinned], laidTests := true, laidLooks := .later }
def FnExactPlainCardSaid : Prop := Claim7.holds Tryd.pinned (.plain (OpenSpec.ofChange fnExactPlainSpec)) fnExactPlainCard

/-- THE SECOND FORM's CARD OF 'laws.FnLines2'. -/
def fnLines2UptoCard : Claim7 := { stood := { row := fnLines2UptoRow, standIns := [], harness := (true, "11ba7ad08f6315693c8f6d1cee82322ce427faedbb4e2a818be6accf791f446b"), looks := false }, kinds := [], alts := [], laidByText := true, laidKinds := [.data, .pinned], laidTests := true, laidLooks := .later }
def FnLines2UptoCardSaid : Prop := Claim7.holds Tryd.pinned (.plain (OpenSpec.upto fnLines2Spec)) fnLines2UptoCard

/-- THE SECOND FORM's CARD OF 'laws.FnExactPlain'. -/
def fnExactPlainUptoCard : Claim7 := { stood := { row := fnExactPlainUptoRow, standIns := [], harness := (true, "11ba7ad08f6315693c8f6d1cee82322ce427faedbb4e2a818be6accf791f446b"), looks := false }, kinds := [], alts := [], laidByText := true, laidKinds := [.data, .pinned], laidTests := true, laidLooks := .later }
def FnExactPlainUptoCardSaid : Prop := Claim7.holds Tryd.pinned (.plain (OpenSpec.upto fnExactPlainSpec)) fnExactPlainUptoCard
end Rows
end Go.Proofs.YthljlkngmfbeoaaDoor
