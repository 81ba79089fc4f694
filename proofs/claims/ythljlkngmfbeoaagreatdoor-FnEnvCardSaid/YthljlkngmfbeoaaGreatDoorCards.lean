/-
  DERIVED. GIVEN WITH THE SEED: THE CARDS: each row of YthljlkngmfbeoaaGreatDoorRows.lean that lists a variable, with what it lists TIED to the program's text (the seventh form; the later family's looks); each row that meets fmt, with fmt's text TOLD by the authors' own Lean function (tested against real Go, not proved from fmt's source: count such statements apart). THE CARD IS WHAT COUNTS. Prove the row's statement (the work); the ties are given (YthljlkngmfbeoaaGreatDoorTie.lean); close each card by the builder's one call (the guide's Derived/Test/ToyasCard.lean, 'card_holds'). Laid BY PROGRAM, IN A SANDBOX (cutbox-door.mjs). By AI agents, Wed Nov 11 2026. No macro, syntax, notation, axiom, sorry.
-/
import Derived.Test.YthljlkngmfbeoaaGreatDoorRows
import GoSem.ClaimSeven
namespace Go.Proofs.YthljlkngmfbeoaaGreatDoor
namespace Rows

/-- THE TIED CARD OF 'laws.FnEnv'. -/
def fnEnvCard : Claim7 := { stood := { row := fnEnvRow, standIns := [], harness := (true, "b6c11a751e6a818d7a751f1c5b52d7224de58b80e27149f76a4a9a35ef0a1891"), looks := false }, kinds := [], alts := [], laidByText := true, laidKinds := [.data, .pinned], laidTests := true, laidLooks := .later }
def FnEnvCardSaid : Prop := Claim7.holds Tryz.pinned (.plain (OpenSpec.ofChange fnEnvSpec)) fnEnvCard

/-- THE TIED CARD OF 'laws.FnExactParseEnv'. -/
def fnExactParseEnvCard : Claim7 := { stood := { row := fnExactParseEnvRow, standIns := [], harness := (true, "b6c11a751e6a818d7a751f1c5b52d7224de58b80e27149f76a4a9a35ef0a1891"), looks := false }, kinds := [], alts := [], laidByText := true, laidKinds := [.data, .pinned], laidTests := true, laidLooks := .later }
def FnExactParseEnvCardSaid : Prop := Claim7.holds Tryz.pinned (.plain (OpenSpec.ofChange fnExactParseEnvSpec)) fnExactParseEnvCard

/-- THE SECOND FORM's CARD OF 'laws.FnEnv'. -/
def fnEnvUptoCard : Claim7 := { stood := { row := fnEnvUptoRow, standIns := [], harness := (true, "b6c11a751e6a818d7a751f1c5b52d7224de58b80e27149f76a4a9a35ef0a1891"), looks := false }, kinds := [], alts := [], laidByText := true, laidKinds := [.data, .pinned], laidTests := true, laidLooks := .later }
def FnEnvUptoCardSaid : Prop := Claim7.holds Tryz.pinned (.plain (OpenSpec.upto fnEnvSpec)) fnEnvUptoCard

/-- THE SECOND FORM's CARD OF 'laws.FnExactParseEnv'. -/
def fnExactParseEnvUptoCard : Claim7 := { stood := { row := fnExactParseEnvUptoRow, standIns := [], harness := (true, "b6c11a751e6a818d7a751f1c5b52d7224de58b80e27149f76a4a9a35ef0a1891"), looks := false }, kinds := [], alts := [], laidByText := true, laidKinds := [.data, .pinned], laidTests := true, laidLooks := .later }
def FnExactParseEnvUptoCardSaid : Prop := Claim7.holds Tryz.pinned (.plain (OpenSpec.upto fnExactParseEnvSpec)) fnExactParseEnvUptoCard
end Rows
end Go.Proofs.YthljlkngmfbeoaaGreatDoor
