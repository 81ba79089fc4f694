/- Escapes taken back: the program's contract of Unescape. -/
import Derived.Test.YteocaaclcecolaaProg
import Derived.Test.YteocaaclcecolaaPlain
import Derived.Test.YteocaaclcecolaaCut
import Derived.Test.YteocaaclcecolaaTrim
import Derived.Test.YteocaaclcecolaaBuild
import Derived.Test.YteocaaclcecolaaDialectRows
import Derived.Test.YteocaaclcecolaaUnescSpec
import Derived.WalkKit
import Derived.WalkLawsBesides
import Derived.Tactics
import Derived.Tactics2
import Derived.Defers
import Derived.Recover
import Derived.Lib.FrozenHead2
import Derived.Laws.IdiomStrings
import Derived.Lib.Hide
import Derived.IntWalk
set_option maxRecDepth 100000
namespace Go.Proofs.Yteocaaclcecolaa
open Go.RowKit
set_option linter.unusedVariables false

theorem builtAtU_over {T e B b : Nat} {p : Value} {bs : List Value} {w w' : World} (h : Lib.BuilderAtF T e B b p bs w) (hb : Below w.heap.size w w') : Lib.BuilderAtF T e B b p bs w' := by
  obtain ⟨hB, v, hbk, hown, hne⟩ := h
  refine ⟨hB, v, (hb.block b (Array.getElem?_eq_some_iff.1 hbk).1).trans hbk, ⟨hown.1, ?_⟩, hne⟩
  rcases hown.2 with h2 | ⟨g, cap, cur, fz, hv, hg0, hg, h5, h6, h7, h8, h9⟩
  · exact .inl h2
  · exact .inr ⟨g, cap, cur, fz, hv, hg0, (hb.block g (Array.getElem?_eq_some_iff.1 hg).1).trans hg, h5, h6, h7, h8, h9⟩
theorem builtU_over {B b : Nat} {l : List UInt8} {w w' : World} (h : BuiltF B b l w) (hb : Below w.heap.size w w') : BuiltF B b l w' := by
  rcases h with h | h
  · exact .inl (builtAtU_over h hb)
  · exact .inr (builtAtU_over h hb)

/-! what a byte behind a backslash denotes -/
abbrev selfsB : ByteArray := ⟨#[92, 34, 91, 93, 61, 58, 35, 59, 33, 32, 9]⟩
theorem selfs_has (c : UInt8) : hasB selfsB c = selfB c := by
  unfold selfB hasB blankB
  simp only [hasB, List.contains_cons, List.contains_nil, Bool.or_false, Bool.or_assoc]
theorem unB_self {c : UInt8} (h1 : c ≠ 110) (h2 : c ≠ 116) (h3 : c ≠ 114) : unB c = if selfB c then some c else none := by
  unfold unB
  rw [if_neg h1, if_neg h2, if_neg h3]
/-- the first byte of a text, as an escape -/
def escO : List UInt8 → Option UInt8
  | [] => none
  | c :: _ => unB c
/-- it ends in a panic of a text -/
def Paniced (e : Ending) : Prop := ∃ v, e = .panicked [{ v := .iface 9 v, recovered := false }]

end Go.Proofs.Yteocaaclcecolaa
