/- Lists of Rec: how the exact laws compare and mark them, in one form. -/
import Derived.Test.YthljlkngmfbeoaaGreatDoorProg
import Derived.Test.YthljlkngmfbeoaaGreatDoorPlain
import Derived.Test.YthljlkngmfbeoaaGreatDoorTexts
import Derived.Test.YthljlkngmfbeoaaGreatDoorRows0
import Derived.Test.YthljlkngmfbeoaaGreatDoorRecRows
import Derived.Test.YthljlkngmfbeoaaGreatDoorRecMark
import Derived.Test.YthljlkngmfbeoaaGreatDoorKit
import Derived.WalkKit
import Derived.WalkLawsBesides
import Derived.OwnWalk
import Derived.BigQuiet
import Derived.Deep.QuietTactic
import Derived.Lib.QuietBelow
import Derived.Laws.IdiomStrings
import Derived.Lib.Hide
import Derived.IntWalk
namespace Go.Proofs.YthljlkngmfbeoaaGreatDoor
open Go.RowKit Go.Sort
set_option linter.unusedVariables false

theorem kit_eq_recs (w : World) (u v : Value) (g g' : Nat) (l : List RecD) (hu : RowsIs recS w u g 0 l) (hv : RowsIs recS w v g' 0 l) (hl : l.length ≤ 100000000) :
    Calls Tryz.prog 12 #[u, v] w fun e w' => e = .returned (.bool true) ∧ Below w.heap.size w w' := by
  refine (eqRecs w u v g 0 g' 0 l l hu.toRowsRd hv.toRowsRd (by omega) (by omega)).mono ?_
  rintro e w' ⟨rfl, hb⟩
  exact ⟨by simp, hb⟩
theorem kit_mark_recs (w : World) (v : Value) (g : Nat) (l : List RecD) (h : RowsIs recS w v g 0 l) (hl : l.length ≤ 100000000) :
    Calls Tryz.prog 13 #[v, .int .i64 1] w fun e w' => e = .returned (.int .i64 ((1 + l.length * 6 : Nat) : Int)) ∧ RowsIs recS w' v g 0 (marksRec 1 l.length) ∧ Turned w w' (l ≠ []) g := by
  by_cases hn : l = []
  · subst hn
    obtain ⟨a, cap, rfl, _⟩ := h.form
    refine (mark_recs w _ w.heap.size 0 1 [] (RowsIs.nil a cap rfl) (by decide) (by simp)).mono ?_
    rintro e w' ⟨rfl, _, hg⟩
    exact ⟨rfl, RowsIs.nil a cap rfl, turned_none hg⟩
  · refine (mark_recs w v g 0 1 l h (by decide) (by omega)).mono ?_
    rintro e w' ⟨rfl, h1, h2⟩
    exact ⟨rfl, h1, turned_mono (turned_of h2) (fun _ => hn)⟩
theorem kit_held_recs (w : World) (v : Value) (g n : Nat) (h : RowsIs recS w v g 0 (marksRec 1 n)) (hl : n ≤ 100000000) :
    Calls Tryz.prog 14 #[v, .int .i64 1] w fun e w' => e = .returned (.int .i64 ((1 + n * 6 : Nat) : Int)) ∧ Below w.heap.size w w' :=
  held_recs w v g 0 1 n h (by decide) (by omega)

end Go.Proofs.YthljlkngmfbeoaaGreatDoor
