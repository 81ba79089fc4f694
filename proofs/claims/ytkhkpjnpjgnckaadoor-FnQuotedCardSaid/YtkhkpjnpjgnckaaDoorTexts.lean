/- Lists of texts in memory: how they are read, compared and marked. -/
import Derived.Test.YtkhkpjnpjgnckaaDoorProg
import Derived.Test.YtkhkpjnpjgnckaaDoorPlain
import Derived.Test.YtkhkpjnpjgnckaaDoorDec
import Derived.WalkKit
import Derived.WalkLawsBesides
import Derived.BigQuiet
import Derived.Deep.QuietTactic
import Derived.Lib.QuietBelow
import Derived.Laws.IdiomStrings
import Derived.Lib.Hide
import Derived.IntWalk
namespace Go.Proofs.YtkhkpjnpjgnckaaDoor
open Go.RowKit Go.Sort
set_option linter.unusedVariables false

/-- a list of texts, as a value and what it leads to -/
structure TextsIs (w : World) (v : Value) (g : Nat) (l : List ByteArray) : Prop where
  form : ∃ (a : Option Addr) (cap : Nat), v = .slice a l.length cap ∧ (l ≠ [] → a = some ⟨g, 0, none⟩)
  cell : ∀ i (h : i < l.length), w.cell? ⟨g, i, none⟩ = some (.string l[i])
  free : ∀ i, i < l.length → w.frozen? ⟨g, i, none⟩ = false
theorem TextsIs.kept {w w' : World} {v : Value} {g : Nat} {l : List ByteArray} (h : TextsIs w v g l) (hk : l ≠ [] → w'.heap[g]? = w.heap[g]?) : TextsIs w' v g l :=
  ⟨h.form, fun i hi => (World.cell?_of_block (a := ⟨g, i, none⟩) (hk (by intro e; subst e; simp at hi))).trans (h.cell i hi), fun i hi => (World.frozen?_of_block (a := ⟨g, i, none⟩) (hk (by intro e; subst e; simp at hi))).trans (h.free i hi)⟩
theorem TextsIs.lt {w : World} {v : Value} {g : Nat} {l : List ByteArray} (h : TextsIs w v g l) (hl : l ≠ []) : g < w.heap.size := by
  have h0 : 0 < l.length := List.length_pos_iff.2 hl
  exact World.block_lt_of_cell? _ _ (h.cell 0 h0)
theorem TextsIs.below {B : Nat} {w w' : World} {v : Value} {g : Nat} {l : List ByteArray} (h : TextsIs w v g l) (hb : Below B w w') (hg : l ≠ [] → g < B) : TextsIs w' v g l :=
  h.kept (fun hl => hb.block g (hg hl))
/-- out of a row that the call itself made -/
theorem textsIs_of_owns {w : World} {base n : Nat} {v : Value} {l : List ByteArray} {t : Nat} (h : w.ownsRow base t 1 v n (l.map Value.string)) (hn : n = l.length) (hB : base ≤ w.heap.size) : ∃ g, TextsIs w v g l ∧ base ≤ g := by
  subst hn
  rcases h.2 with ⟨hv, h0⟩ | ⟨g, cap, cur, hv, hb, hg, hnc, hcm, hcs, htake⟩
  · have hl : l = [] := List.eq_nil_of_length_eq_zero h0
    subst hl
    exact ⟨w.heap.size, ⟨⟨none, 0, hv, fun h => absurd rfl h⟩, fun i hi => by simp at hi, fun i hi => by simp at hi⟩, hB⟩
  · subst hv
    refine ⟨g, ⟨⟨_, cap, rfl, fun _ => rfl⟩, fun i hi => ?_, fun i hi => World.ownsRow.frozenAt h i⟩, hb⟩
    rw [World.ownsRow.cellAt h i (by omega)]
    simp [hi]


end Go.Proofs.YtkhkpjnpjgnckaaDoor
