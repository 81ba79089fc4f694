/- Lists of lines in memory: how they are read, compared, copied and marked. -/
import Derived.Test.YtcphmgdeigbemaaDoorProg
import Derived.Test.YtcphmgdeigbemaaDoorPlain
import Derived.Test.YtcphmgdeigbemaaDoorDec
import Derived.Test.YtcphmgdeigbemaaDoorTexts
import Derived.Test.YtcphmgdeigbemaaDoorMarks
import Derived.WalkKit
import Derived.WalkLawsBesides
import Derived.BigQuiet
import Derived.Deep.QuietTactic
import Derived.Lib.QuietBelow
import Derived.Laws.IdiomStrings
import Derived.Lib.Hide
import Derived.IntWalk
namespace Go.Proofs.YtcphmgdeigbemaaDoor
open Go.RowKit Go.Sort
set_option linter.unusedVariables false

/-- a line: its text and its end -/
abbrev Ln := ByteArray × ByteArray

/-- a list of lines, as a value and what it leads to -/
structure LinesRd (w : World) (v : Value) (g o : Nat) (l : List Ln) : Prop where
  form : ∃ (a : Option Addr) (cap : Nat), v = .slice a l.length cap ∧ (l ≠ [] → a = some ⟨g, o, none⟩)
  c0 : ∀ i (h : i < l.length), w.cell? ⟨g, o + i * 2, none⟩ = some (.string l[i].1)
  c1 : ∀ i (h : i < l.length), w.cell? ⟨g, o + i * 2 + 1, none⟩ = some (.string l[i].2)
/-- and none of its cells is frozen -/
structure LinesIs (w : World) (v : Value) (g o : Nat) (l : List Ln) : Prop extends LinesRd w v g o l where
  free : ∀ i, i < l.length * 2 → w.frozen? ⟨g, o + i, none⟩ = false
theorem LinesRd.kept {w w' : World} {v : Value} {g o : Nat} {l : List Ln} (h : LinesRd w v g o l) (hk : l ≠ [] → w'.heap[g]? = w.heap[g]?) : LinesRd w' v g o l :=
  ⟨h.form, fun i hi => (World.cell?_of_block (a := ⟨g, o + i * 2, none⟩) (hk (by intro e; subst e; simp at hi))).trans (h.c0 i hi),
    fun i hi => (World.cell?_of_block (a := ⟨g, o + i * 2 + 1, none⟩) (hk (by intro e; subst e; simp at hi))).trans (h.c1 i hi)⟩
theorem LinesIs.kept {w w' : World} {v : Value} {g o : Nat} {l : List Ln} (h : LinesIs w v g o l) (hk : l ≠ [] → w'.heap[g]? = w.heap[g]?) : LinesIs w' v g o l :=
  ⟨h.toLinesRd.kept hk, fun i hi => (World.frozen?_of_block (a := ⟨g, o + i, none⟩) (hk (by intro e; subst e; simp at hi))).trans (h.free i hi)⟩
theorem LinesRd.lt {w : World} {v : Value} {g o : Nat} {l : List Ln} (h : LinesRd w v g o l) (hl : l ≠ []) : g < w.heap.size := by
  have h0 : 0 < l.length := List.length_pos_iff.2 hl
  exact World.block_lt_of_cell? _ _ (h.c0 0 h0)
theorem LinesRd.below {B : Nat} {w w' : World} {v : Value} {g o : Nat} {l : List Ln} (h : LinesRd w v g o l) (hb : Below B w w') (hg : l ≠ [] → g < B) : LinesRd w' v g o l :=
  h.kept (fun hl => hb.block g (hg hl))
theorem LinesIs.below {B : Nat} {w w' : World} {v : Value} {g o : Nat} {l : List Ln} (h : LinesIs w v g o l) (hb : Below B w w') (hg : l ≠ [] → g < B) : LinesIs w' v g o l :=
  h.kept (fun hl => hb.block g (hg hl))

/-- the cells of a list of lines -/
def lnCells (l : List Ln) : List Value := l.flatMap (fun x => [.string x.1, .string x.2])
theorem lnCells_length (l : List Ln) : (lnCells l).length = l.length * 2 := by
  induction l with
  | nil => rfl
  | cons x l ih => simp only [lnCells, List.flatMap_cons, List.length_append, List.length_cons, List.length_nil] at *; omega
theorem lnCells_append (a b : List Ln) : lnCells (a ++ b) = lnCells a ++ lnCells b := by simp [lnCells]
theorem lnCells_0 (l : List Ln) (i : Nat) (h : i < l.length) : (lnCells l)[i * 2]? = some (.string l[i].1) := by
  induction l generalizing i with
  | nil => simp at h
  | cons x l ih =>
    cases i with
    | zero => simp [lnCells]
    | succ i =>
      have := ih i (by simpa using h)
      simp only [lnCells, List.flatMap_cons] at *
      rw [show (i + 1) * 2 = i * 2 + 2 from by omega]
      simpa using this
theorem lnCells_1 (l : List Ln) (i : Nat) (h : i < l.length) : (lnCells l)[i * 2 + 1]? = some (.string l[i].2) := by
  induction l generalizing i with
  | nil => simp at h
  | cons x l ih =>
    cases i with
    | zero => simp [lnCells]
    | succ i =>
      have := ih i (by simpa using h)
      simp only [lnCells, List.flatMap_cons] at *
      rw [show (i + 1) * 2 + 1 = i * 2 + 1 + 2 from by omega]
      simpa using this
theorem lnCells_one (l : List Ln) : ∀ u ∈ lnCells l, u.oneCell' = true := by
  intro u hu
  simp only [lnCells, List.mem_flatMap] at hu
  obtain ⟨x, _, hx⟩ := hu
  simp at hx
  rcases hx with rfl | rfl <;> rfl
/-- out of a row that the call itself made -/
theorem linesIs_of_owns {w : World} {base n : Nat} {v : Value} {l : List Ln} {t : Nat} (h : w.ownsRow base t 2 v n (lnCells l)) (hn : n = l.length) (hB : base ≤ w.heap.size) : ∃ g, LinesIs w v g 0 l ∧ base ≤ g := by
  subst hn
  rcases h.2 with ⟨hv, h0⟩ | ⟨g, cap, cur, hv, hb, hg, hnc, hcm, hcs, htake⟩
  · have hl : l = [] := List.eq_nil_of_length_eq_zero h0
    subst hl
    exact ⟨w.heap.size, ⟨⟨⟨none, 0, hv, fun h => absurd rfl h⟩, fun i hi => by simp at hi, fun i hi => by simp at hi⟩, fun i hi => by simp at hi⟩, hB⟩
  · subst hv
    have cell : ∀ j u, (lnCells l)[j]? = some u → w.cell? ⟨g, j, none⟩ = some u := by
      intro j u hu
      have := World.ownsRow.cells h (g := g) rfl j u hu
      have hadd : (⟨g, 0, none⟩ : Addr).add j = ⟨g, j, none⟩ := by unfold Addr.add; split <;> simp_all
      rwa [hadd] at this
    refine ⟨g, ⟨⟨⟨_, cap, rfl, fun _ => rfl⟩, fun i hi => ?_, fun i hi => ?_⟩, fun i hi => ?_⟩, hb⟩
    · rw [Nat.zero_add]; exact cell _ _ (lnCells_0 l i hi)
    · rw [Nat.zero_add]; exact cell _ _ (lnCells_1 l i hi)
    · rw [Nat.zero_add]; exact World.ownsRow.frozenAt h i

def lnV (x : Ln) : Value := .agg #[.string x.1, .string x.2]

theorem beq_texts (a b : ByteArray) : (a.toList == b.toList) = decide (a = b) := by
  by_cases h : a = b
  · subst h; simp
  · rw [show decide (a = b) = false by simpa using h, beq_eq_false_iff_ne]
    intro e
    apply h
    rw [Lib.toList_data, Lib.toList_data] at e
    exact ByteArray.ext (Array.toList_inj.1 e)

end Go.Proofs.YtcphmgdeigbemaaDoor
