/- Lists of lines that come in: their size, their copy; marks on lines. -/
import Derived.Test.YtcphmgdeigbemaaDoorProg
import Derived.Test.YtcphmgdeigbemaaDoorPlain
import Derived.Test.YtcphmgdeigbemaaDoorTexts
import Derived.Test.YtcphmgdeigbemaaDoorMarks
import Derived.Test.YtcphmgdeigbemaaDoorLines
import Derived.WalkKit
import Derived.WalkLawsBesides
import Derived.OwnWalk
import Derived.BigQuiet
import Derived.Deep.QuietTactic
import Derived.Lib.QuietBelow
import Derived.Laws.IdiomStrings
import Derived.Lib.Hide
import Derived.IntWalk
namespace Go.Proofs.YtcphmgdeigbemaaDoor
open Go.RowKit Go.Sort
set_option linter.unusedVariables false

theorem info_line : (Tryd.prog.info? 72).map (fun i => (i.zero, i.size, i.bytes)) = some (some (.agg #[.string ByteArray.empty, .string ByteArray.empty]), 2, 32) := by kernel_rfl
def noLn : Ln := (ByteArray.empty, ByteArray.empty)
theorem made_lines (n : Nat) : (madeCells (Value.cells (.agg #[.string ByteArray.empty, .string ByteArray.empty])) (n * 2)).toList = lnCells (List.replicate n noLn) := by
  have hl : (lnCells (List.replicate n noLn)).length = n * 2 := by rw [lnCells_length, List.length_replicate]
  apply List.ext_getElem?
  intro j
  by_cases hj : j < n * 2
  · have hr : (madeCells (Value.cells (.agg #[.string ByteArray.empty, .string ByteArray.empty])) (n * 2)).toList[j]? = some (.string ByteArray.empty) := by
      simp only [madeCells, Value.cells]
      rw [Array.getElem?_toList, Array.getElem?_map, Array.getElem?_range]
      rw [if_pos hj]
      have : j % 2 = 0 ∨ j % 2 = 1 := by omega
      rcases this with h | h <;> simp [h]
    rw [hr]
    have h2 : j / 2 < (List.replicate n noLn).length := by rw [List.length_replicate]; omega
    rcases (show j = j / 2 * 2 ∨ j = j / 2 * 2 + 1 by omega) with h | h
    · have := lnCells_0 (List.replicate n noLn) (j / 2) h2
      rw [← h] at this
      rw [this, List.getElem_replicate]; rfl
    · have := lnCells_1 (List.replicate n noLn) (j / 2) h2
      rw [← h] at this
      rw [this, List.getElem_replicate]; rfl
  · rw [List.getElem?_eq_none (by simp only [Array.length_toList, size_madeCells]; omega), List.getElem?_eq_none (by omega)]

/-- one line put into a list -/
theorem LinesIs.store2 {w : World} {v : Value} {g : Nat} {l : List Ln} (h : LinesIs w v g 0 l) (j : Nat) (hj : j < l.length) (x : Ln) : LinesIs ((w.setCell ⟨g, j * 2, none⟩ (.string x.1)).setCell ⟨g, j * 2 + 1, none⟩ (.string x.2)) v g 0 (l.set j x) := by
  obtain ⟨⟨⟨a, cap, rfl, ha⟩, h0, h1⟩, hf⟩ := h
  have z0 := fun i hi => h0 i hi
  have z1 := fun i hi => h1 i hi
  simp only [Nat.zero_add] at z0 z1
  have s1 : (w.setCell ⟨g, j * 2, none⟩ (.string x.1)).cell? ⟨g, j * 2 + 1, none⟩ = some (.string l[j].2) := (World.cell?_setCell_other _ _ _ _ (by intro e; injection e; omega)).trans (z1 j hj)
  refine ⟨⟨⟨a, cap, by rw [List.length_set], fun _ => ha (by intro e; subst e; simp at hj)⟩, fun i hi => ?_, fun i hi => ?_⟩, fun i hi => ?_⟩
  · rw [List.length_set] at hi
    rw [Nat.zero_add, World.cell?_setCell_other _ _ _ _ (by intro e; injection e; omega)]
    by_cases e : j = i
    · subst e
      rw [World.cell?_setCell_same _ _ _ (z0 j hj)]
      simp
    · rw [World.cell?_setCell_other _ _ _ _ (by intro h2; injection h2; omega), z0 i hi]
      simp [e]
  · rw [List.length_set] at hi
    rw [Nat.zero_add]
    by_cases e : j = i
    · subst e
      rw [World.cell?_setCell_same _ _ _ s1]
      simp
    · rw [World.cell?_setCell_other _ _ _ _ (by intro h2; injection h2; omega), World.cell?_setCell_other _ _ _ _ (by intro h2; injection h2; omega), z1 i hi]
      simp [e]
  · rw [List.length_set] at hi
    rw [World.frozen?_setCell, World.frozen?_setCell]
    exact hf i hi

/-- the first k of one list, and of the other what follows -/
def mixL (l m : List Ln) (k : Nat) : List Ln := l.take k ++ m.drop k
theorem mixL_length {l m : List Ln} {k : Nat} (h : l.length = m.length) (hk : k ≤ l.length) : (mixL l m k).length = l.length := by simp [mixL]; omega
theorem mixL_set {l m : List Ln} {k : Nat} (h : l.length = m.length) (hk : k < l.length) : (mixL l m k).set k l[k] = mixL l m (k + 1) := by
  unfold mixL
  have hm : k < m.length := by omega
  rw [List.set_append_right _ _ (by simp; omega), List.drop_eq_getElem_cons (l := m) hm, List.take_succ_eq_append_getElem hk]
  rw [show k - (List.take k l).length = 0 from by simp; omega, List.set_cons_zero, List.append_assoc]
  rfl

/-- a list of lines that the call itself made -/
def NewLines (w : World) (l : List Ln) (e : Ending) (w' : World) : Prop := ∃ v g, e = .returned v ∧ LinesIs w' v g 0 l ∧ w.heap.size ≤ g ∧ Below w.heap.size w w'

/-! how large they are -/
def costL (l : List Ln) : Nat := l.length + (l.map (fun x => x.1.size + x.2.size)).sum
theorem costL_nil : costL [] = 0 := rfl
theorem costL_take_succ (l : List Ln) (k : Nat) (h : k < l.length) : costL (l.take (k + 1)) = costL (l.take k) + 1 + l[k].1.size + l[k].2.size := by
  rw [List.take_succ_eq_append_getElem h]
  simp only [costL, List.length_append, List.map_append, List.sum_append, List.map_cons, List.map_nil, List.sum_cons, List.sum_nil, List.length_cons, List.length_nil]
  omega
theorem costL_take (l : List Ln) (k : Nat) (h : k ≤ l.length) : costL (l.take k) + (l.length - k) ≤ costL l := by
  have h1 : costL l = costL (l.take k) + costL (l.drop k) := by
    conv => lhs; rw [← List.take_append_drop k l]
    simp only [costL, List.length_append, List.map_append, List.sum_append]
    omega
  have h2 : l.length - k ≤ costL (l.drop k) := by unfold costL; rw [List.length_drop]; omega
  omega
theorem costL_at (l : List Ln) (k : Nat) (h : k < l.length) : l[k].1.size + l[k].2.size + l.length ≤ costL l := by
  have h1 := costL_take_succ l k h
  have h2 := costL_take l (k + 1) h
  have h3 : k ≤ costL (l.take k) := by unfold costL; rw [List.length_take]; omega
  omega

/-- what is left of a bound behind a list: -1 where it is too large -/
def SzOf (c : Nat) (left : Int) (z : Int) : Prop := (z = -1 ∧ left < (c : Int)) ∨ (0 ≤ z ∧ z + (c : Int) = left)
/-! marks -/
theorem LinesIs.storeT {w : World} {v : Value} {g o : Nat} {l : List Ln} (h : LinesIs w v g o l) (j : Nat) (hj : j < l.length) (x : ByteArray) : LinesIs (w.setCell ⟨g, o + j * 2, none⟩ (.string x)) v g o (l.set j (x, l[j].2)) := by
  obtain ⟨⟨⟨a, cap, rfl, ha⟩, h0, h1⟩, hf⟩ := h
  refine ⟨⟨⟨a, cap, by rw [List.length_set], fun _ => ha (by intro e; subst e; simp at hj)⟩, fun i hi => ?_, fun i hi => ?_⟩, fun i hi => ?_⟩
  · rw [List.length_set] at hi
    by_cases e : j = i
    · subst e
      rw [World.cell?_setCell_same _ _ _ (h0 j hj)]
      simp
    · rw [World.cell?_setCell_other _ _ _ _ (by intro h2; injection h2; omega), h0 i hi]
      simp [e]
  · rw [List.length_set] at hi
    rw [World.cell?_setCell_other _ _ _ _ (by intro h2; injection h2; omega), h1 i hi]
    by_cases e : j = i
    · subst e; simp
    · simp [e]
  · rw [List.length_set] at hi
    rw [World.frozen?_setCell]
    exact hf i hi
theorem LinesIs.storeE {w : World} {v : Value} {g o : Nat} {l : List Ln} (h : LinesIs w v g o l) (j : Nat) (hj : j < l.length) (x : ByteArray) : LinesIs (w.setCell ⟨g, o + j * 2 + 1, none⟩ (.string x)) v g o (l.set j (l[j].1, x)) := by
  obtain ⟨⟨⟨a, cap, rfl, ha⟩, h0, h1⟩, hf⟩ := h
  refine ⟨⟨⟨a, cap, by rw [List.length_set], fun _ => ha (by intro e; subst e; simp at hj)⟩, fun i hi => ?_, fun i hi => ?_⟩, fun i hi => ?_⟩
  · rw [List.length_set] at hi
    rw [World.cell?_setCell_other _ _ _ _ (by intro h2; injection h2; omega), h0 i hi]
    by_cases e : j = i
    · subst e; simp
    · simp [e]
  · rw [List.length_set] at hi
    by_cases e : j = i
    · subst e
      rw [World.cell?_setCell_same _ _ _ (h1 j hj)]
      simp
    · rw [World.cell?_setCell_other _ _ _ _ (by intro h2; injection h2; omega), h1 i hi]
      simp [e]
  · rw [List.length_set] at hi
    rw [World.frozen?_setCell]
    exact hf i hi
/-- marked lines from k on -/
def markL (k : Nat) : Nat → List Ln
  | 0 => []
  | n + 1 => markL k n ++ [(markB (k + n * 2), markB (k + n * 2 + 1))]
theorem markL_length (k n : Nat) : (markL k n).length = n := by
  induction n with
  | zero => rfl
  | succ n ih => simp [markL, ih]
theorem markL_at (k n i : Nat) (h : i < n) : (markL k n)[i]'(by rw [markL_length]; exact h) = (markB (k + i * 2), markB (k + i * 2 + 1)) := by
  induction n with
  | zero => omega
  | succ n ih =>
    by_cases e : i = n
    · subst e
      simp [markL, markL_length]
    · have := ih (by omega)
      simp only [markL]
      rw [List.getElem_append_left (by rw [markL_length]; omega)]
      exact this
theorem markL_mix (k j : Nat) (l : List Ln) (h : j < l.length) : (markL k j ++ l.drop j).set j (markB (k + j * 2), markB (k + j * 2 + 1)) = markL k (j + 1) ++ l.drop (j + 1) := by
  rw [List.set_append_right _ _ (by rw [markL_length]; exact Nat.le_refl _), markL_length, Nat.sub_self, List.drop_eq_getElem_cons h, List.set_cons_zero]
  simp [markL]

end Go.Proofs.YtcphmgdeigbemaaDoor
