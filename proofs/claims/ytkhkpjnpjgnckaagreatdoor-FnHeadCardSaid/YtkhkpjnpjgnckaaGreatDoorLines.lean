/- Lists of lines in memory: how they are read, compared, copied and marked. -/
import Derived.Test.YtkhkpjnpjgnckaaGreatDoorProg
import Derived.Test.YtkhkpjnpjgnckaaGreatDoorPlain
import Derived.Test.YtkhkpjnpjgnckaaGreatDoorDec
import Derived.Test.YtkhkpjnpjgnckaaGreatDoorTexts
import Derived.WalkKit
import Derived.WalkLawsBesides
import Derived.BigQuiet
import Derived.Deep.QuietTactic
import Derived.Lib.QuietBelow
import Derived.Laws.IdiomStrings
import Derived.Lib.Hide
import Derived.IntWalk
import Derived.OwnWalk
namespace Go.Proofs.YtkhkpjnpjgnckaaGreatDoor
open Go.RowKit Go.Sort
set_option linter.unusedVariables false

/-- a line: its text and its end -/
abbrev Ln := ByteArray × ByteArray

/-- a list of lines, as a value and what it leads to -/
structure LinesRd (w : World) (v : Value) (g o : Nat) (l : List Ln) : Prop where
  form : ∃ (a : Option Addr) (cap : Nat), v = .slice a l.length cap ∧ (l ≠ [] → a = some ⟨g, o, none⟩)
  c0 : ∀ i (h : i < l.length), w.cell? ⟨g, o + i * 2, none⟩ = some (.string l[i].1)
  c1 : ∀ i (h : i < l.length), w.cell? ⟨g, o + i * 2 + 1, none⟩ = some (.string l[i].2)
/-- and none of its cells is frozen -/
structure LinesIs (w : World) (v : Value) (g o : Nat) (l : List Ln) : Prop extends LinesRd w v g o l where
  free : ∀ i, i < l.length * 2 → w.frozen? ⟨g, o + i, none⟩ = false
theorem LinesRd.kept {w w' : World} {v : Value} {g o : Nat} {l : List Ln} (h : LinesRd w v g o l) (hk : l ≠ [] → w'.heap[g]? = w.heap[g]?) : LinesRd w' v g o l :=
  ⟨h.form, fun i hi => (World.cell?_of_block (a := ⟨g, o + i * 2, none⟩) (hk (by intro e; subst e; simp at hi))).trans (h.c0 i hi),
    fun i hi => (World.cell?_of_block (a := ⟨g, o + i * 2 + 1, none⟩) (hk (by intro e; subst e; simp at hi))).trans (h.c1 i hi)⟩
theorem LinesIs.kept {w w' : World} {v : Value} {g o : Nat} {l : List Ln} (h : LinesIs w v g o l) (hk : l ≠ [] → w'.heap[g]? = w.heap[g]?) : LinesIs w' v g o l :=
  ⟨h.toLinesRd.kept hk, fun i hi => (World.frozen?_of_block (a := ⟨g, o + i, none⟩) (hk (by intro e; subst e; simp at hi))).trans (h.free i hi)⟩
theorem LinesRd.lt {w : World} {v : Value} {g o : Nat} {l : List Ln} (h : LinesRd w v g o l) (hl : l ≠ []) : g < w.heap.size := by
  have h0 : 0 < l.length := List.length_pos_iff.2 hl
  exact World.block_lt_of_cell? _ _ (h.c0 0 h0)
theorem LinesRd.below {B : Nat} {w w' : World} {v : Value} {g o : Nat} {l : List Ln} (h : LinesRd w v g o l) (hb : Below B w w') (hg : l ≠ [] → g < B) : LinesRd w' v g o l :=
  h.kept (fun hl => hb.block g (hg hl))
theorem LinesIs.below {B : Nat} {w w' : World} {v : Value} {g o : Nat} {l : List Ln} (h : LinesIs w v g o l) (hb : Below B w w') (hg : l ≠ [] → g < B) : LinesIs w' v g o l :=
  h.kept (fun hl => hb.block g (hg hl))

/-- the cells of a list of lines -/
def lnCells (l : List Ln) : List Value := l.flatMap (fun x => [.string x.1, .string x.2])
theorem lnCells_length (l : List Ln) : (lnCells l).length = l.length * 2 := by
  induction l with
  | nil => rfl
  | cons x l ih => simp only [lnCells, List.flatMap_cons, List.length_append, List.length_cons, List.length_nil] at *; omega
theorem lnCells_append (a b : List Ln) : lnCells (a ++ b) = lnCells a ++ lnCells b := by simp [lnCells]
theorem lnCells_0 (l : List Ln) (i : Nat) (h : i < l.length) : (lnCells l)[i * 2]? = some (.string l[i].1) := by
  induction l generalizing i with
  | nil => simp at h
  | cons x l ih =>
    cases i with
    | zero => simp [lnCells]
    | succ i =>
      have := ih i (by simpa using h)
      simp only [lnCells, List.flatMap_cons] at *
      rw [show (i + 1) * 2 = i * 2 + 2 from by omega]
      simpa using this
theorem lnCells_1 (l : List Ln) (i : Nat) (h : i < l.length) : (lnCells l)[i * 2 + 1]? = some (.string l[i].2) := by
  induction l generalizing i with
  | nil => simp at h
  | cons x l ih =>
    cases i with
    | zero => simp [lnCells]
    | succ i =>
      have := ih i (by simpa using h)
      simp only [lnCells, List.flatMap_cons] at *
      rw [show (i + 1) * 2 + 1 = i * 2 + 1 + 2 from by omega]
      simpa using this
theorem lnCells_one (l : List Ln) : ∀ u ∈ lnCells l, u.oneCell' = true := by
  intro u hu
  simp only [lnCells, List.mem_flatMap] at hu
  obtain ⟨x, _, hx⟩ := hu
  simp at hx
  rcases hx with rfl | rfl <;> rfl
/-- out of a row that the call itself made -/
theorem linesIs_of_owns {w : World} {base n : Nat} {v : Value} {l : List Ln} {t : Nat} (h : w.ownsRow base t 2 v n (lnCells l)) (hn : n = l.length) (hB : base ≤ w.heap.size) : ∃ g, LinesIs w v g 0 l ∧ base ≤ g := by
  subst hn
  rcases h.2 with ⟨hv, h0⟩ | ⟨g, cap, cur, hv, hb, hg, hnc, hcm, hcs, htake⟩
  · have hl : l = [] := List.eq_nil_of_length_eq_zero h0
    subst hl
    exact ⟨w.heap.size, ⟨⟨⟨none, 0, hv, fun h => absurd rfl h⟩, fun i hi => by simp at hi, fun i hi => by simp at hi⟩, fun i hi => by simp at hi⟩, hB⟩
  · subst hv
    have cell : ∀ j u, (lnCells l)[j]? = some u → w.cell? ⟨g, j, none⟩ = some u := by
      intro j u hu
      have := World.ownsRow.cells h (g := g) rfl j u hu
      have hadd : (⟨g, 0, none⟩ : Addr).add j = ⟨g, j, none⟩ := by unfold Addr.add; split <;> simp_all
      rwa [hadd] at this
    refine ⟨g, ⟨⟨⟨_, cap, rfl, fun _ => rfl⟩, fun i hi => ?_, fun i hi => ?_⟩, fun i hi => ?_⟩, hb⟩
    · rw [Nat.zero_add]; exact cell _ _ (lnCells_0 l i hi)
    · rw [Nat.zero_add]; exact cell _ _ (lnCells_1 l i hi)
    · rw [Nat.zero_add]; exact World.ownsRow.frozenAt h i

def lnV (x : Ln) : Value := .agg #[.string x.1, .string x.2]

theorem beq_texts (a b : ByteArray) : (a.toList == b.toList) = decide (a = b) := by
  by_cases h : a = b
  · subst h; simp
  · rw [show decide (a = b) = false by simpa using h, beq_eq_false_iff_ne]
    intro e
    apply h
    rw [Lib.toList_data, Lib.toList_data] at e
    exact ByteArray.ext (Array.toList_inj.1 e)

end Go.Proofs.YtkhkpjnpjgnckaaGreatDoor

/- Lists of lines that come in: their size, their copy; marks on lines. -/
namespace Go.Proofs.YtkhkpjnpjgnckaaGreatDoor
open Go.RowKit Go.Sort
set_option linter.unusedVariables false

theorem info_line : (Tryz.prog.info? 75).map (fun i => (i.zero, i.size, i.bytes)) = some (some (.agg #[.string ByteArray.empty, .string ByteArray.empty]), 2, 32) := by kernel_rfl
def noLn : Ln := (ByteArray.empty, ByteArray.empty)
theorem made_lines (n : Nat) : (madeCells (Value.cells (.agg #[.string ByteArray.empty, .string ByteArray.empty])) (n * 2)).toList = lnCells (List.replicate n noLn) := by
  have hl : (lnCells (List.replicate n noLn)).length = n * 2 := by rw [lnCells_length, List.length_replicate]
  apply List.ext_getElem?
  intro j
  by_cases hj : j < n * 2
  · have hr : (madeCells (Value.cells (.agg #[.string ByteArray.empty, .string ByteArray.empty])) (n * 2)).toList[j]? = some (.string ByteArray.empty) := by
      simp only [madeCells, Value.cells]
      rw [Array.getElem?_toList, Array.getElem?_map, Array.getElem?_range]
      rw [if_pos hj]
      have : j % 2 = 0 ∨ j % 2 = 1 := by omega
      rcases this with h | h <;> simp [h]
    rw [hr]
    have h2 : j / 2 < (List.replicate n noLn).length := by rw [List.length_replicate]; omega
    rcases (show j = j / 2 * 2 ∨ j = j / 2 * 2 + 1 by omega) with h | h
    · have := lnCells_0 (List.replicate n noLn) (j / 2) h2
      rw [← h] at this
      rw [this, List.getElem_replicate]; rfl
    · have := lnCells_1 (List.replicate n noLn) (j / 2) h2
      rw [← h] at this
      rw [this, List.getElem_replicate]; rfl
  · rw [List.getElem?_eq_none (by simp only [Array.length_toList, size_madeCells]; omega), List.getElem?_eq_none (by omega)]

/-- one line put into a list -/
theorem LinesIs.store2 {w : World} {v : Value} {g : Nat} {l : List Ln} (h : LinesIs w v g 0 l) (j : Nat) (hj : j < l.length) (x : Ln) : LinesIs ((w.setCell ⟨g, j * 2, none⟩ (.string x.1)).setCell ⟨g, j * 2 + 1, none⟩ (.string x.2)) v g 0 (l.set j x) := by
  obtain ⟨⟨⟨a, cap, rfl, ha⟩, h0, h1⟩, hf⟩ := h
  have z0 := fun i hi => h0 i hi
  have z1 := fun i hi => h1 i hi
  simp only [Nat.zero_add] at z0 z1
  have s1 : (w.setCell ⟨g, j * 2, none⟩ (.string x.1)).cell? ⟨g, j * 2 + 1, none⟩ = some (.string l[j].2) := (World.cell?_setCell_other _ _ _ _ (by intro e; injection e; omega)).trans (z1 j hj)
  refine ⟨⟨⟨a, cap, by rw [List.length_set], fun _ => ha (by intro e; subst e; simp at hj)⟩, fun i hi => ?_, fun i hi => ?_⟩, fun i hi => ?_⟩
  · rw [List.length_set] at hi
    rw [Nat.zero_add, World.cell?_setCell_other _ _ _ _ (by intro e; injection e; omega)]
    by_cases e : j = i
    · subst e
      rw [World.cell?_setCell_same _ _ _ (z0 j hj)]
      simp
    · rw [World.cell?_setCell_other _ _ _ _ (by intro h2; injection h2; omega), z0 i hi]
      simp [e]
  · rw [List.length_set] at hi
    rw [Nat.zero_add]
    by_cases e : j = i
    · subst e
      rw [World.cell?_setCell_same _ _ _ s1]
      simp
    · rw [World.cell?_setCell_other _ _ _ _ (by intro h2; injection h2; omega), World.cell?_setCell_other _ _ _ _ (by intro h2; injection h2; omega), z1 i hi]
      simp [e]
  · rw [List.length_set] at hi
    rw [World.frozen?_setCell, World.frozen?_setCell]
    exact hf i hi

/-- the first k of one list, and of the other what follows -/
def mixL (l m : List Ln) (k : Nat) : List Ln := l.take k ++ m.drop k
theorem mixL_length {l m : List Ln} {k : Nat} (h : l.length = m.length) (hk : k ≤ l.length) : (mixL l m k).length = l.length := by simp [mixL]; omega
theorem mixL_set {l m : List Ln} {k : Nat} (h : l.length = m.length) (hk : k < l.length) : (mixL l m k).set k l[k] = mixL l m (k + 1) := by
  unfold mixL
  have hm : k < m.length := by omega
  rw [List.set_append_right _ _ (by simp; omega), List.drop_eq_getElem_cons (l := m) hm, List.take_succ_eq_append_getElem hk]
  rw [show k - (List.take k l).length = 0 from by simp; omega, List.set_cons_zero, List.append_assoc]
  rfl

/-- a list of lines that the call itself made -/
def NewLines (w : World) (l : List Ln) (e : Ending) (w' : World) : Prop := ∃ v g, e = .returned v ∧ LinesIs w' v g 0 l ∧ w.heap.size ≤ g ∧ Below w.heap.size w w'

/-! how large they are -/
def costL (l : List Ln) : Nat := l.length + (l.map (fun x => x.1.size + x.2.size)).sum
theorem costL_nil : costL [] = 0 := rfl
theorem costL_take_succ (l : List Ln) (k : Nat) (h : k < l.length) : costL (l.take (k + 1)) = costL (l.take k) + 1 + l[k].1.size + l[k].2.size := by
  rw [List.take_succ_eq_append_getElem h]
  simp only [costL, List.length_append, List.map_append, List.sum_append, List.map_cons, List.map_nil, List.sum_cons, List.sum_nil, List.length_cons, List.length_nil]
  omega
theorem costL_take (l : List Ln) (k : Nat) (h : k ≤ l.length) : costL (l.take k) + (l.length - k) ≤ costL l := by
  have h1 : costL l = costL (l.take k) + costL (l.drop k) := by
    conv => lhs; rw [← List.take_append_drop k l]
    simp only [costL, List.length_append, List.map_append, List.sum_append]
    omega
  have h2 : l.length - k ≤ costL (l.drop k) := by unfold costL; rw [List.length_drop]; omega
  omega
theorem costL_at (l : List Ln) (k : Nat) (h : k < l.length) : l[k].1.size + l[k].2.size + l.length ≤ costL l := by
  have h1 := costL_take_succ l k h
  have h2 := costL_take l (k + 1) h
  have h3 : k ≤ costL (l.take k) := by unfold costL; rw [List.length_take]; omega
  omega

/-- what is left of a bound behind a list: -1 where it is too large -/
def SzOf (c : Nat) (left : Int) (z : Int) : Prop := (z = -1 ∧ left < (c : Int)) ∨ (0 ≤ z ∧ z + (c : Int) = left)
/-! marks -/
theorem LinesIs.storeT {w : World} {v : Value} {g o : Nat} {l : List Ln} (h : LinesIs w v g o l) (j : Nat) (hj : j < l.length) (x : ByteArray) : LinesIs (w.setCell ⟨g, o + j * 2, none⟩ (.string x)) v g o (l.set j (x, l[j].2)) := by
  obtain ⟨⟨⟨a, cap, rfl, ha⟩, h0, h1⟩, hf⟩ := h
  refine ⟨⟨⟨a, cap, by rw [List.length_set], fun _ => ha (by intro e; subst e; simp at hj)⟩, fun i hi => ?_, fun i hi => ?_⟩, fun i hi => ?_⟩
  · rw [List.length_set] at hi
    by_cases e : j = i
    · subst e
      rw [World.cell?_setCell_same _ _ _ (h0 j hj)]
      simp
    · rw [World.cell?_setCell_other _ _ _ _ (by intro h2; injection h2; omega), h0 i hi]
      simp [e]
  · rw [List.length_set] at hi
    rw [World.cell?_setCell_other _ _ _ _ (by intro h2; injection h2; omega), h1 i hi]
    by_cases e : j = i
    · subst e; simp
    · simp [e]
  · rw [List.length_set] at hi
    rw [World.frozen?_setCell]
    exact hf i hi
theorem LinesIs.storeE {w : World} {v : Value} {g o : Nat} {l : List Ln} (h : LinesIs w v g o l) (j : Nat) (hj : j < l.length) (x : ByteArray) : LinesIs (w.setCell ⟨g, o + j * 2 + 1, none⟩ (.string x)) v g o (l.set j (l[j].1, x)) := by
  obtain ⟨⟨⟨a, cap, rfl, ha⟩, h0, h1⟩, hf⟩ := h
  refine ⟨⟨⟨a, cap, by rw [List.length_set], fun _ => ha (by intro e; subst e; simp at hj)⟩, fun i hi => ?_, fun i hi => ?_⟩, fun i hi => ?_⟩
  · rw [List.length_set] at hi
    rw [World.cell?_setCell_other _ _ _ _ (by intro h2; injection h2; omega), h0 i hi]
    by_cases e : j = i
    · subst e; simp
    · simp [e]
  · rw [List.length_set] at hi
    by_cases e : j = i
    · subst e
      rw [World.cell?_setCell_same _ _ _ (h1 j hj)]
      simp
    · rw [World.cell?_setCell_other _ _ _ _ (by intro h2; injection h2; omega), h1 i hi]
      simp [e]
  · rw [List.length_set] at hi
    rw [World.frozen?_setCell]
    exact hf i hi
/-- marked lines from k on -/
def markL (k : Nat) : Nat → List Ln
  | 0 => []
  | n + 1 => markL k n ++ [(markB (k + n * 2), markB (k + n * 2 + 1))]
theorem markL_length (k n : Nat) : (markL k n).length = n := by
  induction n with
  | zero => rfl
  | succ n ih => simp [markL, ih]
theorem markL_at (k n i : Nat) (h : i < n) : (markL k n)[i]'(by rw [markL_length]; exact h) = (markB (k + i * 2), markB (k + i * 2 + 1)) := by
  induction n with
  | zero => omega
  | succ n ih =>
    by_cases e : i = n
    · subst e
      simp [markL, markL_length]
    · have := ih (by omega)
      simp only [markL]
      rw [List.getElem_append_left (by rw [markL_length]; omega)]
      exact this
theorem markL_mix (k j : Nat) (l : List Ln) (h : j < l.length) : (markL k j ++ l.drop j).set j (markB (k + j * 2), markB (k + j * 2 + 1)) = markL k (j + 1) ++ l.drop (j + 1) := by
  rw [List.set_append_right _ _ (by rw [markL_length]; exact Nat.le_refl _), markL_length, Nat.sub_self, List.drop_eq_getElem_cons h, List.set_cons_zero]
  simp [markL]

end Go.Proofs.YtkhkpjnpjgnckaaGreatDoor

/- Lines, of lists of bytes alone. -/
namespace Go.Proofs.YtkhkpjnpjgnckaaGreatDoor
set_option linter.unusedVariables false

/-- the lines of what is left, where cur has been read of the first one -/
def splitL : List UInt8 → List UInt8 → List (List UInt8 × List UInt8)
  | [], cur => if cur = [] then [] else [(cur, [])]
  | c :: t, cur =>
    if c = 13 then
      match t with
      | d :: u => if d = 10 then (cur, [13, 10]) :: splitL u [] else (cur, [13]) :: splitL (d :: u) []
      | [] => [(cur, [13])]
    else if c = 10 then (cur, [10]) :: splitL t [] else splitL t (cur ++ [c])
def joinL (l : List (List UInt8 × List UInt8)) : List UInt8 := l.flatMap (fun x => x.1 ++ x.2)
theorem splitL_nil (cur : List UInt8) : splitL [] cur = if cur = [] then [] else [(cur, [])] := rfl
theorem splitL_two (t cur : List UInt8) : splitL (13 :: 10 :: t) cur = (cur, [13, 10]) :: splitL t [] := by
  rw [splitL.eq_def]; simp
theorem splitL_cr (t cur : List UInt8) (h : t[0]? ≠ some 10) : splitL (13 :: t) cur = (cur, [13]) :: splitL t [] := by
  rw [splitL.eq_def]
  cases t with
  | nil => simp [splitL]
  | cons d u =>
    have : d ≠ 10 := fun e => h (by simp [e])
    simp [this]
theorem splitL_lf (t cur : List UInt8) : splitL (10 :: t) cur = (cur, [10]) :: splitL t [] := by
  rw [splitL.eq_def]; simp
theorem splitL_on (c : UInt8) (t cur : List UInt8) (h1 : c ≠ 13) (h2 : c ≠ 10) : splitL (c :: t) cur = splitL t (cur ++ [c]) := by
  rw [splitL.eq_def]; simp [h1, h2]

/-- by the way that splitL goes -/
theorem splitInd {P : List UInt8 → List UInt8 → Prop} (h0 : ∀ cur, P [] cur) (h1 : ∀ t cur, P t [] → P (13 :: 10 :: t) cur) (h2 : ∀ t cur, t[0]? ≠ some 10 → P t [] → P (13 :: t) cur) (h3 : ∀ t cur, P t [] → P (10 :: t) cur)
    (h4 : ∀ c t cur, c ≠ 13 → c ≠ 10 → P t (cur ++ [c]) → P (c :: t) cur) (l cur : List UInt8) : P l cur := by
  have key : ∀ n (l : List UInt8), l.length = n → ∀ cur, P l cur := by
    intro n
    induction n using Nat.strongRecOn with
    | _ n ih =>
      intro l hl cur
      cases l with
      | nil => exact h0 cur
      | cons c t =>
        simp only [List.length_cons] at hl
        by_cases e1 : c = 13
        · subst e1
          by_cases e2 : t[0]? = some 10
          · cases t with
            | nil => simp at e2
            | cons d u =>
              simp at e2
              subst e2
              simp only [List.length_cons] at hl
              exact h1 u cur (ih u.length (by omega) u rfl [])
          · exact h2 t cur e2 (ih t.length (by omega) t rfl [])
        · by_cases e2 : c = 10
          · subst e2
            exact h3 t cur (ih t.length (by omega) t rfl [])
          · exact h4 c t cur e1 e2 (ih t.length (by omega) t rfl _)
  exact key l.length l rfl cur

theorem joinL_cons (x : List UInt8 × List UInt8) (l : List (List UInt8 × List UInt8)) : joinL (x :: l) = x.1 ++ x.2 ++ joinL l := by simp [joinL]
theorem joinL_append (a b : List (List UInt8 × List UInt8)) : joinL (a ++ b) = joinL a ++ joinL b := by simp [joinL]
/-- lines put together are the file -/
theorem join_split (l cur : List UInt8) : joinL (splitL l cur) = cur ++ l := by
  induction l, cur using splitInd with
  | h0 cur =>
    rw [splitL_nil]
    split
    · rename_i h; subst h; rfl
    · simp [joinL]
  | h1 t cur ih => rw [splitL_two, joinL_cons, ih]; simp
  | h2 t cur h ih => rw [splitL_cr t cur h, joinL_cons, ih]; simp
  | h3 t cur ih => rw [splitL_lf, joinL_cons, ih]; simp
  | h4 c t cur e1 e2 ih => rw [splitL_on c t cur e1 e2, ih]; simp
/-- every line but the last has an end -/
theorem split_ends (l cur : List UInt8) : ∀ i, i + 1 < (splitL l cur).length → ∀ x, (splitL l cur)[i]? = some x → x.2 ≠ [] := by
  have step : ∀ (e cur t : List UInt8), e ≠ [] → (∀ i, i + 1 < (splitL t []).length → ∀ x, (splitL t [])[i]? = some x → x.2 ≠ []) → ∀ i, i + 1 < ((cur, e) :: splitL t []).length → ∀ x, ((cur, e) :: splitL t [])[i]? = some x → x.2 ≠ [] := by
    intro e cur t he ih i hi x hx
    cases i with
    | zero => simp at hx; subst hx; exact he
    | succ i => exact ih i (by simp at hi; omega) x (by simpa using hx)
  induction l, cur using splitInd with
  | h0 cur =>
    rw [splitL_nil]
    intro i hi
    exfalso
    split at hi
    · simp at hi
    · simp at hi
  | h1 t cur ih => rw [splitL_two]; exact step _ _ _ (by simp) ih
  | h2 t cur h ih => rw [splitL_cr t cur h]; exact step _ _ _ (by simp) ih
  | h3 t cur ih => rw [splitL_lf]; exact step _ _ _ (by simp) ih
  | h4 c t cur e1 e2 ih => rw [splitL_on c t cur e1 e2]; exact ih
/-- with a line end between, the lines of the one and then of the other -/
theorem split_halves (l t cur : List UInt8) : splitL (l ++ 124 :: 10 :: t) cur = splitL (l ++ [124, 10]) cur ++ splitL t [] := by
  induction l, cur using splitInd with
  | h0 cur =>
    rw [List.nil_append, List.nil_append, splitL_on 124 _ _ (by decide) (by decide), splitL_on 124 _ _ (by decide) (by decide), splitL_lf, splitL_lf, splitL_nil]
    simp
  | h1 u cur ih => rw [List.cons_append, List.cons_append, List.cons_append, List.cons_append, splitL_two, splitL_two, ih]; simp
  | h2 u cur h ih =>
    have e : ∀ v : List UInt8, (u ++ 124 :: 10 :: v)[0]? ≠ some 10 := by
      intro v
      cases u with
      | nil => simp
      | cons d u => simpa using h
    rw [List.cons_append, List.cons_append, splitL_cr _ _ (e t), splitL_cr _ _ (e []), ih]; simp
  | h3 u cur ih => rw [List.cons_append, List.cons_append, splitL_lf, splitL_lf, ih]; simp
  | h4 c u cur e1 e2 ih => rw [List.cons_append, List.cons_append, splitL_on c _ _ e1 e2, splitL_on c _ _ e1 e2, ih]
theorem split_last (l cur : List UInt8) : ∃ a x, splitL (l ++ [124, 10]) cur = a ++ [(x, [10])] := by
  induction l, cur using splitInd with
  | h0 cur =>
    refine ⟨[], cur ++ [124], ?_⟩
    rw [List.nil_append, splitL_on 124 _ _ (by decide) (by decide), splitL_lf, splitL_nil]; simp
  | h1 u cur ih => obtain ⟨a, x, h⟩ := ih; exact ⟨(cur, [13, 10]) :: a, x, by rw [List.cons_append, List.cons_append, splitL_two, h]; simp⟩
  | h2 u cur hu ih =>
    obtain ⟨a, x, h⟩ := ih
    refine ⟨(cur, [13]) :: a, x, ?_⟩
    rw [List.cons_append, splitL_cr _ _ (by cases u with
      | nil => simp
      | cons d u => simpa using hu), h]; simp
  | h3 u cur ih => obtain ⟨a, x, h⟩ := ih; exact ⟨(cur, [10]) :: a, x, by rw [List.cons_append, splitL_lf, h]; simp⟩
  | h4 c u cur e1 e2 ih => obtain ⟨a, x, h⟩ := ih; exact ⟨a, x, by rw [List.cons_append, splitL_on c _ _ e1 e2, h]⟩
/-- no more lines than bytes -/
theorem split_few (l cur : List UInt8) : (splitL l cur).length ≤ l.length + cur.length := by
  induction l, cur using splitInd with
  | h0 cur =>
    rw [splitL_nil]
    split
    · simp
    · rename_i h; have := List.length_pos_iff.2 h; simp; omega
  | h1 t cur ih => rw [splitL_two]; simp at *; omega
  | h2 t cur h ih => rw [splitL_cr t cur h]; simp at *; omega
  | h3 t cur ih => rw [splitL_lf]; simp at *; omega
  | h4 c t cur e1 e2 ih => rw [splitL_on c t cur e1 e2]; simp at *; omega

/-! the end that most lines have -/
def timesE (l : List (List UInt8 × List UInt8)) (e : List UInt8) : Nat := (l.filter (fun x => x.2 == e)).length
def bestTo (l : List (List UInt8 × List UInt8)) : List (List UInt8 × List UInt8) → List UInt8 × Nat → List UInt8 × Nat
  | [], b => b
  | x :: t, b => bestTo l t (if x.2 ≠ [] ∧ b.2 < timesE l x.2 then (x.2, timesE l x.2) else b)
def endL (l : List (List UInt8 × List UInt8)) : List UInt8 := (bestTo l l ([10], 0)).1
theorem bestTo_is (l : List (List UInt8 × List UInt8)) (m : List (List UInt8 × List UInt8)) (b : List UInt8 × Nat) (hm : ∀ x ∈ m, x ∈ l) :
    ((bestTo l m b).1 = b.1 ∧ (∀ x ∈ m, x.2 = [] ∨ timesE l x.2 ≤ b.2)) ∨ ∃ x ∈ m, x.2 = (bestTo l m b).1 := by
  induction m generalizing b with
  | nil => exact .inl ⟨rfl, fun x hx => by cases hx⟩
  | cons y m ih =>
    rw [bestTo]
    have hm' : ∀ x ∈ m, x ∈ l := fun x hx => hm x (List.mem_cons_of_mem _ hx)
    by_cases hc : y.2 ≠ [] ∧ b.2 < timesE l y.2
    · rw [if_pos hc]
      rcases ih (y.2, timesE l y.2) hm' with ⟨h1, _⟩ | ⟨x, hx, h⟩
      · exact .inr ⟨y, List.mem_cons_self, h1.symm⟩
      · exact .inr ⟨x, List.mem_cons_of_mem _ hx, h⟩
    · rw [if_neg hc]
      rcases ih b hm' with ⟨h1, h2⟩ | ⟨x, hx, h⟩
      · refine .inl ⟨h1, fun x hx => ?_⟩
        rcases List.mem_cons.1 hx with rfl | hx
        · by_cases e : x.2 = []
          · exact .inl e
          · exact .inr (by rcases Nat.lt_or_ge b.2 (timesE l x.2) with q | q
                           · exact absurd ⟨e, q⟩ hc
                           · exact q)
        · exact h2 x hx
      · exact .inr ⟨x, List.mem_cons_of_mem _ hx, h⟩
/-- it is there, or there is none and it is a newline -/
theorem endL_is (l : List (List UInt8 × List UInt8)) : (∃ x ∈ l, x.2 = endL l) ∨ ((∀ x ∈ l, x.2 = []) ∧ endL l = [10]) := by
  rcases bestTo_is l l ([10], 0) (fun x hx => hx) with ⟨h1, h2⟩ | h
  · refine .inr ⟨fun x hx => ?_, h1⟩
    rcases h2 x hx with h | h
    · exact h
    · exfalso
      have : 0 < timesE l x.2 := by
        unfold timesE
        exact List.length_pos_of_mem (List.mem_filter.2 ⟨hx, by simp⟩)
      simp at h
      omega
  · exact .inl h

end Go.Proofs.YtkhkpjnpjgnckaaGreatDoor
