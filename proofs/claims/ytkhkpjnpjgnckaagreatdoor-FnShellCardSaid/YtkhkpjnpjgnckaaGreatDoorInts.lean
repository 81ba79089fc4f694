/- Lists of numbers in memory: how they are read, compared, copied and marked. -/
import Derived.Test.YtkhkpjnpjgnckaaGreatDoorProg
import Derived.Test.YtkhkpjnpjgnckaaGreatDoorPlain
import Derived.WalkKit
import Derived.WalkLawsBesides
import Derived.OwnWalk
import Derived.BigQuiet
import Derived.Deep.QuietTactic
import Derived.Lib.QuietBelow
import Derived.Laws.IdiomStrings
import Derived.Lib.Hide
import Derived.IntWalk
namespace Go.Proofs.YtkhkpjnpjgnckaaGreatDoor
open Go.RowKit Go.Sort
set_option linter.unusedVariables false

/-- a list of numbers, as a value and what it leads to -/
structure IntsRd (w : World) (v : Value) (g o : Nat) (l : List Int) : Prop where
  form : ∃ (a : Option Addr) (cap : Nat), v = .slice a l.length cap ∧ (l ≠ [] → a = some ⟨g, o, none⟩)
  cell : ∀ i (h : i < l.length), w.cell? ⟨g, o + i, none⟩ = some (.int .i64 l[i])
/-- and none of its cells is frozen -/
structure IntsIs (w : World) (v : Value) (g o : Nat) (l : List Int) : Prop extends IntsRd w v g o l where
  free : ∀ i, i < l.length → w.frozen? ⟨g, o + i, none⟩ = false
theorem IntsRd.kept {w w' : World} {v : Value} {g o : Nat} {l : List Int} (h : IntsRd w v g o l) (hk : l ≠ [] → w'.heap[g]? = w.heap[g]?) : IntsRd w' v g o l :=
  ⟨h.form, fun i hi => (World.cell?_of_block (a := ⟨g, o + i, none⟩) (hk (by intro e; subst e; simp at hi))).trans (h.cell i hi)⟩
theorem IntsIs.kept {w w' : World} {v : Value} {g o : Nat} {l : List Int} (h : IntsIs w v g o l) (hk : l ≠ [] → w'.heap[g]? = w.heap[g]?) : IntsIs w' v g o l :=
  ⟨h.toIntsRd.kept hk, fun i hi => (World.frozen?_of_block (a := ⟨g, o + i, none⟩) (hk (by intro e; subst e; simp at hi))).trans (h.free i hi)⟩
theorem IntsRd.lt {w : World} {v : Value} {g o : Nat} {l : List Int} (h : IntsRd w v g o l) (hl : l ≠ []) : g < w.heap.size := by
  have h0 : 0 < l.length := List.length_pos_iff.2 hl
  exact World.block_lt_of_cell? _ _ (h.cell 0 h0)
theorem IntsRd.below {B : Nat} {w w' : World} {v : Value} {g o : Nat} {l : List Int} (h : IntsRd w v g o l) (hb : Below B w w') (hg : l ≠ [] → g < B) : IntsRd w' v g o l :=
  h.kept (fun hl => hb.block g (hg hl))
theorem IntsIs.below {B : Nat} {w w' : World} {v : Value} {g o : Nat} {l : List Int} (h : IntsIs w v g o l) (hb : Below B w w') (hg : l ≠ [] → g < B) : IntsIs w' v g o l :=
  h.kept (fun hl => hb.block g (hg hl))
/-- over what happens above -/
theorem IntsRd.over {w w' : World} {v : Value} {g o : Nat} {l : List Int} (h : IntsRd w v g o l) (hb : Below w.heap.size w w') : IntsRd w' v g o l := h.below hb (fun hl => h.lt hl)
theorem IntsIs.over {w w' : World} {v : Value} {g o : Nat} {l : List Int} (h : IntsIs w v g o l) (hb : Below w.heap.size w w') : IntsIs w' v g o l := h.below hb (fun hl => h.toIntsRd.lt hl)
theorem IntsRd.nil (w : World) (v : Value) (a : Option Addr) (cap g o : Nat) (h : v = .slice a 0 cap) : IntsRd w v g o [] :=
  ⟨⟨a, cap, h, fun h => absurd rfl h⟩, fun i hi => by simp at hi⟩
theorem IntsIs.nil (w : World) (v : Value) (a : Option Addr) (cap g o : Nat) (h : v = .slice a 0 cap) : IntsIs w v g o [] :=
  ⟨IntsRd.nil w v a cap g o h, fun i hi => by simp at hi⟩

def intCells (l : List Int) : List Value := l.map (fun x => Value.int .i64 x)
theorem intCells_length (l : List Int) : (intCells l).length = l.length := by simp [intCells]
theorem intCells_append (a b : List Int) : intCells (a ++ b) = intCells a ++ intCells b := by simp [intCells]
/-- out of a row that the call itself made -/
theorem intsIs_of_owns {w : World} {base n : Nat} {v : Value} {l : List Int} {t : Nat} (h : w.ownsRow base t 1 v n (intCells l)) (hn : n = l.length) (hB : base ≤ w.heap.size) : ∃ g, IntsIs w v g 0 l ∧ base ≤ g := by
  subst hn
  rcases h.2 with ⟨hv, h0⟩ | ⟨g, cap, cur, hv, hb, hg, hnc, hcm, hcs, htake⟩
  · have hl : l = [] := List.eq_nil_of_length_eq_zero h0
    subst hl
    exact ⟨w.heap.size, IntsIs.nil w v none 0 _ _ hv, hB⟩
  · subst hv
    refine ⟨g, ⟨⟨⟨_, cap, rfl, fun _ => rfl⟩, fun i hi => ?_⟩, fun i hi => ?_⟩, hb⟩
    · rw [Nat.zero_add, World.ownsRow.cellAt h i (by omega)]
      simp [intCells, hi]
    · rw [Nat.zero_add]; exact World.ownsRow.frozenAt h i

theorem ints_ne (x y : Int) (h : x ≠ y) : (x != y) = true := by simpa using h

theorem info_int : (Tryz.prog.info? 3).map (fun i => (i.zero, i.size, i.bytes)) = some (some (.int .i64 0), 1, 8) := by kernel_rfl
theorem made_ints (n : Nat) : (madeCells (Value.cells (.int .i64 0)) (n * 1)).toList = intCells (List.replicate n 0) := by
  simp [Value.cells, toList_madeCells_one, intCells]

/-- one number put into a list -/
theorem IntsIs.store {w : World} {v : Value} {g : Nat} {l : List Int} (h : IntsIs w v g 0 l) (j : Nat) (hj : j < l.length) (x : Int) : IntsIs (w.setCell ⟨g, j, none⟩ (.int .i64 x)) v g 0 (l.set j x) := by
  obtain ⟨⟨⟨a, cap, rfl, ha⟩, hc⟩, hf⟩ := h
  simp only [Nat.zero_add] at hc hf
  refine ⟨⟨⟨a, cap, by rw [List.length_set], fun _ => ha (by intro e; subst e; simp at hj)⟩, fun i hi => ?_⟩, fun i hi => ?_⟩
  · rw [List.length_set] at hi
    rw [Nat.zero_add]
    by_cases e : j = i
    · subst e
      rw [World.cell?_setCell_same _ _ _ (hc j hj)]
      simp
    · rw [World.cell?_setCell_other _ _ _ _ (by intro h2; apply e; cases h2; rfl), hc i hi]
      simp [e]
  · rw [List.length_set] at hi
    rw [Nat.zero_add, World.frozen?_setCell]
    exact hf i hi

/-- the first k of one list, and of the other what follows -/
def mixI (l m : List Int) (k : Nat) : List Int := l.take k ++ m.drop k
theorem mixI_length {l m : List Int} {k : Nat} (h : l.length = m.length) (hk : k ≤ l.length) : (mixI l m k).length = l.length := by simp [mixI]; omega
theorem mixI_set {l m : List Int} {k : Nat} (h : l.length = m.length) (hk : k < l.length) : (mixI l m k).set k l[k] = mixI l m (k + 1) := by
  unfold mixI
  have hm : k < m.length := by omega
  rw [List.set_append_right _ _ (by simp; omega), List.drop_eq_getElem_cons (l := m) hm, List.take_succ_eq_append_getElem hk]
  rw [show k - (List.take k l).length = 0 from by simp; omega, List.set_cons_zero, List.append_assoc]
  rfl
theorem mixI_all {l m : List Int} (h : l.length = m.length) : mixI l m l.length = l := by
  unfold mixI
  rw [List.take_length, List.drop_of_length_le (by omega), List.append_nil]

/-- a list of numbers that the call itself made -/
def NewInts (w : World) (l : List Int) (e : Ending) (w' : World) : Prop := ∃ v g, e = .returned v ∧ IntsIs w' v g 0 l ∧ w.heap.size ≤ g ∧ Below w.heap.size w w'

/-- numbers from k on -/
def countI (k : Nat) (n : Nat) : List Int := (List.range n).map (fun i => ((k + i : Nat) : Int))
theorem countI_length (k n : Nat) : (countI k n).length = n := by simp [countI]
theorem countI_at (k n i : Nat) (h : i < (countI k n).length) : (countI k n)[i] = ((k + i : Nat) : Int) := by simp [countI]

theorem grown_setI (W : World) (b o : Nat) (v : Value) : W.grownBy (W.setCell ⟨b, o, none⟩ v) (some b) :=
  ⟨rfl, rfl, rfl, by simp, fun k _ hk => Below.heap_setCell _ _ _ k (fun e => hk (by rw [e]))⟩
theorem grown_stepI {a w w' : World} {row : Option Nat} (h : a.grownBy w row) (k : w.grownBy w' row) : a.grownBy w' row :=
  ⟨k.os.trans h.os, k.tape.trans h.tape, k.output.trans h.output, Nat.le_trans h.size k.size, fun i hi hne => (k.block i (Nat.lt_of_lt_of_le hi h.size) hne).trans (h.block i hi hne)⟩
theorem below_of_grownI {B b : Nat} {w w' : World} (h : w.grownBy w' (some b)) (hb : B ≤ b) (hB : B ≤ w.heap.size) : Below B w w' :=
  ⟨h.os, h.tape, h.output, h.size, fun k hk => h.block k (by omega) (by intro e; cases e; omega)⟩

end Go.Proofs.YtkhkpjnpjgnckaaGreatDoor
