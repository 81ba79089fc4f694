/- Lists of texts in memory: how they are read, compared and marked. -/
import Derived.Test.YtkhkpjnpjgnckaaGreatDoorProg
import Derived.Test.YtkhkpjnpjgnckaaGreatDoorPlain
import Derived.Test.YtkhkpjnpjgnckaaGreatDoorDec
import Derived.WalkKit
import Derived.WalkLawsBesides
import Derived.BigQuiet
import Derived.Deep.QuietTactic
import Derived.Lib.QuietBelow
import Derived.Laws.IdiomStrings
import Derived.Lib.Hide
import Derived.IntWalk
namespace Go.Proofs.YtkhkpjnpjgnckaaGreatDoor
open Go.RowKit Go.Sort
set_option linter.unusedVariables false

/-- a list of texts, as a value and what it leads to -/
structure TextsIs (w : World) (v : Value) (g : Nat) (l : List ByteArray) : Prop where
  form : ∃ (a : Option Addr) (cap : Nat), v = .slice a l.length cap ∧ (l ≠ [] → a = some ⟨g, 0, none⟩)
  cell : ∀ i (h : i < l.length), w.cell? ⟨g, i, none⟩ = some (.string l[i])
  free : ∀ i, i < l.length → w.frozen? ⟨g, i, none⟩ = false
theorem TextsIs.kept {w w' : World} {v : Value} {g : Nat} {l : List ByteArray} (h : TextsIs w v g l) (hk : l ≠ [] → w'.heap[g]? = w.heap[g]?) : TextsIs w' v g l :=
  ⟨h.form, fun i hi => (World.cell?_of_block (a := ⟨g, i, none⟩) (hk (by intro e; subst e; simp at hi))).trans (h.cell i hi), fun i hi => (World.frozen?_of_block (a := ⟨g, i, none⟩) (hk (by intro e; subst e; simp at hi))).trans (h.free i hi)⟩
theorem TextsIs.lt {w : World} {v : Value} {g : Nat} {l : List ByteArray} (h : TextsIs w v g l) (hl : l ≠ []) : g < w.heap.size := by
  have h0 : 0 < l.length := List.length_pos_iff.2 hl
  exact World.block_lt_of_cell? _ _ (h.cell 0 h0)
theorem TextsIs.below {B : Nat} {w w' : World} {v : Value} {g : Nat} {l : List ByteArray} (h : TextsIs w v g l) (hb : Below B w w') (hg : l ≠ [] → g < B) : TextsIs w' v g l :=
  h.kept (fun hl => hb.block g (hg hl))
/-- out of a row that the call itself made -/
theorem textsIs_of_owns {w : World} {base n : Nat} {v : Value} {l : List ByteArray} {t : Nat} (h : w.ownsRow base t 1 v n (l.map Value.string)) (hn : n = l.length) (hB : base ≤ w.heap.size) : ∃ g, TextsIs w v g l ∧ base ≤ g := by
  subst hn
  rcases h.2 with ⟨hv, h0⟩ | ⟨g, cap, cur, hv, hb, hg, hnc, hcm, hcs, htake⟩
  · have hl : l = [] := List.eq_nil_of_length_eq_zero h0
    subst hl
    exact ⟨w.heap.size, ⟨⟨none, 0, hv, fun h => absurd rfl h⟩, fun i hi => by simp at hi, fun i hi => by simp at hi⟩, hB⟩
  · subst hv
    refine ⟨g, ⟨⟨_, cap, rfl, fun _ => rfl⟩, fun i hi => ?_, fun i hi => World.ownsRow.frozenAt h i⟩, hb⟩
    rw [World.ownsRow.cellAt h i (by omega)]
    simp [hi]


end Go.Proofs.YtkhkpjnpjgnckaaGreatDoor

/- The marks by which the exact laws hold lists of texts apart. -/
namespace Go.Proofs.YtkhkpjnpjgnckaaGreatDoor
open Go.RowKit Go.Sort
set_option linter.unusedVariables false

/-- the text of a mark -/
def markB (k : Nat) : ByteArray := ⟨(109 :: Lib.decDigits k).toArray⟩

theorem one_byte (W : World) (r : Nat) (hr : r < 10) : (convert 22 9 (.slice (some ⟨W.heap.size, 0, none⟩) 1 1)).run Tryz.prog (W.alloc (.cells #[.int .u8 (48 + (r : Int))] 5)) = .ok (.string ⟨#[digC r]⟩) (W.alloc (.cells #[.int .u8 (48 + (r : Int))] 5)) := by
  have hd : ((digC r).toNat : Int) = 48 + (r : Int) := by
    have key : ∀ r : Fin 10, (digC r.val).toNat = 48 + r.val := by decide +kernel
    have := key ⟨r, hr⟩
    simp only at this
    omega
  have h := run_convert_bytes_back (P := Tryz.prog) (W.alloc (.cells #[.int .u8 (48 + (r : Int))] 5)) 22 9 5 ⟨W.heap.size, 0, none⟩ 1 [digC r] Tryz.underlying22 Tryz.underlying5 Tryz.underlying9 (fun j hj => by
    have hj0 : j = 0 := by simp at hj; exact hj
    subst hj0
    have ha : (⟨W.heap.size, 0, none⟩ : Addr).add 0 = ⟨W.heap.size, 0, none⟩ := by unfold Addr.add; split <;> simp_all
    rw [ha]
    simp [hd])
  exact h

theorem TextsIs.store {w : World} {v : Value} {g : Nat} {l : List ByteArray} (h : TextsIs w v g l) (j : Nat) (hj : j < l.length) (x : ByteArray) : TextsIs (w.setCell ⟨g, j, none⟩ (.string x)) v g (l.set j x) := by
  obtain ⟨⟨a, cap, rfl, ha⟩, hc, hf⟩ := h
  refine ⟨⟨a, cap, by rw [List.length_set], fun _ => ha (by intro e; subst e; simp at hj)⟩, fun i hi => ?_, fun i hi => ?_⟩
  · rw [List.length_set] at hi
    by_cases e : j = i
    · subst e
      rw [World.cell?_setCell_same _ _ _ (hc j hj)]
      simp
    · rw [World.cell?_setCell_other _ _ _ _ (by intro h2; apply e; cases h2; rfl), hc i hi]
      simp [e]
  · rw [List.length_set] at hi
    rw [World.frozen?_setCell]
    exact hf i hi

/-- marks from k on -/
def marks (k : Nat) : Nat → List ByteArray
  | 0 => []
  | n + 1 => marks k n ++ [markB (k + n)]
theorem marks_length (k n : Nat) : (marks k n).length = n := by
  induction n with
  | zero => rfl
  | succ n ih => simp [marks, ih]
theorem marks_at (k n i : Nat) (h : i < n) : (marks k n)[i]'(by rw [marks_length]; exact h) = markB (k + i) := by
  induction n with
  | zero => omega
  | succ n ih =>
    by_cases e : i = n
    · subst e
      simp [marks, marks_length]
    · have := ih (by omega)
      simp only [marks]
      rw [List.getElem_append_left (by rw [marks_length]; omega)]
      exact this
theorem marks_mix (k j : Nat) (l : List ByteArray) (h : j < l.length) : (marks k j ++ l.drop j).set j (markB (k + j)) = marks k (j + 1) ++ l.drop (j + 1) := by
  rw [List.set_append_right _ _ (by rw [marks_length]; exact Nat.le_refl _), marks_length, Nat.sub_self, List.drop_eq_getElem_cons h, List.set_cons_zero]
  simp [marks]

theorem grown_set (W : World) (b o : Nat) (v : Value) : W.grownBy (W.setCell ⟨b, o, none⟩ v) (some b) :=
  ⟨rfl, rfl, rfl, by simp, fun k _ hk => Below.heap_setCell _ _ _ k (fun e => hk (by rw [e]))⟩
theorem grown_step {a w w' : World} {row : Option Nat} (h : a.grownBy w row) (k : w.grownBy w' row) : a.grownBy w' row :=
  ⟨k.os.trans h.os, k.tape.trans h.tape, k.output.trans h.output, Nat.le_trans h.size k.size, fun i hi hne => (k.block i (Nat.lt_of_lt_of_le hi h.size) hne).trans (h.block i hi hne)⟩
theorem grown_below {w w' : World} {row : Option Nat} (h : Below w.heap.size w w') : w.grownBy w' row :=
  ⟨h.os, h.tape, h.output, h.size, fun k hk _ => h.block k hk⟩
theorem below_of_grown {B b : Nat} {w w' : World} (h : w.grownBy w' (some b)) (hb : B ≤ b) (hB : B ≤ w.heap.size) : Below B w w' :=
  ⟨h.os, h.tape, h.output, h.size, fun k hk => h.block k (by omega) (by intro e; cases e; omega)⟩

end Go.Proofs.YtkhkpjnpjgnckaaGreatDoor
