/- The marks by which the exact laws hold lists of texts apart. -/
import Derived.Test.YtkhkpjnpjgnckaaDoorProg
import Derived.Test.YtkhkpjnpjgnckaaDoorPlain
import Derived.Test.YtkhkpjnpjgnckaaDoorDec
import Derived.Test.YtkhkpjnpjgnckaaDoorTexts
import Derived.WalkKit
import Derived.WalkLawsBesides
import Derived.BigQuiet
import Derived.Deep.QuietTactic
import Derived.Lib.QuietBelow
import Derived.Laws.IdiomStrings
import Derived.Lib.Hide
import Derived.IntWalk
namespace Go.Proofs.YtkhkpjnpjgnckaaDoor
open Go.RowKit Go.Sort
set_option linter.unusedVariables false

/-- the text of a mark -/
def markB (k : Nat) : ByteArray := ⟨(109 :: Lib.decDigits k).toArray⟩

theorem one_byte (W : World) (r : Nat) (hr : r < 10) : (convert 22 9 (.slice (some ⟨W.heap.size, 0, none⟩) 1 1)).run Tryd.prog (W.alloc (.cells #[.int .u8 (48 + (r : Int))] 5)) = .ok (.string ⟨#[digC r]⟩) (W.alloc (.cells #[.int .u8 (48 + (r : Int))] 5)) := by
  have hd : ((digC r).toNat : Int) = 48 + (r : Int) := by
    have key : ∀ r : Fin 10, (digC r.val).toNat = 48 + r.val := by decide +kernel
    have := key ⟨r, hr⟩
    simp only at this
    omega
  have h := run_convert_bytes_back (P := Tryd.prog) (W.alloc (.cells #[.int .u8 (48 + (r : Int))] 5)) 22 9 5 ⟨W.heap.size, 0, none⟩ 1 [digC r] Tryd.underlying22 Tryd.underlying5 Tryd.underlying9 (fun j hj => by
    have hj0 : j = 0 := by simp at hj; exact hj
    subst hj0
    have ha : (⟨W.heap.size, 0, none⟩ : Addr).add 0 = ⟨W.heap.size, 0, none⟩ := by unfold Addr.add; split <;> simp_all
    rw [ha]
    simp [hd])
  exact h

theorem TextsIs.store {w : World} {v : Value} {g : Nat} {l : List ByteArray} (h : TextsIs w v g l) (j : Nat) (hj : j < l.length) (x : ByteArray) : TextsIs (w.setCell ⟨g, j, none⟩ (.string x)) v g (l.set j x) := by
  obtain ⟨⟨a, cap, rfl, ha⟩, hc, hf⟩ := h
  refine ⟨⟨a, cap, by rw [List.length_set], fun _ => ha (by intro e; subst e; simp at hj)⟩, fun i hi => ?_, fun i hi => ?_⟩
  · rw [List.length_set] at hi
    by_cases e : j = i
    · subst e
      rw [World.cell?_setCell_same _ _ _ (hc j hj)]
      simp
    · rw [World.cell?_setCell_other _ _ _ _ (by intro h2; apply e; cases h2; rfl), hc i hi]
      simp [e]
  · rw [List.length_set] at hi
    rw [World.frozen?_setCell]
    exact hf i hi

/-- marks from k on -/
def marks (k : Nat) : Nat → List ByteArray
  | 0 => []
  | n + 1 => marks k n ++ [markB (k + n)]
theorem marks_length (k n : Nat) : (marks k n).length = n := by
  induction n with
  | zero => rfl
  | succ n ih => simp [marks, ih]
theorem marks_at (k n i : Nat) (h : i < n) : (marks k n)[i]'(by rw [marks_length]; exact h) = markB (k + i) := by
  induction n with
  | zero => omega
  | succ n ih =>
    by_cases e : i = n
    · subst e
      simp [marks, marks_length]
    · have := ih (by omega)
      simp only [marks]
      rw [List.getElem_append_left (by rw [marks_length]; omega)]
      exact this
theorem marks_mix (k j : Nat) (l : List ByteArray) (h : j < l.length) : (marks k j ++ l.drop j).set j (markB (k + j)) = marks k (j + 1) ++ l.drop (j + 1) := by
  rw [List.set_append_right _ _ (by rw [marks_length]; exact Nat.le_refl _), marks_length, Nat.sub_self, List.drop_eq_getElem_cons h, List.set_cons_zero]
  simp [marks]

theorem grown_set (W : World) (b o : Nat) (v : Value) : W.grownBy (W.setCell ⟨b, o, none⟩ v) (some b) :=
  ⟨rfl, rfl, rfl, by simp, fun k _ hk => Below.heap_setCell _ _ _ k (fun e => hk (by rw [e]))⟩
theorem grown_step {a w w' : World} {row : Option Nat} (h : a.grownBy w row) (k : w.grownBy w' row) : a.grownBy w' row :=
  ⟨k.os.trans h.os, k.tape.trans h.tape, k.output.trans h.output, Nat.le_trans h.size k.size, fun i hi hne => (k.block i (Nat.lt_of_lt_of_le hi h.size) hne).trans (h.block i hi hne)⟩
theorem grown_below {w w' : World} {row : Option Nat} (h : Below w.heap.size w w') : w.grownBy w' row :=
  ⟨h.os, h.tape, h.output, h.size, fun k hk _ => h.block k hk⟩
theorem below_of_grown {B b : Nat} {w w' : World} (h : w.grownBy w' (some b)) (hb : B ≤ b) (hB : B ≤ w.heap.size) : Below B w w' :=
  ⟨h.os, h.tape, h.output, h.size, fun k hk => h.block k (by omega) (by intro e; cases e; omega)⟩

end Go.Proofs.YtkhkpjnpjgnckaaDoor
