/- The draws of texts with line ends, and of lists of lines. -/
import Derived.Test.YtdkghalcnaogfaaProg
import Derived.Test.YtdkghalcnaogfaaPlain
import Derived.Test.YtdkghalcnaogfaaDraw
import Derived.Test.YtdkghalcnaogfaaDrawNum
import Derived.Test.YtdkghalcnaogfaaTexts
import Derived.Test.YtdkghalcnaogfaaMarks
import Derived.Test.YtdkghalcnaogfaaLines
import Derived.Test.YtdkghalcnaogfaaLinesArg
import Derived.Test.YtdkghalcnaogfaaSplitSpec
import Derived.Test.YtdkghalcnaogfaaSplitImpl
import Derived.WalkKit
import Derived.WalkLawsBesides
import Derived.OwnWalk
import Derived.Laws.OwnMore
import Derived.Deep.AppendLies
import Derived.Lib.Hide
import Derived.IntWalk
namespace Go.Proofs.Ytdkghalcnaogfaa
open Go.RowKit
set_option linter.unusedVariables false

theorem CurAt.grown {w w' : World} {B b : Nat} {a : Option Addr} {len cap : Nat} {row : Option Nat} (h : CurAt w B b a len cap) (hg : w.grownBy w' row) (hr : ∀ k, row = some k → b < k) : CurAt w' B b a len cap := by
  obtain ⟨i, x, hC⟩ := h
  exact ⟨i, x, hC.kept (fun k hk => hg.block k (Nat.lt_of_le_of_lt hk hC.lt) (fun e => by have := hr k e.symm; omega)) hg.size⟩
theorem CurAt.le {w : World} {B b : Nat} {a : Option Addr} {len cap : Nat} (h : CurAt w B b a len cap) : B ≤ b := by
  obtain ⟨i, x, hC⟩ := h; exact hC.le

def SomeLined (m : Nat) (w : World) (e : Ending) (w' : World) : Prop := ∃ s : ByteArray, s.size ≤ m ∧ e = .returned (.string s) ∧ Below w.heap.size w w'
/-- the cells of a list, one end put anew -/
theorem lnCells_set (l : List Ln) (j : Nat) (hj : j < l.length) (x : ByteArray) : (lnCells l).set (j * 2 + 1) (.string x) = lnCells (l.set j (l[j].1, x)) := by
  induction l generalizing j with
  | nil => simp at hj
  | cons y l ih =>
    cases j with
    | zero => simp [lnCells]
    | succ j =>
      have := ih j (by simpa using hj)
      rw [show (j + 1) * 2 + 1 = (j * 2 + 1) + 2 from by omega]
      simp only [lnCells, List.flatMap_cons, List.cons_append, List.nil_append, List.set_cons_succ, List.getElem_cons_succ] at *
      rw [this]

theorem linesOf_cost (s : ByteArray) : costL (linesOf s) ≤ 2 * s.size := by
  have h1 := linesOf_few s
  have h2 : (linesOf s).length + ((linesOf s).map (fun x => x.1.size + x.2.size)).sum = (linesOf s).length + s.size := by
    congr 1
    have h3 : ((linesOf s).map (fun x => x.1.size + x.2.size)).sum = (joinL (splitL s.data.toList [])).length := by
      unfold linesOf joinL
      rw [List.map_map]
      generalize splitL s.data.toList [] = q
      induction q with
      | nil => rfl
      | cons y q ih =>
        simp only [List.map_cons, List.sum_cons, List.flatMap_cons, List.length_append, ih, Function.comp]
        rfl
    rw [h3, join_split, List.nil_append, ← Lib.size_eq]
  unfold costL
  omega
theorem costL_set (l : List Ln) (j : Nat) (hj : j < l.length) (x : ByteArray) : costL (l.set j (l[j].1, x)) ≤ costL l + x.size := by
  induction l generalizing j with
  | nil => simp at hj
  | cons y l ih =>
    cases j with
    | zero => simp [costL]; omega
    | succ j =>
      have := ih j (by simpa using hj)
      simp only [List.set_cons_succ, List.getElem_cons_succ, costL, List.map_cons, List.sum_cons, List.length_cons] at *
      omega
theorem costL_len (l : List Ln) : l.length ≤ costL l := by unfold costL; omega
theorem costL_snoc (l : List Ln) (x : Ln) : costL (l ++ [x]) = costL l + 1 + x.1.size + x.2.size := by
  simp only [costL, List.length_append, List.map_append, List.sum_append, List.map_cons, List.map_nil, List.sum_cons, List.sum_nil, List.length_cons, List.length_nil]
  omega


/-- a list of lines that was drawn: not large; the cursor stands; nothing but its block has turned -/
def DrewL (w : World) (B b : Nat) (a : Option Addr) (len cap : Nat) (e : Ending) (w' : World) : Prop :=
  ∃ (v : Value) (g : Nat) (l : List Ln), costL l ≤ 100 ∧ e = .returned v ∧ LinesIs w' v g 0 l ∧ w.heap.size ≤ g ∧ CurAt w' B b a len cap ∧ w.grownBy w' (some b)

theorem grown_of_own {w w1 w2 : World} {b : Nat} {row : Option Nat} (h : w.grownBy w1 (some b)) (hg : w1.grownBy w2 row) (hr : ∀ k, row = some k → w.heap.size ≤ k) : w.grownBy w2 (some b) :=
  ⟨hg.os.trans h.os, hg.tape.trans h.tape, hg.output.trans h.output, Nat.le_trans h.size hg.size, fun k hk hne => (hg.block k (Nat.lt_of_lt_of_le hk h.size) (fun e => by have := hr k e.symm; omega)).trans (h.block k hk hne)⟩

/-- the last part of the draw: one line more, or not -/
theorem CurAt.own {w w' : World} {B b : Nat} {a : Option Addr} {len cap : Nat} {row : Option Nat} (h : CurAt w B b a len cap) (hg : w.grownBy w' row) (hr : ∀ k, row = some k → b < k) : CurAt w' B b a len cap := h.grown hg hr

end Go.Proofs.Ytdkghalcnaogfaa
