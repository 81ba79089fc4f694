/- The struct Rec: lists of it in memory, and how they are compared. -/
import Derived.Test.YtkhkpjnpjgnckaaGreatDoorProg
import Derived.Test.YtkhkpjnpjgnckaaGreatDoorPlain
import Derived.Test.YtkhkpjnpjgnckaaGreatDoorTexts
import Derived.Test.YtkhkpjnpjgnckaaGreatDoorRows0
import Derived.WalkKit
import Derived.WalkLawsBesides
import Derived.OwnWalk
import Derived.BigQuiet
import Derived.Deep.QuietTactic
import Derived.Lib.QuietBelow
import Derived.Laws.IdiomStrings
import Derived.Lib.Hide
import Derived.IntWalk
namespace Go.Proofs.YtkhkpjnpjgnckaaGreatDoor
open Go.RowKit Go.Sort
set_option linter.unusedVariables false

structure RecD where
  kind : Int
  raw : ByteArray
  sect : ByteArray
  key : ByteArray
  value : ByteArray
  line : Int

theorem RecD.eq_iff (a b : RecD) : a = b ↔ a.kind = b.kind ∧ a.raw = b.raw ∧ a.sect = b.sect ∧ a.key = b.key ∧ a.value = b.value ∧ a.line = b.line := by
  cases a; cases b; simp
instance : DecidableEq RecD := fun a b => decidable_of_iff _ (RecD.eq_iff a b).symm

/-- its cells -/
def recCs (x : RecD) : List Value := [.int .i64 x.kind, .string x.raw, .string x.sect, .string x.key, .string x.value, .int .i64 x.line]
/-- as a value -/
def recV (x : RecD) : Value := .agg #[.int .i64 x.kind, .string x.raw, .string x.sect, .string x.key, .string x.value, .int .i64 x.line]
def recS : Shape RecD where
  n := 6
  cs := recCs
  len := fun _ => rfl
  pos := by decide
  one := by
    intro x u hu
    simp only [recCs, List.mem_cons, List.not_mem_nil, or_false] at hu
    rcases hu with rfl | rfl | rfl | rfl | rfl | rfl <;> rfl
theorem rec_n : recS.n = 6 := rfl
theorem rec_c0 {w : World} {v : Value} {g o : Nat} {l : List RecD} (h : RowsRd recS w v g o l) (i : Nat) (hi : i < l.length) : w.cell? ⟨g, o + i * 6, none⟩ = some (.int .i64 l[i].kind) := h.cell i hi 0 _ rfl
theorem rec_p0 {w : World} {v : Value} {g o : Nat} {m : List RecD} {i : Nat} {x : RecD} (h : RowsIs recS w v g o (m.set i x)) (hi : i < m.length) (u : Int) : RowsIs recS (w.setCell ⟨g, o + i * 6, none⟩ (.int .i64 u)) v g o (m.set i { x with kind := u }) := h.put hi 0 (by decide) _ _ rfl
theorem rec_f0 {w : World} {v : Value} {g o : Nat} {m : List RecD} (h : RowsIs recS w v g o m) (i : Nat) (hi : i < m.length) : w.frozen? ⟨g, o + i * 6, none⟩ = false := h.putFree i hi 0 (by decide)
theorem rec_q0 {w : World} {v : Value} {g o : Nat} {m : List RecD} {i : Nat} {x : RecD} (h : RowsIs recS w v g o (m.set i x)) (hi : i < m.length) : w.cell? ⟨g, o + i * 6, none⟩ = some (.int .i64 x.kind) := h.putCell hi 0 _ rfl
theorem rec_c1 {w : World} {v : Value} {g o : Nat} {l : List RecD} (h : RowsRd recS w v g o l) (i : Nat) (hi : i < l.length) : w.cell? ⟨g, o + i * 6 + 1, none⟩ = some (.string l[i].raw) := h.cell i hi 1 _ rfl
theorem rec_p1 {w : World} {v : Value} {g o : Nat} {m : List RecD} {i : Nat} {x : RecD} (h : RowsIs recS w v g o (m.set i x)) (hi : i < m.length) (u : ByteArray) : RowsIs recS (w.setCell ⟨g, o + i * 6 + 1, none⟩ (.string u)) v g o (m.set i { x with raw := u }) := h.put hi 1 (by decide) _ _ rfl
theorem rec_f1 {w : World} {v : Value} {g o : Nat} {m : List RecD} (h : RowsIs recS w v g o m) (i : Nat) (hi : i < m.length) : w.frozen? ⟨g, o + i * 6 + 1, none⟩ = false := h.putFree i hi 1 (by decide)
theorem rec_q1 {w : World} {v : Value} {g o : Nat} {m : List RecD} {i : Nat} {x : RecD} (h : RowsIs recS w v g o (m.set i x)) (hi : i < m.length) : w.cell? ⟨g, o + i * 6 + 1, none⟩ = some (.string x.raw) := h.putCell hi 1 _ rfl
theorem rec_c2 {w : World} {v : Value} {g o : Nat} {l : List RecD} (h : RowsRd recS w v g o l) (i : Nat) (hi : i < l.length) : w.cell? ⟨g, o + i * 6 + 2, none⟩ = some (.string l[i].sect) := h.cell i hi 2 _ rfl
theorem rec_p2 {w : World} {v : Value} {g o : Nat} {m : List RecD} {i : Nat} {x : RecD} (h : RowsIs recS w v g o (m.set i x)) (hi : i < m.length) (u : ByteArray) : RowsIs recS (w.setCell ⟨g, o + i * 6 + 2, none⟩ (.string u)) v g o (m.set i { x with sect := u }) := h.put hi 2 (by decide) _ _ rfl
theorem rec_f2 {w : World} {v : Value} {g o : Nat} {m : List RecD} (h : RowsIs recS w v g o m) (i : Nat) (hi : i < m.length) : w.frozen? ⟨g, o + i * 6 + 2, none⟩ = false := h.putFree i hi 2 (by decide)
theorem rec_q2 {w : World} {v : Value} {g o : Nat} {m : List RecD} {i : Nat} {x : RecD} (h : RowsIs recS w v g o (m.set i x)) (hi : i < m.length) : w.cell? ⟨g, o + i * 6 + 2, none⟩ = some (.string x.sect) := h.putCell hi 2 _ rfl
theorem rec_c3 {w : World} {v : Value} {g o : Nat} {l : List RecD} (h : RowsRd recS w v g o l) (i : Nat) (hi : i < l.length) : w.cell? ⟨g, o + i * 6 + 3, none⟩ = some (.string l[i].key) := h.cell i hi 3 _ rfl
theorem rec_p3 {w : World} {v : Value} {g o : Nat} {m : List RecD} {i : Nat} {x : RecD} (h : RowsIs recS w v g o (m.set i x)) (hi : i < m.length) (u : ByteArray) : RowsIs recS (w.setCell ⟨g, o + i * 6 + 3, none⟩ (.string u)) v g o (m.set i { x with key := u }) := h.put hi 3 (by decide) _ _ rfl
theorem rec_f3 {w : World} {v : Value} {g o : Nat} {m : List RecD} (h : RowsIs recS w v g o m) (i : Nat) (hi : i < m.length) : w.frozen? ⟨g, o + i * 6 + 3, none⟩ = false := h.putFree i hi 3 (by decide)
theorem rec_q3 {w : World} {v : Value} {g o : Nat} {m : List RecD} {i : Nat} {x : RecD} (h : RowsIs recS w v g o (m.set i x)) (hi : i < m.length) : w.cell? ⟨g, o + i * 6 + 3, none⟩ = some (.string x.key) := h.putCell hi 3 _ rfl
theorem rec_c4 {w : World} {v : Value} {g o : Nat} {l : List RecD} (h : RowsRd recS w v g o l) (i : Nat) (hi : i < l.length) : w.cell? ⟨g, o + i * 6 + 4, none⟩ = some (.string l[i].value) := h.cell i hi 4 _ rfl
theorem rec_p4 {w : World} {v : Value} {g o : Nat} {m : List RecD} {i : Nat} {x : RecD} (h : RowsIs recS w v g o (m.set i x)) (hi : i < m.length) (u : ByteArray) : RowsIs recS (w.setCell ⟨g, o + i * 6 + 4, none⟩ (.string u)) v g o (m.set i { x with value := u }) := h.put hi 4 (by decide) _ _ rfl
theorem rec_f4 {w : World} {v : Value} {g o : Nat} {m : List RecD} (h : RowsIs recS w v g o m) (i : Nat) (hi : i < m.length) : w.frozen? ⟨g, o + i * 6 + 4, none⟩ = false := h.putFree i hi 4 (by decide)
theorem rec_q4 {w : World} {v : Value} {g o : Nat} {m : List RecD} {i : Nat} {x : RecD} (h : RowsIs recS w v g o (m.set i x)) (hi : i < m.length) : w.cell? ⟨g, o + i * 6 + 4, none⟩ = some (.string x.value) := h.putCell hi 4 _ rfl
theorem rec_c5 {w : World} {v : Value} {g o : Nat} {l : List RecD} (h : RowsRd recS w v g o l) (i : Nat) (hi : i < l.length) : w.cell? ⟨g, o + i * 6 + 5, none⟩ = some (.int .i64 l[i].line) := h.cell i hi 5 _ rfl
theorem rec_p5 {w : World} {v : Value} {g o : Nat} {m : List RecD} {i : Nat} {x : RecD} (h : RowsIs recS w v g o (m.set i x)) (hi : i < m.length) (u : Int) : RowsIs recS (w.setCell ⟨g, o + i * 6 + 5, none⟩ (.int .i64 u)) v g o (m.set i { x with line := u }) := h.put hi 5 (by decide) _ _ rfl
theorem rec_f5 {w : World} {v : Value} {g o : Nat} {m : List RecD} (h : RowsIs recS w v g o m) (i : Nat) (hi : i < m.length) : w.frozen? ⟨g, o + i * 6 + 5, none⟩ = false := h.putFree i hi 5 (by decide)
theorem rec_q5 {w : World} {v : Value} {g o : Nat} {m : List RecD} {i : Nat} {x : RecD} (h : RowsIs recS w v g o (m.set i x)) (hi : i < m.length) : w.cell? ⟨g, o + i * 6 + 5, none⟩ = some (.int .i64 x.line) := h.putCell hi 5 _ rfl

theorem txt_beqRec (a b : ByteArray) : (a.toList == b.toList) = decide (a = b) := by
  by_cases h : a = b
  · subst h; simp
  · rw [show decide (a = b) = false by simpa using h, beq_eq_false_iff_ne]
    intro e
    apply h
    rw [Lib.toList_data, Lib.toList_data] at e
    exact ByteArray.ext (Array.toList_inj.1 e)


end Go.Proofs.YtkhkpjnpjgnckaaGreatDoor
