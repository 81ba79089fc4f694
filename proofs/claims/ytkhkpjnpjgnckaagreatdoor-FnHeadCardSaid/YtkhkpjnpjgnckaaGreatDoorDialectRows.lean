/- The struct Dialect: lists of it in memory, and how they are compared. -/
import Derived.Test.YtkhkpjnpjgnckaaGreatDoorProg
import Derived.Test.YtkhkpjnpjgnckaaGreatDoorPlain
import Derived.Test.YtkhkpjnpjgnckaaGreatDoorTexts
import Derived.Test.YtkhkpjnpjgnckaaGreatDoorRows0
import Derived.WalkKit
import Derived.WalkLawsBesides
import Derived.OwnWalk
import Derived.BigQuiet
import Derived.Deep.QuietTactic
import Derived.Lib.QuietBelow
import Derived.Laws.IdiomStrings
import Derived.Lib.Hide
import Derived.IntWalk
set_option maxRecDepth 100000
namespace Go.Proofs.YtkhkpjnpjgnckaaGreatDoor
open Go.RowKit Go.Sort
set_option linter.unusedVariables false

structure DialectD where
  notes : ByteArray
  seps : ByteArray
  inl : Bool
  quo : Bool
  esc : Bool
  join : Int

theorem DialectD.eq_iff (a b : DialectD) : a = b ↔ a.notes = b.notes ∧ a.seps = b.seps ∧ a.inl = b.inl ∧ a.quo = b.quo ∧ a.esc = b.esc ∧ a.join = b.join := by
  cases a; cases b; simp
instance : DecidableEq DialectD := fun a b => decidable_of_iff _ (DialectD.eq_iff a b).symm

/-- its cells -/
def dialectCs (x : DialectD) : List Value := [.string x.notes, .string x.seps, .bool x.inl, .bool x.quo, .bool x.esc, .int .i64 x.join]
/-- as a value -/
def dialectV (x : DialectD) : Value := .agg #[.string x.notes, .string x.seps, .bool x.inl, .bool x.quo, .bool x.esc, .int .i64 x.join]
def dialectS : Shape DialectD where
  n := 6
  cs := dialectCs
  len := fun _ => rfl
  pos := by decide
  one := by
    intro x u hu
    simp only [dialectCs, List.mem_cons, List.not_mem_nil, or_false] at hu
    rcases hu with rfl | rfl | rfl | rfl | rfl | rfl <;> rfl
theorem dialect_n : dialectS.n = 6 := rfl
theorem dialect_c0 {w : World} {v : Value} {g o : Nat} {l : List DialectD} (h : RowsRd dialectS w v g o l) (i : Nat) (hi : i < l.length) : w.cell? ⟨g, o + i * 6, none⟩ = some (.string l[i].notes) := h.cell i hi 0 _ rfl
theorem dialect_p0 {w : World} {v : Value} {g o : Nat} {m : List DialectD} {i : Nat} {x : DialectD} (h : RowsIs dialectS w v g o (m.set i x)) (hi : i < m.length) (u : ByteArray) : RowsIs dialectS (w.setCell ⟨g, o + i * 6, none⟩ (.string u)) v g o (m.set i { x with notes := u }) := h.put hi 0 (by decide) _ _ rfl
theorem dialect_f0 {w : World} {v : Value} {g o : Nat} {m : List DialectD} (h : RowsIs dialectS w v g o m) (i : Nat) (hi : i < m.length) : w.frozen? ⟨g, o + i * 6, none⟩ = false := h.putFree i hi 0 (by decide)
theorem dialect_q0 {w : World} {v : Value} {g o : Nat} {m : List DialectD} {i : Nat} {x : DialectD} (h : RowsIs dialectS w v g o (m.set i x)) (hi : i < m.length) : w.cell? ⟨g, o + i * 6, none⟩ = some (.string x.notes) := h.putCell hi 0 _ rfl
theorem dialect_c1 {w : World} {v : Value} {g o : Nat} {l : List DialectD} (h : RowsRd dialectS w v g o l) (i : Nat) (hi : i < l.length) : w.cell? ⟨g, o + i * 6 + 1, none⟩ = some (.string l[i].seps) := h.cell i hi 1 _ rfl
theorem dialect_p1 {w : World} {v : Value} {g o : Nat} {m : List DialectD} {i : Nat} {x : DialectD} (h : RowsIs dialectS w v g o (m.set i x)) (hi : i < m.length) (u : ByteArray) : RowsIs dialectS (w.setCell ⟨g, o + i * 6 + 1, none⟩ (.string u)) v g o (m.set i { x with seps := u }) := h.put hi 1 (by decide) _ _ rfl
theorem dialect_f1 {w : World} {v : Value} {g o : Nat} {m : List DialectD} (h : RowsIs dialectS w v g o m) (i : Nat) (hi : i < m.length) : w.frozen? ⟨g, o + i * 6 + 1, none⟩ = false := h.putFree i hi 1 (by decide)
theorem dialect_q1 {w : World} {v : Value} {g o : Nat} {m : List DialectD} {i : Nat} {x : DialectD} (h : RowsIs dialectS w v g o (m.set i x)) (hi : i < m.length) : w.cell? ⟨g, o + i * 6 + 1, none⟩ = some (.string x.seps) := h.putCell hi 1 _ rfl
theorem dialect_c2 {w : World} {v : Value} {g o : Nat} {l : List DialectD} (h : RowsRd dialectS w v g o l) (i : Nat) (hi : i < l.length) : w.cell? ⟨g, o + i * 6 + 2, none⟩ = some (.bool l[i].inl) := h.cell i hi 2 _ rfl
theorem dialect_p2 {w : World} {v : Value} {g o : Nat} {m : List DialectD} {i : Nat} {x : DialectD} (h : RowsIs dialectS w v g o (m.set i x)) (hi : i < m.length) (u : Bool) : RowsIs dialectS (w.setCell ⟨g, o + i * 6 + 2, none⟩ (.bool u)) v g o (m.set i { x with inl := u }) := h.put hi 2 (by decide) _ _ rfl
theorem dialect_f2 {w : World} {v : Value} {g o : Nat} {m : List DialectD} (h : RowsIs dialectS w v g o m) (i : Nat) (hi : i < m.length) : w.frozen? ⟨g, o + i * 6 + 2, none⟩ = false := h.putFree i hi 2 (by decide)
theorem dialect_q2 {w : World} {v : Value} {g o : Nat} {m : List DialectD} {i : Nat} {x : DialectD} (h : RowsIs dialectS w v g o (m.set i x)) (hi : i < m.length) : w.cell? ⟨g, o + i * 6 + 2, none⟩ = some (.bool x.inl) := h.putCell hi 2 _ rfl
theorem dialect_c3 {w : World} {v : Value} {g o : Nat} {l : List DialectD} (h : RowsRd dialectS w v g o l) (i : Nat) (hi : i < l.length) : w.cell? ⟨g, o + i * 6 + 3, none⟩ = some (.bool l[i].quo) := h.cell i hi 3 _ rfl
theorem dialect_p3 {w : World} {v : Value} {g o : Nat} {m : List DialectD} {i : Nat} {x : DialectD} (h : RowsIs dialectS w v g o (m.set i x)) (hi : i < m.length) (u : Bool) : RowsIs dialectS (w.setCell ⟨g, o + i * 6 + 3, none⟩ (.bool u)) v g o (m.set i { x with quo := u }) := h.put hi 3 (by decide) _ _ rfl
theorem dialect_f3 {w : World} {v : Value} {g o : Nat} {m : List DialectD} (h : RowsIs dialectS w v g o m) (i : Nat) (hi : i < m.length) : w.frozen? ⟨g, o + i * 6 + 3, none⟩ = false := h.putFree i hi 3 (by decide)
theorem dialect_q3 {w : World} {v : Value} {g o : Nat} {m : List DialectD} {i : Nat} {x : DialectD} (h : RowsIs dialectS w v g o (m.set i x)) (hi : i < m.length) : w.cell? ⟨g, o + i * 6 + 3, none⟩ = some (.bool x.quo) := h.putCell hi 3 _ rfl
theorem dialect_c4 {w : World} {v : Value} {g o : Nat} {l : List DialectD} (h : RowsRd dialectS w v g o l) (i : Nat) (hi : i < l.length) : w.cell? ⟨g, o + i * 6 + 4, none⟩ = some (.bool l[i].esc) := h.cell i hi 4 _ rfl
theorem dialect_p4 {w : World} {v : Value} {g o : Nat} {m : List DialectD} {i : Nat} {x : DialectD} (h : RowsIs dialectS w v g o (m.set i x)) (hi : i < m.length) (u : Bool) : RowsIs dialectS (w.setCell ⟨g, o + i * 6 + 4, none⟩ (.bool u)) v g o (m.set i { x with esc := u }) := h.put hi 4 (by decide) _ _ rfl
theorem dialect_f4 {w : World} {v : Value} {g o : Nat} {m : List DialectD} (h : RowsIs dialectS w v g o m) (i : Nat) (hi : i < m.length) : w.frozen? ⟨g, o + i * 6 + 4, none⟩ = false := h.putFree i hi 4 (by decide)
theorem dialect_q4 {w : World} {v : Value} {g o : Nat} {m : List DialectD} {i : Nat} {x : DialectD} (h : RowsIs dialectS w v g o (m.set i x)) (hi : i < m.length) : w.cell? ⟨g, o + i * 6 + 4, none⟩ = some (.bool x.esc) := h.putCell hi 4 _ rfl
theorem dialect_c5 {w : World} {v : Value} {g o : Nat} {l : List DialectD} (h : RowsRd dialectS w v g o l) (i : Nat) (hi : i < l.length) : w.cell? ⟨g, o + i * 6 + 5, none⟩ = some (.int .i64 l[i].join) := h.cell i hi 5 _ rfl
theorem dialect_p5 {w : World} {v : Value} {g o : Nat} {m : List DialectD} {i : Nat} {x : DialectD} (h : RowsIs dialectS w v g o (m.set i x)) (hi : i < m.length) (u : Int) : RowsIs dialectS (w.setCell ⟨g, o + i * 6 + 5, none⟩ (.int .i64 u)) v g o (m.set i { x with join := u }) := h.put hi 5 (by decide) _ _ rfl
theorem dialect_f5 {w : World} {v : Value} {g o : Nat} {m : List DialectD} (h : RowsIs dialectS w v g o m) (i : Nat) (hi : i < m.length) : w.frozen? ⟨g, o + i * 6 + 5, none⟩ = false := h.putFree i hi 5 (by decide)
theorem dialect_q5 {w : World} {v : Value} {g o : Nat} {m : List DialectD} {i : Nat} {x : DialectD} (h : RowsIs dialectS w v g o (m.set i x)) (hi : i < m.length) : w.cell? ⟨g, o + i * 6 + 5, none⟩ = some (.int .i64 x.join) := h.putCell hi 5 _ rfl

theorem txt_beqDialect (a b : ByteArray) : (a.toList == b.toList) = decide (a = b) := by
  by_cases h : a = b
  · subst h; simp
  · rw [show decide (a = b) = false by simpa using h, beq_eq_false_iff_ne]
    intro e
    apply h
    rw [Lib.toList_data, Lib.toList_data] at e
    exact ByteArray.ext (Array.toList_inj.1 e)


end Go.Proofs.YtkhkpjnpjgnckaaGreatDoor
