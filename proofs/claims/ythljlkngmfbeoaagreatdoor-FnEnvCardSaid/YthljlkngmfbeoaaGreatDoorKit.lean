/- Lists of texts, of numbers: how the exact laws compare and mark them, in one form. -/
import Derived.Test.YthljlkngmfbeoaaGreatDoorProg
import Derived.Test.YthljlkngmfbeoaaGreatDoorPlain
import Derived.Test.YthljlkngmfbeoaaGreatDoorTexts
import Derived.Test.YthljlkngmfbeoaaGreatDoorInts
import Derived.Test.YthljlkngmfbeoaaGreatDoorRows0
import Derived.WalkKit
import Derived.WalkLawsBesides
import Derived.Lib.Hide
namespace Go.Proofs.YthljlkngmfbeoaaGreatDoor
open Go.RowKit
set_option linter.unusedVariables false

/-- nothing has turned, or block g alone, and then 'on' holds -/
def Turned (w w' : World) (on : Prop) (g : Nat) : Prop := ∃ row, w.grownBy w' row ∧ (row = none ∨ (row = some g ∧ on))
theorem Turned.size {w w' : World} {on : Prop} {g : Nat} (h : Turned w w' on g) : w.heap.size ≤ w'.heap.size := by
  obtain ⟨row, hr, _⟩ := h
  exact hr.size
theorem Turned.block {w w' : World} {on : Prop} {g b : Nat} (h : Turned w w' on g) (hb : b < w.heap.size) (hne : on → b ≠ g) : w'.heap[b]? = w.heap[b]? := by
  obtain ⟨row, hr, hrow⟩ := h
  refine hr.block b hb ?_
  rcases hrow with rfl | ⟨rfl, ho⟩
  · simp
  · intro e
    injection e with e
    exact hne ho e
theorem Turned.below {w w' : World} {on : Prop} {g B : Nat} (h : Turned w w' on g) (hB : B ≤ w.heap.size) (hg : on → B ≤ g) : Below B w w' := by
  have h2 := h
  obtain ⟨row, hr, _⟩ := h
  exact ⟨hr.os, hr.tape, hr.output, hr.size, fun k hk => h2.block (by omega) (fun ho e => by have := hg ho; omega)⟩
theorem turned_of {w w' : World} {g : Nat} (h : w.grownBy w' (some g)) : Turned w w' True g := ⟨_, h, .inr ⟨rfl, trivial⟩⟩
theorem turned_none {w w' : World} {g : Nat} {on : Prop} (h : w.grownBy w' (some w.heap.size)) : Turned w w' on g := by
  refine ⟨none, ⟨h.os, h.tape, h.output, h.size, fun k hk _ => h.block k hk ?_⟩, .inl rfl⟩
  intro e
  injection e with e
  omega
theorem turned_mono {w w' : World} {g : Nat} {p q : Prop} (h : Turned w w' p g) (hpq : p → q) : Turned w w' q g := by
  obtain ⟨row, hr, hrow⟩ := h
  exact ⟨row, hr, hrow.imp id (fun h => ⟨h.1, hpq h.2⟩)⟩
theorem drew_belowK {w : World} : ∀ q, Below w.heap.size w (w.drewN q)
  | 0 => Below.refl _ _
  | q + 1 => by
    rw [show w.drewN (q + 1) = (w.drewN q).drew from rfl]
    exact (drew_belowK q).drew

theorem TextsIs.over {w w' : World} {v : Value} {g : Nat} {l : List ByteArray} (h : TextsIs w v g l) (hb : Below w.heap.size w w') : TextsIs w' v g l := h.below hb (fun hl => h.lt hl)
theorem TextsIs.nil (w : World) (v : Value) (a : Option Addr) (cap g : Nat) (h : v = .slice a 0 cap) : TextsIs w v g [] :=
  ⟨⟨a, cap, h, fun h => absurd rfl h⟩, fun i hi => by simp at hi, fun i hi => by simp at hi⟩
/-- a list of texts that the call itself made -/
def NewTexts (w : World) (l : List ByteArray) (e : Ending) (w' : World) : Prop := ∃ v g, e = .returned v ∧ TextsIs w' v g l ∧ w.heap.size ≤ g ∧ Below w.heap.size w w'

end Go.Proofs.YthljlkngmfbeoaaGreatDoor
