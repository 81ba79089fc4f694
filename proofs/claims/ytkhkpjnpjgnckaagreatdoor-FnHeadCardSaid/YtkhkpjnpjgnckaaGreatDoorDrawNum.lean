/- Contracts of the draws of numbers' texts: that they answer some text. -/
import Derived.Test.YtkhkpjnpjgnckaaGreatDoorProg
import Derived.Test.YtkhkpjnpjgnckaaGreatDoorPlain
import Derived.Test.YtkhkpjnpjgnckaaGreatDoorHex
import Derived.Test.YtkhkpjnpjgnckaaGreatDoorDec
import Derived.Test.YtkhkpjnpjgnckaaGreatDoorDraw
import Derived.WalkKit
import Derived.WalkLawsBesides
import Derived.BigQuiet
import Derived.Deep.QuietTactic
import Derived.Deep.RegionWith
import Derived.Lib.Hide
import Derived.IntWalk
namespace Go.Proofs.YtkhkpjnpjgnckaaGreatDoor
open Go.RowKit
set_option linter.unusedVariables false

def isText (m : Nat) (v : Value) : Bool := match v with | .string s => decide (s.size ≤ m) | _ => false
theorem texts_alloc (w : World) (cs : List Value) (t B m : Nat) (h : cs.all (isText m) = true) : TextsAt (w.alloc (.cells cs.toArray t)) w.heap.size cs.length B m := by
  intro i hi
  rw [List.all_eq_true] at h
  have h1 := h cs[i] (List.getElem_mem hi)
  have h2 : (w.alloc (.cells cs.toArray t)).cell? ⟨w.heap.size, i, none⟩ = some cs[i] := by
    simp [hi]
  rw [h2]
  generalize cs[i] = v at *
  unfold isText at h1
  split at h1
  · exact ⟨_, rfl, by simpa using h1⟩
  · cases h1

theorem texts_drew {w : World} {g n B m : Nat} (h : TextsAt w g n B m) : TextsAt w.drew g n B m := fun i hi => h i hi
theorem texts_drewN {w : World} {g n B m : Nat} (h : TextsAt w g n B m) (k : Nat) : TextsAt (w.drewN k) g n B m := fun i hi => h i hi
theorem CurAt.drew {w : World} {B b : Nat} {a : Option Addr} {len cap : Nat} (h : CurAt w B b a len cap) : CurAt w.drew B b a len cap := h.drawn 1

/-- some text; nothing old has turned -/
def SomeText (m : Nat) (w : World) (e : Ending) (w' : World) : Prop := ∃ s : ByteArray, s.size ≤ m ∧ e = .returned (.string s) ∧ Below w.heap.size w w'

theorem itoa_len (n : Int) (h0 : -9223372036854775808 ≤ n) (h1 : n ≤ 9223372036854775807) : (⟨(Lib.itoa n).toArray⟩ : ByteArray).size ≤ 21 := by
  have := Lib.itoa_length_le n h0 h1
  show (Lib.itoa n).toArray.size ≤ 21
  simpa using this

end Go.Proofs.YtkhkpjnpjgnckaaGreatDoor
