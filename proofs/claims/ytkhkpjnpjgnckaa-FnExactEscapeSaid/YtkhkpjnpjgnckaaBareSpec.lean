/- Values without quotes: the model's contracts of l05Blank, l05Trim, Bare. -/
import Derived.Test.YtkhkpjnpjgnckaaProg
import Derived.Test.YtkhkpjnpjgnckaaPlain
import Derived.Test.YtkhkpjnpjgnckaaHex
import Derived.Test.YtkhkpjnpjgnckaaCut
import Derived.Test.YtkhkpjnpjgnckaaTrim
import Derived.Test.YtkhkpjnpjgnckaaTail
import Derived.Test.YtkhkpjnpjgnckaaDialectRows
import Derived.Test.YtkhkpjnpjgnckaaDialSpec
import Derived.Test.YtkhkpjnpjgnckaaUnescSpec
import Derived.WalkKit
import Derived.WalkLawsBesides
import Derived.BigQuiet
import Derived.Deep.QuietTactic
import Derived.Lib.QuietBelow
import Derived.Laws.IdiomStrings
import Derived.Lib.Hide
import Derived.IntWalk
namespace Go.Proofs.Ytkhkpjnpjgnckaa
open Go.RowKit Go.Sort
set_option linter.unusedVariables false

theorem extract_none (s : ByteArray) (k : Nat) : s.extract k k = ByteArray.empty := by
  apply ByteArray.ext
  simp
/-- a blank at place i that isn't meant as itself -/
def blank5 (e : Bool) (s : ByteArray) (i : Nat) : Bool := if h : i < s.size then blankB s[i] && (!e || tailN (s.extract 0 i) % 2 == 0) else false
/-- where the blanks at the beginning end -/
def lead5 (s : ByteArray) : Nat → Nat
  | 0 => s.size
  | n + 1 => if h : s.size - (n + 1) < s.size then (if blankB s[s.size - (n + 1)] then lead5 s n else s.size - (n + 1)) else lead5 s n
/-- the end, without blanks that aren't meant -/
def back5 (e : Bool) (s : ByteArray) (a : Nat) : Nat → Nat
  | 0 => 0
  | b + 1 => if a < b + 1 ∧ blank5 e s b = true then back5 e s a b else b + 1
theorem back5_le (e : Bool) (s : ByteArray) (a b : Nat) : back5 e s a b ≤ b := by
  induction b with
  | zero => exact Nat.le_refl _
  | succ b ih =>
    simp only [back5]
    split <;> omega
theorem back5_ge (e : Bool) (s : ByteArray) (a b : Nat) (h : a ≤ b) : a ≤ back5 e s a b := by
  induction b with
  | zero => simp only [back5]; exact h
  | succ b ih =>
    simp only [back5]
    split
    · rename_i hc
      exact ih (by omega)
    · exact h
theorem back5_yes {e : Bool} {s : ByteArray} {a b : Nat} (h : a < b + 1) (hb : blank5 e s b = true) : back5 e s a (b + 1) = back5 e s a b := by simp only [back5]; rw [if_pos ⟨h, hb⟩]
theorem back5_no {e : Bool} {s : ByteArray} {a b : Nat} (hb : blank5 e s b = false) : back5 e s a (b + 1) = b + 1 := by simp only [back5]; rw [if_neg (fun h => by rw [hb] at h; exact absurd h.2 (by decide))]
theorem back5_end {e : Bool} {s : ByteArray} {a : Nat} : back5 e s a a = a := by
  cases a with
  | zero => rfl
  | succ a => simp only [back5]; rw [if_neg (fun h => by omega)]
def front5 (s : ByteArray) : Nat := (s.data.toList.takeWhile blankB).length
theorem front5_le (s : ByteArray) : front5 s ≤ s.size := by
  unfold front5
  rw [Lib.size_eq]
  exact (List.takeWhile_sublist _).length_le
/-- trimmed, but for blanks that are meant -/
def trim5 (e : Bool) (s : ByteArray) : ByteArray := s.extract (front5 s) (back5 e s (front5 s) s.size)
theorem trim5_size (e : Bool) (s : ByteArray) : (trim5 e s).size ≤ s.size := by
  unfold trim5
  rw [ByteArray.size_extract]
  have := back5_le e s (front5 s) s.size
  omega

theorem takeWhile_at (p : UInt8 → Bool) : ∀ (l : List UInt8) (n : Nat), n ≤ l.length → (∀ j (h : j < l.length), j < n → p l[j] = true) → (∀ h : n < l.length, p l[n] = false) → (l.takeWhile p).length = n := by
  intro l
  induction l with
  | nil => intro n hn _ _; simp at hn; subst hn; rfl
  | cons c t ih =>
    intro n hn h1 h2
    cases n with
    | zero =>
      have := h2 (by simp)
      simp at this
      simp [this]
    | succ n =>
      have hc : p c = true := h1 0 (by simp) (by omega)
      rw [List.takeWhile_cons_of_pos hc]
      have := ih n (by simpa using hn) (fun j h hj => by have := h1 (j + 1) (by simpa using h) (by omega); simpa using this) (fun h => by have := h2 (by simpa using h); simpa using this)
      simp [this]

/-- the cells of a Dialect that a call has laid for itself -/
def DialAt (w : World) (b : Nat) (d : DialectD) : Prop := w.heap[b]? = some (.cells #[.string d.notes, .string d.seps, .bool d.inl, .bool d.quo, .bool d.esc, .int .i64 d.join] 26 (0, 0))
theorem dialAt_new (w : World) (d : DialectD) : DialAt (w.alloc (.cells #[.string d.notes, .string d.seps, .bool d.inl, .bool d.quo, .bool d.esc, .int .i64 d.join] 26)) w.heap.size d := heap_alloc_new _ _
theorem DialAt.over {w w' : World} {b B : Nat} {d : DialectD} (h : DialAt w b d) (hb : Below B w w') (hB : b < B) : DialAt w' b d := by
  unfold DialAt at *
  rw [hb.block b hB]
  exact h
theorem DialAt.cells {w : World} {b : Nat} {d : DialectD} (h : DialAt w b d) : w.cell? ⟨b, 0, none⟩ = some (.string d.notes) ∧ w.cell? ⟨b, 1, none⟩ = some (.string d.seps) ∧ w.cell? ⟨b, 2, none⟩ = some (.bool d.inl) ∧ w.cell? ⟨b, 3, none⟩ = some (.bool d.quo) ∧ w.cell? ⟨b, 4, none⟩ = some (.bool d.esc) ∧ w.cell? ⟨b, 5, none⟩ = some (.int .i64 d.join) := by
  unfold DialAt at h
  refine ⟨?_, ?_, ?_, ?_, ?_, ?_⟩ <;> (rw [Lib.cell_of_heap h]; rfl)

theorem findIdx_range (p : Nat → Bool) (n i : Nat) (hi : i ≤ n) (h1 : ∀ j, j < i → p j = false) (h2 : i < n → p i = true) : (List.range n).findIdx p = i := by
  by_cases h : i < n
  · have hl : i < (List.range n).length := by simpa using h
    rw [List.findIdx_eq hl]
    refine ⟨by simpa using h2 h, fun j hj => by simpa using h1 j hj⟩
  · obtain rfl : i = n := by omega
    have : (List.range i).findIdx p = (List.range i).length := by
      rw [List.findIdx_eq_length]
      intro x hx
      exact h1 x (by simpa using hx)
    simpa using this
/-- a note begins at place i -/
def note5 (d : DialectD) (s : ByteArray) (i : Nat) : Bool := if h : 1 ≤ i ∧ i < s.size then hasB d.notes (s[i]'h.2) && blank5 d.esc s (i - 1) else false
/-- where a value without quotes ends -/
def cut5 (d : DialectD) (s : ByteArray) : Nat := if d.inl then (List.range s.size).findIdx (note5 d s) else s.size
/-- what Bare answers -/
def bareT (d : DialectD) (s : ByteArray) : ByteArray × Bool := unT d.esc (trim5 d.esc (s.extract 0 (cut5 d s)))
theorem extract_all (s : ByteArray) : s.extract 0 s.size = s := by
  apply ByteArray.ext
  rw [ByteArray.data_extract]
  show s.data.extract 0 s.data.size = s.data
  simp
theorem bareT_size (d : DialectD) (s : ByteArray) : (bareT d s).1.size ≤ s.size := by
  unfold bareT
  refine Nat.le_trans (unT_size _ _) (Nat.le_trans (trim5_size _ _) ?_)
  rw [ByteArray.size_extract]
  omega

end Go.Proofs.Ytkhkpjnpjgnckaa
