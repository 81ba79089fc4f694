/- Bytes 92 at the end of a text: the contracts of Tail, and the walks of its laws. -/
import Derived.Test.YtkhkpjnpjgnckaaProg
import Derived.Test.YtkhkpjnpjgnckaaPlain
import Derived.Test.YtkhkpjnpjgnckaaTrimRight
import Derived.Test.YtkhkpjnpjgnckaaDraw
import Derived.Test.YtkhkpjnpjgnckaaDrawNum
import Derived.WalkKit
import Derived.WalkLawsBesides
import Derived.Lib.Hide
import Derived.IntWalk
namespace Go.Proofs.Ytkhkpjnpjgnckaa
open Go.RowKit
set_option linter.unusedVariables false

def tailN (s : ByteArray) : Nat := (s.data.toList.reverse.takeWhile (· == 92)).length
theorem tw_len (p : UInt8 → Bool) : ∀ (rl : List UInt8) (n : Nat), n ≤ rl.length → (∀ j (h : j < rl.length), j < n → p rl[j] = true) → (∀ h : n < rl.length, p rl[n] = false) → (rl.takeWhile p).length = n := by
  intro rl
  induction rl with
  | nil => intro n hn _ _; simp at hn; subst hn; rfl
  | cons c rl ih =>
    intro n hn h1 h2
    cases n with
    | zero =>
      have := h2 (by simp)
      simp at this
      simp [this]
    | succ n =>
      have h3 := h1 0 (by simp) (by omega)
      simp at h3
      simp only [List.takeWhile_cons, h3, if_true, List.length_cons]
      congr 1
      exact ih n (by simpa using hn) (fun j h hj => by have := h1 (j + 1) (by simpa using h) (by omega); simpa using this) (fun h => by have := h2 (by simpa using h); simpa using this)
theorem rev_at (s : ByteArray) (j : Nat) (h : j < s.size) : s.data.toList.reverse[j]'(by simpa using h) = s[s.size - 1 - j]'(by omega) := by
  rw [List.getElem_reverse]
  rfl
/-- n bytes 92 stand at the end -/
def Tailed (s : ByteArray) (n : Nat) : Prop := ∀ j (h : j < s.size), j < n → s[s.size - 1 - j]'(by omega) = 92
theorem tailed_succ {s : ByteArray} {n : Nat} (h : Tailed s n) (hn : n < s.size) (he : s[s.size - 1 - n]'(by omega) = 92) : Tailed s (n + 1) := by
  intro j hj hjn
  by_cases e : j = n
  · subst e; exact he
  · exact h j hj (by omega)
theorem tailed_end {s : ByteArray} {n : Nat} (h : Tailed s n) (hn : n ≤ s.size) (he : ∀ h : n < s.size, s[s.size - 1 - n]'(by omega) ≠ 92) : tailN s = n := by
  unfold tailN
  refine tw_len _ _ n (by simpa using hn) (fun j hj hjn => ?_) (fun hl => ?_)
  · have hj' : j < s.size := by simpa using hj
    rw [rev_at s j hj', h j hj' hjn]; rfl
  · have hl' : n < s.size := by simpa using hl
    rw [rev_at s n hl']
    simpa using he hl'
theorem trimR_len (s : ByteArray) : (Lib.trimRightS s.data.toList [92]).length + tailN s = s.size := by
  unfold Lib.trimRightS tailN
  rw [List.length_reverse]
  have hp : (fun x => List.contains [92] x) = (fun x : UInt8 => x == 92) := by
    funext x
    simp [List.contains_cons]
    by_cases h : x = 92 <;> simp [h]
  rw [hp]
  have := congrArg List.length (List.takeWhile_append_dropWhile (p := fun x : UInt8 => x == 92) (l := s.data.toList.reverse))
  rw [List.length_append, List.length_reverse, ← Lib.size_eq] at this
  omega

theorem tailN_le (s : ByteArray) : tailN s ≤ s.size := by
  have := trimR_len s
  omega
theorem tailN_snoc (s : ByteArray) (t : ByteArray) (l : List UInt8) (ht : t.data.toList = s.data.toList ++ l) : tailN t = ((s.data.toList ++ l).reverse.takeWhile (· == 92)).length := by
  unfold tailN; rw [ht]
theorem tail_more (s : ByteArray) : tailN (s ++ ⟨#[92]⟩) = tailN s + 1 := by
  unfold tailN
  simp [List.takeWhile_cons]
theorem tail_none (s : ByteArray) : tailN (s ++ ⟨#[120]⟩) = 0 := by
  unfold tailN
  simp [List.takeWhile_cons]
theorem tail_two (s : ByteArray) : tailN (s ++ ⟨#[120, 92, 92]⟩) = 2 := by
  unfold tailN
  simp [List.takeWhile_cons]

theorem ascii_one : ∀ (j : Nat) b, (⟨#[92]⟩ : ByteArray).data.toList[j]? = some b → b.toNat < 128 := by
  intro j b h
  have : b ∈ ([92] : List UInt8) := List.mem_of_getElem? h
  simp only [List.mem_cons, List.not_mem_nil, or_false] at this
  subst this
  decide

def SomeTail (w : World) (e : Ending) (w' : World) : Prop := ∃ s : ByteArray, s.size ≤ 3 ∧ e = .returned (.string s) ∧ Below w.heap.size w w'
end Go.Proofs.Ytkhkpjnpjgnckaa
