/- The contracts of Trim. -/
import Derived.Test.YtkhkpjnpjgnckaaProg
import Derived.Test.YtkhkpjnpjgnckaaPlain
import Derived.WalkKit
import Derived.WalkLawsBesides
import Derived.Lib.SlTrimSet
import Derived.Lib.Hide
import Derived.IntWalk
namespace Go.Proofs.Ytkhkpjnpjgnckaa
open Go.RowKit
set_option linter.unusedVariables false

/-- a space or a tab -/
def blankB (c : UInt8) : Bool := c == 32 || c == 9
theorem blank_set (c : UInt8) : ([32, 9] : List UInt8).contains c = blankB c := by
  unfold blankB
  simp only [List.contains_cons, List.contains_nil, Bool.or_false]
def PreB (s : ByteArray) (k : Nat) : Prop := ∀ j (h : j < s.size), j < k → blankB s[j] = true
def SufB (s : ByteArray) (k : Nat) : Prop := ∀ j (h : j < s.size), k ≤ j → blankB s[j] = true
theorem preB_zero (s : ByteArray) : PreB s 0 := fun j _ h => by omega
theorem preB_succ {s : ByteArray} {k : Nat} (h : PreB s k) (hk : k < s.size) (hb : blankB s[k] = true) : PreB s (k + 1) := by
  intro j hj hjk
  by_cases e : j = k
  · subst e; exact hb
  · exact h j hj (by omega)
theorem sufB_end (s : ByteArray) : SufB s s.size := fun j h h2 => by omega
theorem sufB_pred {s : ByteArray} {k : Nat} (h : SufB s (k + 1)) (hk : k < s.size) (hb : blankB s[k] = true) : SufB s k := by
  intro j hj hjk
  by_cases e : j = k
  · subst e; exact hb
  · exact h j hj (by omega)

/-- a text without the blanks at its ends -/
def trimL (l : List UInt8) : List UInt8 := Lib.trimS l [32, 9]
theorem at_some {s : ByteArray} {j : Nat} {b : UInt8} (h : s.data.toList[j]? = some b) : ∃ hj : j < s.size, s[j] = b := by
  obtain ⟨hj, e⟩ := List.getElem?_eq_some_iff.1 h
  exact ⟨by simpa using hj, e⟩
theorem trim_cut {s : ByteArray} {a b : Nat} (hab : a ≤ b) (hb : b ≤ s.size) (h1 : PreB s a) (h2 : SufB s b) (h3 : a < b → ∀ (ha : a < s.size) (hb : b - 1 < s.size), blankB s[a] = false ∧ blankB s[b - 1] = false) :
    (⟨(trimL s.data.toList).toArray⟩ : ByteArray) = s.extract a b := by
  have hl : s.data.toList.length = s.size := by simp
  rw [Lib.extract_eq]
  congr 2
  unfold trimL Lib.trimS
  by_cases e : a = b
  · subst e
    rw [Lib.trimRightS_take s.data.toList [32, 9] 0 (by omega) (fun j x _ hx => by
      obtain ⟨hj, rfl⟩ := at_some hx
      rw [blank_set]
      by_cases hja : j < a
      · exact h1 j hj hja
      · exact h2 j hj (by omega)) (fun _ h _ => by omega)]
    simp [Lib.trimLeftS]
  · have hlt : a < b := by omega
    obtain ⟨n1, n2⟩ := h3 hlt (by omega) (by omega)
    rw [Lib.trimRightS_take s.data.toList [32, 9] b (by omega) (fun j x hj hx => by
      obtain ⟨hj', rfl⟩ := at_some hx
      rw [blank_set]
      exact h2 j hj' hj) (fun x _ hx => by
      obtain ⟨hj', rfl⟩ := at_some hx
      rw [blank_set]
      exact n2)]
    rw [Lib.trimLeftS_drop (s.data.toList.take b) [32, 9] a (by simp; omega) (fun j x hj hx => by
      rw [List.getElem?_take, if_pos (by omega)] at hx
      obtain ⟨hj', rfl⟩ := at_some hx
      rw [blank_set]
      exact h1 j hj' hj) (fun x hx => by
      rw [List.getElem?_take, if_pos (by omega)] at hx
      obtain ⟨hj', rfl⟩ := at_some hx
      rw [blank_set]
      exact n1)]
    rw [List.drop_take]

end Go.Proofs.Ytkhkpjnpjgnckaa
