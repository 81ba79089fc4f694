/- A bare value: the program's trim, beforeNote and Bare. -/
import Derived.Test.YteocaaclcecolaaProg
import Derived.Test.YteocaaclcecolaaPlain
import Derived.Test.YteocaaclcecolaaCut
import Derived.Test.YteocaaclcecolaaTrim
import Derived.Test.YteocaaclcecolaaTail
import Derived.Test.YteocaaclcecolaaDialectRows
import Derived.Test.YteocaaclcecolaaUnescSpec
import Derived.Test.YteocaaclcecolaaUnescTop
import Derived.Test.YteocaaclcecolaaBareSpec
import Derived.Test.YteocaaclcecolaaBareImpl
import Derived.WalkKit
import Derived.WalkLawsBesides
import Derived.BigQuiet
import Derived.Deep.QuietTactic
import Derived.Lib.QuietBelow
import Derived.Laws.IdiomStrings
import Derived.Lib.Hide
import Derived.IntWalk
set_option maxRecDepth 100000
namespace Go.Proofs.Yteocaaclcecolaa
open Go.RowKit Go.Sort
set_option linter.unusedVariables false

theorem ext_data (s : ByteArray) (a b : Nat) : (s.extract a b).data.toList = (s.data.toList.drop a).take (b - a) := by
  rw [Lib.extract_eq]
theorem same_data {x y : ByteArray} (h : x.data.toList = y.data.toList) : x = y := by
  cases x with
  | mk a => cases y with
    | mk b => cases a; cases b; simp_all
theorem ext_ext (s : ByteArray) (a b c d : Nat) (hd : c + d ≤ b - a) : (s.extract a b).extract c (c + d) = s.extract (a + c) (a + c + d) := by
  apply same_data
  rw [ext_data, ext_data, ext_data, List.drop_take, List.take_take, List.drop_drop]
  congr 1
  omega
theorem at_data (s : ByteArray) (i : Nat) (h : i < s.size) : s[i] = s.data.toList[i]'(by rw [← Lib.size_eq]; exact h) := rfl
theorem ext_at (s : ByteArray) (a b i : Nat) (hb : b ≤ s.size) (hi : i < b - a) (h : i < (s.extract a b).size) : (s.extract a b)[i] = s[a + i]'(by omega) := by
  have hl : s.data.toList.length = s.size := (Lib.size_eq s).symm
  rw [at_data, at_data]
  have : ((s.data.toList.drop a).take (b - a))[i]? = s.data.toList[a + i]? := by
    rw [List.getElem?_take, if_pos hi, List.getElem?_drop]
  have e := ext_data s a b
  have h1 : (s.extract a b).data.toList[i]? = s.data.toList[a + i]? := by rw [e]; exact this
  rw [List.getElem?_eq_getElem (by rw [← Lib.size_eq]; exact h), List.getElem?_eq_getElem (by omega)] at h1
  exact Option.some.inj h1
theorem takeWhile_stop (p : UInt8 → Bool) : ∀ (xs ys : List UInt8), ys.takeWhile p = [] → (xs ++ ys).takeWhile p = xs.takeWhile p := by
  intro xs
  induction xs with
  | nil => intro ys h; simpa using h
  | cons c xs ih =>
    intro ys h
    simp only [List.cons_append, List.takeWhile_cons]
    rw [ih ys h]
/-- nothing ahead of a place reaches over it -/
def Stops (s : ByteArray) (a : Nat) : Prop := a = 0 ∨ ∃ h : a - 1 < s.size, 1 ≤ a ∧ s[a - 1]'h ≠ 92
theorem tail_stops {s : ByteArray} {a j : Nat} (h : Stops s a) (haj : a ≤ j) (hj : j ≤ s.size) : tailN (s.extract a j) = tailN (s.extract 0 j) := by
  have hl : s.data.toList.length = s.size := (Lib.size_eq s).symm
  unfold tailN
  rw [ext_data, ext_data, List.drop_zero, Nat.sub_zero]
  have e : s.data.toList.take j = s.data.toList.take a ++ (s.data.toList.drop a).take (j - a) := by
    have := List.take_append_drop a (s.data.toList.take j)
    rw [List.take_take, Nat.min_eq_left haj, List.drop_take] at this
    exact this.symm
  rw [e, List.reverse_append, takeWhile_stop]
  rcases h with rfl | ⟨h1, h2, h3⟩
  · simp
  · obtain ⟨b, rfl⟩ : ∃ b, a = b + 1 := ⟨a - 1, by omega⟩
    have hb : b < s.data.toList.length := by omega
    rw [List.take_succ_eq_append_getElem hb, List.reverse_append]
    simp only [List.reverse_cons, List.reverse_nil, List.nil_append, List.cons_append, List.takeWhile_cons]
    have h4 : s.data.toList[b] ≠ 92 := h3
    rw [if_neg (by simpa using h4)]
theorem front_stops (s : ByteArray) : Stops s (front5 s) := by
  by_cases h : front5 s = 0
  · exact .inl h
  · refine .inr ⟨by have := front5_le s; omega, by omega, ?_⟩
    have hf := front5_le s
    have hl : s.data.toList.length = s.size := (Lib.size_eq s).symm
    have hx : s[front5 s - 1]'(by omega) ∈ s.data.toList.takeWhile blankB := by
      have e := List.takeWhile_append_dropWhile (p := blankB) (l := s.data.toList)
      have hlt : front5 s - 1 < (s.data.toList.takeWhile blankB).length := by
        have : (s.data.toList.takeWhile blankB).length = front5 s := rfl
        omega
      have h1 : s.data.toList[front5 s - 1]? = (s.data.toList.takeWhile blankB)[front5 s - 1]? := by
        conv => lhs; rw [← e]
        rw [List.getElem?_append_left hlt]
      rw [List.getElem?_eq_getElem (by omega), List.getElem?_eq_getElem hlt] at h1
      have h2 := Option.some.inj h1
      rw [at_data, h2]
      exact List.getElem_mem _
    have hy : blankB (s[front5 s - 1]'(by omega)) = true := by
      have := List.all_takeWhile (p := blankB) (l := s.data.toList)
      rw [List.all_eq_true] at this
      exact this _ hx
    intro e
    rw [e] at hy
    exact absurd hy (by decide)
theorem ends_ext {e : Bool} {s : ByteArray} {a b : Nat} (h : Stops s a) (hab : a ≤ b) (hb : b ≤ s.size) : ends5 e (s.extract a b) = (decide (a < b) && blank5 e s (b - 1)) := by
  have hsz : (s.extract a b).size = b - a := by rw [ByteArray.size_extract]; omega
  unfold ends5
  by_cases hlt : a < b
  · rw [dif_pos (by omega), decide_eq_true hlt, Bool.true_and]
    unfold blank5
    rw [dif_pos (by omega)]
    have e1 : (s.extract a b)[(s.extract a b).size - 1]'(by omega) = s[b - 1]'(by omega) := by
      rw [ext_at s a b _ hb (by omega)]
      congr 1
      omega
    rw [e1]
    congr 1
    unfold esc5
    have e2 : (s.extract a b).extract 0 ((s.extract a b).size - 1) = s.extract a (b - 1) := by
      rw [hsz]
      have := ext_ext s a b 0 (b - a - 1) (by omega)
      rw [Nat.zero_add] at this
      rw [this, Nat.add_zero]
      congr 1
      omega
    rw [e2, tail_stops h (by omega) (by omega)]
    generalize tailN (s.extract 0 (b - 1)) = n
    cases e
    · rfl
    · rcases (show n % 2 = 0 ∨ n % 2 = 1 by omega) with q | q <;> rw [q] <;> rfl
  · rw [dif_neg (by omega), decide_eq_false hlt]
    rfl

/-- a note behind a value, as the program looks for it -/
theorem note5_ends (d : DialectD) (s : ByteArray) (k : Nat) (h : k < s.size) : note5 d s k = (hasB d.notes s[k] && ends5 d.esc (s.extract 0 k)) := by
  rw [ends_ext (.inl rfl) (Nat.zero_le _) (by omega)]
  unfold note5
  by_cases hk : 1 ≤ k
  · rw [dif_pos ⟨hk, h⟩, decide_eq_true (show 0 < k by omega), Bool.true_and]
  · rw [dif_neg (fun x => hk x.1), decide_eq_false (show ¬ 0 < k by omega), Bool.false_and, Bool.and_false]
/-- what stands ahead of a note -/
def ahead5 (d : DialectD) (s : ByteArray) : ByteArray := s.extract 0 ((List.range s.size).findIdx (note5 d s))

end Go.Proofs.Yteocaaclcecolaa
