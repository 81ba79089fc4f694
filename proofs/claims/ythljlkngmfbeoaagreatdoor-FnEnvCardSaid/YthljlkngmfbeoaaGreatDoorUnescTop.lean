/- Escapes taken back: the program's contract of Unescape. -/
import Derived.Test.YthljlkngmfbeoaaGreatDoorProg
import Derived.Test.YthljlkngmfbeoaaGreatDoorPlain
import Derived.Test.YthljlkngmfbeoaaGreatDoorCut
import Derived.Test.YthljlkngmfbeoaaGreatDoorTrim
import Derived.Test.YthljlkngmfbeoaaGreatDoorBuild
import Derived.Test.YthljlkngmfbeoaaGreatDoorDialectRows
import Derived.Test.YthljlkngmfbeoaaGreatDoorQuotSpec
import Derived.WalkKit
import Derived.WalkLawsBesides
import Derived.Tactics
import Derived.Tactics2
import Derived.Defers
import Derived.Recover
import Derived.Lib.FrozenHead2
import Derived.Laws.IdiomStrings
import Derived.Lib.Hide
import Derived.IntWalk
import Derived.Test.YthljlkngmfbeoaaGreatDoorTail
import Derived.Test.YthljlkngmfbeoaaGreatDoorBareImpl
import Derived.BigQuiet
import Derived.Deep.QuietTactic
import Derived.Lib.QuietBelow
set_option maxRecDepth 100000
namespace Go.Proofs.YthljlkngmfbeoaaGreatDoor
open Go.RowKit
set_option linter.unusedVariables false

theorem builtAtU_over {T e B b : Nat} {p : Value} {bs : List Value} {w w' : World} (h : Lib.BuilderAtF T e B b p bs w) (hb : Below w.heap.size w w') : Lib.BuilderAtF T e B b p bs w' := by
  obtain ⟨hB, v, hbk, hown, hne⟩ := h
  refine ⟨hB, v, (hb.block b (Array.getElem?_eq_some_iff.1 hbk).1).trans hbk, ⟨hown.1, ?_⟩, hne⟩
  rcases hown.2 with h2 | ⟨g, cap, cur, fz, hv, hg0, hg, h5, h6, h7, h8, h9⟩
  · exact .inl h2
  · exact .inr ⟨g, cap, cur, fz, hv, hg0, (hb.block g (Array.getElem?_eq_some_iff.1 hg).1).trans hg, h5, h6, h7, h8, h9⟩
theorem builtU_over {B b : Nat} {l : List UInt8} {w w' : World} (h : BuiltF B b l w) (hb : Below w.heap.size w w') : BuiltF B b l w' := by
  rcases h with h | h
  · exact .inl (builtAtU_over h hb)
  · exact .inr (builtAtU_over h hb)

/-! what a byte behind a backslash denotes -/
abbrev selfsB : ByteArray := ⟨#[92, 34, 91, 93, 61, 58, 35, 59, 33, 32, 9]⟩
theorem selfs_has (c : UInt8) : hasB selfsB c = selfB c := by
  unfold selfB hasB blankB
  simp only [hasB, List.contains_cons, List.contains_nil, Bool.or_false, Bool.or_assoc]
theorem unB_self {c : UInt8} (h1 : c ≠ 110) (h2 : c ≠ 116) (h3 : c ≠ 114) : unB c = if selfB c then some c else none := by
  unfold unB
  rw [if_neg h1, if_neg h2, if_neg h3]
/-- the first byte of a text, as an escape -/
def escO : List UInt8 → Option UInt8
  | [] => none
  | c :: _ => unB c
/-- it ends in a panic of a text -/
def Paniced (e : Ending) : Prop := ∃ v, e = .panicked [{ v := .iface 9 v, recovered := false }]

end Go.Proofs.YthljlkngmfbeoaaGreatDoor

/- Escapes taken back: the program's loop, and its Unescape. -/
set_option maxRecDepth 100000
namespace Go.Proofs.YthljlkngmfbeoaaGreatDoor
open Go.RowKit
set_option linter.unusedVariables false

abbrev backB : ByteArray := ⟨#[92]⟩
theorem back_has (c : UInt8) : hasB backB c = (c == 92) := by
  unfold hasB
  simp only [List.contains_cons, List.contains_nil, Bool.or_false]
theorem unE_skip : ∀ (p r : List UInt8), (∀ x, x ∈ p → x ≠ 92) → unE (p ++ r) = (unE r).map (p ++ ·) := by
  intro p
  induction p with
  | nil => intro r _; show unE r = _; cases unE r <;> rfl
  | cons c p ih =>
    intro r h
    rw [List.cons_append, unE_plain _ (h c (by simp)), ih r (fun x hx => h x (by simp [hx]))]
    cases unE r <;> rfl
/-- where it stands: l is written, t is to be read -/
def UnTo (all l t : List UInt8) : Prop := unE all = (unE t).map (l ++ ·)
theorem unTo_start (t : List UInt8) : UnTo t [] t := by
  unfold UnTo
  cases unE t <;> rfl
theorem first_none {s : ByteArray} (h : ¬ firstIn (hasB backB) s < s.size) : ∀ x, x ∈ s.data.toList → x ≠ 92 := by
  intro x hx e
  apply h
  unfold firstIn
  rw [Lib.size_eq, List.findIdx_lt_length]
  exact ⟨x, hx, by rw [back_has, e]; rfl⟩
theorem first_some {s : ByteArray} (h : firstIn (hasB backB) s < s.size) :
    s.data.toList = s.data.toList.take (firstIn (hasB backB) s) ++ 92 :: s.data.toList.drop (firstIn (hasB backB) s + 1) ∧ ∀ x, x ∈ s.data.toList.take (firstIn (hasB backB) s) → x ≠ 92 := by
  have hl : firstIn (hasB backB) s < s.data.toList.length := by rw [← Lib.size_eq]; exact h
  have hp : hasB backB (s.data.toList[firstIn (hasB backB) s]) = true := List.findIdx_getElem (p := hasB backB)
  have e : s.data.toList[firstIn (hasB backB) s] = 92 := by rw [back_has] at hp; simpa using hp
  refine ⟨?_, ?_⟩
  · conv => lhs; rw [← List.take_append_drop (firstIn (hasB backB) s) s.data.toList, List.drop_eq_getElem_cons hl, e]
  · intro x hx e2
    obtain ⟨j, hj, rfl⟩ := List.getElem_of_mem hx
    rw [List.length_take] at hj
    have h2 : hasB backB (s.data.toList[j]'(by omega)) = false := by
      have := List.not_of_lt_findIdx (p := hasB backB) (xs := s.data.toList) (i := j) (by unfold firstIn at hj; omega)
      simpa using this
    rw [back_has] at h2
    rw [List.getElem_take] at e2
    simp [e2] at h2
theorem unTo_end {all l : List UInt8} {t : ByteArray} (h : UnTo all l t.data.toList) (hn : ¬ firstIn (hasB backB) t < t.size) : unE all = some (l ++ t.data.toList) := by
  unfold UnTo at h
  rw [h]
  have := unE_skip t.data.toList [] (first_none hn)
  rw [List.append_nil] at this
  rw [this, unE_nil]
  simp
theorem unTo_good {all l : List UInt8} {t : ByteArray} {b : UInt8} (h : UnTo all l t.data.toList) (hn : firstIn (hasB backB) t < t.size) (hb : escO (t.data.toList.drop (firstIn (hasB backB) t + 1)) = some b) :
    UnTo all (l ++ t.data.toList.take (firstIn (hasB backB) t) ++ [b]) (t.data.toList.drop (firstIn (hasB backB) t + 2)) := by
  obtain ⟨h1, h2⟩ := first_some hn
  generalize hk : firstIn (hasB backB) t = k at *
  unfold UnTo at *
  have e : t.data.toList.drop (k + 2) = (t.data.toList.drop (k + 1)).drop 1 := by rw [List.drop_drop]
  rw [e]
  rw [h1, unE_skip _ _ h2] at h
  rw [h]
  cases hd : t.data.toList.drop (k + 1) with
  | nil => rw [hd] at hb; cases hb
  | cons c u =>
    rw [hd] at hb
    rw [unE_esc u hb]
    simp only [List.drop_succ_cons, List.drop_zero]
    cases unE u with
    | none => simp
    | some x => simp
theorem unTo_bad {all l : List UInt8} {t : ByteArray} (h : UnTo all l t.data.toList) (hn : firstIn (hasB backB) t < t.size) (hb : escO (t.data.toList.drop (firstIn (hasB backB) t + 1)) = none) : unE all = none := by
  obtain ⟨h1, h2⟩ := first_some hn
  generalize hk : firstIn (hasB backB) t = k at *
  unfold UnTo at *
  rw [h1, unE_skip _ _ h2] at h
  rw [h]
  cases hd : t.data.toList.drop (k + 1) with
  | nil => rw [unE_end]; rfl
  | cons c u =>
    rw [hd] at hb
    rw [unE_bad u hb]
    rfl
theorem drop_data (t : ByteArray) (k : Nat) : (t.extract k t.size).data.toList = t.data.toList.drop k := by
  rw [Lib.extract_eq]
  simp only [Lib.size_eq]
  rw [List.take_of_length_le (by simp)]
theorem take_data (t : ByteArray) (k : Nat) : (t.extract 0 k).data.toList = t.data.toList.take k := by
  rw [Lib.extract_eq]
  simp

/-- how the loop ends -/
def UnEnd (s : ByteArray) (e : Ending) : Prop := (∃ l, unE s.data.toList = some l ∧ e = .returned (.string ⟨l.toArray⟩)) ∨ (unE s.data.toList = none ∧ Paniced e)

end Go.Proofs.YthljlkngmfbeoaaGreatDoor

/- Escapes taken back: the program's Unescape, which recovers. -/
set_option maxRecDepth 100000
namespace Go.Proofs.YthljlkngmfbeoaaGreatDoor
open Go.RowKit
set_option linter.unusedVariables false

end Go.Proofs.YthljlkngmfbeoaaGreatDoor

/- A bare value: the program's trim, beforeNote and Bare. -/
set_option maxRecDepth 100000
namespace Go.Proofs.YthljlkngmfbeoaaGreatDoor
open Go.RowKit Go.Sort
set_option linter.unusedVariables false

theorem ext_data (s : ByteArray) (a b : Nat) : (s.extract a b).data.toList = (s.data.toList.drop a).take (b - a) := by
  rw [Lib.extract_eq]
theorem same_data {x y : ByteArray} (h : x.data.toList = y.data.toList) : x = y := by
  cases x with
  | mk a => cases y with
    | mk b => cases a; cases b; simp_all
theorem ext_ext (s : ByteArray) (a b c d : Nat) (hd : c + d ≤ b - a) : (s.extract a b).extract c (c + d) = s.extract (a + c) (a + c + d) := by
  apply same_data
  rw [ext_data, ext_data, ext_data, List.drop_take, List.take_take, List.drop_drop]
  congr 1
  omega
theorem at_data (s : ByteArray) (i : Nat) (h : i < s.size) : s[i] = s.data.toList[i]'(by rw [← Lib.size_eq]; exact h) := rfl
theorem ext_at (s : ByteArray) (a b i : Nat) (hb : b ≤ s.size) (hi : i < b - a) (h : i < (s.extract a b).size) : (s.extract a b)[i] = s[a + i]'(by omega) := by
  have hl : s.data.toList.length = s.size := (Lib.size_eq s).symm
  rw [at_data, at_data]
  have : ((s.data.toList.drop a).take (b - a))[i]? = s.data.toList[a + i]? := by
    rw [List.getElem?_take, if_pos hi, List.getElem?_drop]
  have e := ext_data s a b
  have h1 : (s.extract a b).data.toList[i]? = s.data.toList[a + i]? := by rw [e]; exact this
  rw [List.getElem?_eq_getElem (by rw [← Lib.size_eq]; exact h), List.getElem?_eq_getElem (by omega)] at h1
  exact Option.some.inj h1
theorem takeWhile_stop (p : UInt8 → Bool) : ∀ (xs ys : List UInt8), ys.takeWhile p = [] → (xs ++ ys).takeWhile p = xs.takeWhile p := by
  intro xs
  induction xs with
  | nil => intro ys h; simpa using h
  | cons c xs ih =>
    intro ys h
    simp only [List.cons_append, List.takeWhile_cons]
    rw [ih ys h]
/-- nothing ahead of a place reaches over it -/
def Stops (s : ByteArray) (a : Nat) : Prop := a = 0 ∨ ∃ h : a - 1 < s.size, 1 ≤ a ∧ s[a - 1]'h ≠ 92
theorem tail_stops {s : ByteArray} {a j : Nat} (h : Stops s a) (haj : a ≤ j) (hj : j ≤ s.size) : tailN (s.extract a j) = tailN (s.extract 0 j) := by
  have hl : s.data.toList.length = s.size := (Lib.size_eq s).symm
  unfold tailN
  rw [ext_data, ext_data, List.drop_zero, Nat.sub_zero]
  have e : s.data.toList.take j = s.data.toList.take a ++ (s.data.toList.drop a).take (j - a) := by
    have := List.take_append_drop a (s.data.toList.take j)
    rw [List.take_take, Nat.min_eq_left haj, List.drop_take] at this
    exact this.symm
  rw [e, List.reverse_append, takeWhile_stop]
  rcases h with rfl | ⟨h1, h2, h3⟩
  · simp
  · obtain ⟨b, rfl⟩ : ∃ b, a = b + 1 := ⟨a - 1, by omega⟩
    have hb : b < s.data.toList.length := by omega
    rw [List.take_succ_eq_append_getElem hb, List.reverse_append]
    simp only [List.reverse_cons, List.reverse_nil, List.nil_append, List.cons_append, List.takeWhile_cons]
    have h4 : s.data.toList[b] ≠ 92 := h3
    rw [if_neg (by simpa using h4)]
theorem front_stops (s : ByteArray) : Stops s (front5 s) := by
  by_cases h : front5 s = 0
  · exact .inl h
  · refine .inr ⟨by have := front5_le s; omega, by omega, ?_⟩
    have hf := front5_le s
    have hl : s.data.toList.length = s.size := (Lib.size_eq s).symm
    have hx : s[front5 s - 1]'(by omega) ∈ s.data.toList.takeWhile blankB := by
      have e := List.takeWhile_append_dropWhile (p := blankB) (l := s.data.toList)
      have hlt : front5 s - 1 < (s.data.toList.takeWhile blankB).length := by
        have : (s.data.toList.takeWhile blankB).length = front5 s := rfl
        omega
      have h1 : s.data.toList[front5 s - 1]? = (s.data.toList.takeWhile blankB)[front5 s - 1]? := by
        conv => lhs; rw [← e]
        rw [List.getElem?_append_left hlt]
      rw [List.getElem?_eq_getElem (by omega), List.getElem?_eq_getElem hlt] at h1
      have h2 := Option.some.inj h1
      rw [at_data, h2]
      exact List.getElem_mem _
    have hy : blankB (s[front5 s - 1]'(by omega)) = true := by
      have := List.all_takeWhile (p := blankB) (l := s.data.toList)
      rw [List.all_eq_true] at this
      exact this _ hx
    intro e
    rw [e] at hy
    exact absurd hy (by decide)
theorem ends_ext {e : Bool} {s : ByteArray} {a b : Nat} (h : Stops s a) (hab : a ≤ b) (hb : b ≤ s.size) : ends5 e (s.extract a b) = (decide (a < b) && blank5 e s (b - 1)) := by
  have hsz : (s.extract a b).size = b - a := by rw [ByteArray.size_extract]; omega
  unfold ends5
  by_cases hlt : a < b
  · rw [dif_pos (by omega), decide_eq_true hlt, Bool.true_and]
    unfold blank5
    rw [dif_pos (by omega)]
    have e1 : (s.extract a b)[(s.extract a b).size - 1]'(by omega) = s[b - 1]'(by omega) := by
      rw [ext_at s a b _ hb (by omega)]
      congr 1
      omega
    rw [e1]
    congr 1
    unfold esc5
    have e2 : (s.extract a b).extract 0 ((s.extract a b).size - 1) = s.extract a (b - 1) := by
      rw [hsz]
      have := ext_ext s a b 0 (b - a - 1) (by omega)
      rw [Nat.zero_add] at this
      rw [this, Nat.add_zero]
      congr 1
      omega
    rw [e2, tail_stops h (by omega) (by omega)]
    generalize tailN (s.extract 0 (b - 1)) = n
    cases e
    · rfl
    · rcases (show n % 2 = 0 ∨ n % 2 = 1 by omega) with q | q <;> rw [q] <;> rfl
  · rw [dif_neg (by omega), decide_eq_false hlt]
    rfl

/-- a note behind a value, as the program looks for it -/
theorem note5_ends (d : DialectD) (s : ByteArray) (k : Nat) (h : k < s.size) : note5 d s k = (hasB d.notes s[k] && ends5 d.esc (s.extract 0 k)) := by
  rw [ends_ext (.inl rfl) (Nat.zero_le _) (by omega)]
  unfold note5
  by_cases hk : 1 ≤ k
  · rw [dif_pos ⟨hk, h⟩, decide_eq_true (show 0 < k by omega), Bool.true_and]
  · rw [dif_neg (fun x => hk x.1), decide_eq_false (show ¬ 0 < k by omega), Bool.false_and, Bool.and_false]
/-- what stands ahead of a note -/
def ahead5 (d : DialectD) (s : ByteArray) : ByteArray := s.extract 0 ((List.range s.size).findIdx (note5 d s))

end Go.Proofs.YthljlkngmfbeoaaGreatDoor
