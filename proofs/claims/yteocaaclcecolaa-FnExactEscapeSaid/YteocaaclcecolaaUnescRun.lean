/- Escapes taken back: the program's loop, and its Unescape. -/
import Derived.Test.YteocaaclcecolaaProg
import Derived.Test.YteocaaclcecolaaPlain
import Derived.Test.YteocaaclcecolaaCut
import Derived.Test.YteocaaclcecolaaTrim
import Derived.Test.YteocaaclcecolaaBuild
import Derived.Test.YteocaaclcecolaaDialectRows
import Derived.Test.YteocaaclcecolaaUnescSpec
import Derived.Test.YteocaaclcecolaaUnescImpl
import Derived.WalkKit
import Derived.WalkLawsBesides
import Derived.Tactics
import Derived.Tactics2
import Derived.Defers
import Derived.Recover
import Derived.Laws.IdiomStrings
import Derived.Lib.Hide
import Derived.IntWalk
set_option maxRecDepth 100000
namespace Go.Proofs.Yteocaaclcecolaa
open Go.RowKit
set_option linter.unusedVariables false

abbrev backB : ByteArray := ⟨#[92]⟩
theorem back_has (c : UInt8) : hasB backB c = (c == 92) := by
  unfold hasB
  simp only [List.contains_cons, List.contains_nil, Bool.or_false]
theorem unE_skip : ∀ (p r : List UInt8), (∀ x, x ∈ p → x ≠ 92) → unE (p ++ r) = (unE r).map (p ++ ·) := by
  intro p
  induction p with
  | nil => intro r _; show unE r = _; cases unE r <;> rfl
  | cons c p ih =>
    intro r h
    rw [List.cons_append, unE_plain _ (h c (by simp)), ih r (fun x hx => h x (by simp [hx]))]
    cases unE r <;> rfl
/-- where it stands: l is written, t is to be read -/
def UnTo (all l t : List UInt8) : Prop := unE all = (unE t).map (l ++ ·)
theorem unTo_start (t : List UInt8) : UnTo t [] t := by
  unfold UnTo
  cases unE t <;> rfl
theorem first_none {s : ByteArray} (h : ¬ firstIn (hasB backB) s < s.size) : ∀ x, x ∈ s.data.toList → x ≠ 92 := by
  intro x hx e
  apply h
  unfold firstIn
  rw [Lib.size_eq, List.findIdx_lt_length]
  exact ⟨x, hx, by rw [back_has, e]; rfl⟩
theorem first_some {s : ByteArray} (h : firstIn (hasB backB) s < s.size) :
    s.data.toList = s.data.toList.take (firstIn (hasB backB) s) ++ 92 :: s.data.toList.drop (firstIn (hasB backB) s + 1) ∧ ∀ x, x ∈ s.data.toList.take (firstIn (hasB backB) s) → x ≠ 92 := by
  have hl : firstIn (hasB backB) s < s.data.toList.length := by rw [← Lib.size_eq]; exact h
  have hp : hasB backB (s.data.toList[firstIn (hasB backB) s]) = true := List.findIdx_getElem (p := hasB backB)
  have e : s.data.toList[firstIn (hasB backB) s] = 92 := by rw [back_has] at hp; simpa using hp
  refine ⟨?_, ?_⟩
  · conv => lhs; rw [← List.take_append_drop (firstIn (hasB backB) s) s.data.toList, List.drop_eq_getElem_cons hl, e]
  · intro x hx e2
    obtain ⟨j, hj, rfl⟩ := List.getElem_of_mem hx
    rw [List.length_take] at hj
    have h2 : hasB backB (s.data.toList[j]'(by omega)) = false := by
      have := List.not_of_lt_findIdx (p := hasB backB) (xs := s.data.toList) (i := j) (by unfold firstIn at hj; omega)
      simpa using this
    rw [back_has] at h2
    rw [List.getElem_take] at e2
    simp [e2] at h2
theorem unTo_end {all l : List UInt8} {t : ByteArray} (h : UnTo all l t.data.toList) (hn : ¬ firstIn (hasB backB) t < t.size) : unE all = some (l ++ t.data.toList) := by
  unfold UnTo at h
  rw [h]
  have := unE_skip t.data.toList [] (first_none hn)
  rw [List.append_nil] at this
  rw [this, unE_nil]
  simp
theorem unTo_good {all l : List UInt8} {t : ByteArray} {b : UInt8} (h : UnTo all l t.data.toList) (hn : firstIn (hasB backB) t < t.size) (hb : escO (t.data.toList.drop (firstIn (hasB backB) t + 1)) = some b) :
    UnTo all (l ++ t.data.toList.take (firstIn (hasB backB) t) ++ [b]) (t.data.toList.drop (firstIn (hasB backB) t + 2)) := by
  obtain ⟨h1, h2⟩ := first_some hn
  generalize hk : firstIn (hasB backB) t = k at *
  unfold UnTo at *
  have e : t.data.toList.drop (k + 2) = (t.data.toList.drop (k + 1)).drop 1 := by rw [List.drop_drop]
  rw [e]
  rw [h1, unE_skip _ _ h2] at h
  rw [h]
  cases hd : t.data.toList.drop (k + 1) with
  | nil => rw [hd] at hb; cases hb
  | cons c u =>
    rw [hd] at hb
    rw [unE_esc u hb]
    simp only [List.drop_succ_cons, List.drop_zero]
    cases unE u with
    | none => simp
    | some x => simp
theorem unTo_bad {all l : List UInt8} {t : ByteArray} (h : UnTo all l t.data.toList) (hn : firstIn (hasB backB) t < t.size) (hb : escO (t.data.toList.drop (firstIn (hasB backB) t + 1)) = none) : unE all = none := by
  obtain ⟨h1, h2⟩ := first_some hn
  generalize hk : firstIn (hasB backB) t = k at *
  unfold UnTo at *
  rw [h1, unE_skip _ _ h2] at h
  rw [h]
  cases hd : t.data.toList.drop (k + 1) with
  | nil => rw [unE_end]; rfl
  | cons c u =>
    rw [hd] at hb
    rw [unE_bad u hb]
    rfl
theorem drop_data (t : ByteArray) (k : Nat) : (t.extract k t.size).data.toList = t.data.toList.drop k := by
  rw [Lib.extract_eq]
  simp only [Lib.size_eq]
  rw [List.take_of_length_le (by simp)]
theorem take_data (t : ByteArray) (k : Nat) : (t.extract 0 k).data.toList = t.data.toList.take k := by
  rw [Lib.extract_eq]
  simp

/-- how the loop ends -/
def UnEnd (s : ByteArray) (e : Ending) : Prop := (∃ l, unE s.data.toList = some l ∧ e = .returned (.string ⟨l.toArray⟩)) ∨ (unE s.data.toList = none ∧ Paniced e)

end Go.Proofs.Yteocaaclcecolaa
