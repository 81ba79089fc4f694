/- The records of an environment file, as a list; a list of records kept to its limit. -/
import Derived.Test.YtkhkpjnpjgnckaaGreatDoorProg
import Derived.Test.YtkhkpjnpjgnckaaGreatDoorPlain
import Derived.Test.YtkhkpjnpjgnckaaGreatDoorRows0
import Derived.Test.YtkhkpjnpjgnckaaGreatDoorRecRows
import Derived.Test.YtkhkpjnpjgnckaaGreatDoorRecArg
import Derived.Test.YtkhkpjnpjgnckaaGreatDoorRecRaw
import Derived.Test.YtkhkpjnpjgnckaaGreatDoorLines
import Derived.Test.YtkhkpjnpjgnckaaGreatDoorSplitSpec
import Derived.Test.YtkhkpjnpjgnckaaGreatDoorJoin
import Derived.Test.YtkhkpjnpjgnckaaGreatDoorEnvOne
import Derived.Lib.Hide
namespace Go.Proofs.YtkhkpjnpjgnckaaGreatDoor
open Go.RowKit
set_option linter.unusedVariables false

theorem quoteO_count (l : List Ln) : ∀ (t e : ByteArray) (n : Nat), n ≤ (quoteO t e l n).2.1 ∧ (quoteO t e l n).2.1 ≤ n + l.length := by
  induction l with
  | nil => intro t e n; unfold quoteO; simp
  | cons x l ih =>
    intro t e n
    unfold quoteO
    split
    · simp
    · have := ih (t ++ e ++ x.1) x.2 (n + 1)
      simp only [List.length_cons]
      omega
theorem quoteR_count (r : ByteArray × Nat × Bool) : (quoteR r).2 ≤ r.2.1 := by
  unfold quoteR
  split
  · split
    · exact Nat.le_refl _
    · exact Nat.zero_le _
  · exact Nat.zero_le _
theorem quoteE_count (t e : ByteArray) (l : List Ln) : (quoteE t e l).2 ≤ 1 + l.length := Nat.le_trans (quoteR_count _) (quoteO_count l t e 1).2
theorem oneE_count (x : Ln) (l : List Ln) : 1 ≤ (oneE x l).2 ∧ (oneE x l).2 ≤ 1 + l.length := by
  unfold oneE
  generalize leadX (leadE x.1) = y
  split
  · split
    · simp
    · unfold lineE
      generalize restO y = ro
      generalize trimE ro.1 = key
      generalize leadE ro.2.1 = rest
      split
      · unfold valE
        have hc := quoteE_count rest x.2 l
        generalize quoteE rest x.2 l = q at *
        split
        · split
          · simp
          · next h => exact ⟨by simp only; omega, hc⟩
        · split
          · simp
          · simp
      · simp
  · simp
/-- a line on which a record begins -/
def oneAt (l : List Ln) (k : Nat) (hk : k < l.length) : RecD × Nat := oneE l[k] (l.drop (k + 1))
theorem oneAt_le (l : List Ln) (k : Nat) (hk : k < l.length) : 1 ≤ (oneAt l k hk).2 ∧ k + (oneAt l k hk).2 ≤ l.length := by
  have h := oneE_count l[k] (l.drop (k + 1))
  rw [List.length_drop] at h
  unfold oneAt
  omega
/-- the bytes of some lines -/
def rawP (l : List Ln) (k c : Nat) : ByteArray := ⟨(joinB ((l.drop k).take c)).toArray⟩
/-- a record with its bytes and its line -/
def putP (l : List Ln) (k c : Nat) (x : RecD) : RecD := ⟨x.kind, rawP l k c, ⟨#[]⟩, x.key, x.value, (k : Int) + 1⟩
def recsPI (l : List Ln) : Nat → Nat → List RecD
  | 0, _ => []
  | f + 1, k => if h : k < l.length then putP l k (oneAt l k h).2 (oneAt l k h).1 :: recsPI l f (k + (oneAt l k h).2) else []
theorem recsPI_end (l : List Ln) (f k : Nat) (h : l.length ≤ k) : recsPI l f k = [] := by
  cases f with
  | zero => rfl
  | succ f => unfold recsPI; rw [dif_neg (by omega)]
theorem recsPI_more (l : List Ln) : ∀ (f f2 k : Nat), l.length ≤ k + f → l.length ≤ k + f2 → recsPI l f k = recsPI l f2 k := by
  intro f
  induction f with
  | zero => intro f2 k h1 h2; rw [recsPI_end l 0 k (by omega), recsPI_end l f2 k (by omega)]
  | succ f ih =>
    intro f2 k h1 h2
    by_cases hk : k < l.length
    · cases f2 with
      | zero => omega
      | succ f2 =>
        have hs := oneAt_le l k hk
        unfold recsPI
        rw [dif_pos hk, dif_pos hk, ih f2 _ (by omega) (by omega)]
    · rw [recsPI_end l _ k (by omega), recsPI_end l _ k (by omega)]
/-- the records from a line on -/
def recsP (l : List Ln) (k : Nat) : List RecD := recsPI l l.length k
theorem recsP_step (l : List Ln) (k : Nat) (hk : k < l.length) : recsP l k = putP l k (oneAt l k hk).2 (oneAt l k hk).1 :: recsP l (k + (oneAt l k hk).2) := by
  have hs := oneAt_le l k hk
  unfold recsP
  obtain ⟨f, hf⟩ : ∃ f, l.length = f + 1 := ⟨l.length - 1, by omega⟩
  conv => lhs; rw [hf]; unfold recsPI
  rw [dif_pos hk, recsPI_more l f l.length _ (by omega) (by omega)]
theorem recsP_end (l : List Ln) (k : Nat) (h : l.length ≤ k) : recsP l k = [] := recsPI_end l _ k h
theorem recsP_some (l : List Ln) (k : Nat) (h : k < l.length) : 0 < (recsP l k).length := by
  rw [recsP_step l k h]
  simp
/-- by how far the lines go -/
theorem recsP_ind {l : List Ln} {P : Nat → Prop} (h0 : ∀ k, l.length ≤ k → P k) (h1 : ∀ k (hk : k < l.length), P (k + (oneAt l k hk).2) → P k) : ∀ k, P k := by
  intro k
  have key : ∀ n k, l.length - k ≤ n → P k := by
    intro n
    induction n with
    | zero => intro k hk; exact h0 k (by omega)
    | succ n ih =>
      intro k hk
      by_cases h : k < l.length
      · have := oneAt_le l k h
        exact h1 k h (ih _ (by omega))
      · exact h0 k (by omega)
  exact key _ k (Nat.le_refl _)
theorem recsP_raw (l : List Ln) : ∀ k, rawB (recsP l k) = joinB (l.drop k) := by
  refine recsP_ind (l := l) ?_ ?_
  · intro k hk
    rw [recsP_end l k hk, List.drop_of_length_le hk]
    rfl
  · intro k hk ih
    have hs := oneAt_le l k hk
    rw [recsP_step l k hk]
    show (rawP l k (oneAt l k hk).2).data.toList ++ rawB (recsP l (k + (oneAt l k hk).2)) = _
    rw [ih]
    unfold rawP
    show joinB ((l.drop k).take (oneAt l k hk).2) ++ joinB (l.drop (k + (oneAt l k hk).2)) = _
    rw [← joinB_append, ← List.drop_drop, List.take_append_drop]
theorem recsP_len (l : List Ln) : ∀ k, (recsP l k).length ≤ l.length - k := by
  refine recsP_ind (l := l) ?_ ?_
  · intro k hk
    rw [recsP_end l k hk]
    exact Nat.zero_le _
  · intro k hk ih
    have hs := oneAt_le l k hk
    rw [recsP_step l k hk, List.length_cons]
    omega
theorem recsP_sect (l : List Ln) : ∀ k, ∀ x ∈ recsP l k, x.sect = ⟨#[]⟩ := by
  refine recsP_ind (l := l) ?_ ?_
  · intro k hk
    rw [recsP_end l k hk]
    intro x hx
    cases hx
  · intro k hk ih
    rw [recsP_step l k hk]
    intro x hx
    rcases List.mem_cons.1 hx with rfl | hx
    · rfl
    · exact ih x hx

/-- a list of records kept to its limit -/
def limG (m : List RecD) : List RecD :=
  if m.length ≤ 200 then m else m.take 199 ++ [⟨4, ⟨(rawB (m.drop 199)).toArray⟩, (m.getD 198 noRec).sect, ⟨#[]⟩, ⟨#[]⟩, (m.getD 199 noRec).line⟩]
theorem limG_few {m : List RecD} (h : m.length ≤ 200) : limG m = m := by unfold limG; rw [if_pos h]
theorem limG_many {m : List RecD} (h : 200 < m.length) : limG m = m.take 199 ++ [⟨4, ⟨(rawB (m.drop 199)).toArray⟩, (m.getD 198 noRec).sect, ⟨#[]⟩, ⟨#[]⟩, (m.getD 199 noRec).line⟩] := by unfold limG; rw [if_neg (by omega)]
theorem limG_len (m : List RecD) : (limG m).length ≤ 200 := by
  unfold limG
  split
  · next h => exact h
  · rw [List.length_append, List.length_take]
    simp
    omega
theorem limG_raw (m : List RecD) : rawB (limG m) = rawB m := by
  unfold limG
  split
  · rfl
  · rw [rawB_append]
    conv => rhs; rw [← List.take_append_drop 199 m, rawB_append]
    simp [rawB]
/-- where the last record takes all that is left -/
theorem limG_over {l : List Ln} {m : List RecD} {k : Nat} (h : recsP l 0 = m ++ recsP l k) (hm : m.length = 199) (hk : k < l.length) (hover : k + (oneAt l k hk).2 < l.length) :
    limG (recsP l 0) = m ++ [⟨4, rawP l k (l.length - k), ⟨#[]⟩, ⟨#[]⟩, ⟨#[]⟩, (k : Int) + 1⟩] := by
  have h2 := recsP_step l k hk
  have h3 := recsP_some l _ hover
  have hs := recsP_sect l 0
  have hl : 200 < (recsP l 0).length := by rw [h, h2, List.length_append, List.length_cons]; omega
  rw [limG_many hl]
  have e1 : (recsP l 0).take 199 = m := by rw [h, ← hm]; simp
  have e2 : (recsP l 0).drop 199 = recsP l k := by rw [h, ← hm]; simp
  have e3 : ((recsP l 0).getD 199 noRec).line = (k : Int) + 1 := by
    rw [h, h2, List.getD, List.getElem?_append_right (by omega), hm]
    rfl
  have e4 : ((recsP l 0).getD 198 noRec).sect = ⟨#[]⟩ := by
    have hx : 198 < (recsP l 0).length := by omega
    rw [List.getD, List.getElem?_eq_getElem hx]
    exact hs _ (List.getElem_mem hx)
  have e5 : (⟨(rawB (recsP l k)).toArray⟩ : ByteArray) = rawP l k (l.length - k) := by
    rw [recsP_raw]
    unfold rawP
    rw [List.take_of_length_le (by rw [List.length_drop]; omega)]
  rw [e1, e2, e3, e4, e5]

theorem linesOf_join (s : ByteArray) : joinB (linesOf s) = s.data.toList := by
  rw [joinB_is]
  unfold linesOf
  rw [List.map_map, show (ofB ∘ toB) = id from funext ofB_toB, List.map_id, join_split]
  rfl
theorem linesOf_costP (s : ByteArray) : costL (linesOf s) ≤ 2 * s.size := by
  have h1 := joinB_len (linesOf s)
  have h2 := linesOf_few s
  rw [linesOf_join, ← Lib.size_eq] at h1
  omega
/-- what ParseProps tells -/
def propsL (s : ByteArray) : List RecD := if s.size ≤ 6000 then limG (recsP (linesOf s) 0) else []
theorem propsL_len (s : ByteArray) : (propsL s).length ≤ 200 := by
  unfold propsL
  split
  · exact limG_len _
  · exact Nat.zero_le _
theorem oneE_sect (x : Ln) (l : List Ln) : (oneE x l).1.sect = ⟨#[]⟩ := by
  unfold oneE
  generalize leadX (leadE x.1) = y
  split
  · split
    · rfl
    · unfold lineE
      generalize restO y = ro
      generalize trimE ro.1 = key
      generalize leadE ro.2.1 = rest
      split
      · unfold valE
        generalize quoteE rest x.2 l = q
        generalize bareE rest = be
        split
        · split <;> rfl
        · split <;> rfl
      · rfl
  · rfl
theorem oneAt_sect (l : List Ln) (k : Nat) (hk : k < l.length) : (oneAt l k hk).1.sect = ⟨#[]⟩ := oneE_sect _ _

end Go.Proofs.YtkhkpjnpjgnckaaGreatDoor
