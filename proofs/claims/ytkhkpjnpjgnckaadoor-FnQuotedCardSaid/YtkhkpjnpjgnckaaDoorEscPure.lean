/- Escapes put, as lists: what Escape answers, and that it is read back. -/
import Derived.Test.YtkhkpjnpjgnckaaDoorProg
import Derived.Test.YtkhkpjnpjgnckaaDoorPlain
import Derived.Test.YtkhkpjnpjgnckaaDoorCut
import Derived.Test.YtkhkpjnpjgnckaaDoorTrim
import Derived.Test.YtkhkpjnpjgnckaaDoorTail
import Derived.Test.YtkhkpjnpjgnckaaDoorDialectRows
import Derived.Test.YtkhkpjnpjgnckaaDoorDialSpec
import Derived.Test.YtkhkpjnpjgnckaaDoorDialImpl
import Derived.Test.YtkhkpjnpjgnckaaDoorUnescSpec
import Derived.Test.YtkhkpjnpjgnckaaDoorUnescRun
import Derived.Test.YtkhkpjnpjgnckaaDoorBareSpec
import Derived.Test.YtkhkpjnpjgnckaaDoorBareImpl
import Derived.Test.YtkhkpjnpjgnckaaDoorQuotSpec
import Derived.Test.YtkhkpjnpjgnckaaDoorQuotImpl
import Derived.Test.YtkhkpjnpjgnckaaDoorQuotRun
import Derived.Test.YtkhkpjnpjgnckaaDoorQuotTop
import Derived.Test.YtkhkpjnpjgnckaaDoorEscSpec
namespace Go.Proofs.YtkhkpjnpjgnckaaDoor
open Go.RowKit
set_option linter.unusedVariables false

/-- only bytes that may be notes -/
def NotesIn (n : ByteArray) : Prop := ∀ c, hasB n c = true → c = 35 ∨ c = 59 ∨ c = 33
theorem notesIn_of {d : DialectD} (h : dialOk d = true) : NotesIn d.notes := by
  intro c hc
  unfold dialOk ofWith at h
  simp only [Bool.and_eq_true] at h
  obtain ⟨_, h2⟩ := ofTo_nodup d.notes notesB d.notes.size (Nat.le_refl _) h.1.1.1
  have h3 : c ∈ d.notes.data.toList.take d.notes.size := by rw [Pl.take_all]; simpa [hasB] using hc
  have h4 := h2 c h3
  simpa [notesB] using h4
theorem unE_escC (n : ByteArray) (hn : NotesIn n) (c : UInt8) (t : List UInt8) : unE (escC n c ++ t) = (unE t).map (c :: ·) := by
  unfold escC
  split
  · next h => subst h; exact unE_esc t (by decide)
  · split
    · next h => subst h; exact unE_esc t (by decide)
    · split
      · next h => subst h; exact unE_esc t (by decide)
      · split
        · next h =>
          have h2 : c = 92 ∨ c = 34 ∨ c = 35 ∨ c = 59 ∨ c = 33 := by
            simp only [Bool.or_eq_true, beq_iff_eq] at h
            rcases h with (h | h) | h
            · exact .inl h
            · exact .inr (.inl h)
            · exact .inr (.inr (hn c h))
          refine unE_esc t ?_
          rcases h2 with rfl | rfl | rfl | rfl | rfl <;> decide
        · next h =>
          have h2 : c ≠ 92 := by intro e; apply h; subst e; rfl
          exact unE_plain t h2
theorem unE_escL (n : ByteArray) (hn : NotesIn n) (l : List UInt8) : unE (escL n l) = some l := by
  induction l with
  | nil => rfl
  | cons c l ih =>
    have e : escL n (c :: l) = escC n c ++ escL n l := by simp [escL]
    rw [e, unE_escC n hn, ih]
    rfl

/-- bytes 92 at the end of a list -/
def tailL (l : List UInt8) : Nat := (l.reverse.takeWhile (· == 92)).length
theorem tailL_nil : tailL [] = 0 := rfl
theorem tailL_more (l : List UInt8) : tailL (l ++ [92]) = tailL l + 1 := by simp [tailL]
theorem tailL_none (l : List UInt8) (c : UInt8) (h : c ≠ 92) : tailL (l ++ [c]) = 0 := by
  unfold tailL
  rw [List.reverse_append]
  simp [h]
/-- a list whose bytes 34 are all meant as themselves, and that leaves none open -/
def Closed5 (l : List UInt8) : Prop := (∀ i (h : i < l.length), l[i] = 34 → tailL (l.take i) % 2 = 1) ∧ tailL l % 2 = 0
theorem closed_nil : Closed5 [] := ⟨fun i h => by simp at h, rfl⟩
theorem closed_one {l : List UInt8} (h : Closed5 l) (c : UInt8) (h1 : c ≠ 92) (h2 : c ≠ 34) : Closed5 (l ++ [c]) := by
  refine ⟨?_, by rw [tailL_none l c h1]⟩
  intro i hi hc
  rw [List.length_append, List.length_cons, List.length_nil] at hi
  by_cases hl : i < l.length
  · rw [List.getElem_append_left hl] at hc
    rw [List.take_append_of_le_length (by omega)]
    exact h.1 i hl hc
  · obtain rfl : i = l.length := by omega
    rw [List.getElem_append_right (by omega)] at hc
    simp at hc
    exact absurd hc h2
theorem closed_two {l : List UInt8} (h : Closed5 l) (c : UInt8) : Closed5 (l ++ [92, c]) := by
  have e : l ++ [92, c] = (l ++ [92]) ++ [c] := by simp
  have h0 : tailL (l ++ [92]) % 2 = 1 := by rw [tailL_more]; have := h.2; omega
  refine ⟨?_, ?_⟩
  · intro i hi hc
    rw [List.length_append, List.length_cons, List.length_cons, List.length_nil] at hi
    by_cases hl : i < l.length
    · rw [List.getElem_append_left hl] at hc
      rw [List.take_append_of_le_length (by omega)]
      exact h.1 i hl hc
    · rcases (show i = l.length ∨ i = l.length + 1 by omega) with rfl | rfl
      · rw [List.getElem_append_right (by omega)] at hc
        simp at hc
      · have e2 : (l ++ [92, c]).take (l.length + 1) = l ++ [92] := by rw [e]; exact List.take_left' (by simp)
        rw [e2]
        exact h0
  · rw [e]
    by_cases hc : c = 92
    · subst hc
      rw [tailL_more]
      omega
    · rw [tailL_none _ c hc]
theorem closed_escC {l : List UInt8} (h : Closed5 l) (n : ByteArray) (c : UInt8) : Closed5 (l ++ escC n c) := by
  unfold escC
  split
  · exact closed_two h _
  · split
    · exact closed_two h _
    · split
      · exact closed_two h _
      · split
        · exact closed_two h _
        · next h2 =>
          refine closed_one h c ?_ ?_
          · intro e; apply h2; subst e; rfl
          · intro e; apply h2; subst e; rfl
theorem closed_esc (n : ByteArray) (l : List UInt8) : Closed5 (escL n l) := by
  induction l using Pl.snocInd with
  | nil => exact closed_nil
  | snoc l c ih =>
    have e : escL n (l ++ [c]) = escL n l ++ escC n c := by simp [escL]
    rw [e]
    exact closed_escC ih n c
theorem tailN_list (s : ByteArray) : tailN s = tailL s.data.toList := rfl
/-- a closed text between two quotes: the second is where it ends -/
theorem cqAt_closed (l : List UInt8) (h : Closed5 l) : cqAt true ⟨(l ++ [34]).toArray⟩ = l.length := by
  have hz : (⟨(l ++ [34]).toArray⟩ : ByteArray).size = l.length + 1 := by rw [Lib.size_eq]; simp
  unfold cqAt
  refine findIdx_range _ _ _ (by omega) ?_ ?_
  · intro j hj
    unfold cq5
    rw [dif_pos (by omega)]
    have hg : (⟨(l ++ [34]).toArray⟩ : ByteArray)[j]'(by omega) = l[j] := by
      show (l ++ [34]).toArray[j]'(by simp; omega) = l[j]
      simp [List.getElem_append_left hj]
    rw [hg]
    by_cases hc : l[j] = 34
    · have hp := h.1 j hj hc
      have : esc5 true ⟨(l ++ [34]).toArray⟩ j = true := by
        unfold esc5
        rw [tailN_list, take_data]
        show (true && tailL ((l ++ [34]).take j) % 2 == 1) = true
        rw [List.take_append_of_le_length (by omega), hp]
        rfl
      rw [this]
      simp
    · simp [hc]
  · intro _
    unfold cq5
    rw [dif_pos (by omega)]
    have hg : (⟨(l ++ [34]).toArray⟩ : ByteArray)[l.length]'(by omega) = 34 := by
      show (l ++ [34]).toArray[l.length]'(by simp) = 34
      simp
    rw [hg]
    have : esc5 true ⟨(l ++ [34]).toArray⟩ l.length = false := by
      unfold esc5
      rw [tailN_list, take_data]
      show (true && tailL ((l ++ [34]).take l.length) % 2 == 1) = false
      rw [List.take_left', h.2]
      · rfl
      · rfl
    rw [this]
    rfl
/-- an escaped text between two quotes -/
def inQ (s : ByteArray) : ByteArray := ⟨#[34]⟩ ++ s ++ ⟨#[34]⟩
theorem inQ_data (s : ByteArray) : (inQ s).data.toList = 34 :: (s.data.toList ++ [34]) := by
  unfold inQ
  simp [ByteArray.data_append]
theorem quot_closed (d : DialectD) (l : List UInt8) (h : Closed5 l) (he : d.esc = true) : quotT d (inQ ⟨l.toArray⟩) = unT true ⟨l.toArray⟩ := by
  have hd := inQ_data ⟨l.toArray⟩
  have hz : (inQ ⟨l.toArray⟩).size = l.length + 2 := by rw [Lib.size_eq, hd]; simp
  have ho : opens (inQ ⟨l.toArray⟩) = true := by
    unfold opens
    rw [dif_pos (by omega)]
    have : (inQ ⟨l.toArray⟩)[0]'(by omega) = 34 := by
      obtain ⟨u, hu⟩ := first_data (inQ ⟨l.toArray⟩) (by omega)
      rw [hd] at hu
      exact (List.cons.inj hu).1.symm
    rw [this]
    rfl
  have hi : inner5 (inQ ⟨l.toArray⟩) = ⟨(l ++ [34]).toArray⟩ := by
    rw [inner_opens ho]
    apply ByteArray.ext
    apply Array.toList_inj.1
    rw [drop_data, hd]
    simp
  have hz2 : (⟨(l ++ [34]).toArray⟩ : ByteArray).size = l.length + 1 := by rw [Lib.size_eq]; simp
  rw [quot_form, ho, hi, he, cqAt_closed l h, if_pos ⟨rfl, by omega⟩, hz2]
  have e1 : (⟨(l ++ [34]).toArray⟩ : ByteArray).extract (l.length + 1) (l.length + 1) = ByteArray.empty := extract_none _ _
  have e2 : (⟨(l ++ [34]).toArray⟩ : ByteArray).extract 0 l.length = ⟨l.toArray⟩ := by
    apply ByteArray.ext
    apply Array.toList_inj.1
    rw [take_data]
    show (l ++ [34]).take l.length = l
    rw [List.take_left']
    rfl
  have e3 : behind5 d ByteArray.empty = true := by
    unfold behind5
    rw [dif_neg (by decide)]
  rw [e1, e2, e3]
  rfl
theorem escape_back (d : DialectD) (s : ByteArray) (hn : NotesIn d.notes) (he : d.esc = true) : unT true (escT d s) = (s, true) ∧ quotT d (inQ (escT d s)) = (s, true) := by
  have h1 := unE_escL d.notes hn s.data.toList
  have e : escT d s = ⟨(escL d.notes s.data.toList).toArray⟩ := by unfold escT; rw [he]; rfl
  have h2 : unT true ⟨(escL d.notes s.data.toList).toArray⟩ = (s, true) := by
    rw [unT_good (s := ⟨(escL d.notes s.data.toList).toArray⟩) (l := s.data.toList) h1]
  rw [e]
  exact ⟨h2, by rw [quot_closed d _ (closed_esc _ _) he, h2]⟩

end Go.Proofs.YtkhkpjnpjgnckaaDoor
