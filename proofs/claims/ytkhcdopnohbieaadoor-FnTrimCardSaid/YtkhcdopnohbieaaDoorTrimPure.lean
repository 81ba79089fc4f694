/- What the law of Trim, Words and Before asks, of lists alone. -/
import Derived.Test.YtkhcdopnohbieaaDoorProg
import Derived.Test.YtkhcdopnohbieaaDoorPlain
import Derived.Test.YtkhcdopnohbieaaDoorTrim
import Derived.Test.YtkhcdopnohbieaaDoorTexts
import Derived.Test.YtkhcdopnohbieaaDoorSplit
import Derived.Test.YtkhcdopnohbieaaDoorWords
import Derived.Lib.Hide
namespace Go.Proofs.YtkhcdopnohbieaaDoor
open Go.RowKit
set_option linter.unusedVariables false

/-! Before -/
theorem less_tri (a b : List UInt8) : (Op.bytesLess a b = true ∧ Op.bytesLess b a = false ∧ a ≠ b) ∨ (Op.bytesLess a b = false ∧ Op.bytesLess b a = true ∧ a ≠ b) ∨ (Op.bytesLess a b = false ∧ Op.bytesLess b a = false ∧ a = b) := by
  induction a generalizing b with
  | nil => cases b with
    | nil => simp [Op.bytesLess]
    | cons y b => simp [Op.bytesLess]
  | cons x a ih => cases b with
    | nil => simp [Op.bytesLess]
    | cons y b =>
      have h := ih b
      simp only [Op.bytesLess]
      by_cases e : x = y
      · subst e
        simpa [UInt8.lt_irrefl] using h
      · have hne : y ≠ x := fun q => e q.symm
        rcases Nat.lt_or_ge x.toNat y.toNat with hl | hl
        · have h1 : x < y := UInt8.lt_iff_toNat_lt.2 hl
          have h2 : ¬ y < x := fun q => by have := UInt8.lt_iff_toNat_lt.1 q; omega
          left
          simp [h1, h2, e, hne]
        · have hl2 : y.toNat < x.toNat := by
            rcases Nat.lt_or_ge y.toNat x.toNat with q | q
            · exact q
            · exact absurd (UInt8.toNat_inj.1 (by omega)) e
          have h1 : y < x := UInt8.lt_iff_toNat_lt.2 hl2
          have h2 : ¬ x < y := fun q => by have := UInt8.lt_iff_toNat_lt.1 q; omega
          right; left
          simp [h1, h2, e, hne]

/-! Trim -/
theorem dw_head (p : UInt8 → Bool) (l : List UInt8) (b : UInt8) (h : (l.dropWhile p)[0]? = some b) : p b = false := by
  induction l with
  | nil => simp at h
  | cons x l ih =>
    rw [List.dropWhile_cons] at h
    split at h
    · exact ih h
    · rename_i hx
      simp at h
      subst h
      simpa using hx
theorem right_last (l cs : List UInt8) (b : UInt8) (h : (Lib.trimRightS l cs)[(Lib.trimRightS l cs).length - 1]? = some b) : cs.contains b = false := by
  unfold Lib.trimRightS at h
  generalize hm : l.reverse.dropWhile (cs.contains ·) = m at *
  have hpos : 0 < m.length := by
    rcases Nat.eq_zero_or_pos m.length with h0 | h0
    · have : m = [] := List.eq_nil_of_length_eq_zero h0
      subst this; simp at h
    · exact h0
  rw [List.length_reverse, List.getElem?_reverse (by omega), show m.length - 1 - (m.length - 1) = 0 by omega] at h
  exact dw_head (cs.contains ·) l.reverse b (by rw [hm]; exact h)
theorem trimL_twice (l : List UInt8) : trimL (trimL l) = trimL l := by
  have key : ∀ t : List UInt8, (∀ b, t[0]? = some b → ([32, 9] : List UInt8).contains b = false) → (∀ b, t[t.length - 1]? = some b → ([32, 9] : List UInt8).contains b = false) → trimL t = t := by
    intro t h0 h1
    unfold trimL Lib.trimS
    rw [Lib.trimRightS_take t [32, 9] t.length (Nat.le_refl _) (fun j b hj hb => by rw [List.getElem?_eq_none hj] at hb; cases hb) (fun b _ hb => h1 b hb), List.take_length,
      Lib.trimLeftS_drop t [32, 9] 0 (Nat.zero_le _) (fun j b hj hb => by omega) h0, List.drop_zero]
  refine key _ ?_ ?_
  · intro b hb
    exact dw_head (([32, 9] : List UInt8).contains ·) (Lib.trimRightS l [32, 9]) b hb
  · intro b hb
    have hl := right_last l [32, 9] b
    unfold trimL Lib.trimS Lib.trimLeftS at hb
    generalize Lib.trimRightS l [32, 9] = m at *
    apply hl
    have e := List.takeWhile_append_dropWhile (p := (([32, 9] : List UInt8).contains ·)) (l := m)
    generalize List.dropWhile (([32, 9] : List UInt8).contains ·) m = t at *
    generalize List.takeWhile (([32, 9] : List UInt8).contains ·) m = q at *
    subst e
    have hpos : 0 < t.length := by
      rcases Nat.eq_zero_or_pos t.length with h0 | h0
      · have : t = [] := List.eq_nil_of_length_eq_zero h0
        subst this; simp at hb
      · exact h0
    rw [List.length_append, List.getElem?_append_right (by omega), show q.length + t.length - 1 - q.length = t.length - 1 by omega]
    exact hb
theorem trimL_pad (l : List UInt8) : trimL (32 :: (l ++ [9])) = trimL l := by
  unfold trimL Lib.trimS Lib.trimRightS Lib.trimLeftS
  rw [List.reverse_cons, List.reverse_append, List.reverse_cons, List.reverse_nil, List.nil_append]
  generalize l.reverse = m
  rw [List.cons_append, List.nil_append, List.cons_append, List.dropWhile_cons, if_pos (by decide), List.dropWhile_append]
  cases h : (m.dropWhile (([32, 9] : List UInt8).contains ·)).isEmpty
  · simp only [Bool.false_eq_true, if_false]
    rw [List.reverse_append, List.reverse_cons, List.reverse_nil, List.nil_append, List.cons_append, List.nil_append, List.dropWhile_cons, if_pos (by decide)]
  · simp only [if_true]
    rw [List.isEmpty_iff.1 h]
    rfl

/-! Words -/
def spaced (l : List ByteArray) : List UInt8 := l.flatMap (fun x => x.data.toList ++ [32])
theorem spaced_snoc (l : List ByteArray) (x : ByteArray) : spaced (l ++ [x]) = spaced l ++ (x.data.toList ++ [32]) := by simp [spaced]
theorem spaced_cons (x : ByteArray) (l : List ByteArray) : spaced (x :: l) = x.data.toList ++ 32 :: spaced l := by simp [spaced]
theorem spaced_len (l : List ByteArray) (h : ∀ x ∈ l, x.size ≤ 21) : (spaced l).length ≤ 22 * l.length := by
  induction l with
  | nil => simp [spaced]
  | cons x l ih =>
    have h1 := ih (fun y hy => h y (List.mem_cons_of_mem _ hy))
    have h2 := h x (List.mem_cons_self)
    have h3 := Lib.size_eq x
    rw [spaced_cons, List.length_append, List.length_cons, List.length_cons]
    omega
theorem cutsTo_fst (s : ByteArray) (p : UInt8 → Bool) (k : Nat) (hk : k ≤ s.size) : (∀ x ∈ (cutsTo s p k).1, x.size ≤ s.size ∧ ∀ c ∈ x.data.toList, p c = false) ∧ (∀ j (h : j < s.size), (cutsTo s p k).2 ≤ j → j < k → p s[j] = false) := by
  induction k with
  | zero => exact ⟨fun x hx => by simp [cutsTo] at hx, fun j _ _ h => by omega⟩
  | succ k ih =>
    obtain ⟨h1, h2⟩ := ih (by omega)
    have hlt : k < s.size := by omega
    cases hp : p s[k]
    · rw [cutsTo_miss hlt hp]
      refine ⟨h1, fun j hj h3 h4 => ?_⟩
      by_cases e : j = k
      · subst e; exact hp
      · exact h2 j hj h3 (by omega)
    · rw [cutsTo_hit hlt hp]
      refine ⟨fun x hx => ?_, fun j hj h3 h4 => by simp at h3; omega⟩
      rw [List.mem_append] at hx
      rcases hx with hx | hx
      · exact h1 x hx
      · simp only [List.mem_cons, List.not_mem_nil, or_false] at hx
        subst hx
        refine ⟨by simp [ByteArray.size_extract]; omega, fun c hc => ?_⟩
        rw [Lib.extract_data] at hc
        obtain ⟨j, hj, rfl⟩ := List.getElem_of_mem hc
        rw [List.length_take, List.length_drop] at hj
        have e : (List.take (k - (cutsTo s p k).2) (List.drop (cutsTo s p k).2 s.data.toList))[j]'(by rw [List.length_take, List.length_drop]; exact hj) = s[(cutsTo s p k).2 + j]'(by have := Lib.size_eq s; omega) := by
          rw [List.getElem_take, List.getElem_drop]; rfl
        rw [e]
        exact h2 _ _ (by omega) (by omega)
theorem words_are (s : ByteArray) : ∀ x ∈ wordsOf s, x.size ≤ s.size ∧ x.size ≠ 0 ∧ ∀ c ∈ x.data.toList, blankB c = false := by
  intro x hx
  unfold wordsOf at hx
  rw [List.mem_filter] at hx
  obtain ⟨h1, h2⟩ := hx
  have h2' : x.size ≠ 0 := by simpa [neB] using h2
  obtain ⟨k1, k2⟩ := cutsTo_fst s blankB s.size (Nat.le_refl _)
  have hle := (cutsTo_le s blankB s.size).1
  unfold partsOf at h1
  rw [List.mem_append] at h1
  rcases h1 with h1 | h1
  · exact ⟨(k1 x h1).1, h2', (k1 x h1).2⟩
  · simp only [List.mem_cons, List.not_mem_nil, or_false] at h1
    subst h1
    refine ⟨by simp [ByteArray.size_extract], h2', fun c hc => ?_⟩
    rw [Lib.extract_data] at hc
    obtain ⟨j, hj, rfl⟩ := List.getElem_of_mem hc
    rw [List.length_take, List.length_drop] at hj
    have e : (List.take (s.size - (cutsTo s blankB s.size).2) (List.drop (cutsTo s blankB s.size).2 s.data.toList))[j]'(by rw [List.length_take, List.length_drop]; exact hj) = s[(cutsTo s blankB s.size).2 + j]'(by have := Lib.size_eq s; omega) := by
      rw [List.getElem_take, List.getElem_drop]; rfl
    rw [e]
    exact k2 _ _ (by omega) (by omega)
theorem at_list (s : ByteArray) (j : Nat) (h : j < s.size) : s[j] = s.data.toList[j]'(by have := Lib.size_eq s; omega) := rfl
theorem cuts_spaced (s : ByteArray) (ws : List ByteArray) (hw : ∀ x ∈ ws, ∀ c ∈ x.data.toList, blankB c = false) : ∀ (A : List UInt8) (l : List ByteArray), s.data.toList = A ++ spaced ws → cutsTo s blankB A.length = (l, A.length) → cutsTo s blankB s.size = (l ++ ws, s.size) := by
  induction ws with
  | nil =>
    intro A l h1 h2
    have : s.size = A.length := by rw [Lib.size_eq s, h1]; simp [spaced]
    rw [this, h2]; simp
  | cons x ws ih =>
    intro A l h1 h2
    have hsz : s.size = A.length + (x.data.toList.length + (1 + (spaced ws).length)) := by
      rw [Lib.size_eq s, h1, spaced_cons]; simp; omega
    have hx := hw x (List.mem_cons_self)
    have hxl := Lib.size_eq x
    have g1 : cutsTo s blankB (A.length + x.data.toList.length) = (l, A.length) := by
      rw [← h2]
      refine cutsTo_run (by omega) (by omega) (fun j hj h3 h4 => ?_)
      apply hx
      rw [at_list]
      have : s.data.toList[j]? = x.data.toList[j - A.length]? := by
        rw [h1, spaced_cons, List.getElem?_append_right h3, List.getElem?_append_left (by omega)]
      have hj2 : j < s.data.toList.length := by have := Lib.size_eq s; omega
      rw [List.getElem?_eq_getElem hj2, List.getElem?_eq_getElem (show j - A.length < x.data.toList.length by omega)] at this
      rw [Option.some.inj this]
      exact List.getElem_mem _
    have hlt : A.length + x.data.toList.length < s.size := by omega
    have hb : blankB s[A.length + x.data.toList.length] = true := by
      rw [at_list]
      have : s.data.toList[A.length + x.data.toList.length]? = some 32 := by
        rw [h1, spaced_cons, List.getElem?_append_right (by omega), List.getElem?_append_right (by omega)]
        simp
      have hj2 : A.length + x.data.toList.length < s.data.toList.length := by have := Lib.size_eq s; omega
      rw [List.getElem?_eq_getElem hj2] at this
      rw [Option.some.inj this]
      rfl
    have g2 := cutsTo_hit hlt hb
    rw [g1] at g2
    have hex : s.extract A.length (A.length + x.data.toList.length) = x := by
      apply ByteArray.ext; apply Array.toList_inj.1
      rw [Lib.extract_data, h1, spaced_cons, List.drop_left' rfl, show A.length + x.data.toList.length - A.length = x.data.toList.length by omega, List.take_left' rfl]
    have := ih (fun y hy => hw y (List.mem_cons_of_mem _ hy)) (A ++ (x.data.toList ++ [32])) (l ++ [x]) (by rw [h1, spaced_cons]; simp) (by
      rw [show ((A ++ (x.data.toList ++ [32]) : List UInt8)).length = A.length + x.data.toList.length + 1 from (by simp; omega), g2, hex])
    rw [this]; simp
theorem words_again (s j : ByteArray) (h : j.data.toList = spaced (wordsOf s)) : wordsOf j = wordsOf s := by
  have hw := words_are s
  generalize wordsOf s = ws at *
  have h1 := cuts_spaced j ws (fun x hx => (hw x hx).2.2) [] [] (by simpa using h) rfl
  unfold wordsOf partsOf
  rw [h1]
  simp only [List.nil_append]
  rw [List.filter_append]
  have e1 : [j.extract j.size j.size].filter neB = [] := by
    have : neB (j.extract j.size j.size) = false := by simp [neB, ByteArray.size_extract]
    rw [List.filter_cons, this]; rfl
  rw [e1, List.append_nil, List.filter_eq_self]
  intro x hx
  have := (hw x hx).2.1
  simp [neB, this]

end Go.Proofs.YtkhcdopnohbieaaDoor
