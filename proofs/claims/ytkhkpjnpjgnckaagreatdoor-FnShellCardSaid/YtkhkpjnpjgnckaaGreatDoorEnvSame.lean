/- Environment files by their bytes: where a quote closes, over lines. -/
import Derived.Test.YtkhkpjnpjgnckaaGreatDoorProg
import Derived.Test.YtkhkpjnpjgnckaaGreatDoorPlain
import Derived.Test.YtkhkpjnpjgnckaaGreatDoorLines
import Derived.Test.YtkhkpjnpjgnckaaGreatDoorSplitSpec
import Derived.Test.YtkhkpjnpjgnckaaGreatDoorSplitImpl
import Derived.Test.YtkhkpjnpjgnckaaGreatDoorEnvOne
import Derived.Lib.Hide
import Derived.Test.YtkhkpjnpjgnckaaGreatDoorRows0
import Derived.Test.YtkhkpjnpjgnckaaGreatDoorRecRows
import Derived.Test.YtkhkpjnpjgnckaaGreatDoorRecArg
import Derived.Test.YtkhkpjnpjgnckaaGreatDoorRecRaw
import Derived.Test.YtkhkpjnpjgnckaaGreatDoorCut
import Derived.Test.YtkhkpjnpjgnckaaGreatDoorTrim
import Derived.Test.YtkhkpjnpjgnckaaGreatDoorTail
import Derived.Test.YtkhkpjnpjgnckaaGreatDoorJoin
import Derived.Test.YtkhkpjnpjgnckaaGreatDoorBareImpl
import Derived.Test.YtkhkpjnpjgnckaaGreatDoorQuotSpec
import Derived.Test.YtkhkpjnpjgnckaaGreatDoorQuotImpl
import Derived.Test.YtkhkpjnpjgnckaaGreatDoorEnvRecs
import Derived.Test.YtkhkpjnpjgnckaaGreatDoorEnvCut
import Derived.Test.YtkhkpjnpjgnckaaGreatDoorEnvSkip
import Derived.Test.YtkhkpjnpjgnckaaGreatDoorEnvFirst
set_option maxRecDepth 100000
namespace Go.Proofs.YtkhkpjnpjgnckaaGreatDoor
open Go.RowKit
set_option linter.unusedVariables false

theorem ext_dataB {s t : ByteArray} (h : s.data.toList = t.data.toList) : s = t := ByteArray.ext (Array.toList_inj.1 h)
theorem cut_cutB (s : ByteArray) (a b : Nat) : (s.extract a s.size).extract b (s.extract a s.size).size = s.extract (a + b) s.size := by
  apply ext_dataB
  rw [data_extract_all, data_extract_all, data_extract_all, List.drop_drop]
theorem cut_headB (s : ByteArray) (a b : Nat) : (s.extract a s.size).extract 0 b = s.extract a (a + b) := by
  apply ext_dataB
  rw [Lib.extract_data, data_extract_all, Lib.extract_data, List.drop_zero]
  congr 1
  omega
theorem cut_midB (s : ByteArray) (a b c : Nat) : (s.extract a s.size).extract b c = s.extract (a + b) (a + c) := by
  apply ext_dataB
  rw [Lib.extract_data, data_extract_all, Lib.extract_data, List.drop_drop]
  congr 1
  omega
theorem cut_twoB (s : ByteArray) (b i j : Nat) (h : j ≤ b) : (s.extract 0 b).extract i j = s.extract i j := by
  apply ext_dataB
  rw [Lib.extract_data, Lib.extract_data, Lib.extract_data, List.drop_zero, List.drop_take, List.take_take]
  congr 1
  omega
theorem app_cutB (s : ByteArray) (i j k : Nat) (h1 : i ≤ j) (h2 : j ≤ k) : s.extract i j ++ s.extract j k = s.extract i k := by
  apply ext_dataB
  rw [Lib.extract_data (a := i) (b := k)]
  have e : ∀ a b : ByteArray, (a ++ b).data.toList = a.data.toList ++ b.data.toList := by
    intro a b
    simp
  rw [e, Lib.extract_data, Lib.extract_data]
  have h3 : (s.data.toList.drop j) = (s.data.toList.drop i).drop (j - i) := by rw [List.drop_drop]; congr 1; omega
  rw [h3, ← List.take_add]
  congr 1
  omega
theorem getB_cut (s : ByteArray) (a b i : Nat) (h : i < (s.extract a b).size) (h2 : a + i < s.size) : (s.extract a b)[i] = s[a + i] := by
  rw [ByteArray.getElem_extract]
/-- how long the end of a line is that begins at a place -/
def endN (s : ByteArray) (b : Nat) : Nat := (leadB (s.extract b s.size)).size
theorem lead_end (s : ByteArray) (b : Nat) (hb : b ≤ s.size) : leadB (s.extract b s.size) = s.extract b (b + endN s b) ∧ b + endN s b ≤ s.size ∧ (b < s.size → 0 < endN s b) := by
  unfold endN
  by_cases h : b < s.size
  · rcases lead_cases s b h with ⟨h1, h2, h3, h4⟩ | ⟨h1, _⟩
    · rw [h1]
      refine ⟨?_, ?_, fun _ => by decide⟩
      · show crlfB = s.extract b (b + 2)
        rw [← app_cutB s b (b + 1) (b + 2) (by omega) (by omega), extract_here s b h, extract_here s (b + 1) h3, h2, h4]
        rfl
      · show b + 2 ≤ s.size
        omega
    · rw [h1]
      have : (s.extract b (b + 1)).size = 1 := by rw [ByteArray.size_extract]; omega
      rw [this]
      exact ⟨rfl, h, fun _ => by decide⟩
  · have e : b = s.size := by omega
    subst e
    have hn : (s.extract s.size s.size).size = 0 := by rw [ByteArray.size_extract]; omega
    have h0 : (s.extract s.size s.size).data.toList = [] := List.eq_nil_of_length_eq_zero (by rw [← Lib.size_eq]; exact hn)
    have hl : leadB (s.extract s.size s.size) = s.extract s.size s.size := by
      unfold leadB
      rw [if_neg (by rw [h0]; decide), hn]
      apply ext_dataB
      rw [Lib.extract_data, h0]
      simp
    rw [hl, hn]
    exact ⟨rfl, by omega, fun h => absurd h (by omega)⟩
/-- the bytes of a line's end -/
theorem lead_bytes (s : ByteArray) (b : Nat) (hb : b ≤ s.size) (hat : ∀ h : b < s.size, s[b] = 13 ∨ s[b] = 10) : ∀ i (h : i < s.size), b ≤ i → i < b + endN s b → s[i] = 13 ∨ s[i] = 10 := by
  intro i h h1 h2
  have hlt : b < s.size := by omega
  have hx := hat hlt
  unfold endN at h2
  rcases lead_cases s b hlt with ⟨h3, h4, h5, h6⟩ | ⟨h3, _⟩
  · rw [h3] at h2
    have h2' : i < b + 2 := h2
    by_cases e : i = b
    · subst e; exact hx
    · have e2 : i = b + 1 := by omega
      subst e2; exact .inr h6
  · rw [h3] at h2
    have : (s.extract b (b + 1)).size = 1 := by rw [ByteArray.size_extract]; omega
    rw [this] at h2
    have e : i = b := by omega
    subst e; exact hx
theorem endAt_is (s : ByteArray) (k : Nat) (hk : k ≤ s.size) (hb : ∀ i (h : i < s.size), i < k → s[i] ≠ 13 ∧ s[i] ≠ 10) (hat : ∀ h : k < s.size, s[k] = 13 ∨ s[k] = 10) : endAt s = k := by
  unfold endAt
  have hno : NoHit (hasB crlfB) s k := by
    intro j h hj
    rw [crlf_has]
    have := hb j h hj
    simp [this.1, this.2]
  by_cases h : k < s.size
  · refine firstIn_hit hno h ?_
    rw [crlf_has]
    rcases hat h with e | e <;> simp [e]
  · have e : k = s.size := by omega
    subst e
    exact firstIn_end hno
theorem endAt_before (s : ByteArray) (i : Nat) (h : i < s.size) (hi : i < endAt s) : s[i] ≠ 13 ∧ s[i] ≠ 10 := by
  refine before_end s _ ?_
  have hl : i < (s.data.toList.take (endAt s)).length := by rw [List.length_take, ← Lib.size_eq]; omega
  have : (s.data.toList.take (endAt s))[i] = s[i] := by rw [List.getElem_take]; rfl
  rw [← this]
  exact List.getElem_mem hl
/-- where the line ends in which a place lies -/
def lineEnd (s : ByteArray) (a : Nat) : Nat := a + endAt (s.extract a s.size)
theorem lineEnd_le (s : ByteArray) (a : Nat) (h : a ≤ s.size) : a ≤ lineEnd s a ∧ lineEnd s a ≤ s.size := by
  have := endAt_le (s.extract a s.size)
  rw [ByteArray.size_extract] at this
  unfold lineEnd
  omega
theorem lineEnd_at (s : ByteArray) (a : Nat) (ha : a ≤ s.size) (h : lineEnd s a < s.size) : s[lineEnd s a] = 13 ∨ s[lineEnd s a] = 10 := by
  have hz : (s.extract a s.size).size = s.size - a := by rw [ByteArray.size_extract]; omega
  unfold lineEnd at h
  have := at_end (s.extract a s.size) (by omega)
  rw [getB_cut s a s.size _ (by omega) h] at this
  exact this
theorem lineEnd_before (s : ByteArray) (a i : Nat) (h : i < s.size) (h1 : a ≤ i) (h2 : i < lineEnd s a) : s[i] ≠ 13 ∧ s[i] ≠ 10 := by
  have hz : (s.extract a s.size).size = s.size - a := by rw [ByteArray.size_extract]; omega
  unfold lineEnd at h2
  have := endAt_before (s.extract a s.size) (i - a) (by omega) (by omega)
  rw [getB_cut s a s.size _ (by omega) (by omega)] at this
  have e : a + (i - a) = i := by omega
  simp only [e] at this
  exact this
theorem lineEnd_is (s : ByteArray) (a k : Nat) (hak : a ≤ k) (hk : k ≤ s.size) (hb : ∀ i (h : i < s.size), a ≤ i → i < k → s[i] ≠ 13 ∧ s[i] ≠ 10) (hat : ∀ h : k < s.size, s[k] = 13 ∨ s[k] = 10) : lineEnd s a = k := by
  have hz : (s.extract a s.size).size = s.size - a := by rw [ByteArray.size_extract]; omega
  unfold lineEnd
  have := endAt_is (s.extract a s.size) (k - a) (by omega) ?_ ?_
  · rw [this]; omega
  · intro i h hi
    rw [getB_cut s a s.size i h (by omega)]
    exact hb (a + i) (by omega) (by omega) (by omega)
  · intro h
    rw [getB_cut s a s.size _ h (by omega)]
    have e : a + (k - a) = k := by omega
    simp only [e]
    exact hat (by omega)
theorem lineEnd_mid (s : ByteArray) (a i : Nat) (ha : a ≤ s.size) (h1 : a ≤ i) (h2 : i ≤ lineEnd s a) : lineEnd s i = lineEnd s a := by
  have hl := lineEnd_le s a ha
  exact lineEnd_is s i (lineEnd s a) h2 hl.2 (fun j h hj1 hj2 => lineEnd_before s a j h (by omega) hj2) (fun h => lineEnd_at s a ha h)

theorem closN_at (s : ByteArray) (h : closN s < s.size) : closE s (closN s) = true := by
  have hl : closN s < (List.range s.size).length := by simpa using h
  have h1 : closE s ((List.range s.size)[closN s]'hl) = true := List.findIdx_getElem (w := hl)
  rw [List.getElem_range] at h1
  exact h1
theorem closN_before (s : ByteArray) (i : Nat) (h : i < closN s) : closE s i = false := by
  by_cases hs : i < s.size
  · have h1 := List.not_of_lt_findIdx (xs := List.range s.size) (p := closE s) (i := i) h
    rw [List.getElem_range] at h1
    simpa using h1
  · unfold closE
    rw [dif_neg (by omega)]
theorem closN_is (s : ByteArray) (k : Nat) (hk : k ≤ s.size) (hb : ∀ i, i < k → closE s i = false) (hat : k < s.size → closE s k = true) : closN s = k := findIdx_rangeE _ _ _ hk hb hat
theorem closN_le (s : ByteArray) : closN s ≤ s.size := by
  have := List.findIdx_le_length (xs := List.range s.size) (p := closE s)
  rw [List.length_range] at this
  exact this
/-- where it closes is told by what stands ahead -/
theorem closE_pre (F : ByteArray) (b i : Nat) (hb : b ≤ F.size) (hi : i < b) : closE (F.extract 0 b) i = closE F i := by
  have hz : (F.extract 0 b).size = b := by rw [ByteArray.size_extract]; omega
  unfold closE
  by_cases h : 1 ≤ i
  · rw [dif_pos ⟨h, by omega⟩, dif_pos ⟨h, by omega⟩, getB_cut F 0 b i (by omega) (by omega), getB_cut F 0 b 0 (by omega) (by omega), cut_twoB F b 1 i (by omega)]
    simp only [Nat.zero_add]
  · rw [dif_neg (by omega), dif_neg (by omega)]
theorem closN_pre (F : ByteArray) (b : Nat) (hb : b ≤ F.size) (h : closN F < b) : closN (F.extract 0 b) = closN F := by
  have hz : (F.extract 0 b).size = b := by rw [ByteArray.size_extract]; omega
  refine closN_is _ _ (by omega) (fun i hi => ?_) (fun _ => ?_)
  · rw [closE_pre F b i hb (by omega)]; exact closN_before F i hi
  · rw [closE_pre F b _ hb h]; exact closN_at F (by omega)
theorem closN_pre_no (F : ByteArray) (b : Nat) (hb : b ≤ F.size) (h : b ≤ closN F) : ¬ closN (F.extract 0 b) < (F.extract 0 b).size := by
  have hz : (F.extract 0 b).size = b := by rw [ByteArray.size_extract]; omega
  intro h2
  have h3 := closN_at _ h2
  rw [closE_pre F b _ hb (by omega), closN_before F _ (by omega)] at h3
  cases h3
/-- the line in which it closes ends there -/
def stopE (F : ByteArray) : Nat := lineEnd F (closN F + 1)
theorem closE_line (F : ByteArray) (i : Nat) (hq : ∀ h : 0 < F.size, F[0] = 39 ∨ F[0] = 34) (hi : ∀ h : i < F.size, F[i] = 13 ∨ F[i] = 10) : closE F i = false := by
  unfold closE
  split
  · next h =>
    have h0 := hq (by omega)
    rcases hi h.2 with e | e <;> rcases h0 with e2 | e2 <;> simp [e, e2]
  · rfl
theorem first_text (s : ByteArray) : (firstL s).1 = s.extract 0 (endAt s) := rfl
theorem first_end (s : ByteArray) : (firstL s).2 = leadB (s.extract (endAt s) s.size) := rfl
theorem lineEnd_eq (s : ByteArray) (a : Nat) : a + endAt (s.extract a s.size) = lineEnd s a := rfl
theorem endN_eq (s : ByteArray) (b : Nat) : (leadB (s.extract b s.size)).size = endN s b := rfl
theorem first_size (s : ByteArray) : (firstL s).1.size = endAt s := size_extract0 s _ (endAt_le s)
theorem linesOf_none (s : ByteArray) (h : s.size = 0) : linesOf s = [] := by
  unfold linesOf
  rw [List.eq_nil_of_length_eq_zero (l := s.data.toList) (by rw [← Lib.size_eq]; exact h), splitL_nil]
  rfl
theorem quote_by (F : ByteArray) (hF : 0 < F.size) (hq : F[0] = 39 ∨ F[0] = 34) : ∀ (m a n : Nat), F.size - a ≤ m → a ≤ F.size → 1 ≤ lineEnd F a → (∀ i, i < a → closE F i = false) →
    (closN F < F.size → ∃ c, quoteO (F.extract 0 (lineEnd F a)) (leadB (F.extract (lineEnd F a) F.size)) (linesOf (F.extract (lineEnd F a + endN F (lineEnd F a)) F.size)) n = (F.extract 0 (stopE F), n + c, true) ∧
      (linesOf (F.extract (lineEnd F a + endN F (lineEnd F a)) F.size)).drop c = linesOf (F.extract (stopE F + endN F (stopE F)) F.size)) ∧
    (¬ closN F < F.size → ∃ t k, quoteO (F.extract 0 (lineEnd F a)) (leadB (F.extract (lineEnd F a) F.size)) (linesOf (F.extract (lineEnd F a + endN F (lineEnd F a)) F.size)) n = (t, k, false)) := by
  intro m
  induction m with
  | zero =>
    intro a n hm ha h1 hno
    have e : a = F.size := by omega
    have hl := lineEnd_le F a ha
    have hcl : closN F = F.size := closN_is F F.size (Nat.le_refl _) (fun i hi => hno i (by omega)) (fun h => absurd h (by omega))
    refine ⟨fun h => absurd h (by omega), fun _ => ?_⟩
    have hb : lineEnd F a = F.size := by omega
    have he := lead_end F (lineEnd F a) hl.2
    rw [linesOf_none _ (by rw [ByteArray.size_extract]; omega)]
    exact ⟨_, _, quoteO_end n (closN_pre_no F _ hl.2 (by omega))⟩
  | succ m ih =>
    intro a n hm ha h1 hno
    have hl := lineEnd_le F a ha
    have he := lead_end F (lineEnd F a) hl.2
    obtain ⟨b, hb⟩ : ∃ b, lineEnd F a = b := ⟨_, rfl⟩
    have hat := fun h => lineEnd_at F a ha h
    rw [hb] at hl he hat h1 ⊢
    have hz : (F.extract 0 b).size = b := by rw [ByteArray.size_extract]; omega
    by_cases hc : closN F < b
    · have hac : a ≤ closN F := by
        apply Classical.byContradiction
        intro h
        have := closN_at F (by omega)
        rw [hno _ (by omega)] at this
        cases this
      have hcp := closN_pre F b hl.2 hc
      have hst : stopE F = b := by unfold stopE; rw [lineEnd_mid F a _ ha (by omega) (by omega), hb]
      refine ⟨fun _ => ⟨0, ?_, ?_⟩, fun h => absurd (by omega) h⟩
      · rw [quoteO_stop _ _ (by omega), hst]
        rfl
      · rw [hst, List.drop_zero]
    · have hnc := closN_pre_no F b hl.2 (by omega)
      have hno2 : ∀ i, i < b + endN F b → closE F i = false := by
        intro i hi
        by_cases h : i < b
        · exact closN_before F i (by omega)
        · exact closE_line F i (fun _ => hq) (fun h2 => lead_bytes F b hl.2 hat i h2 (by omega) hi)
      by_cases hr : b + endN F b = F.size
      · have hcl : closN F = F.size := closN_is F F.size (Nat.le_refl _) (fun i hi => hno2 i (by omega)) (fun h => absurd h (by omega))
        refine ⟨fun h => absurd h (by omega), fun _ => ?_⟩
        rw [linesOf_none _ (by rw [ByteArray.size_extract]; omega)]
        exact ⟨_, _, quoteO_end n hnc⟩
      · have hrz : (F.extract (b + endN F b) F.size).size ≠ 0 := by rw [ByteArray.size_extract]; omega
        obtain ⟨f1, f2, f3⟩ := first_line _ hrz
        have g1 : F.extract 0 b ++ leadB (F.extract b F.size) ++ (firstL (F.extract (b + endN F b) F.size)).1 = F.extract 0 (lineEnd F (b + endN F b)) := by
          rw [he.1, app_cutB F 0 b _ (by omega) (by omega)]
          rw [first_text, cut_headB, app_cutB F 0 _ _ (by omega) (by omega), lineEnd_eq]
        have g2 : (firstL (F.extract (b + endN F b) F.size)).2 = leadB (F.extract (lineEnd F (b + endN F b)) F.size) := by
          rw [first_end, cut_cutB, lineEnd_eq]
        have g3 : (F.extract (b + endN F b) F.size).extract ((firstL (F.extract (b + endN F b) F.size)).1.size + (firstL (F.extract (b + endN F b) F.size)).2.size) (F.extract (b + endN F b) F.size).size = F.extract (lineEnd F (b + endN F b) + endN F (lineEnd F (b + endN F b))) F.size := by
          rw [cut_cutB, first_size, g2, endN_eq, ← Nat.add_assoc, lineEnd_eq]
        have hend : 0 < endN F b := by
          by_cases h : b < F.size
          · exact he.2.2 h
          · omega
        have hl2 := lineEnd_le F (b + endN F b) (by omega)
        obtain ⟨i1, i2⟩ := ih (b + endN F b) (n + 1) (by omega) (by omega) (by omega) hno2
        rw [f3, g3, quoteO_on _ _ _ hnc, g1, g2]
        refine ⟨fun h => ?_, i2⟩
        obtain ⟨c, c1, c2⟩ := i1 h
        refine ⟨c + 1, ?_, ?_⟩
        · rw [c1, show n + 1 + c = n + (c + 1) by omega]
        · rw [List.drop_succ_cons]
          exact c2

end Go.Proofs.YtkhkpjnpjgnckaaGreatDoor

/- Environment files: the first record by bytes is the first record by lines. -/
set_option maxRecDepth 100000
namespace Go.Proofs.YtkhkpjnpjgnckaaGreatDoor
open Go.RowKit
set_option linter.unusedVariables false

theorem start_lead (s : ByteArray) : start5 s = leadE s := ext_dataB (by rw [start5_data]; rfl)
theorem leadE_data (s : ByteArray) : (leadE s).data.toList = s.data.toList.dropWhile blankB := rfl
theorem trimE_data (s : ByteArray) : (trimE s).data.toList = trimL s.data.toList := rfl
/-- where a text is all blanks -/
theorem trim_start_none (t : ByteArray) (h : (leadE t).size = 0) : (trimE t).size = 0 := by
  have h1 : (leadE t).data.toList = [] := List.eq_nil_of_length_eq_zero (by rw [← Lib.size_eq]; exact h)
  rw [leadE_data] at h1
  rw [Lib.size_eq, trimE_data, trimL_none h1]
  rfl
theorem trim_start_some (t : ByteArray) (h : 0 < (leadE t).size) : ∃ h2 : 0 < (trimE t).size, (trimE t)[0] = (leadE t)[0] := by
  obtain ⟨u, hu⟩ := first_data (leadE t) h
  have hu2 := hu
  rw [leadE_data] at hu2
  obtain ⟨v, hv⟩ := trimL_some hu2
  have hz : 0 < (trimE t).size := by rw [Lib.size_eq, trimE_data, hv]; simp
  refine ⟨hz, ?_⟩
  obtain ⟨v2, hv2⟩ := first_data (trimE t) hz
  rw [trimE_data, hv] at hv2
  exact (List.cons.inj hv2).1.symm
theorem lead_head (t : ByteArray) (h : 0 < (leadE t).size) : blankB (leadE t)[0] = false := by
  obtain ⟨u, hu⟩ := first_data (leadE t) h
  rw [leadE_data] at hu
  have h2 : ∀ l : List UInt8, ∀ c m, l.dropWhile blankB = c :: m → blankB c = false := by
    intro l
    induction l with
    | nil => intro c m h; cases h
    | cons a l ih =>
      intro c m h
      by_cases ha : blankB a = true
      · rw [List.dropWhile_cons_of_pos ha] at h; exact ih c m h
      · rw [List.dropWhile_cons_of_neg ha] at h
        cases h
        simpa using ha
  exact h2 _ _ _ hu
theorem suffix_lead (t : ByteArray) : (leadE t).data.toList <:+ t.data.toList := List.dropWhile_suffix _
theorem restO_none (y : ByteArray) (h : ∀ c ∈ y.data.toList, c ≠ 61) : (restO y).2.2 = false := by
  unfold restO
  rw [if_neg]
  intro h2
  unfold firstIn at h2
  have h3 : List.findIdx (hasB ⟨#[61]⟩) y.data.toList < y.data.toList.length := by rw [← Lib.size_eq]; exact h2
  have h4 := List.findIdx_getElem (xs := y.data.toList) (p := hasB ⟨#[61]⟩) (w := h3)
  have h5 := List.getElem_mem h3
  rw [one_has] at h4
  exact h _ h5 (beq_iff_eq.1 h4)
theorem restO_suffix (y : ByteArray) : (restO y).2.1.data.toList <:+ y.data.toList := by
  unfold restO
  split
  · rw [data_extract_all]
    exact List.drop_suffix _ _
  · exact List.nil_suffix
theorem expB_pre (t : ByteArray) : expB (t.extract 0 6) = Lib.hasPrefix t.data.toList exportB.data.toList := by
  unfold expB
  rw [Lib.toList_data, Lib.extract_data, List.drop_zero]
  show (t.data.toList.take 6 == [101, 120, 112, 111, 114, 116]) = ([101, 120, 112, 111, 114, 116] : List UInt8).isPrefixOf t.data.toList
  rw [Bool.eq_iff_iff, beq_iff_eq, List.isPrefixOf_iff_prefix, List.prefix_iff_eq_take]
  exact ⟨fun h => h.symm, fun h => h.symm⟩
/-- 'export' skipped, by both -/
theorem skip_lead (t : ByteArray) (h0 : 0 < t.size) (hb : blankB t[0] = false) : skipE t = leadX t ∨ ((restO (skipE t)).2.2 = false ∧ (restO (leadX t)).2.2 = false) := by
  have hself : start5 t = t := by rw [start_lead]; exact leadE_here t h0 hb
  by_cases hp : Lib.hasPrefix t.data.toList exportB.data.toList = true
  · have hpl := List.isPrefixOf_iff_prefix.1 hp
    obtain ⟨r, hr⟩ := hpl
    have hr : t.data.toList = [101, 120, 112, 111, 114, 116] ++ r := hr.symm
    have htz : t.size = 6 + r.length := by rw [Lib.size_eq, hr]; simp; omega
    have hx : (exP t).data.toList = r := by
      unfold exP Lib.trimPrefix
      rw [if_pos hp]
      show t.data.toList.drop 6 = r
      rw [hr]
      rfl
    have h6 : (t.extract 6 t.size).data.toList = r := by
      rw [data_extract_all, hr]
      rfl
    have hsx : (start5 (exP t)).data.toList = r.dropWhile blankB := by rw [start_lead, leadE_data, hx]
    cases hrc : r with
    | nil =>
      left
      have e1 : skipE t = t := by
        unfold skipE
        rw [if_pos]
        rw [Lib.toList_data, Lib.toList_data, hsx, hx, hrc]
        rfl
      rw [e1]
      unfold leadX
      rw [dif_neg (by rw [htz, hrc]; decide)]
    | cons c r2 =>
      have ht6 : ∀ h : 6 < t.size, t[6] = c := by
        intro h
        have h7 : 6 < t.data.toList.length := by rw [← Lib.size_eq]; exact h
        have e : t.data.toList[6]? = some c := by rw [hr, hrc]; rfl
        rw [List.getElem?_eq_getElem h7] at e
        exact Option.some.inj e
      by_cases hbc : blankB c = true
      · have e1 : skipE t = start5 (exP t) := by
          unfold skipE
          rw [if_neg]
          rw [Lib.toList_data, Lib.toList_data, hsx, hx, hrc, List.dropWhile_cons_of_pos hbc]
          intro e
          have e2 := congrArg List.length (beq_iff_eq.1 e)
          have := (List.dropWhile_sublist blankB (l := r2)).length_le
          simp only [List.length_cons] at e2
          omega
        by_cases h7 : 7 < t.size
        · left
          rw [e1]
          unfold leadX
          rw [dif_pos h7, if_pos ⟨by rw [expB_pre]; exact hp, by rw [ht6 (by omega)]; exact hbc⟩]
          apply ext_dataB
          rw [hsx, leadE_data, h6]
        · right
          have hr2 : r2 = [] := by
            rw [hrc] at htz
            simp only [List.length_cons] at htz
            exact List.eq_nil_of_length_eq_zero (by omega)
          constructor
          · apply restO_none
            rw [e1, hsx, hrc, List.dropWhile_cons_of_pos hbc, hr2]
            intro c hc
            cases hc
          · have e2 : leadX t = t := by unfold leadX; rw [dif_neg h7]
            rw [e2]
            apply restO_none
            rw [hr, hrc, hr2]
            intro d hd e
            subst e
            simp only [List.cons_append, List.nil_append, List.mem_cons, List.not_mem_nil, or_false] at hd
            have hc61 : c = 61 := by
              rcases hd with h | h | h | h | h | h | h
              · exact absurd h (by decide)
              · exact absurd h (by decide)
              · exact absurd h (by decide)
              · exact absurd h (by decide)
              · exact absurd h (by decide)
              · exact absurd h (by decide)
              · exact h.symm
            rw [hc61] at hbc
            exact absurd hbc (by decide)
      · left
        have e1 : skipE t = t := by
          unfold skipE
          rw [if_pos]
          rw [Lib.toList_data, Lib.toList_data, hsx, hx, hrc, List.dropWhile_cons_of_neg hbc]
          exact beq_self_eq_true _
        rw [e1]
        unfold leadX
        split
        · next h7 =>
          rw [if_neg]
          intro ⟨_, h8⟩
          rw [ht6 (by omega)] at h8
          exact hbc h8
        · rfl
  · left
    have hx : exP t = t := by
      apply ext_dataB
      unfold exP Lib.trimPrefix
      rw [if_neg hp]
    have e1 : skipE t = t := by
      unfold skipE
      rw [hx, hself, if_pos]
      exact beq_self_eq_true _
    rw [e1]
    unfold leadX
    split
    · rw [if_neg]
      intro ⟨h8, _⟩
      rw [expB_pre] at h8
      exact hp h8
    · rfl
theorem leadX_suffix (t : ByteArray) : (leadX t).data.toList <:+ t.data.toList := by
  unfold leadX
  split
  · split
    · refine (suffix_lead _).trans ?_
      rw [data_extract_all]
      exact List.drop_suffix _ _
    · exact List.suffix_refl _
  · exact List.suffix_refl _
/-- the value's text, by both -/
theorem value_text (s rb : ByteArray) (hsuf : rb.data.toList <:+ (firstL s).1.data.toList) :
    (start5 (s.extract ((firstL s).1.size - rb.size) s.size)).data.toList = (leadE rb).data.toList ++ s.data.toList.drop (endAt s) := by
  have hx1 : (firstL s).1.data.toList = s.data.toList.take (endAt s) := extract_zero s _ (endAt_le s)
  have hxs := first_size s
  have hd := List.suffix_iff_eq_drop.1 hsuf
  have hlen := hsuf.length_le
  rw [← Lib.size_eq, ← Lib.size_eq, hxs] at hlen
  rw [← Lib.size_eq, ← Lib.size_eq, hxs] at hd
  rw [start_lead, leadE_data, data_extract_all, hxs]
  have e1 : s.data.toList.drop (endAt s - rb.size) = rb.data.toList ++ s.data.toList.drop (endAt s) := by
    conv => lhs; rw [← List.take_append_drop (endAt s) s.data.toList]
    rw [List.drop_append_of_le_length (by rw [List.length_take, ← Lib.size_eq]; have := endAt_le s; omega), ← hx1, ← hd]
  rw [e1]
  have hhead : ∀ (l m : List UInt8), (∀ c n, m = c :: n → blankB c = false) → (l ++ m).dropWhile blankB = l.dropWhile blankB ++ m := by
    intro l m hm
    induction l with
    | nil =>
      cases m with
      | nil => rfl
      | cons c n =>
        rw [List.nil_append, List.dropWhile_cons_of_neg (by rw [hm c n rfl]; decide)]
        rfl
    | cons a l ih =>
      by_cases ha : blankB a = true
      · rw [List.cons_append, List.dropWhile_cons_of_pos ha, List.dropWhile_cons_of_pos ha, ih]
      · rw [List.cons_append, List.dropWhile_cons_of_neg ha, List.dropWhile_cons_of_neg ha]
        rfl
  rw [hhead]
  · rfl
  · intro c n hcn
    by_cases h : endAt s < s.size
    · have := at_end s h
      rw [drop_here s _ h] at hcn
      have e2 := (List.cons.inj hcn).1
      rcases this with e | e
      · rw [← e2, e]; decide
      · rw [← e2, e]; decide
    · rw [List.drop_of_length_le (by rw [← Lib.size_eq]; omega)] at hcn
      cases hcn
/-- the bytes of lines, cut off at the end -/
theorem raw_cut (s Z : ByteArray) (n : Nat) (h : (linesOf s).drop n = linesOf Z) : cutEnd s Z = rawP (linesOf s) 0 n := by
  unfold cutEnd rawP
  rw [List.drop_zero]
  have h1 : s.data.toList = joinB ((linesOf s).take n) ++ Z.data.toList := by
    rw [← linesOf_join s, ← linesOf_join Z, ← h, ← joinB_append, List.take_append_drop, linesOf_join]
  rw [h1]
  congr 2
  unfold Lib.trimSuffix Lib.hasSuffix
  rw [if_pos (by rw [List.isSuffixOf_iff_suffix]; exact List.suffix_append _ _)]
  rw [List.length_append, Nat.add_sub_cancel]
  simp
theorem raw_one (x : Ln) (l : List Ln) : rawP (x :: l) 0 1 = x.1 ++ x.2 := by
  apply ext_dataB
  unfold rawP joinB
  simp

end Go.Proofs.YtkhkpjnpjgnckaaGreatDoor

/- Environment files: the first record by bytes is the first record by lines: the whole. -/
set_option maxRecDepth 100000
namespace Go.Proofs.YtkhkpjnpjgnckaaGreatDoor
open Go.RowKit
set_option linter.unusedVariables false

theorem behind_dial (e : Bool) (z : ByteArray) : behind5 (dialE e) z = behindE z := by
  have ht : trimT z = trimE z := rfl
  unfold behind5 behindE dialE
  rw [ht]
  by_cases h : 0 < (trimE z).size
  · rw [dif_pos h, dif_pos h, one_has]
    simp
  · rw [dif_neg h, dif_neg h]
theorem tail_data (u : ByteArray) : ∀ j, (u.extract 1 u.size).extract 0 j = u.extract 1 (j + 1) := by
  intro j
  rw [cut_headB, Nat.add_comm]
/-- where it closes, with and without the quote that opens -/
theorem endQ_clos (u : ByteArray) (h0 : 0 < u.size) (e : Bool) (m : UInt8) (hm : u[0] = m) (he : (e = false ∧ m = 39) ∨ (e = true ∧ m = 34)) (j : Nat) : endQ e m (u.extract 1 u.size) j = closE u (j + 1) := by
  have hz : (u.extract 1 u.size).size = u.size - 1 := by rw [ByteArray.size_extract]; omega
  unfold endQ closE
  by_cases h : j < u.size - 1
  · rw [dif_pos (by omega), dif_pos ⟨by omega, by omega⟩, getB_cut u 1 u.size j (by omega) (by omega)]
    have e1 : 1 + j = j + 1 := by omega
    simp only [e1, hm]
    congr 1
    unfold esc5
    rw [tail_data]
    generalize tailN (u.extract 1 (j + 1)) = n
    rcases he with ⟨rfl, rfl⟩ | ⟨rfl, rfl⟩
    · simp
    · have h39 : ((34 : UInt8) == 39) = false := by decide
      rw [h39, Bool.false_or, Bool.true_and]
      rcases (show n % 2 = 0 ∨ n % 2 = 1 by omega) with q | q <;> rw [q] <;> rfl
  · rw [dif_neg (by omega), dif_neg (by omega)]
theorem cutQ_clos (u : ByteArray) (h0 : 0 < u.size) (e : Bool) (m : UInt8) (hm : u[0] = m) (he : (e = false ∧ m = 39) ∨ (e = true ∧ m = 34)) : closN u = cutQ e m (u.extract 1 u.size) + 1 := by
  have hz : (u.extract 1 u.size).size = u.size - 1 := by rw [ByteArray.size_extract]; omega
  have hle : cutQ e m (u.extract 1 u.size) ≤ (u.extract 1 u.size).size := by
    have := List.findIdx_le_length (xs := List.range (u.extract 1 u.size).size) (p := endQ e m (u.extract 1 u.size))
    rw [List.length_range] at this
    exact this
  refine closN_is u _ (by omega) ?_ ?_
  · intro i hi
    cases i with
    | zero => unfold closE; rw [dif_neg (by omega)]
    | succ i =>
      rw [← endQ_clos u h0 e m hm he]
      by_cases hs : i < (u.extract 1 u.size).size
      · have h1 := List.not_of_lt_findIdx (xs := List.range (u.extract 1 u.size).size) (p := endQ e m (u.extract 1 u.size)) (i := i) (show i < cutQ e m (u.extract 1 u.size) by omega)
        rw [List.getElem_range] at h1
        simpa using h1
      · unfold endQ
        rw [dif_neg hs]
  · intro hlt
    rw [← endQ_clos u h0 e m hm he]
    have hl : cutQ e m (u.extract 1 u.size) < (List.range (u.extract 1 u.size).size).length := by rw [List.length_range]; omega
    have h1 : endQ e m (u.extract 1 u.size) ((List.range (u.extract 1 u.size).size)[cutQ e m (u.extract 1 u.size)]'hl) = true := List.findIdx_getElem (w := hl)
    rw [List.getElem_range] at h1
    exact h1
/-- what stands behind the first line of what stands behind a quote that closes -/
theorem behind_after (u : ByteArray) (k : Nat) (hk : k ≤ u.size) : (firstL (u.extract k u.size)).1 = u.extract k (lineEnd u k) ∧ behindL (u.extract k u.size) = u.extract (lineEnd u k + endN u (lineEnd u k)) u.size := by
  constructor
  · rw [first_text, cut_headB]
    rfl
  · unfold behindL
    rw [cut_cutB, first_size, first_end, cut_cutB, lineEnd_eq, endN_eq, ← Nat.add_assoc, lineEnd_eq]
theorem stopE_eq (u : ByteArray) : lineEnd u (closN u + 1) = stopE u := rfl
/-- a quoted value, by both -/
theorem quote_same (u : ByteArray) (h0 : 0 < u.size) (e : Bool) (m : UInt8) (tm : ByteArray → ByteArray) (hm : u[0] = m) (he : (e = false ∧ m = 39 ∧ tm = plainT) ∨ (e = true ∧ m = 34 ∧ tm = doubT)) (h1 : 1 ≤ lineEnd u 0) :
    ((readQ e m tm u).2.2 = true → ∃ n, 1 ≤ n ∧ quoteE (u.extract 0 (lineEnd u 0)) (leadB (u.extract (lineEnd u 0) u.size)) (linesOf (u.extract (lineEnd u 0 + endN u (lineEnd u 0)) u.size)) = ((readQ e m tm u).1, n) ∧
      (linesOf (u.extract (lineEnd u 0 + endN u (lineEnd u 0)) u.size)).drop (n - 1) = linesOf (behindL (readQ e m tm u).2.1)) ∧
    ((readQ e m tm u).2.2 = false → (quoteE (u.extract 0 (lineEnd u 0)) (leadB (u.extract (lineEnd u 0) u.size)) (linesOf (u.extract (lineEnd u 0 + endN u (lineEnd u 0)) u.size))).2 = 0) := by
  have he2 : (e = false ∧ m = 39) ∨ (e = true ∧ m = 34) := by
    rcases he with ⟨a, b, _⟩ | ⟨a, b, _⟩
    · exact .inl ⟨a, b⟩
    · exact .inr ⟨a, b⟩
  have hq : u[0] = 39 ∨ u[0] = 34 := by
    rcases he2 with ⟨_, b⟩ | ⟨_, b⟩
    · exact .inl (hm.trans b)
    · exact .inr (hm.trans b)
  have hc := cutQ_clos u h0 e m hm he2
  have hz : (u.extract 1 u.size).size = u.size - 1 := by rw [ByteArray.size_extract]; omega
  obtain ⟨q1, q2⟩ := quote_by u h0 hq u.size 0 1 (by omega) (Nat.zero_le _) h1 (fun i hi => absurd hi (Nat.not_lt_zero _))
  unfold quoteE
  by_cases hcl : closN u < u.size
  · obtain ⟨c, c1, c2⟩ := q1 hcl
    rw [c1]
    have hst := lineEnd_le u (closN u + 1) (by omega)
    have hs0 : (u.extract 0 (stopE u)).size = stopE u := by rw [ByteArray.size_extract]; unfold stopE; omega
    have hlt : closN u < stopE u := by unfold stopE; omega
    have hcp := closN_pre u (stopE u) (by unfold stopE; omega) hlt
    have hin : innerQ e m u = u.extract 1 (closN u) := by unfold innerQ; rw [tail_data, hc]
    have haf : afterQ e m u = u.extract (closN u + 1) u.size := by
      unfold afterQ
      rw [cut_cutB, hc, Nat.add_comm 1]
    have hcq : closesQ e m u = true := by unfold closesQ; exact decide_eq_true (by omega)
    obtain ⟨b1, b2⟩ := behind_after u (closN u + 1) (by omega)
    have hR : readQ e m tm u = if behindE (u.extract (closN u + 1) (stopE u)) then (tm (u.extract 1 (closN u)), u.extract (closN u + 1) u.size, true) else (⟨#[]⟩, ⟨#[]⟩, false) := by
      unfold readQ
      rw [hcq, Bool.true_and, behind_dial, hin, haf, b1, stopE_eq]
    have hQ : quoteR (u.extract 0 (stopE u), 1 + c, true) = if behindE (u.extract (closN u + 1) (stopE u)) then (tm (u.extract 1 (closN u)), 1 + c) else (⟨#[]⟩, 0) := by
      unfold quoteR
      simp only [if_true]
      rw [hcp, hs0, cut_twoB u (stopE u) _ _ (Nat.le_refl _), cut_twoB u (stopE u) 1 _ (by omega)]
      have ha : aposB (u.extract 0 (stopE u)) = (m == 39) := by
        unfold aposB
        rw [dif_pos (by omega), getB_cut u 0 (stopE u) 0 (by omega) (by omega)]
        simp only [Nat.zero_add, hm]
      have hT : ∀ X, (if (m == 39) = true then plainT X else doubT X) = tm X := by
        intro X
        rcases he with ⟨_, b, c⟩ | ⟨_, b, c⟩
        · rw [b, c, if_pos (by decide)]
        · rw [b, c, if_neg (by decide)]
      rw [ha, hT]
    rw [hR, hQ]
    cases behindE (u.extract (closN u + 1) (stopE u))
    · exact ⟨fun h => (by cases h), fun _ => rfl⟩
    · refine ⟨fun _ => ⟨1 + c, by omega, rfl, ?_⟩, fun h => by cases h⟩
      simp only [if_true]
      rw [b2, stopE_eq, show 1 + c - 1 = c by omega]
      exact c2
  · obtain ⟨t, k, c1⟩ := q2 hcl
    rw [c1]
    have hcq : closesQ e m u = false := by unfold closesQ; exact decide_eq_false (by omega)
    have hR : readQ e m tm u = (⟨#[]⟩, ⟨#[]⟩, false) := by
      unfold readQ
      rw [hcq, Bool.false_and]
      rfl
    rw [hR]
    exact ⟨fun h => (by cases h), fun _ => rfl⟩

/-- the first record by bytes is that by lines -/
theorem envF_is (s : ByteArray) (h : s.size ≠ 0) (l : List Ln) (hl : linesOf s = firstL s :: l) :
    envF s = ⟨(oneE (firstL s) l).1.kind, rawP (linesOf s) 0 (oneE (firstL s) l).2, ⟨#[]⟩, (oneE (firstL s) l).1.key, (oneE (firstL s) l).1.value, 0⟩ := by
  obtain ⟨f1, f2, f3⟩ := first_line s h
  have hl2 : l = linesOf (s.extract ((firstL s).1.size + (firstL s).2.size) s.size) := by
    rw [f3] at hl
    exact (List.cons.inj hl).2.symm
  have hone : rawP (linesOf s) 0 1 = (firstL s).1 ++ (firstL s).2 := by rw [hl, raw_one]
  have hsing : ∀ k : Int, singleE k (firstL s) = ⟨(kindP k).kind, rawP (linesOf s) 0 1, ⟨#[]⟩, (kindP k).key, (kindP k).value, 0⟩ := by
    intro k
    unfold singleE kindP
    rw [hone]
  unfold envF oneE
  rw [start_lead]
  by_cases ht : 0 < (leadE (firstL s).1).size
  · obtain ⟨h2, h3⟩ := trim_start_some _ ht
    rw [dif_pos ht, dif_pos h2, h3]
    by_cases h35 : (leadE (firstL s).1)[0] = 35
    · rw [if_pos h35, if_pos h35]
      exact hsing 1
    · rw [if_neg h35, if_neg h35]
      have hb := lead_head _ ht
      have hsx := (leadX_suffix (leadE (firstL s).1)).trans (suffix_lead (firstL s).1)
      unfold lineF lineE
      rcases skip_lead _ ht hb with hk | ⟨hk1, hk2⟩
      · rw [hk]
        have hrs := (restO_suffix (leadX (leadE (firstL s).1))).trans hsx
        generalize restO (leadX (leadE (firstL s).1)) = ro at *
        obtain ⟨ra, rb, ok⟩ := ro
        simp only at hrs ⊢
        generalize trimE ra = key
        by_cases hc : ok = true ∧ nameB key = true
        · rw [if_pos hc, if_pos (by rw [hc.1, hc.2]; rfl)]
          have hv := value_text s rb hrs
          have hlen := hrs.length_le
          rw [← Lib.size_eq, ← Lib.size_eq, first_size] at hlen
          generalize start5 (s.extract ((firstL s).1.size - rb.size) s.size) = u at *
          have hus : u.size = (leadE rb).size + (s.size - endAt s) := by
            rw [Lib.size_eq, hv, List.length_append, List.length_drop, ← Lib.size_eq, ← Lib.size_eq]
          have hle := endAt_le s
          -- the bytes of the line
          have hrl : ∀ c ∈ (leadE rb).data.toList, c ≠ 13 ∧ c ≠ 10 := by
            intro c hc
            have h1 := (suffix_lead rb).subset hc
            have h2 := hrs.subset h1
            rw [first_text, extract_zero s _ hle] at h2
            exact before_end s c h2
          have hu1 : ∀ i (hi : i < u.size) (hi2 : i < (leadE rb).size), u[i] = (leadE rb)[i] := by
            intro i hi hi2
            have a1 : u.data.toList[i]? = some u[i] := List.getElem?_eq_getElem (by rw [← Lib.size_eq]; exact hi)
            rw [hv, List.getElem?_append_left (by rw [← Lib.size_eq]; exact hi2)] at a1
            have a2 : (leadE rb).data.toList[i]? = some (leadE rb)[i] := List.getElem?_eq_getElem (by rw [← Lib.size_eq]; exact hi2)
            rw [a2] at a1
            exact (Option.some.inj a1).symm
          have hu2 : ∀ i (hi : i < u.size) (hi2 : (leadE rb).size ≤ i) (hi3 : endAt s + (i - (leadE rb).size) < s.size), u[i] = s[endAt s + (i - (leadE rb).size)] := by
            intro i hi hi2 hi3
            have a1 : u.data.toList[i]? = some u[i] := List.getElem?_eq_getElem (by rw [← Lib.size_eq]; exact hi)
            rw [hv, List.getElem?_append_right (by rw [← Lib.size_eq]; exact hi2), List.getElem?_drop, ← Lib.size_eq] at a1
            have a2 : s.data.toList[endAt s + (i - (leadE rb).size)]? = some s[endAt s + (i - (leadE rb).size)] := List.getElem?_eq_getElem (by rw [← Lib.size_eq]; exact hi3)
            rw [a2] at a1
            exact (Option.some.inj a1).symm
          have hE : lineEnd u 0 = (leadE rb).size := by
            refine lineEnd_is u 0 _ (Nat.zero_le _) (by omega) ?_ ?_
            · intro i hi _ hi2
              rw [hu1 i hi hi2]
              exact hrl _ (List.getElem_mem (l := (leadE rb).data.toList) (by rw [← Lib.size_eq]; exact hi2))
            · intro hi
              have h4 : endAt s < s.size := by omega
              have h5 := hu2 _ hi (Nat.le_refl _) (by omega)
              have e0 : endAt s + ((leadE rb).size - (leadE rb).size) = endAt s := by omega
              simp only [e0] at h5
              rw [h5]
              exact at_end s h4
          have hrest : u.extract 0 (leadE rb).size = leadE rb := by
            apply ext_dataB
            rw [Lib.extract_data, hv, List.drop_zero, Nat.sub_zero, Lib.size_eq, List.take_left']
            rfl
          have htl : u.extract (leadE rb).size u.size = s.extract (endAt s) s.size := by
            apply ext_dataB
            rw [data_extract_all, data_extract_all, hv, Lib.size_eq, List.drop_left']
            rfl
          have hx2 : leadB (u.extract (leadE rb).size u.size) = (firstL s).2 := by rw [htl]; rfl
          have hEN : endN u (leadE rb).size = (firstL s).2.size := by unfold endN; rw [hx2]
          have hback : u.extract ((leadE rb).size + endN u (leadE rb).size) u.size = s.extract ((firstL s).1.size + (firstL s).2.size) s.size := by
            rw [← cut_cutB, htl, cut_cutB, hEN, first_size]
          have hheads : ∀ m : UInt8, m ≠ 13 → m ≠ 10 → headIs u m = headIs (leadE rb) m := by
            intro m m1 m2
            unfold headIs
            by_cases h0 : 0 < (leadE rb).size
            · rw [dif_pos h0, dif_pos (by omega), hu1 0 (by omega) h0]
            · rw [dif_neg h0]
              by_cases h5 : 0 < u.size
              · rw [dif_pos h5]
                have h6 : endAt s < s.size := by omega
                have h7 := hu2 0 h5 (by omega) (by omega)
                have e0 : endAt s + (0 - (leadE rb).size) = endAt s := by omega
                simp only [e0] at h7
                rw [h7]
                rcases at_end s h6 with e | e
                · rw [e, beq_eq_false_iff_ne]; exact fun e2 => m1 e2.symm
                · rw [e, beq_eq_false_iff_ne]; exact fun e2 => m2 e2.symm
              · rw [dif_neg h5]
          have hqb : quotedB (leadE rb) = (headIs u 39 || headIs u 34) := by
            rw [hheads 39 (by decide) (by decide), hheads 34 (by decide) (by decide)]
            unfold quotedB headIs
            by_cases h0 : 0 < (leadE rb).size
            · rw [dif_pos h0, dif_pos h0, dif_pos h0]
            · rw [dif_neg h0, dif_neg h0, dif_neg h0]; rfl
          -- a value with quotes
          have hquo : ∀ (e : Bool) (m : UInt8) (tm : ByteArray → ByteArray), headIs u m = true → ((e = false ∧ m = 39 ∧ tm = plainT) ∨ (e = true ∧ m = 34 ∧ tm = doubT)) → readE u = readQ e m tm u →
              pairF s key u (firstL s) = ⟨(valE key (leadE rb) (firstL s).2 l).1.kind, rawP (linesOf s) 0 (valE key (leadE rb) (firstL s).2 l).2, ⟨#[]⟩, (valE key (leadE rb) (firstL s).2 l).1.key, (valE key (leadE rb) (firstL s).2 l).1.value, 0⟩ := by
            intro e m tm hh he hre
            obtain ⟨h0, hm⟩ := head_at hh
            have hne : m ≠ 13 ∧ m ≠ 10 := by
              rcases he with ⟨_, b, _⟩ | ⟨_, b, _⟩ <;> rw [b] <;> decide
            have h9 : 0 < (leadE rb).size := by
              have := hheads m hne.1 hne.2
              rw [hh] at this
              exact (head_at this.symm).1
            have hqt : quotedB (leadE rb) = true := by
              rw [hqb]
              rcases he with ⟨_, b, _⟩ | ⟨_, b, _⟩
              · rw [b] at hh; rw [hh]; rfl
              · rw [b] at hh; rw [hh, Bool.or_true]
            obtain ⟨p1, p2⟩ := quote_same u h0 e m tm hm he (by rw [hE]; exact h9)
            rw [hE, hrest, hx2, hback, ← hl2] at p1 p2
            unfold pairF valE
            rw [hqt, hre]
            cases hf : (readQ e m tm u).2.2
            · rw [p2 hf]
              exact hsing 4
            · obtain ⟨n, n1, n2, n3⟩ := p1 hf
              rw [n2]
              have hnz : ¬ n = 0 := by omega
              simp only [if_neg hnz, if_true]
              have hdr : (linesOf s).drop n = linesOf (behindL (readQ e m tm u).2.1) := by
                rw [hl, ← n3]
                obtain ⟨k, rfl⟩ : ∃ k, n = k + 1 := ⟨n - 1, by omega⟩
                rw [List.drop_succ_cons, Nat.add_sub_cancel]
              rw [raw_cut s _ n hdr]
          cases h39 : headIs u 39
          · cases h34 : headIs u 34
            · have hre : readE u = ((bareE (firstL u).1).1, u, (bareE (firstL u).1).2) := by unfold readE; rw [h39, h34]; rfl
              have hfu : (firstL u).1 = leadE rb := by
                rw [first_text]
                have : endAt u = (leadE rb).size := by
                  have e3 : lineEnd u 0 = 0 + endAt (u.extract 0 u.size) := rfl
                  rw [extract_whole] at e3
                  omega
                rw [this, hrest]
              have hbu : behindL u = s.extract ((firstL s).1.size + (firstL s).2.size) s.size := by
                have := (behind_after u 0 (Nat.zero_le _)).2
                rw [extract_whole, hE, hback] at this
                exact this
              have hdr : (linesOf s).drop 1 = linesOf (behindL u) := by rw [hl, hbu, ← hl2]; rfl
              have hqf : quotedB (leadE rb) = false := by rw [hqb, h39, h34]; rfl
              unfold pairF valE
              rw [hqf, hre, hfu]
              simp only []
              cases hbe : (bareE (leadE rb)).2
              · simp only [if_neg (show ¬ (false = true) by decide)]
                exact hsing 4
              · simp only [if_true, if_neg (show ¬ (false = true) by decide)]
                rw [raw_cut s _ 1 hdr]
            · exact hquo true 34 doubT h34 (.inr ⟨rfl, rfl, rfl⟩) (by unfold readE; rw [h39, h34]; rfl)
          · exact hquo false 39 plainT h39 (.inl ⟨rfl, rfl, rfl⟩) (by unfold readE; rw [h39]; rfl)
        · rw [if_neg hc, if_neg (by rw [Bool.and_eq_true]; exact hc)]
          exact hsing 4
      · rw [hk1, hk2, Bool.false_and, if_neg (by decide), if_neg (by intro h; cases h.1)]
        exact hsing 4
  · have h0 := trim_start_none _ (Nat.eq_zero_of_not_pos ht)
    rw [dif_neg ht, dif_neg (by omega)]
    exact hsing 0

end Go.Proofs.YtkhkpjnpjgnckaaGreatDoor
