/- An environment file with two values between quotes, over lines, and a third: its records. -/
import Derived.Test.YthljlkngmfbeoaaDoorProg
import Derived.Test.YthljlkngmfbeoaaDoorPlain
import Derived.Test.YthljlkngmfbeoaaDoorRows0
import Derived.Test.YthljlkngmfbeoaaDoorRecRows
import Derived.Test.YthljlkngmfbeoaaDoorRecArg
import Derived.Test.YthljlkngmfbeoaaDoorRecRaw
import Derived.Test.YthljlkngmfbeoaaDoorRecNum
import Derived.Test.YthljlkngmfbeoaaDoorCut
import Derived.Test.YthljlkngmfbeoaaDoorTrim
import Derived.Test.YthljlkngmfbeoaaDoorTail
import Derived.Test.YthljlkngmfbeoaaDoorLines
import Derived.Test.YthljlkngmfbeoaaDoorSplitSpec
import Derived.Test.YthljlkngmfbeoaaDoorSplitImpl
import Derived.Test.YthljlkngmfbeoaaDoorJoin
import Derived.Test.YthljlkngmfbeoaaDoorBareImpl
import Derived.Test.YthljlkngmfbeoaaDoorQuotSpec
import Derived.Test.YthljlkngmfbeoaaDoorQuotImpl
import Derived.Test.YthljlkngmfbeoaaDoorEnvFirst
import Derived.Test.YthljlkngmfbeoaaDoorEnvOne
import Derived.Test.YthljlkngmfbeoaaDoorEnvRecs
import Derived.Test.YthljlkngmfbeoaaDoorEnvRepl
import Derived.Test.YthljlkngmfbeoaaDoorEnvSame
import Derived.Test.YthljlkngmfbeoaaDoorEnvCut
import Derived.Test.YthljlkngmfbeoaaDoorEnvSkip
import Derived.Test.YthljlkngmfbeoaaDoorEnvFit
import Derived.Test.YthljlkngmfbeoaaDoorEnvParse
import Derived.Lib.Hide
import Derived.Test.YthljlkngmfbeoaaDoorDec
set_option maxRecDepth 100000
namespace Go.Proofs.YthljlkngmfbeoaaDoor
open Go.RowKit
set_option linter.unusedVariables false

theorem data_of (l : List UInt8) : (⟨l.toArray⟩ : ByteArray).data.toList = l := rfl
theorem of_data {s : ByteArray} {l : List UInt8} (h : s.data.toList = l) : s = ⟨l.toArray⟩ := ext_dataB h
theorem size_data {s : ByteArray} {l : List UInt8} (h : s.data.toList = l) : s.size = l.length := by rw [Lib.size_eq, h]
theorem endAt_list {s : ByteArray} (p t : List UInt8) (h : s.data.toList = p ++ 10 :: t) (hp : ∀ c ∈ p, c ≠ 13 ∧ c ≠ 10) : endAt s = p.length := by
  have hz := size_data h
  rw [List.length_append, List.length_cons] at hz
  refine endAt_is s _ (by omega) ?_ ?_
  · intro i hi hlt
    have e : s.data.toList[i]? = some s[i] := List.getElem?_eq_getElem (by rw [← Lib.size_eq]; exact hi)
    rw [h, List.getElem?_append_left hlt, List.getElem?_eq_getElem hlt] at e
    rw [← Option.some.inj e]
    exact hp _ (List.getElem_mem hlt)
  · intro hi
    have e : s.data.toList[p.length]? = some s[p.length] := List.getElem?_eq_getElem (by rw [← Lib.size_eq]; exact hi)
    rw [h, List.getElem?_append_right (Nat.le_refl _), Nat.sub_self] at e
    exact .inr (Option.some.inj e).symm
/-- a line that ends with a byte 10, and what lies behind it -/
theorem first_list {s : ByteArray} (p t : List UInt8) (h : s.data.toList = p ++ 10 :: t) (hp : ∀ c ∈ p, c ≠ 13 ∧ c ≠ 10) : (firstL s).1 = ⟨p.toArray⟩ ∧ behindL s = ⟨t.toArray⟩ := by
  have he := endAt_list p t h hp
  have hz := size_data h
  rw [List.length_append, List.length_cons] at hz
  have hrest : (s.extract p.length s.size).data.toList = 10 :: t := by rw [data_extract_all, h, List.drop_left]
  have h2 : (firstL s).2.size = 1 := by
    rw [first_end, he]
    unfold leadB
    rw [if_neg (by rw [hrest]; simp [Lib.hasPrefix, List.isPrefixOf]), ByteArray.size_extract, size_data hrest, List.length_cons]
    omega
  constructor
  · apply of_data
    rw [first_text, he, extract_zero s _ (by omega), h, List.take_left]
  · unfold behindL
    rw [h2, first_size, he]
    apply of_data
    rw [data_extract_all, h, List.drop_append, List.drop_of_length_le (by omega)]
    have : p.length + 1 - p.length = 1 := by omega
    rw [this]
    rfl
theorem cutEnd_list {s Z : ByteArray} (A B : List UInt8) (h : s.data.toList = A ++ B) (hZ : Z.data.toList = B) : cutEnd s Z = ⟨A.toArray⟩ := by
  unfold cutEnd
  rw [h, hZ]
  congr 2
  unfold Lib.trimSuffix Lib.hasSuffix
  rw [if_pos (by rw [List.isSuffixOf_iff_suffix]; exact List.suffix_append _ _), List.length_append, Nat.add_sub_cancel, List.take_left]
/-- what is read between quotes -/
theorem read_list {u : ByteArray} (e : Bool) (m : UInt8) (tm : ByteArray → ByteArray) (inner after : List UInt8) (hu : u.data.toList = m :: (inner ++ m :: after)) (hin : ∀ c ∈ inner, c ≠ m) (hev : tlP inner % 2 = 0)
    (hb : behindE (firstL ⟨after.toArray⟩).1 = true) : readQ e m tm u = (tm ⟨inner.toArray⟩, ⟨after.toArray⟩, true) := by
  have h1 : (u.extract 1 u.size).data.toList = inner ++ m :: after := by rw [data_extract_all, hu]; rfl
  have hz := size_data h1
  rw [List.length_append, List.length_cons] at hz
  have hpre : ((u.extract 1 u.size).extract 0 inner.length).data.toList = inner := by rw [extract_zero _ _ (by omega), h1, List.take_left]
  have hat : ∀ j (h : j < (u.extract 1 u.size).size), (inner ++ m :: after)[j]? = some (u.extract 1 u.size)[j] := by
    intro j h
    rw [← h1]
    exact List.getElem?_eq_getElem (by rw [← Lib.size_eq]; exact h)
  have hk : cutQ e m (u.extract 1 u.size) = inner.length := by
    unfold cutQ
    refine findIdx_rangeE _ _ _ (by omega) ?_ ?_
    · intro j hj
      unfold endQ
      rw [dif_pos (by omega)]
      have e1 := hat j (by omega)
      rw [List.getElem?_append_left hj, List.getElem?_eq_getElem hj] at e1
      have hne := hin _ (List.getElem_mem hj)
      rw [Option.some.inj e1] at hne
      have : ((u.extract 1 u.size)[j]'(by omega) == m) = false := by rw [beq_eq_false_iff_ne]; exact hne
      rw [this, Bool.false_and]
    · intro _
      unfold endQ
      rw [dif_pos (by omega)]
      have e1 := hat inner.length (by omega)
      rw [List.getElem?_append_right (Nat.le_refl _), Nat.sub_self] at e1
      have e2 : (u.extract 1 u.size)[inner.length]'(by omega) = m := (Option.some.inj e1).symm
      rw [e2, beq_self_eq_true, Bool.true_and]
      unfold esc5
      rw [tailN_tlP, hpre, hev]
      cases e <;> rfl
  have hi : innerQ e m u = ⟨inner.toArray⟩ := by
    unfold innerQ
    rw [hk]
    exact of_data hpre
  have ha : afterQ e m u = ⟨after.toArray⟩ := by
    unfold afterQ
    rw [hk]
    apply of_data
    rw [data_extract_all, h1, List.drop_append, List.drop_of_length_le (by omega)]
    have : inner.length + 1 - inner.length = 1 := by omega
    rw [this]
    rfl
  have hc : closesQ e m u = true := by unfold closesQ; rw [hk]; exact decide_eq_true (by omega)
  unfold readQ
  rw [hc, ha, hi, Bool.true_and, behind_dial, hb, if_pos rfl]
/-- the first record is a pair -/
theorem key_list {s : ByteArray} (K m : UInt8) (rest : List UInt8) (h : s.data.toList = K :: 61 :: m :: rest) (k1 : blankB K = false) (k2 : K ≠ 35) (k3 : K ≠ 101) (k4 : K ≠ 61) (k5 : K ≠ 13 ∧ K ≠ 10) (k6 : nameB ⟨#[K]⟩ = true) (k7 : trimE ⟨#[K]⟩ = ⟨#[K]⟩)
    (m1 : blankB m = false) (m2 : m ≠ 13 ∧ m ≠ 10) : envF s = pairF s ⟨#[K]⟩ (s.extract 2 s.size) (firstL s) := by
  have hz := size_data h
  simp only [List.length_cons] at hz
  have hle := endAt_le s
  have hb : ∀ i (hi : i < s.size), i < 3 → s[i] ≠ 13 ∧ s[i] ≠ 10 := by
    intro i hi h3
    have e : s.data.toList[i]? = some s[i] := List.getElem?_eq_getElem (by rw [← Lib.size_eq]; exact hi)
    rw [h] at e
    have hc : s[i] = K ∨ s[i] = 61 ∨ s[i] = m := by
      rcases (show i = 0 ∨ i = 1 ∨ i = 2 by omega) with rfl | rfl | rfl
      · exact .inl (Option.some.inj e).symm
      · exact .inr (.inl (Option.some.inj e).symm)
      · exact .inr (.inr (Option.some.inj e).symm)
    rcases hc with e | e | e
    · rw [e]; exact k5
    · rw [e]; decide
    · rw [e]; exact m2
  have he : 3 ≤ endAt s := by
    apply Classical.byContradiction
    intro hn
    have h3 := at_end s (by omega)
    have h4 := hb (endAt s) (by omega) (by omega)
    rcases h3 with e | e
    · exact h4.1 e
    · exact h4.2 e
  obtain ⟨j, hj⟩ : ∃ j, endAt s = j + 3 := ⟨endAt s - 3, by omega⟩
  have ht : (firstL s).1.data.toList = K :: 61 :: m :: rest.take j := by
    rw [first_text, extract_zero s _ hle, h, hj]
    rfl
  have htz : (firstL s).1.size = endAt s := first_size s
  have hK : (firstL s).1[0]'(by omega) = K := by
    have e : (firstL s).1.data.toList[0]? = some ((firstL s).1[0]'(by omega)) := List.getElem?_eq_getElem (by rw [← Lib.size_eq]; omega)
    rw [ht] at e
    exact (Option.some.inj e).symm
  have hself : start5 (firstL s).1 = (firstL s).1 := by rw [start_lead]; exact leadE_here _ (by omega) (by rw [hK]; exact k1)
  have hex : exP (firstL s).1 = (firstL s).1 := by
    apply ext_dataB
    unfold exP Lib.trimPrefix
    rw [if_neg]
    rw [ht]
    show ¬ ([101, 120, 112, 111, 114, 116] : List UInt8).isPrefixOf (K :: 61 :: m :: rest.take j) = true
    intro h2
    simp only [List.isPrefixOf, Bool.and_eq_true, beq_iff_eq] at h2
    exact k3 h2.1.symm
  have hsk : skipE (firstL s).1 = (firstL s).1 := by
    unfold skipE
    rw [hex, hself, if_pos]
    exact beq_self_eq_true _
  have hro : restO (firstL s).1 = (⟨#[K]⟩, (firstL s).1.extract 2 (firstL s).1.size, true) := by
    have hf : firstIn (hasB ⟨#[61]⟩) (firstL s).1 = 1 := by
      unfold firstIn
      rw [ht, List.findIdx_cons, List.findIdx_cons, one_has, one_has]
      have : (K == 61) = false := by rw [beq_eq_false_iff_ne]; exact k4
      rw [this]
      rfl
    unfold restO
    rw [hf, if_pos (by omega)]
    have e0 : (firstL s).1.extract 0 1 = ⟨#[K]⟩ := by
      apply ext_dataB
      rw [extract_zero _ _ (by omega), ht]
      rfl
    rw [e0]
  have hrs : ((firstL s).1.extract 2 (firstL s).1.size).size = (firstL s).1.size - 2 := by rw [ByteArray.size_extract]; omega
  have hu : start5 (s.extract 2 s.size) = s.extract 2 s.size := by
    have hd : (s.extract 2 s.size).data.toList = m :: rest := by rw [data_extract_all, h]; rfl
    have h0 : 0 < (s.extract 2 s.size).size := by rw [size_data hd, List.length_cons]; omega
    rw [start_lead]
    refine leadE_here _ h0 ?_
    have e : (s.extract 2 s.size).data.toList[0]? = some ((s.extract 2 s.size)[0]) := List.getElem?_eq_getElem (by rw [← Lib.size_eq]; exact h0)
    rw [hd] at e
    rw [← Option.some.inj e]
    exact m1
  unfold envF
  rw [hself, dif_pos (by omega), hK, if_neg k2]
  unfold lineF
  rw [hsk, hro]
  simp only []
  rw [k7, k6, Bool.true_and, if_pos rfl, hrs, htz]
  have e2 : endAt s - (endAt s - 2) = 2 := by omega
  rw [e2, hu]

/-- three records -/
theorem env_three (s z1 z2 : ByteArray) (hs : s.size ≠ 0) (h1 : s.extract (envF s).raw.size s.size = z1) (hz1 : z1.size ≠ 0) (h2 : z1.extract (envF z1).raw.size z1.size = z2) (hz2 : z2.size ≠ 0) (h3 : (z2.extract (envF z2).raw.size z2.size).size = 0) :
    ∃ x0 x1 x2, recsP (linesOf s) 0 = [x0, x1, x2] ∧ zeroR x0 = envF s ∧ zeroR x1 = envF z1 ∧ zeroR x2 = envF z2 ∧ x1.line = ((1 + (linesOf (envF s).raw).length : Nat) : Int) ∧ x2.line = ((1 + (linesOf (envF s).raw).length + (linesOf (envF z1).raw).length : Nat) : Int) := by
  obtain ⟨a0, a1, a2, _, _⟩ := step_env s s 0 hs (by rw [List.drop_zero])
  rw [h1] at a2
  obtain ⟨b0, b1, b2, _, _⟩ := step_env s z1 _ hz1 a2
  rw [h2] at b2
  obtain ⟨c0, c1, c2, _, _⟩ := step_env s z2 _ hz2 b2
  rw [linesOf_none _ h3] at c2
  have hend := List.drop_eq_nil_iff.1 c2.symm
  have hr := recsP_step (linesOf s) 0 a0
  rw [recsP_step (linesOf s) _ b0, recsP_step (linesOf s) _ c0, recsP_end (linesOf s) _ hend] at hr
  have hL := lined_props s 0
  rw [hr] at hL
  obtain ⟨_, l1, l2, _⟩ := hL
  have r0 := congrArg RecD.raw a1
  have r1 := congrArg RecD.raw b1
  exact ⟨_, _, _, hr, a1.symm, b1.symm, c1.symm, by rw [r0, l1]; rfl, by rw [r0, r1, l2]; rfl⟩

end Go.Proofs.YthljlkngmfbeoaaDoor

/- The file of FnLines2: two values between quotes, of as many lines, and a third. -/
set_option maxRecDepth 100000
namespace Go.Proofs.YthljlkngmfbeoaaDoor
open Go.RowKit
set_option linter.unusedVariables false

/-- rows of plain bytes, so many -/
def GoodR (n : Nat) (b : List UInt8) : Prop := (∀ c ∈ b, c ≠ 13 ∧ c ≠ 34 ∧ c ≠ 36 ∧ c ≠ 39 ∧ c ≠ 92) ∧ b.count 10 = n ∧ b.length ≤ 7 * n
theorem good_nil : GoodR 0 [] := ⟨fun c h => (by cases h), rfl, Nat.le_refl _⟩
theorem itoa_few : (List.range 256).all (fun n => (Lib.itoa (n : Int)).all (fun c => decide (48 ≤ c.toNat) && decide (c.toNat ≤ 57)) && decide ((Lib.itoa (n : Int)).length ≤ 3)) = true := by decide +kernel
theorem good_row {n : Nat} {b : List UInt8} (h : GoodR n b) (x : Int) (h0 : 0 ≤ x) (h1 : x ≤ 255) : (Lib.itoa x).length ≤ 3 ∧ GoodR (n + 1) (b ++ [114, 111, 119] ++ Lib.itoa x ++ [10]) := by
  obtain ⟨k, rfl⟩ := Int.eq_ofNat_of_zero_le h0
  have h2 := List.all_eq_true.1 itoa_few k (by simp; omega)
  rw [Bool.and_eq_true] at h2
  have h3 := List.all_eq_true.1 h2.1
  have h4 := of_decide_eq_true h2.2
  generalize Lib.itoa (k : Int) = d at *
  have h5 : ∀ c ∈ d, c ≠ 13 ∧ c ≠ 34 ∧ c ≠ 36 ∧ c ≠ 39 ∧ c ≠ 92 ∧ c ≠ 10 := by
    intro c hc
    have h6 := h3 c hc
    rw [Bool.and_eq_true] at h6
    have a1 := of_decide_eq_true h6.1
    have a2 := of_decide_eq_true h6.2
    have e : ∀ m : UInt8, (m.toNat < 48 ∨ 57 < m.toNat) → c ≠ m := by
      intro m hm e
      subst e
      omega
    exact ⟨e 13 (by decide), e 34 (by decide), e 36 (by decide), e 39 (by decide), e 92 (by decide), e 10 (by decide)⟩
  refine ⟨h4, ?_, ?_, ?_⟩
  · intro c hc
    simp only [List.mem_append] at hc
    rcases hc with ((hc | hc) | hc) | hc
    · exact h.1 c hc
    · simp only [List.mem_cons, List.not_mem_nil, or_false] at hc
      rcases hc with rfl | rfl | rfl <;> decide
    · have := h5 c hc
      exact ⟨this.1, this.2.1, this.2.2.1, this.2.2.2.1, this.2.2.2.2.1⟩
    · simp only [List.mem_cons, List.not_mem_nil, or_false] at hc
      subst hc
      decide
  · have e1 : d.count 10 = 0 := by
      rw [List.count_eq_zero]
      intro hm
      exact (h5 _ hm).2.2.2.2.2 rfl
    simp only [List.count_append, h.2.1, e1]
    rfl
  · have := h.2.2
    simp only [List.length_append, List.length_cons, List.length_nil]
    omega
theorem split_count : ∀ (l cur : List UInt8), (∀ c ∈ l, c ≠ 13) → (splitL (l ++ [10]) cur).length = l.count 10 + 1 := by
  intro l
  induction l with
  | nil =>
    intro cur _
    rw [List.nil_append, splitL_lf, splitL_nil]
    rfl
  | cons c l ih =>
    intro cur h
    have h2 := fun d hd => h d (List.mem_cons_of_mem _ hd)
    by_cases hc : c = 10
    · subst hc
      rw [List.cons_append, splitL_lf, List.length_cons, ih [] h2, List.count_cons_self]
    · rw [List.cons_append, splitL_on c _ _ (h c (List.mem_cons_self ..)) hc, ih _ h2, List.count_cons_of_ne (fun e => hc e)]
theorem lines_count (l : List UInt8) (h : ∀ c ∈ l, c ≠ 13) : (linesOf ⟨(l ++ [10]).toArray⟩).length = l.count 10 + 1 := by
  unfold linesOf
  rw [List.length_map]
  exact split_count l [] h

abbrev aB : ByteArray := ⟨#[65, 61, 39]⟩
abbrev bB : ByteArray := ⟨#[36, 120, 39, 32, 35, 32, 115, 97, 105, 100, 10, 66, 61, 34]⟩
abbrev cB : ByteArray := ⟨#[92, 36, 120, 34, 10, 67, 61, 49]⟩
abbrev vB : ByteArray := ⟨#[36, 36, 120]⟩
/-- the file -/
def lines2T (b : ByteArray) : ByteArray := aB ++ b ++ bB ++ b ++ cB
theorem app_dataL (a b : ByteArray) : (a ++ b).data.toList = a.data.toList ++ b.data.toList := by simp
theorem bare_one : readE ⟨#[49]⟩ = (⟨#[49]⟩, ⟨#[49]⟩, true) := by decide +kernel
theorem behind_one : behindL ⟨#[49]⟩ = ⟨#[]⟩ := by decide +kernel
theorem name_three : nameB ⟨#[65]⟩ = true ∧ nameB ⟨#[66]⟩ = true ∧ nameB ⟨#[67]⟩ = true := by decide +kernel
theorem trim_three : trimE ⟨#[65]⟩ = ⟨#[65]⟩ ∧ trimE ⟨#[66]⟩ = ⟨#[66]⟩ ∧ trimE ⟨#[67]⟩ = ⟨#[67]⟩ := by decide +kernel
theorem behind_two : behindE ⟨#[32, 35, 32, 115, 97, 105, 100]⟩ = true ∧ behindE ⟨#[]⟩ = true := by decide +kernel
theorem lines2_recs (b : ByteArray) (n : Nat) (hg : GoodR n b.data.toList) : ∃ x0 x1 x2, recsP (linesOf (lines2T b)) 0 = [x0, x1, x2] ∧ x0.value = b ++ vB ∧ x1.value = b ++ vB ∧ x1.line = (n : Int) + 2 ∧ x2.key = ⟨#[67]⟩ ∧ x2.line = 2 * (n : Int) + 3 := by
  obtain ⟨g1, g2, g3⟩ := hg
  generalize hbl : b.data.toList = B at *
  obtain ⟨S2, hS2⟩ : ∃ S2 : List UInt8, S2 = [67, 61, 49] := ⟨_, rfl⟩
  obtain ⟨S1, hS1⟩ : ∃ S1 : List UInt8, S1 = 66 :: 61 :: 34 :: ((B ++ [92, 36, 120]) ++ 34 :: ([] ++ 10 :: S2)) := ⟨_, rfl⟩
  have hs : (lines2T b).data.toList = 65 :: 61 :: 39 :: ((B ++ [36, 120]) ++ 39 :: ([32, 35, 32, 115, 97, 105, 100] ++ 10 :: S1)) := by
    unfold lines2T
    rw [app_dataL, app_dataL, app_dataL, app_dataL, hbl, hS1, hS2]
    simp
  generalize lines2T b = s at *
  have hp0 : ∀ c ∈ ([32, 35, 32, 115, 97, 105, 100] : List UInt8), c ≠ 13 ∧ c ≠ 10 := by decide
  obtain ⟨f1, f2⟩ := first_list (s := ⟨([32, 35, 32, 115, 97, 105, 100] ++ 10 :: S1).toArray⟩) _ S1 rfl hp0
  obtain ⟨f3, f4⟩ := first_list (s := ⟨([] ++ 10 :: S2).toArray⟩) [] S2 rfl (by intro c h; cases h)
  -- the first record
  have hu0 : (s.extract 2 s.size).data.toList = 39 :: ((B ++ [36, 120]) ++ 39 :: ([32, 35, 32, 115, 97, 105, 100] ++ 10 :: S1)) := by rw [data_extract_all, hs]; rfl
  have hr0 := read_list (u := s.extract 2 s.size) false 39 plainT (B ++ [36, 120]) _ hu0 (by
    intro c hc
    rcases List.mem_append.1 hc with hc | hc
    · exact (g1 c hc).2.2.2.1
    · simp only [List.mem_cons, List.not_mem_nil, or_false] at hc
      rcases hc with rfl | rfl <;> decide) (by
    rw [show B ++ [36, 120] = (B ++ [36]) ++ [120] by simp, tlP_none _ _ (by decide)]) (by rw [f1]; exact behind_two.1)
  have hh0 : headIs (s.extract 2 s.size) 39 = true := by rw [← pre_head, hu0]; rfl
  have he0 : readE (s.extract 2 s.size) = (plainT ⟨(B ++ [36, 120]).toArray⟩, ⟨([32, 35, 32, 115, 97, 105, 100] ++ 10 :: S1).toArray⟩, true) := by
    unfold readE
    rw [hh0, if_pos rfl, hr0]
  have hk0 := key_list (s := s) 65 39 _ hs (by decide) (by decide) (by decide) (by decide) (by decide) name_three.1 trim_three.1 (by decide) (by decide)
  have hA0 : s.data.toList = (65 :: 61 :: 39 :: ((B ++ [36, 120]) ++ 39 :: [32, 35, 32, 115, 97, 105, 100]) ++ [10]) ++ S1 := by rw [hs]; simp
  have hc0 := cutEnd_list (s := s) (Z := ⟨S1.toArray⟩) _ S1 hA0 rfl
  have hv0 : plainT ⟨(B ++ [36, 120]).toArray⟩ = b ++ vB := by
    apply ext_dataB
    rw [app_dataL, hbl]
    show plainL (B ++ [36, 120]) = B ++ [36, 36, 120]
    rw [plainL_app, plainL_no B (fun c hc => (g1 c hc).2.2.1)]
    rfl
  have hx0 : envF s = ⟨3, ⟨((65 :: 61 :: 39 :: ((B ++ [36, 120]) ++ 39 :: [32, 35, 32, 115, 97, 105, 100])) ++ [10]).toArray⟩, ⟨#[]⟩, ⟨#[65]⟩, b ++ vB, 0⟩ := by
    rw [hk0]
    unfold pairF
    rw [he0]
    simp only [if_true]
    rw [f2, hc0, hv0]
  -- the second
  obtain ⟨z1, hz1⟩ : ∃ z1 : ByteArray, z1 = ⟨S1.toArray⟩ := ⟨_, rfl⟩
  have hz1l : z1.data.toList = 66 :: 61 :: 34 :: ((B ++ [92, 36, 120]) ++ 34 :: ([] ++ 10 :: S2)) := by rw [hz1]; exact hS1
  have hu1 : (z1.extract 2 z1.size).data.toList = 34 :: ((B ++ [92, 36, 120]) ++ 34 :: ([] ++ 10 :: S2)) := by rw [data_extract_all, hz1l]; rfl
  have hr1 := read_list (u := z1.extract 2 z1.size) true 34 doubT (B ++ [92, 36, 120]) _ hu1 (by
    intro c hc
    rcases List.mem_append.1 hc with hc | hc
    · exact (g1 c hc).2.1
    · simp only [List.mem_cons, List.not_mem_nil, or_false] at hc
      rcases hc with rfl | rfl | rfl <;> decide) (by
    rw [show B ++ [92, 36, 120] = (B ++ [92, 36]) ++ [120] by simp, tlP_none _ _ (by decide)]) (by rw [f3]; exact behind_two.2)
  have hh1 : headIs (z1.extract 2 z1.size) 39 = false := by rw [← pre_head, hu1]; rfl
  have hh2 : headIs (z1.extract 2 z1.size) 34 = true := by rw [← pre_head, hu1]; rfl
  have he1 : readE (z1.extract 2 z1.size) = (doubT ⟨(B ++ [92, 36, 120]).toArray⟩, ⟨([] ++ 10 :: S2).toArray⟩, true) := by
    unfold readE
    rw [hh1, if_neg (by decide), hh2, if_pos rfl, hr1]
  have hk1 := key_list (s := z1) 66 34 _ hz1l (by decide) (by decide) (by decide) (by decide) (by decide) name_three.2.1 trim_three.2.1 (by decide) (by decide)
  have hA1 : z1.data.toList = (66 :: 61 :: 34 :: ((B ++ [92, 36, 120]) ++ [34]) ++ [10]) ++ S2 := by rw [hz1l]; simp
  have hc1 := cutEnd_list (s := z1) (Z := ⟨S2.toArray⟩) _ S2 hA1 rfl
  have hv1 : doubT ⟨(B ++ [92, 36, 120]).toArray⟩ = b ++ vB := by
    apply ext_dataB
    rw [app_dataL, hbl]
    show doubL (B ++ [92, 36, 120]) = B ++ [36, 36, 120]
    rw [doubL_plain B _ (fun c hc => (g1 c hc).2.2.2.2)]
    rfl
  have hx1 : envF z1 = ⟨3, ⟨((66 :: 61 :: 34 :: ((B ++ [92, 36, 120]) ++ [34])) ++ [10]).toArray⟩, ⟨#[]⟩, ⟨#[66]⟩, b ++ vB, 0⟩ := by
    rw [hk1]
    unfold pairF
    rw [he1]
    simp only [if_true]
    rw [f4, hc1, hv1]
  -- the third
  obtain ⟨z2, hz2⟩ : ∃ z2 : ByteArray, z2 = ⟨S2.toArray⟩ := ⟨_, rfl⟩
  have hz2l : z2.data.toList = 67 :: 61 :: 49 :: [] := by rw [hz2]; exact hS2
  have hk2 := key_list (s := z2) 67 49 [] hz2l (by decide) (by decide) (by decide) (by decide) (by decide) name_three.2.2 trim_three.2.2 (by decide) (by decide)
  have hu2 : z2.extract 2 z2.size = ⟨#[49]⟩ := by
    apply ext_dataB
    rw [data_extract_all, hz2l]
    rfl
  have hc2 := cutEnd_list (s := z2) (Z := ⟨#[]⟩) [67, 61, 49] [] (by rw [hz2l]; rfl) rfl
  have hx2 : envF z2 = ⟨3, ⟨#[67, 61, 49]⟩, ⟨#[]⟩, ⟨#[67]⟩, ⟨#[49]⟩, 0⟩ := by
    rw [hk2, hu2]
    unfold pairF
    rw [bare_one]
    simp only [if_true]
    rw [behind_one, hc2]
  -- together
  have e1 : s.extract (envF s).raw.size s.size = z1 := by
    rw [hx0, hz1]
    apply of_data
    rw [data_extract_all]
    show s.data.toList.drop (⟨((65 :: 61 :: 39 :: ((B ++ [36, 120]) ++ 39 :: [32, 35, 32, 115, 97, 105, 100])) ++ [10]).toArray⟩ : ByteArray).size = S1
    rw [size_data (data_of _), hA0, List.drop_left']
    rfl
  have e2 : z1.extract (envF z1).raw.size z1.size = z2 := by
    rw [hx1, hz2]
    apply of_data
    rw [data_extract_all]
    show z1.data.toList.drop (⟨((66 :: 61 :: 34 :: ((B ++ [92, 36, 120]) ++ [34])) ++ [10]).toArray⟩ : ByteArray).size = S2
    rw [size_data (data_of _), hA1, List.drop_left']
    rfl
  have e3 : (z2.extract (envF z2).raw.size z2.size).size = 0 := by
    rw [hx2, ByteArray.size_extract, size_data hz2l]
    decide
  obtain ⟨x0, x1, x2, r1, r2, r3, r4, r5, r6⟩ := env_three s z1 z2 (by rw [size_data hs]; simp) e1 (by rw [size_data hz1l]; simp) e2 (by rw [size_data hz2l]; simp) e3
  rw [hx0] at r2 r5 r6
  rw [hx1] at r3 r6
  rw [hx2] at r4
  have n0 := lines_count (65 :: 61 :: 39 :: ((B ++ [36, 120]) ++ 39 :: [32, 35, 32, 115, 97, 105, 100])) (by
    intro c hc
    simp only [List.mem_cons, List.mem_append, List.not_mem_nil, or_false] at hc
    rcases hc with rfl | rfl | rfl | ((hc | rfl | rfl) | rfl | rfl | rfl | rfl | rfl | rfl | rfl | rfl)
    all_goals first | decide | exact (g1 c hc).1)
  have n1 := lines_count (66 :: 61 :: 34 :: ((B ++ [92, 36, 120]) ++ [34])) (by
    intro c hc
    simp only [List.mem_cons, List.mem_append, List.not_mem_nil, or_false] at hc
    rcases hc with rfl | rfl | rfl | ((hc | rfl | rfl | rfl) | rfl)
    all_goals first | decide | exact (g1 c hc).1)
  have c0 : (65 :: 61 :: 39 :: ((B ++ [36, 120]) ++ 39 :: [32, 35, 32, 115, 97, 105, 100])).count (10 : UInt8) = n := by
    simp [List.count_cons, List.count_append, g2]
  have c1 : (66 :: 61 :: 34 :: ((B ++ [92, 36, 120]) ++ [34])).count (10 : UInt8) = n := by
    simp [List.count_cons, List.count_append, g2]
  rw [c0] at n0
  rw [c1] at n1
  refine ⟨x0, x1, x2, r1, ?_, ?_, ?_, ?_, ?_⟩
  · exact congrArg RecD.value r2
  · exact congrArg RecD.value r3
  · rw [r5]
    show ((1 + (linesOf ⟨((65 :: 61 :: 39 :: ((B ++ [36, 120]) ++ 39 :: [32, 35, 32, 115, 97, 105, 100])) ++ [10]).toArray⟩).length : Nat) : Int) = _
    rw [n0]
    omega
  · exact congrArg RecD.key r4
  · rw [r6]
    show ((1 + (linesOf ⟨((65 :: 61 :: 39 :: ((B ++ [36, 120]) ++ 39 :: [32, 35, 32, 115, 97, 105, 100])) ++ [10]).toArray⟩).length + (linesOf ⟨((66 :: 61 :: 34 :: ((B ++ [92, 36, 120]) ++ [34])) ++ [10]).toArray⟩).length : Nat) : Int) = _
    rw [n0, n1]
    omega

end Go.Proofs.YthljlkngmfbeoaaDoor
