/- An environment file with two values between quotes, over lines, and a third: its records. -/
import Derived.Test.YtkhkpjnpjgnckaaGreatDoorProg
import Derived.Test.YtkhkpjnpjgnckaaGreatDoorPlain
import Derived.Test.YtkhkpjnpjgnckaaGreatDoorRows0
import Derived.Test.YtkhkpjnpjgnckaaGreatDoorRecRows
import Derived.Test.YtkhkpjnpjgnckaaGreatDoorRecArg
import Derived.Test.YtkhkpjnpjgnckaaGreatDoorRecRaw
import Derived.Test.YtkhkpjnpjgnckaaGreatDoorRecNum
import Derived.Test.YtkhkpjnpjgnckaaGreatDoorCut
import Derived.Test.YtkhkpjnpjgnckaaGreatDoorTrim
import Derived.Test.YtkhkpjnpjgnckaaGreatDoorTail
import Derived.Test.YtkhkpjnpjgnckaaGreatDoorLines
import Derived.Test.YtkhkpjnpjgnckaaGreatDoorSplitSpec
import Derived.Test.YtkhkpjnpjgnckaaGreatDoorSplitImpl
import Derived.Test.YtkhkpjnpjgnckaaGreatDoorJoin
import Derived.Test.YtkhkpjnpjgnckaaGreatDoorBareImpl
import Derived.Test.YtkhkpjnpjgnckaaGreatDoorQuotSpec
import Derived.Test.YtkhkpjnpjgnckaaGreatDoorQuotImpl
import Derived.Test.YtkhkpjnpjgnckaaGreatDoorEnvFirst
import Derived.Test.YtkhkpjnpjgnckaaGreatDoorEnvOne
import Derived.Test.YtkhkpjnpjgnckaaGreatDoorEnvRecs
import Derived.Test.YtkhkpjnpjgnckaaGreatDoorEnvRepl
import Derived.Test.YtkhkpjnpjgnckaaGreatDoorEnvSame
import Derived.Test.YtkhkpjnpjgnckaaGreatDoorEnvCut
import Derived.Test.YtkhkpjnpjgnckaaGreatDoorEnvSkip
import Derived.Test.YtkhkpjnpjgnckaaGreatDoorEnvFit
import Derived.Test.YtkhkpjnpjgnckaaGreatDoorEnvParse
import Derived.Lib.Hide
set_option maxRecDepth 100000
namespace Go.Proofs.YtkhkpjnpjgnckaaGreatDoor
open Go.RowKit
set_option linter.unusedVariables false

theorem data_of (l : List UInt8) : (⟨l.toArray⟩ : ByteArray).data.toList = l := rfl
theorem of_data {s : ByteArray} {l : List UInt8} (h : s.data.toList = l) : s = ⟨l.toArray⟩ := ext_dataB h
theorem size_data {s : ByteArray} {l : List UInt8} (h : s.data.toList = l) : s.size = l.length := by rw [Lib.size_eq, h]
theorem endAt_list {s : ByteArray} (p t : List UInt8) (h : s.data.toList = p ++ 10 :: t) (hp : ∀ c ∈ p, c ≠ 13 ∧ c ≠ 10) : endAt s = p.length := by
  have hz := size_data h
  rw [List.length_append, List.length_cons] at hz
  refine endAt_is s _ (by omega) ?_ ?_
  · intro i hi hlt
    have e : s.data.toList[i]? = some s[i] := List.getElem?_eq_getElem (by rw [← Lib.size_eq]; exact hi)
    rw [h, List.getElem?_append_left hlt, List.getElem?_eq_getElem hlt] at e
    rw [← Option.some.inj e]
    exact hp _ (List.getElem_mem hlt)
  · intro hi
    have e : s.data.toList[p.length]? = some s[p.length] := List.getElem?_eq_getElem (by rw [← Lib.size_eq]; exact hi)
    rw [h, List.getElem?_append_right (Nat.le_refl _), Nat.sub_self] at e
    exact .inr (Option.some.inj e).symm
/-- a line that ends with a byte 10, and what lies behind it -/
theorem first_list {s : ByteArray} (p t : List UInt8) (h : s.data.toList = p ++ 10 :: t) (hp : ∀ c ∈ p, c ≠ 13 ∧ c ≠ 10) : (firstL s).1 = ⟨p.toArray⟩ ∧ behindL s = ⟨t.toArray⟩ := by
  have he := endAt_list p t h hp
  have hz := size_data h
  rw [List.length_append, List.length_cons] at hz
  have hrest : (s.extract p.length s.size).data.toList = 10 :: t := by rw [data_extract_all, h, List.drop_left]
  have h2 : (firstL s).2.size = 1 := by
    rw [first_end, he]
    unfold leadB
    rw [if_neg (by rw [hrest]; simp [Lib.hasPrefix, List.isPrefixOf]), ByteArray.size_extract, size_data hrest, List.length_cons]
    omega
  constructor
  · apply of_data
    rw [first_text, he, extract_zero s _ (by omega), h, List.take_left]
  · unfold behindL
    rw [h2, first_size, he]
    apply of_data
    rw [data_extract_all, h, List.drop_append, List.drop_of_length_le (by omega)]
    have : p.length + 1 - p.length = 1 := by omega
    rw [this]
    rfl
theorem cutEnd_list {s Z : ByteArray} (A B : List UInt8) (h : s.data.toList = A ++ B) (hZ : Z.data.toList = B) : cutEnd s Z = ⟨A.toArray⟩ := by
  unfold cutEnd
  rw [h, hZ]
  congr 2
  unfold Lib.trimSuffix Lib.hasSuffix
  rw [if_pos (by rw [List.isSuffixOf_iff_suffix]; exact List.suffix_append _ _), List.length_append, Nat.add_sub_cancel, List.take_left]
/-- what is read between quotes -/
theorem read_list {u : ByteArray} (e : Bool) (m : UInt8) (tm : ByteArray → ByteArray) (inner after : List UInt8) (hu : u.data.toList = m :: (inner ++ m :: after)) (hin : ∀ c ∈ inner, c ≠ m) (hev : tlP inner % 2 = 0)
    (hb : behindE (firstL ⟨after.toArray⟩).1 = true) : readQ e m tm u = (tm ⟨inner.toArray⟩, ⟨after.toArray⟩, true) := by
  have h1 : (u.extract 1 u.size).data.toList = inner ++ m :: after := by rw [data_extract_all, hu]; rfl
  have hz := size_data h1
  rw [List.length_append, List.length_cons] at hz
  have hpre : ((u.extract 1 u.size).extract 0 inner.length).data.toList = inner := by rw [extract_zero _ _ (by omega), h1, List.take_left]
  have hat : ∀ j (h : j < (u.extract 1 u.size).size), (inner ++ m :: after)[j]? = some (u.extract 1 u.size)[j] := by
    intro j h
    rw [← h1]
    exact List.getElem?_eq_getElem (by rw [← Lib.size_eq]; exact h)
  have hk : cutQ e m (u.extract 1 u.size) = inner.length := by
    unfold cutQ
    refine findIdx_rangeE _ _ _ (by omega) ?_ ?_
    · intro j hj
      unfold endQ
      rw [dif_pos (by omega)]
      have e1 := hat j (by omega)
      rw [List.getElem?_append_left hj, List.getElem?_eq_getElem hj] at e1
      have hne := hin _ (List.getElem_mem hj)
      rw [Option.some.inj e1] at hne
      have : ((u.extract 1 u.size)[j]'(by omega) == m) = false := by rw [beq_eq_false_iff_ne]; exact hne
      rw [this, Bool.false_and]
    · intro _
      unfold endQ
      rw [dif_pos (by omega)]
      have e1 := hat inner.length (by omega)
      rw [List.getElem?_append_right (Nat.le_refl _), Nat.sub_self] at e1
      have e2 : (u.extract 1 u.size)[inner.length]'(by omega) = m := (Option.some.inj e1).symm
      rw [e2, beq_self_eq_true, Bool.true_and]
      unfold esc5
      rw [tailN_tlP, hpre, hev]
      cases e <;> rfl
  have hi : innerQ e m u = ⟨inner.toArray⟩ := by
    unfold innerQ
    rw [hk]
    exact of_data hpre
  have ha : afterQ e m u = ⟨after.toArray⟩ := by
    unfold afterQ
    rw [hk]
    apply of_data
    rw [data_extract_all, h1, List.drop_append, List.drop_of_length_le (by omega)]
    have : inner.length + 1 - inner.length = 1 := by omega
    rw [this]
    rfl
  have hc : closesQ e m u = true := by unfold closesQ; rw [hk]; exact decide_eq_true (by omega)
  unfold readQ
  rw [hc, ha, hi, Bool.true_and, behind_dial, hb, if_pos rfl]
/-- the first record is a pair -/
theorem key_list {s : ByteArray} (K m : UInt8) (rest : List UInt8) (h : s.data.toList = K :: 61 :: m :: rest) (k1 : blankB K = false) (k2 : K ≠ 35) (k3 : K ≠ 101) (k4 : K ≠ 61) (k5 : K ≠ 13 ∧ K ≠ 10) (k6 : nameB ⟨#[K]⟩ = true) (k7 : trimE ⟨#[K]⟩ = ⟨#[K]⟩)
    (m1 : blankB m = false) (m2 : m ≠ 13 ∧ m ≠ 10) : envF s = pairF s ⟨#[K]⟩ (s.extract 2 s.size) (firstL s) := by
  have hz := size_data h
  simp only [List.length_cons] at hz
  have hle := endAt_le s
  have hb : ∀ i (hi : i < s.size), i < 3 → s[i] ≠ 13 ∧ s[i] ≠ 10 := by
    intro i hi h3
    have e : s.data.toList[i]? = some s[i] := List.getElem?_eq_getElem (by rw [← Lib.size_eq]; exact hi)
    rw [h] at e
    have hc : s[i] = K ∨ s[i] = 61 ∨ s[i] = m := by
      rcases (show i = 0 ∨ i = 1 ∨ i = 2 by omega) with rfl | rfl | rfl
      · exact .inl (Option.some.inj e).symm
      · exact .inr (.inl (Option.some.inj e).symm)
      · exact .inr (.inr (Option.some.inj e).symm)
    rcases hc with e | e | e
    · rw [e]; exact k5
    · rw [e]; decide
    · rw [e]; exact m2
  have he : 3 ≤ endAt s := by
    apply Classical.byContradiction
    intro hn
    have h3 := at_end s (by omega)
    have h4 := hb (endAt s) (by omega) (by omega)
    rcases h3 with e | e
    · exact h4.1 e
    · exact h4.2 e
  obtain ⟨j, hj⟩ : ∃ j, endAt s = j + 3 := ⟨endAt s - 3, by omega⟩
  have ht : (firstL s).1.data.toList = K :: 61 :: m :: rest.take j := by
    rw [first_text, extract_zero s _ hle, h, hj]
    rfl
  have htz : (firstL s).1.size = endAt s := first_size s
  have hK : (firstL s).1[0]'(by omega) = K := by
    have e : (firstL s).1.data.toList[0]? = some ((firstL s).1[0]'(by omega)) := List.getElem?_eq_getElem (by rw [← Lib.size_eq]; omega)
    rw [ht] at e
    exact (Option.some.inj e).symm
  have hself : start5 (firstL s).1 = (firstL s).1 := by rw [start_lead]; exact leadE_here _ (by omega) (by rw [hK]; exact k1)
  have hex : exP (firstL s).1 = (firstL s).1 := by
    apply ext_dataB
    unfold exP Lib.trimPrefix
    rw [if_neg]
    rw [ht]
    show ¬ ([101, 120, 112, 111, 114, 116] : List UInt8).isPrefixOf (K :: 61 :: m :: rest.take j) = true
    intro h2
    simp only [List.isPrefixOf, Bool.and_eq_true, beq_iff_eq] at h2
    exact k3 h2.1.symm
  have hsk : skipE (firstL s).1 = (firstL s).1 := by
    unfold skipE
    rw [hex, hself, if_pos]
    exact beq_self_eq_true _
  have hro : restO (firstL s).1 = (⟨#[K]⟩, (firstL s).1.extract 2 (firstL s).1.size, true) := by
    have hf : firstIn (hasB ⟨#[61]⟩) (firstL s).1 = 1 := by
      unfold firstIn
      rw [ht, List.findIdx_cons, List.findIdx_cons, one_has, one_has]
      have : (K == 61) = false := by rw [beq_eq_false_iff_ne]; exact k4
      rw [this]
      rfl
    unfold restO
    rw [hf, if_pos (by omega)]
    have e0 : (firstL s).1.extract 0 1 = ⟨#[K]⟩ := by
      apply ext_dataB
      rw [extract_zero _ _ (by omega), ht]
      rfl
    rw [e0]
  have hrs : ((firstL s).1.extract 2 (firstL s).1.size).size = (firstL s).1.size - 2 := by rw [ByteArray.size_extract]; omega
  have hu : start5 (s.extract 2 s.size) = s.extract 2 s.size := by
    have hd : (s.extract 2 s.size).data.toList = m :: rest := by rw [data_extract_all, h]; rfl
    have h0 : 0 < (s.extract 2 s.size).size := by rw [size_data hd, List.length_cons]; omega
    rw [start_lead]
    refine leadE_here _ h0 ?_
    have e : (s.extract 2 s.size).data.toList[0]? = some ((s.extract 2 s.size)[0]) := List.getElem?_eq_getElem (by rw [← Lib.size_eq]; exact h0)
    rw [hd] at e
    rw [← Option.some.inj e]
    exact m1
  unfold envF
  rw [hself, dif_pos (by omega), hK, if_neg k2]
  unfold lineF
  rw [hsk, hro]
  simp only []
  rw [k7, k6, Bool.true_and, if_pos rfl, hrs, htz]
  have e2 : endAt s - (endAt s - 2) = 2 := by omega
  rw [e2, hu]

/-- three records -/
theorem env_three (s z1 z2 : ByteArray) (hs : s.size ≠ 0) (h1 : s.extract (envF s).raw.size s.size = z1) (hz1 : z1.size ≠ 0) (h2 : z1.extract (envF z1).raw.size z1.size = z2) (hz2 : z2.size ≠ 0) (h3 : (z2.extract (envF z2).raw.size z2.size).size = 0) :
    ∃ x0 x1 x2, recsP (linesOf s) 0 = [x0, x1, x2] ∧ zeroR x0 = envF s ∧ zeroR x1 = envF z1 ∧ zeroR x2 = envF z2 ∧ x1.line = ((1 + (linesOf (envF s).raw).length : Nat) : Int) ∧ x2.line = ((1 + (linesOf (envF s).raw).length + (linesOf (envF z1).raw).length : Nat) : Int) := by
  obtain ⟨a0, a1, a2, _, _⟩ := step_env s s 0 hs (by rw [List.drop_zero])
  rw [h1] at a2
  obtain ⟨b0, b1, b2, _, _⟩ := step_env s z1 _ hz1 a2
  rw [h2] at b2
  obtain ⟨c0, c1, c2, _, _⟩ := step_env s z2 _ hz2 b2
  rw [linesOf_none _ h3] at c2
  have hend := List.drop_eq_nil_iff.1 c2.symm
  have hr := recsP_step (linesOf s) 0 a0
  rw [recsP_step (linesOf s) _ b0, recsP_step (linesOf s) _ c0, recsP_end (linesOf s) _ hend] at hr
  have hL := lined_props s 0
  rw [hr] at hL
  obtain ⟨_, l1, l2, _⟩ := hL
  have r0 := congrArg RecD.raw a1
  have r1 := congrArg RecD.raw b1
  exact ⟨_, _, _, hr, a1.symm, b1.symm, c1.symm, by rw [r0, l1]; rfl, by rw [r0, r1, l2]; rfl⟩

end Go.Proofs.YtkhkpjnpjgnckaaGreatDoor
