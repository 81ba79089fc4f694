/- Settings for a shell, as lists: how a value is escaped, and what is read of a line for it. -/
import Derived.Test.YtkhkpjnpjgnckaaGreatDoorProg
import Derived.Test.YtkhkpjnpjgnckaaGreatDoorPlain
import Derived.Test.YtkhkpjnpjgnckaaGreatDoorRows0
import Derived.Test.YtkhkpjnpjgnckaaGreatDoorRecRows
import Derived.Test.YtkhkpjnpjgnckaaGreatDoorRecArg
import Derived.Test.YtkhkpjnpjgnckaaGreatDoorRecRaw
import Derived.Test.YtkhkpjnpjgnckaaGreatDoorRecNum
import Derived.Test.YtkhkpjnpjgnckaaGreatDoorCut
import Derived.Test.YtkhkpjnpjgnckaaGreatDoorTrim
import Derived.Test.YtkhkpjnpjgnckaaGreatDoorTail
import Derived.Test.YtkhkpjnpjgnckaaGreatDoorLines
import Derived.Test.YtkhkpjnpjgnckaaGreatDoorSplitSpec
import Derived.Test.YtkhkpjnpjgnckaaGreatDoorSplitImpl
import Derived.Test.YtkhkpjnpjgnckaaGreatDoorJoin
import Derived.Test.YtkhkpjnpjgnckaaGreatDoorBareImpl
import Derived.Test.YtkhkpjnpjgnckaaGreatDoorQuotSpec
import Derived.Test.YtkhkpjnpjgnckaaGreatDoorQuotImpl
import Derived.Test.YtkhkpjnpjgnckaaGreatDoorEnvFirst
import Derived.Test.YtkhkpjnpjgnckaaGreatDoorEnvOne
import Derived.Test.YtkhkpjnpjgnckaaGreatDoorEnvName
import Derived.Test.YtkhkpjnpjgnckaaGreatDoorEnvRecs
import Derived.Test.YtkhkpjnpjgnckaaGreatDoorEnvRepl
import Derived.Test.YtkhkpjnpjgnckaaGreatDoorEnvSame
import Derived.Test.YtkhkpjnpjgnckaaGreatDoorEnvCut
import Derived.Test.YtkhkpjnpjgnckaaGreatDoorEnvSkip
import Derived.Test.YtkhkpjnpjgnckaaGreatDoorEnvFit
import Derived.Test.YtkhkpjnpjgnckaaGreatDoorEnvParse
import Derived.Test.YtkhkpjnpjgnckaaGreatDoorEnvThree
import Derived.Test.YtkhkpjnpjgnckaaGreatDoorEnvEscPure
import Derived.Lib.Hide
set_option maxRecDepth 100000
namespace Go.Proofs.YtkhkpjnpjgnckaaGreatDoor
open Go.RowKit
set_option linter.unusedVariables false

theorem escVC_cases (c : UInt8) : (escVC c = [c] ∧ c ≠ 10 ∧ c ≠ 9 ∧ c ≠ 13 ∧ c ≠ 92 ∧ c ≠ 34 ∧ c ≠ 36) ∨ (∃ d, escVC c = [92, d] ∧ doubC d = plainC c ∧ d ≠ 13 ∧ d ≠ 10) := by
  unfold escVC
  by_cases h1 : c = 10
  · subst h1; exact .inr ⟨110, rfl, rfl, by decide, by decide⟩
  · by_cases h2 : c = 9
    · subst h2; exact .inr ⟨116, rfl, rfl, by decide, by decide⟩
    · by_cases h3 : c = 13
      · subst h3; exact .inr ⟨114, rfl, rfl, by decide, by decide⟩
      · by_cases h4 : c = 92 ∨ c = 34 ∨ c = 36
        · refine .inr ⟨c, ?_, ?_, h3, h1⟩
          · rw [if_neg h1, if_neg h2, if_neg h3, if_pos h4]
          · rcases h4 with rfl | rfl | rfl <;> rfl
        · refine .inl ⟨?_, h1, h2, h3, ?_, ?_, ?_⟩
          · rw [if_neg h1, if_neg h2, if_neg h3, if_neg h4]
          · exact fun e => h4 (.inl e)
          · exact fun e => h4 (.inr (.inl e))
          · exact fun e => h4 (.inr (.inr e))
theorem escVL_ends (l : List UInt8) : ∀ c ∈ escVL l, c ≠ 13 ∧ c ≠ 10 := by
  intro x hx
  unfold escVL at hx
  obtain ⟨c, _, hc⟩ := List.mem_flatMap.1 hx
  rcases escVC_cases c with ⟨h, h1, _, h3, _⟩ | ⟨d, h, _, h3, h4⟩
  · rw [h, List.mem_singleton] at hc
    subst hc
    exact ⟨h3, h1⟩
  · rw [h] at hc
    simp only [List.mem_cons, List.not_mem_nil, or_false] at hc
    rcases hc with rfl | rfl
    · decide
    · exact ⟨h3, h4⟩
/-- read back -/
theorem doubL_escV (l : List UInt8) : doubL (escVL l) = plainL l := by
  induction l with
  | nil => rfl
  | cons c l ih =>
    rw [escVL_cons]
    have hp : plainL (c :: l) = plainC c ++ plainL l := by simp [plainL]
    rcases escVC_cases c with ⟨h, _, _, _, h92, _, h36⟩ | ⟨d, h, hd, _, _⟩
    · rw [h, hp, List.singleton_append, doubL_byte c _ (.inl h92), ih]
      unfold plainC
      rw [if_neg h36]
      rfl
    · rw [h, hp, List.cons_append, List.cons_append, List.nil_append, doubL_esc, hd, ih]
/-- its quotes are escaped -/
theorem escVL_quotes (l : List UInt8) : ∀ acc : List UInt8, tlP acc % 2 = 0 → (tlP (acc ++ escVL l) % 2 = 0 ∧ ∀ j, acc.length ≤ j → (acc ++ escVL l)[j]? = some 34 → tlP ((acc ++ escVL l).take j) % 2 = 1) := by
  induction l with
  | nil =>
    intro acc h
    have e : acc ++ escVL [] = acc := by simp [escVL]
    rw [e]
    refine ⟨h, fun j hj h2 => ?_⟩
    rw [List.getElem?_eq_none hj] at h2
    cases h2
  | cons c l ih =>
    intro acc h
    rw [escVL_cons, ← List.append_assoc]
    rcases escVC_cases c with ⟨hc, _, _, _, h92, h34, _⟩ | ⟨d, hc, _, _, _⟩
    · rw [hc]
      obtain ⟨i1, i2⟩ := ih (acc ++ [c]) (by rw [tlP_none _ _ h92])
      refine ⟨i1, fun j hj h2 => ?_⟩
      by_cases e : j = acc.length
      · subst e
        rw [List.append_assoc, List.getElem?_append_right (Nat.le_refl _), Nat.sub_self] at h2
        exact absurd (Option.some.inj h2) h34
      · exact i2 j (by rw [List.length_append]; simp; omega) h2
    · rw [hc]
      have hev : tlP (acc ++ [92, d]) % 2 = 0 := by
        rw [show acc ++ [92, d] = (acc ++ [92]) ++ [d] by simp]
        by_cases hd : d = 92
        · rw [hd, tlP_more, tlP_more]; omega
        · rw [tlP_none _ _ hd]
      obtain ⟨i1, i2⟩ := ih (acc ++ [92, d]) hev
      refine ⟨i1, fun j hj h2 => ?_⟩
      by_cases e : j = acc.length
      · subst e
        rw [List.append_assoc, List.getElem?_append_right (Nat.le_refl _), Nat.sub_self] at h2
        exact absurd (Option.some.inj h2) (by decide)
      · by_cases e2 : j = acc.length + 1
        · subst e2
          have : ((acc ++ [92, d]) ++ escVL l).take (acc.length + 1) = acc ++ [92] := by
            rw [show (acc ++ [92, d]) ++ escVL l = (acc ++ [92]) ++ (d :: escVL l) by simp]
            exact List.take_left' (by simp)
          rw [this, tlP_more]
          omega
        · exact i2 j (by rw [List.length_append]; simp; omega) h2

/-- what is read between quotes, where those inside are escaped -/
theorem read_list2 {u : ByteArray} (e : Bool) (m : UInt8) (tm : ByteArray → ByteArray) (inner after : List UInt8) (hu : u.data.toList = m :: (inner ++ m :: after)) (hin : ∀ j, inner[j]? = some m → (e && tlP (inner.take j) % 2 == 1) = true) (hev : tlP inner % 2 = 0)
    (hb : behindE (firstL ⟨after.toArray⟩).1 = true) : readQ e m tm u = (tm ⟨inner.toArray⟩, ⟨after.toArray⟩, true) := by
  have h1 : (u.extract 1 u.size).data.toList = inner ++ m :: after := by rw [data_extract_all, hu]; rfl
  have hz := size_data h1
  rw [List.length_append, List.length_cons] at hz
  have hpre : ∀ j, j ≤ inner.length → ((u.extract 1 u.size).extract 0 j).data.toList = inner.take j := by
    intro j hj
    rw [extract_zero _ _ (by omega), h1, List.take_append_of_le_length hj]
  have hat : ∀ j (h : j < (u.extract 1 u.size).size), (inner ++ m :: after)[j]? = some (u.extract 1 u.size)[j] := by
    intro j h
    rw [← h1]
    exact List.getElem?_eq_getElem (by rw [← Lib.size_eq]; exact h)
  have hk : cutQ e m (u.extract 1 u.size) = inner.length := by
    unfold cutQ
    refine findIdx_rangeE _ _ _ (by omega) ?_ ?_
    · intro j hj
      unfold endQ
      rw [dif_pos (by omega)]
      have e1 := hat j (by omega)
      rw [List.getElem?_append_left hj] at e1
      generalize (u.extract 1 u.size)[j]'(by omega) = c at *
      by_cases hc : c = m
      · subst hc
        have h2 := hin j e1
        unfold esc5
        rw [tailN_tlP, hpre j (by omega), h2, beq_self_eq_true]
        rfl
      · have : (c == m) = false := by rw [beq_eq_false_iff_ne]; exact hc
        rw [this, Bool.false_and]
    · intro _
      unfold endQ
      rw [dif_pos (by omega)]
      have e1 := hat inner.length (by omega)
      rw [List.getElem?_append_right (Nat.le_refl _), Nat.sub_self] at e1
      have e2 : (u.extract 1 u.size)[inner.length]'(by omega) = m := (Option.some.inj e1).symm
      rw [e2, beq_self_eq_true, Bool.true_and]
      unfold esc5
      rw [tailN_tlP, hpre _ (Nat.le_refl _), List.take_length, hev]
      cases e <;> rfl
  have hi : innerQ e m u = ⟨inner.toArray⟩ := by
    unfold innerQ
    rw [hk]
    exact of_data ((hpre _ (Nat.le_refl _)).trans (List.take_length ..))
  have ha : afterQ e m u = ⟨after.toArray⟩ := by
    unfold afterQ
    rw [hk]
    apply of_data
    rw [data_extract_all, h1, List.drop_append, List.drop_of_length_le (by omega)]
    have : inner.length + 1 - inner.length = 1 := by omega
    rw [this]
    rfl
  have hc : closesQ e m u = true := by unfold closesQ; rw [hk]; exact decide_eq_true (by omega)
  unfold readQ
  rw [hc, ha, hi, Bool.true_and, behind_dial, hb, if_pos rfl]

/-- the bytes of a name -/
theorem name_byte : ∀ c : UInt8, (letterB c || c == 95 || digitB c) = true → (blankB c = false ∧ c ≠ 35 ∧ c ≠ 61 ∧ c ≠ 13 ∧ c ≠ 10) := by
  intro c h
  have := bytes_all (p := fun c => (letterB c || c == 95 || digitB c) && (blankB c || c == 35 || c == 61 || c == 13 || c == 10)) (q := fun _ => false) (by decide +kernel) c
  simp only [h, Bool.true_and, Bool.or_eq_false_iff, beq_eq_false_iff_ne] at this
  exact ⟨this.1.1.1.1, this.1.1.1.2, this.1.1.2, this.1.2, this.2⟩
theorem nameTo_at {s : ByteArray} : ∀ k, nameTo s k = true → ∀ j (h : j < s.size), j < k → (letterB s[j] || s[j] == 95 || digitB s[j]) = true := by
  intro k
  induction k with
  | zero => intro _ j _ hj; omega
  | succ k ih =>
    intro h j hs hj
    have h2 := Bool.and_eq_true_iff.1 (show (nameTo s k && nameAt s k) = true from h)
    by_cases e : j = k
    · subst e
      have h3 := h2.2
      unfold nameAt at h3
      rw [dif_pos hs] at h3
      revert h3
      cases letterB s[j] <;> cases (s[j] == 95) <;> cases digitB s[j] <;> simp
    · exact ih h2.1 j hs (by omega)
theorem name_bytes2 {key : ByteArray} (h : nameB key = true) : key.data.toList ≠ [] ∧ key.size ≤ 40 ∧ ∀ c ∈ key.data.toList, blankB c = false ∧ c ≠ 35 ∧ c ≠ 61 ∧ c ≠ 13 ∧ c ≠ 10 := by
  unfold nameB at h
  rw [Bool.and_eq_true, Bool.and_eq_true] at h
  have h1 := of_decide_eq_true h.2.1
  have h2 := of_decide_eq_true h.2.2
  refine ⟨?_, by omega, ?_⟩
  · intro e
    have := size_data e
    rw [List.length_nil] at this
    omega
  · intro c hc
    obtain ⟨j, hj, rfl⟩ := List.getElem_of_mem hc
    have hj2 : j < key.size := by rw [Lib.size_eq]; exact hj
    exact name_byte _ (nameTo_at key.size h.1 j hj2 hj2)
theorem trim_name {l : List UInt8} (h : ∀ c ∈ l, blankB c = false) : trimL l = l := by
  rw [trimL_form]
  have hno : ∀ m : List UInt8, (∀ c ∈ m, blankB c = false) → m.dropWhile blankB = m := by
    intro m hm
    cases m with
    | nil => rfl
    | cons c m => rw [List.dropWhile_cons_of_neg (by rw [hm c (List.mem_cons_self ..)]; decide)]
  rw [hno l.reverse (fun c hc => h c (List.mem_reverse.1 hc)), List.reverse_reverse, hno l h]

end Go.Proofs.YtkhkpjnpjgnckaaGreatDoor

/- Settings for a shell: the line that is written between double quotes says just that. -/
set_option maxRecDepth 100000
namespace Go.Proofs.YtkhkpjnpjgnckaaGreatDoor
open Go.RowKit
set_option linter.unusedVariables false

/-- a line without 'export' ahead -/
theorem skip_self (K rest : List UInt8) (hk : K ≠ []) (hb : ∀ c ∈ K, blankB c = false) : skipE ⟨(K ++ 61 :: rest).toArray⟩ = ⟨(K ++ 61 :: rest).toArray⟩ := by
  obtain ⟨t, ht⟩ : ∃ t : ByteArray, t = ⟨(K ++ 61 :: rest).toArray⟩ := ⟨_, rfl⟩
  have htl : t.data.toList = K ++ 61 :: rest := by rw [ht]
  rw [← ht]
  have hfst : ∀ (l m : List UInt8), (∀ c n, l ++ 61 :: m = c :: n → (∀ d ∈ l, blankB d = false) → blankB c = false) := by
    intro l m c n h hl
    cases l with
    | nil => rw [List.nil_append] at h; rw [← (List.cons.inj h).1]; decide
    | cons a l => rw [List.cons_append] at h; rw [← (List.cons.inj h).1]; exact hl a (List.mem_cons_self ..)
  have hstay : ∀ (l m : List UInt8), (∀ d ∈ l, blankB d = false) → (l ++ 61 :: m).dropWhile blankB = l ++ 61 :: m := by
    intro l m hl
    cases hlm : l ++ 61 :: m with
    | nil => rfl
    | cons c n => rw [List.dropWhile_cons_of_neg (by rw [hfst l m c n hlm hl]; decide)]
  by_cases hp : Lib.hasPrefix t.data.toList exportB.data.toList = true
  · have hlen : 6 ≤ K.length := by
      apply Classical.byContradiction
      intro hn
      have hp2 := List.isPrefixOf_iff_prefix.1 hp
      have he : ∀ i, i < 6 → t.data.toList[i]? = ([101, 120, 112, 111, 114, 116] : List UInt8)[i]? := by
        intro i hi
        obtain ⟨r, hr⟩ := hp2
        have hr2 : t.data.toList = [101, 120, 112, 111, 114, 116] ++ r := hr.symm
        rw [hr2, List.getElem?_append_left (by simpa using hi)]
      have h1 := he K.length (by omega)
      rw [htl, List.getElem?_append_right (Nat.le_refl _), Nat.sub_self] at h1
      have h2 : K.length = 0 ∨ K.length = 1 ∨ K.length = 2 ∨ K.length = 3 ∨ K.length = 4 ∨ K.length = 5 := by omega
      rcases h2 with h2 | h2 | h2 | h2 | h2 | h2 <;> rw [h2] at h1 <;> exact absurd (Option.some.inj h1) (by decide)
    have hx : (exP t).data.toList = K.drop 6 ++ 61 :: rest := by
      unfold exP Lib.trimPrefix
      rw [if_pos hp]
      show t.data.toList.drop 6 = _
      rw [htl, List.drop_append_of_le_length hlen]
    have hs : start5 (exP t) = exP t := by
      apply ext_dataB
      rw [start_lead, leadE_data, hx]
      exact hstay _ _ (fun d hd => hb d (List.mem_of_mem_drop hd))
    unfold skipE
    rw [hs, if_pos (beq_self_eq_true _)]
  · have hx : exP t = t := by
      apply ext_dataB
      unfold exP Lib.trimPrefix
      rw [if_neg hp]
    have hs : start5 t = t := by
      apply ext_dataB
      rw [start_lead, leadE_data, htl]
      exact hstay _ _ hb
    unfold skipE
    rw [hx, hs, if_pos (beq_self_eq_true _)]
theorem skip_export (K rest : List UInt8) (hb : ∀ c ∈ K, blankB c = false) : skipE ⟨([101, 120, 112, 111, 114, 116, 32] ++ (K ++ 61 :: rest)).toArray⟩ = ⟨(K ++ 61 :: rest).toArray⟩ := by
  have hx : exP ⟨([101, 120, 112, 111, 114, 116, 32] ++ (K ++ 61 :: rest)).toArray⟩ = ⟨(32 :: (K ++ 61 :: rest)).toArray⟩ := by
    apply of_data
    unfold exP Lib.trimPrefix
    rw [if_pos (by show ([101, 120, 112, 111, 114, 116] : List UInt8).isPrefixOf _ = true; rfl)]
    rfl
  have hs : start5 ⟨(32 :: (K ++ 61 :: rest)).toArray⟩ = ⟨(K ++ 61 :: rest).toArray⟩ := by
    apply of_data
    rw [start_lead, leadE_data]
    show (32 :: (K ++ 61 :: rest)).dropWhile blankB = _
    rw [List.dropWhile_cons_of_pos (by decide)]
    cases hK : K ++ 61 :: rest with
    | nil => rfl
    | cons c n =>
      rw [List.dropWhile_cons_of_neg]
      cases K with
      | nil => rw [List.nil_append] at hK; rw [← (List.cons.inj hK).1]; decide
      | cons a l => rw [List.cons_append] at hK; rw [← (List.cons.inj hK).1, hb a (List.mem_cons_self ..)]; decide
  unfold skipE
  rw [hx, hs, if_neg]
  intro e
  have e2 := congrArg List.length (beq_iff_eq.1 e)
  rw [Lib.toList_data, Lib.toList_data] at e2
  simp at e2
/-- at the first '=' -/
theorem rest_key (K rest : List UInt8) (hb : ∀ c ∈ K, c ≠ 61) : restO ⟨(K ++ 61 :: rest).toArray⟩ = (⟨K.toArray⟩, ⟨rest.toArray⟩, true) := by
  obtain ⟨t, ht⟩ : ∃ t : ByteArray, t = ⟨(K ++ 61 :: rest).toArray⟩ := ⟨_, rfl⟩
  have htl : t.data.toList = K ++ 61 :: rest := by rw [ht]
  have hz := size_data htl
  rw [List.length_append, List.length_cons] at hz
  rw [← ht]
  have hf : firstIn (hasB ⟨#[61]⟩) t = K.length := by
    refine firstIn_hit ?_ (by omega) ?_
    · intro j h hj
      have e1 : t.data.toList[j]? = some t[j] := List.getElem?_eq_getElem (by rw [← Lib.size_eq]; exact h)
      rw [htl, List.getElem?_append_left hj, List.getElem?_eq_getElem hj] at e1
      rw [one_has, beq_eq_false_iff_ne, ← Option.some.inj e1]
      exact hb _ (List.getElem_mem hj)
    · have e1 : t.data.toList[K.length]? = some (t[K.length]'(by omega)) := List.getElem?_eq_getElem (by rw [← Lib.size_eq]; omega)
      rw [htl, List.getElem?_append_right (Nat.le_refl _), Nat.sub_self] at e1
      rw [one_has, beq_iff_eq]
      exact (Option.some.inj e1).symm
  unfold restO
  rw [hf, if_pos (by omega)]
  have a1 : t.extract 0 K.length = ⟨K.toArray⟩ := by
    apply of_data
    rw [extract_zero _ _ (by omega), htl, List.take_left]
  have a2 : t.extract (K.length + 1) t.size = ⟨rest.toArray⟩ := by
    apply of_data
    rw [data_extract_all, htl, List.drop_append, List.drop_of_length_le (by omega)]
    have : K.length + 1 - K.length = 1 := by omega
    rw [this]
    rfl
  rw [a1, a2]

/-- the line, with and without 'export' -/
def shellL (pre : List UInt8) (key v : ByteArray) : List UInt8 := pre ++ (key.data.toList ++ 61 :: (34 :: (escVL v.data.toList ++ [34])))
theorem shell_line (pre : List UInt8) (key v : ByteArray) (hpre : pre = [] ∨ pre = [101, 120, 112, 111, 114, 116, 32]) (hn : nameB key = true) : envF ⟨(shellL pre key v ++ [10]).toArray⟩ = ⟨3, ⟨(shellL pre key v ++ [10]).toArray⟩, ⟨#[]⟩, key, plainT v, 0⟩ := by
  obtain ⟨n1, n2, n3⟩ := name_bytes2 hn
  obtain ⟨K, hK⟩ : ∃ K, key.data.toList = K := ⟨_, rfl⟩
  obtain ⟨V, hV⟩ : ∃ V, v.data.toList = V := ⟨_, rfl⟩
  unfold shellL
  rw [hK] at n1 n3 ⊢
  rw [hV]
  obtain ⟨s, hs⟩ : ∃ s : ByteArray, s = ⟨(pre ++ (K ++ 61 :: (34 :: (escVL V ++ [34]))) ++ [10]).toArray⟩ := ⟨_, rfl⟩
  have hsl : s.data.toList = (pre ++ (K ++ 61 :: (34 :: (escVL V ++ [34])))) ++ 10 :: [] := by rw [hs]
  rw [← hs]
  have hp1 : ∀ c ∈ pre, c ≠ 13 ∧ c ≠ 10 := by rcases hpre with rfl | rfl <;> decide
  obtain ⟨f1, f2⟩ := first_list (s := s) _ [] hsl (by
    intro c hc
    simp only [List.mem_append, List.mem_cons, List.not_mem_nil, or_false] at hc
    rcases hc with hc | hc | rfl | rfl | hc | rfl
    · exact hp1 c hc
    · exact ⟨(n3 c hc).2.2.2.1, (n3 c hc).2.2.2.2⟩
    · decide
    · decide
    · exact escVL_ends V c hc
    · decide)
  have hnb : ∀ c ∈ K, blankB c = false := fun c hc => (n3 c hc).1
  -- the first byte
  obtain ⟨c0, r0, hc0, hc1, hc2⟩ : ∃ c0 r0, pre ++ (K ++ 61 :: (34 :: (escVL V ++ [34]))) = c0 :: r0 ∧ blankB c0 = false ∧ c0 ≠ 35 := by
    rcases hpre with rfl | rfl
    · cases hk : K with
      | nil => exact absurd hk n1
      | cons a l =>
        have := n3 a (by rw [hk]; exact List.mem_cons_self ..)
        exact ⟨a, _, rfl, this.1, this.2.1⟩
    · exact ⟨101, _, rfl, by decide, by decide⟩
  have hx0 : 0 < (firstL s).1.size := by rw [f1, Lib.size_eq]; show 0 < (pre ++ (K ++ 61 :: (34 :: (escVL V ++ [34])))).length; rw [hc0]; simp
  have hxf : (firstL s).1[0] = c0 := by
    have e : (firstL s).1.data.toList[0]? = some (firstL s).1[0] := List.getElem?_eq_getElem (by rw [← Lib.size_eq]; exact hx0)
    have e2 : (firstL s).1.data.toList = c0 :: r0 := by rw [f1]; exact hc0
    rw [e2] at e
    exact (Option.some.inj e).symm
  have hst : start5 (firstL s).1 = (firstL s).1 := by rw [start_lead]; exact leadE_here _ hx0 (by rw [hxf]; exact hc1)
  have hsk : skipE (firstL s).1 = ⟨(K ++ 61 :: (34 :: (escVL V ++ [34]))).toArray⟩ := by
    rw [f1]
    rcases hpre with rfl | rfl
    · exact skip_self K _ n1 hnb
    · exact skip_export K _ hnb
  have hro := rest_key K (34 :: (escVL V ++ [34])) (fun c hc => (n3 c hc).2.2.1)
  have hkey : (⟨K.toArray⟩ : ByteArray) = key := by rw [← hK]
  have htr : trimE key = key := by
    apply ext_dataB
    rw [trimE_data, hK]
    exact trim_name hnb
  have hx1z : (firstL s).1.size = (pre ++ (K ++ 61 :: (34 :: (escVL V ++ [34])))).length := by rw [f1, Lib.size_eq]
  have hrz : (⟨(34 :: (escVL V ++ [34])).toArray⟩ : ByteArray).size = (34 :: (escVL V ++ [34])).length := by rw [Lib.size_eq]
  obtain ⟨u, hu⟩ : ∃ u : ByteArray, u = ⟨(34 :: (escVL V ++ 34 :: [10])).toArray⟩ := ⟨_, rfl⟩
  have hul : u.data.toList = 34 :: (escVL V ++ 34 :: (([] : List UInt8) ++ 10 :: [])) := by rw [hu]; rfl
  have hcut : s.extract ((firstL s).1.size - (⟨(34 :: (escVL V ++ [34])).toArray⟩ : ByteArray).size) s.size = u := by
    rw [hx1z, hrz, hu]
    apply of_data
    rw [data_extract_all, hsl]
    have e1 : (pre ++ (K ++ 61 :: (34 :: (escVL V ++ [34])))) ++ 10 :: [] = (pre ++ (K ++ [61])) ++ (34 :: (escVL V ++ 34 :: [10])) := by simp
    rw [e1, List.drop_left']
    simp only [List.length_append, List.length_cons, List.length_nil]
    omega
  have huf : start5 u = u := by
    have h0 : 0 < u.size := by rw [size_data hul]; simp
    rw [start_lead]
    refine leadE_here _ h0 ?_
    have e : u.data.toList[0]? = some u[0] := List.getElem?_eq_getElem (by rw [← Lib.size_eq]; exact h0)
    rw [hul] at e
    rw [← Option.some.inj e]
    decide
  obtain ⟨q1, q2⟩ := escVL_quotes V [] (by decide)
  rw [List.nil_append] at q1 q2
  obtain ⟨g1, g2⟩ := first_list (s := ⟨(([] : List UInt8) ++ 10 :: []).toArray⟩) [] [] rfl (by intro c h; cases h)
  have hrd := read_list2 (u := u) true 34 doubT (escVL V) ([] ++ 10 :: []) hul (fun j hj => by rw [q2 j (Nat.zero_le _) hj]; rfl) q1 (by rw [g1]; decide +kernel)
  have hh1 : headIs u 39 = false := by rw [← pre_head, hul]; rfl
  have hh2 : headIs u 34 = true := by rw [← pre_head, hul]; rfl
  have hre : readE u = (doubT ⟨(escVL V).toArray⟩, ⟨(([] : List UInt8) ++ 10 :: []).toArray⟩, true) := by
    unfold readE
    rw [hh1, if_neg (by decide), hh2, if_pos rfl, hrd]
  have hce := cutEnd_list (s := s) (Z := ⟨([] : List UInt8).toArray⟩) (s.data.toList) [] (by simp) rfl
  have hdv : doubT ⟨(escVL V).toArray⟩ = plainT v := by
    apply ext_dataB
    show doubL (escVL V) = plainL v.data.toList
    rw [doubL_escV, hV]
  unfold envF
  rw [hst, dif_pos hx0, hxf, if_neg hc2]
  unfold lineF
  rw [hsk, hro]
  simp only []
  rw [hkey, htr, hn, Bool.true_and, if_pos rfl, hcut, huf]
  unfold pairF
  rw [hre]
  simp only [if_true]
  rw [g2, hce, hdv]
/-- a file of one record -/
theorem env_one (s key val : ByteArray) (hs : s.size ≠ 0) (h : envF s = ⟨3, s, ⟨#[]⟩, key, val, 0⟩) : recsP (linesOf s) 0 = [⟨3, s, ⟨#[]⟩, key, val, 1⟩] := by
  obtain ⟨a0, a1, a2, _, _⟩ := step_env s s 0 hs (by rw [List.drop_zero])
  have hr := recsP_step (linesOf s) 0 a0
  have hL := lined_props s 0
  have hraw : (envF s).raw = s := by rw [h]
  rw [hraw] at a2
  have hz : (s.extract s.size s.size).size = 0 := by rw [ByteArray.size_extract]; omega
  rw [linesOf_none _ hz] at a2
  have hend := List.drop_eq_nil_iff.1 a2.symm
  rw [recsP_end (linesOf s) _ hend] at hr
  generalize putP (linesOf s) 0 (oneAt (linesOf s) 0 a0).2 (oneAt (linesOf s) 0 a0).1 = x at *
  rw [hr] at hL
  have hl : x.line = 1 := hL.1
  rw [hr]
  rw [h] at a1
  clear hL hr hend a2 hraw hz h
  obtain ⟨x0, x1, x2, x3, x4, x5⟩ := x
  have b0 : 3 = x0 := congrArg RecD.kind a1
  have b1 : s = x1 := congrArg RecD.raw a1
  have b2 : (⟨#[]⟩ : ByteArray) = x2 := congrArg RecD.sect a1
  have b3 : key = x3 := congrArg RecD.key a1
  have b4 : val = x4 := congrArg RecD.value a1
  have b5 : x5 = 1 := hl
  subst b0 b1 b2 b3 b4 b5
  rfl
theorem shell_recs (pre : List UInt8) (key v : ByteArray) (hpre : pre = [] ∨ pre = [101, 120, 112, 111, 114, 116, 32]) (hn : nameB key = true) : recsP (linesOf ⟨(shellL pre key v ++ [10]).toArray⟩) 0 = [⟨3, ⟨(shellL pre key v ++ [10]).toArray⟩, ⟨#[]⟩, key, plainT v, 1⟩] :=
  env_one _ _ _ (by rw [Lib.size_eq]; show (shellL pre key v ++ [10]).length ≠ 0; simp) (shell_line pre key v hpre hn)

end Go.Proofs.YtkhkpjnpjgnckaaGreatDoor
