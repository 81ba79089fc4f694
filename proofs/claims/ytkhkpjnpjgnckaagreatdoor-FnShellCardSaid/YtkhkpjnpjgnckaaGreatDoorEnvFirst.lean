/- Bytes 92 at the end of texts put together; lines that go on. -/
import Derived.Test.YtkhkpjnpjgnckaaGreatDoorProg
import Derived.Test.YtkhkpjnpjgnckaaGreatDoorPlain
import Derived.Test.YtkhkpjnpjgnckaaGreatDoorTail
import Derived.Lib.Hide
import Derived.Test.YtkhkpjnpjgnckaaGreatDoorCut
import Derived.Test.YtkhkpjnpjgnckaaGreatDoorBuild
import Derived.Test.YtkhkpjnpjgnckaaGreatDoorEnvOne
import Derived.Test.YtkhkpjnpjgnckaaGreatDoorEnvRepl
import Derived.WalkKit
import Derived.WalkLawsBesides
import Derived.Laws.IdiomStrings
import Derived.IntWalk
import Derived.Outline
import Derived.Shelf.Strings.Prefix
import Derived.Test.YtkhkpjnpjgnckaaGreatDoorTrim
import Derived.Test.YtkhkpjnpjgnckaaGreatDoorLines
import Derived.Test.YtkhkpjnpjgnckaaGreatDoorSplitImpl
import Derived.Test.YtkhkpjnpjgnckaaGreatDoorDialectRows
import Derived.Test.YtkhkpjnpjgnckaaGreatDoorQuotSpec
import Derived.Test.YtkhkpjnpjgnckaaGreatDoorBareImpl
import Derived.Test.YtkhkpjnpjgnckaaGreatDoorQuotImpl
import Derived.Test.YtkhkpjnpjgnckaaGreatDoorEnvLay
import Derived.Test.YtkhkpjnpjgnckaaGreatDoorEnvCut
import Derived.Test.YtkhkpjnpjgnckaaGreatDoorEnvSkip
import Derived.OwnWalk
import Derived.BigQuiet
import Derived.Deep.QuietTactic
import Derived.Deep.RegionHeld3
import Derived.Lib.QuietBelow
import Derived.Laws.EntriesVeiled
import Derived.Test.YtkhkpjnpjgnckaaGreatDoorRows0
import Derived.Test.YtkhkpjnpjgnckaaGreatDoorRecRows
import Derived.Test.YtkhkpjnpjgnckaaGreatDoorRecArg
import Derived.Test.YtkhkpjnpjgnckaaGreatDoorEnvName
import Derived.Test.YtkhkpjnpjgnckaaGreatDoorEnvTrim
namespace Go.Proofs.YtkhkpjnpjgnckaaGreatDoor
open Go.RowKit
set_option linter.unusedVariables false

def tlP (l : List UInt8) : Nat := (l.reverse.takeWhile (· == 92)).length
theorem tailN_tlP (s : ByteArray) : tailN s = tlP s.data.toList := rfl
theorem tlP_nil : tlP [] = 0 := rfl
theorem tlP_more (l : List UInt8) : tlP (l ++ [92]) = tlP l + 1 := by simp [tlP]
theorem tlP_none (l : List UInt8) (c : UInt8) (h : c ≠ 92) : tlP (l ++ [c]) = 0 := by
  unfold tlP
  rw [List.reverse_append]
  have : (c == 92) = false := by simpa using h
  simp [this]
theorem tlP_app (a b : List UInt8) : tlP (a ++ b) = if tlP b = b.length then b.length + tlP a else tlP b := by
  unfold tlP
  rw [List.reverse_append, List.takeWhile_append, List.length_reverse]
  split
  · rw [List.length_append, List.length_reverse]
  · rfl
theorem tlP_even (a b : List UInt8) (h : tlP a % 2 = 0) : tlP (a ++ b) % 2 = tlP b % 2 := by
  rw [tlP_app]
  split
  · next h2 => rw [h2]; omega
  · rfl
theorem tlP_last {l : List UInt8} (h : tlP l % 2 = 1) : l = l.dropLast ++ [92] ∧ tlP l.dropLast % 2 = 0 := by
  rcases List.eq_nil_or_concat l with e | ⟨a, c, e⟩
  · subst e; rw [tlP_nil] at h; cases h
  · rw [List.concat_eq_append] at e
    subst e
    by_cases hc : c = 92
    · subst hc
      rw [tlP_more] at h
      simp only [List.dropLast_concat]
      exact ⟨trivial, by omega⟩
    · rw [tlP_none a c hc] at h; cases h
theorem tailN_app (a b : ByteArray) (h : tailN a % 2 = 0) : tailN (a ++ b) % 2 = tailN b % 2 := by
  rw [tailN_tlP] at *
  rw [tailN_tlP, ByteArray.data_append, Array.toList_append]
  exact tlP_even _ _ h
theorem cut_last (t : ByteArray) (h : 0 < t.size) : (t.extract 0 (t.size - 1)).data.toList = t.data.toList.dropLast := by
  rw [Lib.extract_eq, List.dropLast_eq_take, ← Lib.size_eq]
  simp only [List.drop_zero, Nat.sub_zero]
theorem tail_cut {t : ByteArray} (h : tailN t % 2 = 1) : 0 < t.size ∧ tailN (t.extract 0 (t.size - 1)) % 2 = 0 ∧ t.data.toList = (t.extract 0 (t.size - 1)).data.toList ++ [92] := by
  have hp : 0 < t.size := by have := tailN_le t; omega
  rw [tailN_tlP] at h
  obtain ⟨h1, h2⟩ := tlP_last h
  rw [tailN_tlP, cut_last t hp]
  exact ⟨hp, h2, h1⟩
/-- the last byte of two texts put together is the last of the second -/
theorem app_cut (a b : ByteArray) (h : 0 < b.size) : (a ++ b).extract 0 ((a ++ b).size - 1) = a ++ b.extract 0 (b.size - 1) := by
  apply ByteArray.ext
  apply Array.toList_inj.1
  rw [cut_last _ (by rw [ByteArray.size_append]; omega), ByteArray.data_append, Array.toList_append, ByteArray.data_append, Array.toList_append, cut_last b h]
  rw [List.dropLast_append_of_ne_nil]
  intro e
  rw [Lib.size_eq, e] at h
  exact absurd h (by simp)
/-- a text one byte on -/
theorem tailN_step (s : ByteArray) (k : Nat) (h : k < s.size) : tailN (s.extract 0 (k + 1)) = if s[k] = 92 then tailN (s.extract 0 k) + 1 else 0 := by
  have hl : k < s.data.toList.length := by rw [← Lib.size_eq]; exact h
  have e : (s.extract 0 (k + 1)).data.toList = (s.extract 0 k).data.toList ++ [s[k]] := by
    rw [Lib.extract_eq, Lib.extract_eq]
    simp only [List.drop_zero, Nat.sub_zero]
    rw [List.take_succ_eq_append_getElem hl]
    rfl
  rw [tailN_tlP, tailN_tlP, e]
  split
  · next hc => rw [hc, tlP_more]
  · next hc => rw [tlP_none _ _ hc]

end Go.Proofs.YtkhkpjnpjgnckaaGreatDoor

/- Environment files: escapes between double quotes, the program's envEscape and replaceEnvEscapes. -/
set_option maxRecDepth 100000
namespace Go.Proofs.YtkhkpjnpjgnckaaGreatDoor
open Go.RowKit Go.Sort
set_option linter.unusedVariables false

theorem doubL_plain (p t : List UInt8) (h : ∀ c ∈ p, c ≠ 92) : doubL (p ++ t) = p ++ doubL t := by
  induction p with
  | nil => rfl
  | cons c p ih =>
    rw [List.cons_append, doubL_byte c _ (.inl (h c (List.mem_cons_self ..))), ih (fun d hd => h d (List.mem_cons_of_mem _ hd))]
    rfl
theorem tlP_plain (p : List UInt8) (h : ∀ c ∈ p, c ≠ 92) : tlP p = 0 := by
  rcases List.eq_nil_or_concat p with rfl | ⟨q, c, rfl⟩
  · rfl
  · rw [List.concat_eq_append]
    exact tlP_none q c (h c (by simp))
def bslE (s : ByteArray) : Nat := firstIn (hasB ⟨#[92]⟩) s
theorem has92E (c : UInt8) : hasB ⟨#[92]⟩ c = (c == 92) := by
  unfold hasB
  show ([92] : List UInt8).contains c = _
  rw [List.contains_cons, List.contains_nil, Bool.or_false]
theorem bslE_le (s : ByteArray) : bslE s ≤ s.size := by
  unfold bslE firstIn
  have := List.findIdx_le_length (xs := s.data.toList) (p := hasB ⟨#[92]⟩)
  rw [← Lib.size_eq] at this
  exact this
theorem bslE_none (s : ByteArray) : ∀ c ∈ s.data.toList.take (bslE s), c ≠ 92 := by
  intro c hc
  obtain ⟨j, hj, rfl⟩ := List.getElem_of_mem hc
  rw [List.length_take] at hj
  rw [List.getElem_take]
  have := List.not_of_lt_findIdx (xs := s.data.toList) (p := hasB ⟨#[92]⟩) (i := j) (show j < bslE s by omega)
  rw [has92E] at this
  simpa using this
theorem bslE_at (s : ByteArray) (h : bslE s < s.size) : s.data.toList.drop (bslE s) = 92 :: s.data.toList.drop (bslE s + 1) := by
  have h2 : bslE s < s.data.toList.length := by rw [← Lib.size_eq]; exact h
  have := List.findIdx_getElem (xs := s.data.toList) (p := hasB ⟨#[92]⟩) (w := h2)
  rw [has92E] at this
  rw [List.drop_eq_getElem_cons h2]
  congr 1
  exact beq_iff_eq.1 this
/-- from a byte 92 on -/
theorem esc_next (s : ByteArray) (ht : tailN s % 2 = 0) (h : bslE s < s.size) : ∃ (d : UInt8) (y : List UInt8), s.data.toList.drop (bslE s + 1) = d :: y ∧ doubL s.data.toList = s.data.toList.take (bslE s) ++ doubC d ++ doubL y ∧ tlP y % 2 = 0 := by
  have h1 := bslE_none s
  have h2 := bslE_at s h
  have h3 := tlP_plain _ h1
  have e : s.data.toList = s.data.toList.take (bslE s) ++ s.data.toList.drop (bslE s) := (List.take_append_drop _ _).symm
  rw [tailN_tlP] at ht
  cases hy : s.data.toList.drop (bslE s + 1) with
  | nil =>
    rw [hy] at h2
    rw [e, h2, tlP_more, h3] at ht
    exact absurd ht (by decide)
  | cons d y =>
    rw [hy] at h2
    refine ⟨d, y, rfl, ?_, ?_⟩
    · conv => lhs; rw [e, h2]
      rw [doubL_plain _ _ h1, doubL_esc, List.append_assoc]
    · have e2 : s.data.toList = (s.data.toList.take (bslE s) ++ [92] ++ [d]) ++ y := by
        conv => lhs; rw [e, h2]
        simp
      have hev : tlP (s.data.toList.take (bslE s) ++ [92] ++ [d]) % 2 = 0 := by
        by_cases hd : d = 92
        · rw [hd, tlP_more, tlP_more, h3]
        · rw [tlP_none _ _ hd]
      rw [e2, tlP_even _ _ hev] at ht
      exact ht

theorem builtAt_overE {T e B b : Nat} {p : Value} {bs : List Value} {w w' : World} (h : Lib.BuilderAtF T e B b p bs w) (hb : Below w.heap.size w w') : Lib.BuilderAtF T e B b p bs w' := by
  obtain ⟨hB, v, hbk, hown, hne⟩ := h
  refine ⟨hB, v, (hb.block b (Array.getElem?_eq_some_iff.1 hbk).1).trans hbk, ⟨hown.1, ?_⟩, hne⟩
  rcases hown.2 with h2 | ⟨g, cap, cur, fz, hv, hg0, hg, h5, h6, h7, h8, h9⟩
  · exact .inl h2
  · exact .inr ⟨g, cap, cur, fz, hv, hg0, (hb.block g (Array.getElem?_eq_some_iff.1 hg).1).trans hg, h5, h6, h7, h8, h9⟩
theorem built_overE {B b : Nat} {l : List UInt8} {w w' : World} (h : BuiltF B b l w) (hb : Below w.heap.size w w') : BuiltF B b l w' := by
  rcases h with h | h
  · exact .inl (builtAt_overE h hb)
  · exact .inr (builtAt_overE h hb)
theorem one_textE {x : ByteArray} {c : UInt8} (h : x = ⟨[c].toArray⟩) (b : UInt8) : (x.toList == [b]) = (c == b) := by
  subst h
  rw [Lib.toList_data]
  simp
set_option maxHeartbeats 1600000 in
theorem envEscape_impl (c : UInt8) (x : ByteArray) (w : World) (hx : x = ⟨[c].toArray⟩) :
    Calls Tryz.prog 165 #[.string x] w fun e w' => e = .returned (.string ⟨(doubC c).toArray⟩) ∧ Below w.heap.size w w' := by
  have hxs : x.size = 1 := by rw [hx]; rfl
  have KP := Lib.hid (fun w => plain_impl x w (by omega))
  have HP : Hid (plainT x = ⟨(plainC c).toArray⟩) := by
    unfold Hid plainT plainL
    rw [hx]
    simp
  have HC : Hid (doubC c = (if c = 110 then [10] else if c = 116 then [9] else if c = 114 then [13] else if c = 92 then [c] else if c = 34 then [c] else if c = 36 then [36, 36] else [92, c])) := rfl
  have t110 := one_textE hx 110
  have t116 := one_textE hx 116
  have t114 := one_textE hx 114
  have t92 := one_textE hx 92
  have t34 := one_textE hx 34
  have t36 := one_textE hx 36
  have H2 : Hid ((⟨#[92]⟩ : ByteArray) ++ x = ⟨[92, c].toArray⟩) := by rw [hx]; exact Pl.join_lists [92] [c]
  generalize doubC c = m at *
  clear hx
  by_cases q1 : c = 110
  · have HR : Hid (m = [10]) := by unfold Hid; rw [HC.out, if_pos q1]
    subst q1
    clear HC HP H2 KP
    go_enter Tryz.func165, Tryz.ntmps165
    go_wp2
    go_ret
    exact ⟨by rw [HR.out]; rfl, Below.refl _ _⟩
  have s1 : (c == 110) = false := by simpa using q1
  rw [s1] at t110
  by_cases q2 : c = 116
  · have HR : Hid (m = [9]) := by unfold Hid; rw [HC.out, if_neg q1, if_pos q2]
    subst q2
    clear HC HP H2 KP
    go_enter Tryz.func165, Tryz.ntmps165
    go_wp2
    go_ret
    exact ⟨by rw [HR.out]; rfl, Below.refl _ _⟩
  have s2 : (c == 116) = false := by simpa using q2
  rw [s2] at t116
  by_cases q3 : c = 114
  · have HR : Hid (m = [13]) := by unfold Hid; rw [HC.out, if_neg q1, if_neg q2, if_pos q3]
    subst q3
    clear HC HP H2 KP
    go_enter Tryz.func165, Tryz.ntmps165
    go_wp2
    go_ret
    exact ⟨by rw [HR.out]; rfl, Below.refl _ _⟩
  have s3 : (c == 114) = false := by simpa using q3
  rw [s3] at t114
  by_cases q4 : c = 92
  · have HR : Hid ((⟨m.toArray⟩ : ByteArray) = plainT x) := by unfold Hid; rw [HC.out, if_neg q1, if_neg q2, if_neg q3, if_pos q4, HP.out, q4]; rfl
    subst q4
    clear HC HP H2
    generalize plainT x = pt at *
    go_enter Tryz.func165, Tryz.ntmps165
    go_wp2_with fail
    refine (KP.out _).mono ?_
    rintro e w1 ⟨rfl, hb1⟩
    go_wp2
    go_ret
    exact ⟨by rw [HR.out]; rfl, hb1⟩
  have s4 : (c == 92) = false := by simpa using q4
  rw [s4] at t92
  by_cases q5 : c = 34
  · have HR : Hid ((⟨m.toArray⟩ : ByteArray) = plainT x) := by unfold Hid; rw [HC.out, if_neg q1, if_neg q2, if_neg q3, if_neg q4, if_pos q5, HP.out, q5]; rfl
    subst q5
    clear HC HP H2
    generalize plainT x = pt at *
    go_enter Tryz.func165, Tryz.ntmps165
    go_wp2_with fail
    refine (KP.out _).mono ?_
    rintro e w1 ⟨rfl, hb1⟩
    go_wp2
    go_ret
    exact ⟨by rw [HR.out]; rfl, hb1⟩
  have s5 : (c == 34) = false := by simpa using q5
  rw [s5] at t34
  by_cases q6 : c = 36
  · have HR : Hid ((⟨m.toArray⟩ : ByteArray) = plainT x) := by unfold Hid; rw [HC.out, if_neg q1, if_neg q2, if_neg q3, if_neg q4, if_neg q5, if_pos q6, HP.out, q6]; rfl
    subst q6
    clear HC HP H2
    generalize plainT x = pt at *
    go_enter Tryz.func165, Tryz.ntmps165
    go_wp2_with fail
    refine (KP.out _).mono ?_
    rintro e w1 ⟨rfl, hb1⟩
    go_wp2
    go_ret
    exact ⟨by rw [HR.out]; rfl, hb1⟩
  have s6 : (c == 36) = false := by simpa using q6
  rw [s6] at t36
  have HR : Hid (m = [92, c]) := by unfold Hid; rw [HC.out, if_neg q1, if_neg q2, if_neg q3, if_neg q4, if_neg q5, if_neg q6]
  clear HC HP KP q1 q2 q3 q4 q5 q6 s1 s2 s3 s4 s5 s6
  go_enter Tryz.func165, Tryz.ntmps165
  go_wp2
  go_ret
  exact ⟨by rw [HR.out, ← H2.out]; rfl, Below.refl _ _⟩

def strLenE (v : Value) : Nat := match v with | .string z => z.size | _ => 0
set_option maxHeartbeats 1600000 in
theorem replaceEsc_impl (s : ByteArray) (w : World) (hs : (s.size : Int) ≤ 1048576) (ht : tailN s % 2 = 0) :
    Calls Tryz.prog 136 #[.string s] w fun e w' => e = .returned (.string (doubT s)) ∧ Below w.heap.size w w' := by
  have HV : Hid (doubT s = ⟨(doubL s.data.toList).toArray⟩) := rfl
  have HLN : Hid ((doubL s.data.toList).length ≤ s.size) := by
    have := doubT_size s
    unfold Hid
    rw [Lib.size_eq] at this
    exact this
  have HB0 : Hid (BuiltF w.heap.size w.heap.size [] (w.alloc (.cells #[.pointer none, .slice none 0 0] 95))) := Lib.IsBuilderF.of (Lib.fresh_isBuilder 95 5 w)
  have hb0 : Below w.heap.size w (w.alloc (.cells #[.pointer none, .slice none 0 0] 95)) := (Below.refl _ _).alloc (Nat.le_refl _) _
  have HT := Lib.hid ht
  obtain ⟨L, hL⟩ : ∃ L, doubL s.data.toList = L := ⟨_, rfl⟩
  have HL0 : Hid (L = [] ++ doubL s.data.toList) := hL.symm
  rw [hL] at HV HLN
  generalize doubT s = r at *
  clear ht hL
  go_enter Tryz.func136, Tryz.ntmps136
  go_wp2
  go_loopw [0] (fun x wr => ∃ (st : ByteArray) (acc : List UInt8), x = .string st ∧ st.size ≤ s.size ∧ Hid (tailN st % 2 = 0) ∧ Hid (L = acc ++ doubL st.data.toList) ∧ Hid (BuiltF w.heap.size w.heap.size acc wr) ∧ Below w.heap.size w wr) (fun x _ => strLenE x)
  case atStart => exact ⟨s, [], rfl, Nat.le_refl _, HT, HL0, HB0, hb0⟩
  case round =>
    obtain ⟨st, acc, rfl, hstz, hT, hA, hB, hb⟩ := hrel
    clear HB0 hb0 HT HL0
    have hal : acc.length ≤ s.size := by
      have := HLN.out
      rw [hA.out, List.length_append] at this
      omega
    have hm := bslE_le st
    have hsz := hb.size
    have KC := Lib.hid (cutAt_impl st ⟨#[92]⟩ wr (by omega) (by decide))
    by_cases hmz : bslE st < st.size
    · have HC : Hid (cutRes st (firstIn (hasB ⟨#[92]⟩) st) = .tuple #[.string (st.extract 0 (bslE st)), .string (st.extract (bslE st + 1) st.size), .bool true]) := by
        unfold Hid cutRes; exact if_pos hmz
      obtain ⟨d, y, e1, e2, e3⟩ := esc_next st hT.out hmz
      obtain ⟨p, hp⟩ : ∃ p, st.extract 0 (bslE st) = p := ⟨_, rfl⟩
      have hpl : p.data.toList = st.data.toList.take (bslE st) := by rw [← hp, Lib.extract_data]; simp
      have hps : p.size = bslE st := by rw [Lib.size_eq, hpl, List.length_take, ← Lib.size_eq]; omega
      obtain ⟨u, hu⟩ : ∃ u, st.extract (bslE st + 1) st.size = u := ⟨_, rfl⟩
      have hul : u.data.toList = d :: y := by rw [← hu, Lib.extract_data, List.take_of_length_le (by rw [List.length_drop, ← Lib.size_eq]; omega), e1]
      have hus : u.size = y.length + 1 := by rw [Lib.size_eq, hul]; rfl
      have hux : u.size + bslE st + 1 = st.size := by rw [← hu, ByteArray.size_extract]; omega
      have h1x : u.extract 0 1 = ⟨[d].toArray⟩ := by
        apply ByteArray.ext
        apply Array.toList_inj.1
        rw [Lib.extract_data, hul]
        rfl
      obtain ⟨z, hz⟩ : ∃ z, u.extract 1 u.size = z := ⟨_, rfl⟩
      have hzl : z.data.toList = y := by
        rw [← hz, Lib.extract_data, hul, List.drop_succ_cons, List.drop_zero]
        exact List.take_of_length_le (by omega)
      have hzs : z.size = y.length := by rw [Lib.size_eq, hzl]
      have HTZ : Hid (tailN z % 2 = 0) := by unfold Hid; rw [tailN_tlP, hzl]; exact e3
      have HAZ : Hid (L = ((acc ++ p.data.toList) ++ doubC d) ++ doubL z.data.toList) := by
        unfold Hid
        rw [hA.out, e2, hpl, hzl]
        simp
      have KE := Lib.hid (fun w => envEscape_impl d (u.extract 0 1) w h1x)
      have hdc := doubC_len d
      have HZ : Hid (u.extract 1 (y.length + 1) = z) := by unfold Hid; rw [← hus]; exact hz
      rw [hp, hu] at HC
      generalize doubC d = dc at *
      have hcat : (⟨dc.toArray⟩ : ByteArray).data.toList = dc := rfl
      have hdcs : (⟨dc.toArray⟩ : ByteArray).size = dc.length := by rw [Lib.size_eq]
      have h1u : (1 : Int) ≤ (u.size : Int) := by omega
      clear e1 e2 e3 hp hpl hu hul h1x hz hzl hA hT
      go_wp2_with fail
      refine KC.out.mono ?_
      rintro e w1 ⟨rfl, n1, rfl⟩
      rw [HC.out]
      have hbd : Below wr.heap.size wr (wr.drewN n1) := _root_.Go.below_drewN (Below.refl _ _) n1
      have HB1 := Lib.hid (built_overE hB.out hbd)
      have hb1 := hb.trans (hbd.mono hb.size)
      generalize wr.drewN n1 = w1 at *
      clear hbd hB hb KC HC
      go_wp2_with fail
      refine (built_write w.heap.size w.heap.size acc p w1 HB1.out (by omega) hb1.size).mono ?_
      rintro e w2 ⟨rfl, hB2, hb2, _⟩
      have hb3 := hb1.trans hb2
      have HB3 := Lib.hid hB2
      clear hB2 hb2 hb1 HB1
      go_wp2_with fail
      refine (KE.out _).mono ?_
      rintro e w3 ⟨rfl, hb4⟩
      have HB4 := Lib.hid (built_overE HB3.out hb4)
      have hb5 := hb3.trans (hb4.mono hb3.size)
      clear hb4 hb3 HB3 KE
      go_wp2_with fail
      refine (built_write w.heap.size w.heap.size _ ⟨dc.toArray⟩ w3 HB4.out (by rw [List.length_append, ← Lib.size_eq, hdcs]; omega) hb5.size).mono ?_
      rintro e w4 ⟨rfl, hB5, hb6, _⟩
      have HB5 : Hid (BuiltF w.heap.size w.heap.size ((acc ++ p.data.toList) ++ dc) w4) := hB5
      have hb7 := hb5.trans hb6
      clear hB5 hb6 hb5 HB4
      go_wp2
      rw [HZ.out]
      go_roundw
      case rel => exact ⟨z, _, rfl, by omega, HTZ, HAZ, HB5, hb7⟩
      case measure => simp only [strLenE]; omega
    · have hme : bslE st = st.size := by omega
      have HC : Hid (cutRes st (firstIn (hasB ⟨#[92]⟩) st) = .tuple #[.string st, .string ⟨#[]⟩, .bool false]) := by
        unfold Hid cutRes; exact if_neg hmz
      have HF : Hid (r = ⟨(acc ++ st.data.toList).toArray⟩) := by
        unfold Hid
        rw [HV.out, hA.out]
        have h1 := doubL_plain (st.data.toList.take (bslE st)) [] (bslE_none st)
        rw [hme, Lib.size_eq, List.take_length, List.append_nil] at h1
        rw [h1]
        simp [doubL]
      clear hA hT HV HLN
      go_wp2_with fail
      refine KC.out.mono ?_
      rintro e w1 ⟨rfl, n1, rfl⟩
      rw [HC.out]
      have hbd : Below wr.heap.size wr (wr.drewN n1) := _root_.Go.below_drewN (Below.refl _ _) n1
      have HB1 := Lib.hid (built_overE hB.out hbd)
      have hb1 := hb.trans (hbd.mono hb.size)
      generalize wr.drewN n1 = w1 at *
      clear hbd hB hb KC HC
      go_wp2_with fail
      refine (built_write w.heap.size w.heap.size acc st w1 HB1.out (by omega) hb1.size).mono ?_
      rintro e w2 ⟨rfl, hB2, hb2, _⟩
      have hb3 := hb1.trans hb2
      have HB3 := Lib.hid hB2
      clear hB2 hb2 hb1 HB1
      go_wp2_with fail
      refine (built_string w.heap.size w.heap.size _ _ HB3.out hb3.size).mono ?_
      rintro e w3 ⟨rfl, hB4, hb4, _⟩
      have hb5 := hb3.trans hb4
      clear hB4 hb4 hb3 HB3
      go_wp2
      go_ret
      exact ⟨by rw [HF.out]; rfl, hb5⟩

end Go.Proofs.YtkhkpjnpjgnckaaGreatDoor

/- Environment files: the program's read, for apostrophes and for double quotes. -/
set_option maxRecDepth 100000
namespace Go.Proofs.YtkhkpjnpjgnckaaGreatDoor
open Go.RowKit Go.Sort Go.Shelf
set_option linter.unusedVariables false

/-- a kind of quotes, as a value -/
def quoV (d : DialectD) (m : ByteArray) (fn : Value) : Value := .agg #[.string d.notes, .string d.seps, .bool d.inl, .bool d.quo, .bool d.esc, .int .i64 d.join, .string m, fn]
/-- what its dialect is -/
def dialE (e : Bool) : DialectD := ⟨⟨#[35]⟩, ⟨#[]⟩, true, false, e, 0⟩
theorem pre_one (s : ByteArray) (m : UInt8) (h : 0 < s.size) (h0 : s[0] = m) : (⟨(Lib.trimPrefix s.data.toList [m]).toArray⟩ : ByteArray) = s.extract 1 s.size := by
  obtain ⟨u, hu⟩ := first_data s h
  apply ByteArray.ext
  apply Array.toList_inj.1
  show Lib.trimPrefix s.data.toList [m] = _
  unfold Lib.trimPrefix
  rw [Lib.extract_data, if_pos]
  · rw [List.take_of_length_le (by rw [List.length_drop, ← Lib.size_eq]; exact Nat.le_refl _)]
    rfl
  · rw [hu, h0]
    simp [Lib.hasPrefix]
/-- where the quote closes, behind the one that opens -/
def innerQ (e : Bool) (m : UInt8) (s : ByteArray) : ByteArray := (s.extract 1 s.size).extract 0 (cutQ e m (s.extract 1 s.size))
def afterQ (e : Bool) (m : UInt8) (s : ByteArray) : ByteArray := (s.extract 1 s.size).extract (cutQ e m (s.extract 1 s.size) + 1) (s.extract 1 s.size).size
def closesQ (e : Bool) (m : UInt8) (s : ByteArray) : Bool := decide (cutQ e m (s.extract 1 s.size) < (s.extract 1 s.size).size)
/-- what is read: the value, what stands behind it, whether there is one -/
def readQ (e : Bool) (m : UInt8) (t : ByteArray → ByteArray) (s : ByteArray) : ByteArray × ByteArray × Bool :=
  if closesQ e m s && behind5 (dialE e) (firstL (afterQ e m s)).1 then (t (innerQ e m s), afterQ e m s, true) else (⟨#[]⟩, ⟨#[]⟩, false)
theorem cutQ_res (e : Bool) (m : UInt8) (s : ByteArray) : cutRes (s.extract 1 s.size) (cutQ e m (s.extract 1 s.size)) = if closesQ e m s then .tuple #[.string (innerQ e m s), .string (afterQ e m s), .bool true] else .tuple #[.string (s.extract 1 s.size), .string ⟨#[]⟩, .bool false] := by
  unfold cutRes closesQ
  by_cases h : cutQ e m (s.extract 1 s.size) < (s.extract 1 s.size).size
  · rw [if_pos h, decide_eq_true h]; rfl
  · rw [if_neg h, decide_eq_false h]; rfl
theorem quoAt_new (w : World) (d : DialectD) (m : ByteArray) (fn : Value) : QuoAt (w.alloc (.cells #[.string d.notes, .string d.seps, .bool d.inl, .bool d.quo, .bool d.esc, .int .i64 d.join, .string m, fn] 115)) w.heap.size d m fn := heap_alloc_new _ _
/-- between double quotes no byte 92 is left over at the end -/
theorem inner_even (s : ByteArray) (m : UInt8) (h : closesQ true m s = true) : tailN (innerQ true m s) % 2 = 0 := by
  have hlt := of_decide_eq_true h
  have hl : cutQ true m (s.extract 1 s.size) < (List.range (s.extract 1 s.size).size).length := by rw [List.length_range]; exact hlt
  have h1 : endQ true m (s.extract 1 s.size) ((List.range (s.extract 1 s.size).size)[cutQ true m (s.extract 1 s.size)]'hl) = true := List.findIdx_getElem (w := hl)
  rw [List.getElem_range] at h1
  unfold endQ at h1
  rw [dif_pos hlt] at h1
  have h2 := (Bool.and_eq_true_iff.1 h1).2
  unfold esc5 at h2
  unfold innerQ
  generalize tailN ((s.extract 1 s.size).extract 0 (cutQ true m (s.extract 1 s.size))) = n at *
  rcases (show n % 2 = 0 ∨ n % 2 = 1 by omega) with e | e
  · exact e
  · rw [e] at h2
    cases h2

set_option maxHeartbeats 3200000 in
theorem read_apos (s : ByteArray) (w : World) (hs : s.size ≤ 1048576) (h0 : 0 < s.size) (hm : s[0] = 39) :
    Calls Tryz.prog 101 #[quoV (dialE false) ⟨#[39]⟩ (.func (Fn.func 19) #[] #[]), .string s] w fun e w' => e = .returned (.tuple #[.string (readQ false 39 plainT s).1, .string (readQ false 39 plainT s).2.1, .bool (readQ false 39 plainT s).2.2]) ∧ Below w.heap.size w w' := by
  have KP := Lib.hid (fun w => Any.strings_TrimPrefix lays101 s ⟨#[39]⟩ w)
  rw [show (⟨#[39]⟩ : ByteArray).data.toList = [39] from rfl, pre_one s 39 h0 hm] at KP
  have HV : Hid (readQ false 39 plainT s = if closesQ false 39 s && behind5 (dialE false) (firstL (afterQ false 39 s)).1 then (plainT (innerQ false 39 s), afterQ false 39 s, true) else (⟨#[]⟩, ⟨#[]⟩, false)) := rfl
  have HCR := Lib.hid (cutQ_res false 39 s)
  have hz1 : (s.extract 1 s.size).size ≤ 1048576 := by rw [ByteArray.size_extract]; omega
  have hza : (afterQ false 39 s).size ≤ 1048576 := by unfold afterQ; rw [ByteArray.size_extract]; omega
  have hzi : (innerQ false 39 s).size ≤ 1048576 := by unfold innerQ; rw [ByteArray.size_extract]; omega
  have KW := Lib.hid (fun (W : World) (bq bs : Nat) (hQ : QuoAt W bq (dialE false) ⟨#[39]⟩ (.func (Fn.func 19) #[] #[])) (hq : bq < W.heap.size) (hS : BoxAt W bs (s.extract 1 s.size)) (hb : bs < W.heap.size) => cutWhere_quote (dialE false) 39 (.func (Fn.func 19) #[] #[]) (s.extract 1 s.size) W bs bq hQ hq hS hb hz1)
  have KT := Lib.hid (fun (W : World) (h : closesQ false 39 s = true) => plain_impl (innerQ false 39 s) W (by omega))
  have KF := Lib.hid (fun w => firstLine_any (afterQ false 39 s) w hza)
  have hfl := firstL_le (afterQ false 39 s)
  have KM := Lib.hid (fun w => mayFollow_impl (dialE false) (firstL (afterQ false 39 s)).1 w (by omega))
  generalize readQ false 39 plainT s = r at *
  generalize behind5 (dialE false) (firstL (afterQ false 39 s)).1 = bh at *
  generalize firstL (afterQ false 39 s) = x at *
  generalize closesQ false 39 s = cl at *
  generalize afterQ false 39 s = af at *
  generalize plainT (innerQ false 39 s) = tv at *
  generalize innerQ false 39 s = inn at *
  generalize s.extract 1 s.size = s1 at *
  obtain ⟨y1, y2⟩ := x
  have KW2 : Hid (∀ (W : World) (bq bs : Nat), QuoAt W bq (dialE false) ⟨#[39]⟩ (.func (Fn.func 19) #[] #[]) → bq < W.heap.size → BoxAt W bs s1 → bs < W.heap.size → Calls Tryz.prog 140 #[.string s1, .func (Fn.func 138) #[] #[.pointer (some ⟨bq, 0, none⟩), .pointer (some ⟨bs, 0, none⟩)]] W fun e w' => e = .returned (if cl then .tuple #[.string inn, .string af, .bool true] else .tuple #[.string s1, .string ⟨#[]⟩, .bool false]) ∧ Below W.heap.size W w') := by
    intro W bq bs a1 a2 a3 a4
    have := KW.out W bq bs a1 a2 a3 a4
    rw [show (dialE false).esc = false from rfl, HCR.out] at this
    exact this
  clear KW HCR hfl
  have HQ := Lib.hid (quoAt_new w (dialE false) ⟨#[39]⟩ (.func (Fn.func 19) #[] #[]))
  unfold quoV
  unfold dialectV at KM
  unfold lnV at KF
  simp only [dialE] at HQ KM ⊢
  have hb0 := (Below.refl w.heap.size w).alloc (Nat.le_refl _) (.cells #[.string ⟨#[35]⟩, .string ⟨#[]⟩, .bool true, .bool false, .bool false, .int .i64 0, .string ⟨#[39]⟩, .func (Fn.func 19) #[] #[]] 115)
  go_enter Tryz.func101, Tryz.ntmps101
  go_wp2_with fail
  refine (KP.out _).mono ?_
  rintro e w1 ⟨rfl, rfl⟩
  clear KP
  have hsz1 : (w.alloc (.cells #[.string ⟨#[35]⟩, .string ⟨#[]⟩, .bool true, .bool false, .bool false, .int .i64 0, .string ⟨#[39]⟩, .func (Fn.func 19) #[] #[]] 115)).heap.size = w.heap.size + 1 := by simp
  have HQ1 : Hid (QuoAt ((w.alloc (.cells #[.string ⟨#[35]⟩, .string ⟨#[]⟩, .bool true, .bool false, .bool false, .int .i64 0, .string ⟨#[39]⟩, .func (Fn.func 19) #[] #[]] 115)).alloc (.cells #[.string s1] 9)) w.heap.size ⟨⟨#[35]⟩, ⟨#[]⟩, true, false, false, 0⟩ ⟨#[39]⟩ (.func (Fn.func 19) #[] #[])) := HQ.out.over ((Below.refl _ _).alloc (Nat.le_refl _) _) (by rw [hsz1]; omega)
  have HS1 : Hid (BoxAt ((w.alloc (.cells #[.string ⟨#[35]⟩, .string ⟨#[]⟩, .bool true, .bool false, .bool false, .int .i64 0, .string ⟨#[39]⟩, .func (Fn.func 19) #[] #[]] 115)).alloc (.cells #[.string s1] 9)) (w.heap.size + 1) s1) := by
    have := heap_alloc_new (w.alloc (.cells #[.string ⟨#[35]⟩, .string ⟨#[]⟩, .bool true, .bool false, .bool false, .int .i64 0, .string ⟨#[39]⟩, .func (Fn.func 19) #[] #[]] 115)) (.cells #[.string s1] 9)
    rw [hsz1] at this
    exact this
  have hb1 := hb0.alloc (by rw [hsz1]; omega) (.cells #[.string s1] 9)
  have hsz2 : ((w.alloc (.cells #[.string ⟨#[35]⟩, .string ⟨#[]⟩, .bool true, .bool false, .bool false, .int .i64 0, .string ⟨#[39]⟩, .func (Fn.func 19) #[] #[]] 115)).alloc (.cells #[.string s1] 9)).heap.size = w.heap.size + 2 := by simp
  clear HQ hb0 hsz1
  go_wp2_with fail
  generalize (w.alloc (.cells #[.string ⟨#[35]⟩, .string ⟨#[]⟩, .bool true, .bool false, .bool false, .int .i64 0, .string ⟨#[39]⟩, .func (Fn.func 19) #[] #[]] 115)).alloc (.cells #[.string s1] 9) = W1 at *
  refine (KW2.out W1 w.heap.size (w.heap.size + 1) HQ1.out (by omega) HS1.out (by omega)).mono ?_
  rintro e w2 ⟨rfl, hb2⟩
  have HQ2 := Lib.hid (HQ1.out.over hb2 (by omega))
  have hb3 := hb1.trans (hb2.mono hb1.size)
  have hw2 : w.heap.size < w2.heap.size := by have := hb2.size; omega
  clear hb1 hb2 HQ1 HS1 KW2 hsz2
  obtain ⟨c0, c1, c2, c3, c4, c5, c6, c7⟩ := HQ2.out.cells
  simp only at c0 c1 c2 c3 c4 c5
  have x0 := cell_regrown c0
  have x1 := cell_regrown c1
  have x2 := cell_regrown c2
  have x3 := cell_regrown c3
  have x4 := cell_regrown c4
  have x5 := cell_regrown c5
  have KF2 : Hid (∀ q os, Calls Tryz.prog 54 #[.string af] (grow (redrawn w2 q) os) fun e w' => e = .returned (.agg #[.string y1, .string y2]) ∧ ∃ p : Regrown, w' = grow (redrawn w2 p.d) p.os) := by
    intro q os
    exact Calls.regrown_of (KF.out (grow (redrawn w2 q) os))
  have KM2 : Hid (∀ q os, Calls Tryz.prog 141 #[.agg #[.string ⟨#[35]⟩, .string ⟨#[]⟩, .bool true, .bool false, .bool false, .int .i64 0], .string y1] (grow (redrawn w2 q) os) fun e w' => e = .returned (.bool bh) ∧ ∃ p : Regrown, w' = grow (redrawn w2 p.d) p.os) := by
    intro q os
    exact Calls.regrown_of (KM.out (grow (redrawn w2 q) os))
  clear KF KM
  have hfd : ∀ W, (Instr.field 75 (.agg #[.string y1, .string y2]) 0).run Tryz.prog W = .ok (.string y1) W := fun W => by kernel_rfl
  cases cl
  · have HF : Hid (r = (⟨#[]⟩, ⟨#[]⟩, false)) := HV.out
    clear HV KT KF2 KM2
    go_wp2_with fail
    refine wp_region_quiet_below (by kernel_rfl) (by kernel_rfl) ?_
    repeat (go_big_quiet_step (first | with_reducible exact KF2.out _ _ | with_reducible exact KM2.out _ _))
    refine wpQuiet_nil ?_
    intro _ hw'
    obtain ⟨⟨dq, osq⟩, hw''⟩ := hw'
    subst hw''
    have hbq := below_regrown w2 dq osq
    have hb4 := hb3.trans (hbq.mono hb3.size)
    clear hb3 x0 x1 x2 x3 x4 x5
    go_wp2
    go_ret3
    exact ⟨by rw [HF.out]; rfl, hb4⟩
  · cases bh
    · have HF : Hid (r = (⟨#[]⟩, ⟨#[]⟩, false)) := HV.out
      clear HV KT
      go_wp2_with fail
      refine wp_region_quiet_below (by kernel_rfl) (by kernel_rfl) ?_
      repeat (go_big_quiet_step (first | with_reducible exact KF2.out _ _ | with_reducible exact KM2.out _ _))
      refine wpQuiet_nil ?_
      intro _ hw'
      obtain ⟨⟨dq, osq⟩, hw''⟩ := hw'
      subst hw''
      have hbq := below_regrown w2 dq osq
      have hb4 := hb3.trans (hbq.mono hb3.size)
      clear hb3 x0 x1 x2 x3 x4 x5
      go_wp2
      go_ret3
      exact ⟨by rw [HF.out]; rfl, hb4⟩
    · have HF : Hid (r = (tv, af, true)) := HV.out
      have KT2 := Lib.hid (fun W => KT.out W rfl)
      clear HV KT
      go_wp2_with fail
      refine wp_region_quiet_below (by kernel_rfl) (by kernel_rfl) ?_
      repeat (go_big_quiet_step (first | with_reducible exact KF2.out _ _ | with_reducible exact KM2.out _ _))
      refine wpQuiet_nil ?_
      intro _ hw'
      obtain ⟨⟨dq, osq⟩, hw''⟩ := hw'
      subst hw''
      have hbq := below_regrown w2 dq osq
      have hb4 := hb3.trans (hbq.mono hb3.size)
      clear hb3 x0 x1 x2 x3 x4 x5
      have HQ3 := HQ2.out.over hbq hw2
      obtain ⟨e0, e1, e2, e3, e4, e5, e6, e7⟩ := HQ3.cells
      clear HQ3 hbq c0 c1 c2 c3 c4 c5 c6 c7
      generalize grow (redrawn w2 dq) osq = w3 at *
      go_wp2_with fail
      refine (KT2.out _).mono ?_
      rintro e w4 ⟨rfl, hb5⟩
      have hb6 := hb4.trans (hb5.mono hb4.size)
      clear hb4 hb5 KT2
      go_wp2
      go_ret3
      exact ⟨by rw [HF.out]; rfl, hb6⟩

set_option maxHeartbeats 3200000 in
theorem read_double (s : ByteArray) (w : World) (hs : s.size ≤ 1048576) (h0 : 0 < s.size) (hm : s[0] = 34) :
    Calls Tryz.prog 101 #[quoV (dialE true) ⟨#[34]⟩ (.func (Fn.func 136) #[] #[]), .string s] w fun e w' => e = .returned (.tuple #[.string (readQ true 34 doubT s).1, .string (readQ true 34 doubT s).2.1, .bool (readQ true 34 doubT s).2.2]) ∧ Below w.heap.size w w' := by
  have KP := Lib.hid (fun w => Any.strings_TrimPrefix lays101 s ⟨#[34]⟩ w)
  rw [show (⟨#[34]⟩ : ByteArray).data.toList = [34] from rfl, pre_one s 34 h0 hm] at KP
  have HV : Hid (readQ true 34 doubT s = if closesQ true 34 s && behind5 (dialE true) (firstL (afterQ true 34 s)).1 then (doubT (innerQ true 34 s), afterQ true 34 s, true) else (⟨#[]⟩, ⟨#[]⟩, false)) := rfl
  have HCR := Lib.hid (cutQ_res true 34 s)
  have hz1 : (s.extract 1 s.size).size ≤ 1048576 := by rw [ByteArray.size_extract]; omega
  have hza : (afterQ true 34 s).size ≤ 1048576 := by unfold afterQ; rw [ByteArray.size_extract]; omega
  have hzi : (innerQ true 34 s).size ≤ 1048576 := by unfold innerQ; rw [ByteArray.size_extract]; omega
  have KW := Lib.hid (fun (W : World) (bq bs : Nat) (hQ : QuoAt W bq (dialE true) ⟨#[34]⟩ (.func (Fn.func 136) #[] #[])) (hq : bq < W.heap.size) (hS : BoxAt W bs (s.extract 1 s.size)) (hb : bs < W.heap.size) => cutWhere_quote (dialE true) 34 (.func (Fn.func 136) #[] #[]) (s.extract 1 s.size) W bs bq hQ hq hS hb hz1)
  have KT := Lib.hid (fun (W : World) (h : closesQ true 34 s = true) => replaceEsc_impl (innerQ true 34 s) W (by omega) (inner_even s 34 h))
  have KF := Lib.hid (fun w => firstLine_any (afterQ true 34 s) w hza)
  have hfl := firstL_le (afterQ true 34 s)
  have KM := Lib.hid (fun w => mayFollow_impl (dialE true) (firstL (afterQ true 34 s)).1 w (by omega))
  generalize readQ true 34 doubT s = r at *
  generalize behind5 (dialE true) (firstL (afterQ true 34 s)).1 = bh at *
  generalize firstL (afterQ true 34 s) = x at *
  generalize closesQ true 34 s = cl at *
  generalize afterQ true 34 s = af at *
  generalize doubT (innerQ true 34 s) = tv at *
  generalize innerQ true 34 s = inn at *
  generalize s.extract 1 s.size = s1 at *
  obtain ⟨y1, y2⟩ := x
  have KW2 : Hid (∀ (W : World) (bq bs : Nat), QuoAt W bq (dialE true) ⟨#[34]⟩ (.func (Fn.func 136) #[] #[]) → bq < W.heap.size → BoxAt W bs s1 → bs < W.heap.size → Calls Tryz.prog 140 #[.string s1, .func (Fn.func 138) #[] #[.pointer (some ⟨bq, 0, none⟩), .pointer (some ⟨bs, 0, none⟩)]] W fun e w' => e = .returned (if cl then .tuple #[.string inn, .string af, .bool true] else .tuple #[.string s1, .string ⟨#[]⟩, .bool false]) ∧ Below W.heap.size W w') := by
    intro W bq bs a1 a2 a3 a4
    have := KW.out W bq bs a1 a2 a3 a4
    rw [show (dialE true).esc = true from rfl, HCR.out] at this
    exact this
  clear KW HCR hfl
  have HQ := Lib.hid (quoAt_new w (dialE true) ⟨#[34]⟩ (.func (Fn.func 136) #[] #[]))
  unfold quoV
  unfold dialectV at KM
  unfold lnV at KF
  simp only [dialE] at HQ KM ⊢
  have hb0 := (Below.refl w.heap.size w).alloc (Nat.le_refl _) (.cells #[.string ⟨#[35]⟩, .string ⟨#[]⟩, .bool true, .bool false, .bool true, .int .i64 0, .string ⟨#[34]⟩, .func (Fn.func 136) #[] #[]] 115)
  go_enter Tryz.func101, Tryz.ntmps101
  go_wp2_with fail
  refine (KP.out _).mono ?_
  rintro e w1 ⟨rfl, rfl⟩
  clear KP
  have hsz1 : (w.alloc (.cells #[.string ⟨#[35]⟩, .string ⟨#[]⟩, .bool true, .bool false, .bool true, .int .i64 0, .string ⟨#[34]⟩, .func (Fn.func 136) #[] #[]] 115)).heap.size = w.heap.size + 1 := by simp
  have HQ1 : Hid (QuoAt ((w.alloc (.cells #[.string ⟨#[35]⟩, .string ⟨#[]⟩, .bool true, .bool false, .bool true, .int .i64 0, .string ⟨#[34]⟩, .func (Fn.func 136) #[] #[]] 115)).alloc (.cells #[.string s1] 9)) w.heap.size ⟨⟨#[35]⟩, ⟨#[]⟩, true, false, true, 0⟩ ⟨#[34]⟩ (.func (Fn.func 136) #[] #[])) := HQ.out.over ((Below.refl _ _).alloc (Nat.le_refl _) _) (by rw [hsz1]; omega)
  have HS1 : Hid (BoxAt ((w.alloc (.cells #[.string ⟨#[35]⟩, .string ⟨#[]⟩, .bool true, .bool false, .bool true, .int .i64 0, .string ⟨#[34]⟩, .func (Fn.func 136) #[] #[]] 115)).alloc (.cells #[.string s1] 9)) (w.heap.size + 1) s1) := by
    have := heap_alloc_new (w.alloc (.cells #[.string ⟨#[35]⟩, .string ⟨#[]⟩, .bool true, .bool false, .bool true, .int .i64 0, .string ⟨#[34]⟩, .func (Fn.func 136) #[] #[]] 115)) (.cells #[.string s1] 9)
    rw [hsz1] at this
    exact this
  have hb1 := hb0.alloc (by rw [hsz1]; omega) (.cells #[.string s1] 9)
  have hsz2 : ((w.alloc (.cells #[.string ⟨#[35]⟩, .string ⟨#[]⟩, .bool true, .bool false, .bool true, .int .i64 0, .string ⟨#[34]⟩, .func (Fn.func 136) #[] #[]] 115)).alloc (.cells #[.string s1] 9)).heap.size = w.heap.size + 2 := by simp
  clear HQ hb0 hsz1
  go_wp2_with fail
  generalize (w.alloc (.cells #[.string ⟨#[35]⟩, .string ⟨#[]⟩, .bool true, .bool false, .bool true, .int .i64 0, .string ⟨#[34]⟩, .func (Fn.func 136) #[] #[]] 115)).alloc (.cells #[.string s1] 9) = W1 at *
  refine (KW2.out W1 w.heap.size (w.heap.size + 1) HQ1.out (by omega) HS1.out (by omega)).mono ?_
  rintro e w2 ⟨rfl, hb2⟩
  have HQ2 := Lib.hid (HQ1.out.over hb2 (by omega))
  have hb3 := hb1.trans (hb2.mono hb1.size)
  have hw2 : w.heap.size < w2.heap.size := by have := hb2.size; omega
  clear hb1 hb2 HQ1 HS1 KW2 hsz2
  obtain ⟨c0, c1, c2, c3, c4, c5, c6, c7⟩ := HQ2.out.cells
  simp only at c0 c1 c2 c3 c4 c5
  have x0 := cell_regrown c0
  have x1 := cell_regrown c1
  have x2 := cell_regrown c2
  have x3 := cell_regrown c3
  have x4 := cell_regrown c4
  have x5 := cell_regrown c5
  have KF2 : Hid (∀ q os, Calls Tryz.prog 54 #[.string af] (grow (redrawn w2 q) os) fun e w' => e = .returned (.agg #[.string y1, .string y2]) ∧ ∃ p : Regrown, w' = grow (redrawn w2 p.d) p.os) := by
    intro q os
    exact Calls.regrown_of (KF.out (grow (redrawn w2 q) os))
  have KM2 : Hid (∀ q os, Calls Tryz.prog 141 #[.agg #[.string ⟨#[35]⟩, .string ⟨#[]⟩, .bool true, .bool false, .bool true, .int .i64 0], .string y1] (grow (redrawn w2 q) os) fun e w' => e = .returned (.bool bh) ∧ ∃ p : Regrown, w' = grow (redrawn w2 p.d) p.os) := by
    intro q os
    exact Calls.regrown_of (KM.out (grow (redrawn w2 q) os))
  clear KF KM
  have hfd : ∀ W, (Instr.field 75 (.agg #[.string y1, .string y2]) 0).run Tryz.prog W = .ok (.string y1) W := fun W => by kernel_rfl
  cases cl
  · have HF : Hid (r = (⟨#[]⟩, ⟨#[]⟩, false)) := HV.out
    clear HV KT KF2 KM2
    go_wp2_with fail
    refine wp_region_quiet_below (by kernel_rfl) (by kernel_rfl) ?_
    repeat (go_big_quiet_step (first | with_reducible exact KF2.out _ _ | with_reducible exact KM2.out _ _))
    refine wpQuiet_nil ?_
    intro _ hw'
    obtain ⟨⟨dq, osq⟩, hw''⟩ := hw'
    subst hw''
    have hbq := below_regrown w2 dq osq
    have hb4 := hb3.trans (hbq.mono hb3.size)
    clear hb3 x0 x1 x2 x3 x4 x5
    go_wp2
    go_ret3
    exact ⟨by rw [HF.out]; rfl, hb4⟩
  · cases bh
    · have HF : Hid (r = (⟨#[]⟩, ⟨#[]⟩, false)) := HV.out
      clear HV KT
      go_wp2_with fail
      refine wp_region_quiet_below (by kernel_rfl) (by kernel_rfl) ?_
      repeat (go_big_quiet_step (first | with_reducible exact KF2.out _ _ | with_reducible exact KM2.out _ _))
      refine wpQuiet_nil ?_
      intro _ hw'
      obtain ⟨⟨dq, osq⟩, hw''⟩ := hw'
      subst hw''
      have hbq := below_regrown w2 dq osq
      have hb4 := hb3.trans (hbq.mono hb3.size)
      clear hb3 x0 x1 x2 x3 x4 x5
      go_wp2
      go_ret3
      exact ⟨by rw [HF.out]; rfl, hb4⟩
    · have HF : Hid (r = (tv, af, true)) := HV.out
      have KT2 := Lib.hid (fun W => KT.out W rfl)
      clear HV KT
      go_wp2_with fail
      refine wp_region_quiet_below (by kernel_rfl) (by kernel_rfl) ?_
      repeat (go_big_quiet_step (first | with_reducible exact KF2.out _ _ | with_reducible exact KM2.out _ _))
      refine wpQuiet_nil ?_
      intro _ hw'
      obtain ⟨⟨dq, osq⟩, hw''⟩ := hw'
      subst hw''
      have hbq := below_regrown w2 dq osq
      have hb4 := hb3.trans (hbq.mono hb3.size)
      clear hb3 x0 x1 x2 x3 x4 x5
      have HQ3 := HQ2.out.over hbq hw2
      obtain ⟨e0, e1, e2, e3, e4, e5, e6, e7⟩ := HQ3.cells
      clear HQ3 hbq c0 c1 c2 c3 c4 c5 c6 c7
      generalize grow (redrawn w2 dq) osq = w3 at *
      go_wp2_with fail
      refine (KT2.out _).mono ?_
      rintro e w4 ⟨rfl, hb5⟩
      have hb6 := hb4.trans (hb5.mono hb4.size)
      clear hb4 hb5 KT2
      go_wp2
      go_ret3
      exact ⟨by rw [HF.out]; rfl, hb6⟩

end Go.Proofs.YtkhkpjnpjgnckaaGreatDoor

/- Environment files: the program's bothQuotes and readEnv. -/
set_option maxRecDepth 100000
namespace Go.Proofs.YtkhkpjnpjgnckaaGreatDoor
open Go.RowKit Go.Sort Go.Shelf
set_option linter.unusedVariables false

abbrev bothC : Array Value := #[.string ⟨#[35]⟩, .string ⟨#[]⟩, .bool true, .bool false, .bool false, .int .i64 0, .string ⟨#[39]⟩, .func (Fn.func 19) #[] #[], .string ⟨#[35]⟩, .string ⟨#[]⟩, .bool true, .bool false, .bool true, .int .i64 0, .string ⟨#[34]⟩, .func (Fn.func 136) #[] #[]]
set_option maxHeartbeats 1600000 in
theorem both_impl (w : World) :
    Calls Tryz.prog 99 #[] w fun e w' => e = .returned (.agg bothC) ∧ Below w.heap.size w w' := by
  go_enter Tryz.func99, Tryz.ntmps99
  go_wp2
  refine bodyPost_ret (v := .agg bothC) ?_ rfl ⟨rfl, ?_⟩
  · exact results_cell_row rfl _ _ w.heap.size 116 bothC (0, 0) _ rfl (heap_alloc_new _ _) Tryz.underlying116 rfl (by kernel_rfl)
  · exact (Below.refl _ _).alloc (Nat.le_refl _) _

/-- begins with a byte -/
def headIs (s : ByteArray) (m : UInt8) : Bool := if h : 0 < s.size then s[0] == m else false
theorem pre_head (s : ByteArray) (m : UInt8) : Lib.hasPrefix s.data.toList [m] = headIs s m := by
  unfold headIs
  by_cases h : 0 < s.size
  · rw [dif_pos h]
    obtain ⟨u, hu⟩ := first_data s h
    rw [hu]
    simp only [Lib.hasPrefix, List.isPrefixOf, Bool.and_true]
    rw [Bool.eq_iff_iff]
    simp only [beq_iff_eq]
    exact ⟨fun e => e.symm, fun e => e.symm⟩
  · rw [dif_neg h]
    have : s.data.toList = [] := List.eq_nil_of_length_eq_zero (by rw [← Lib.size_eq]; omega)
    rw [this]
    rfl
theorem head_at {s : ByteArray} {m : UInt8} (h : headIs s m = true) : ∃ h0 : 0 < s.size, s[0] = m := by
  unfold headIs at h
  split at h
  · next h0 => exact ⟨h0, beq_iff_eq.1 h⟩
  · cases h
/-- the value at the beginning of a text, what it ends on, whether there is one -/
def readE (s : ByteArray) : ByteArray × ByteArray × Bool :=
  if headIs s 39 then readQ false 39 plainT s else if headIs s 34 then readQ true 34 doubT s else ((bareE (firstL s).1).1, s, (bareE (firstL s).1).2)
set_option maxHeartbeats 3200000 in
theorem readEnv_impl (s : ByteArray) (w : World) (hs : s.size ≤ 1048576) :
    Calls Tryz.prog 69 #[.string s] w fun e w' => e = .returned (.tuple #[.string (readE s).1, .string (readE s).2.1, .bool (readE s).2.2]) ∧ Below w.heap.size w w' := by
  have KB := Lib.hid (fun w => both_impl w)
  have KA := Lib.hid (fun (w : World) (h : headIs s 39 = true) => read_apos s w hs (head_at h).1 (head_at h).2)
  have KD := Lib.hid (fun (w : World) (h : headIs s 34 = true) => read_double s w hs (head_at h).1 (head_at h).2)
  have KP39 := Lib.hid (fun (w : World) => hasPrefix_lib s ⟨#[39]⟩ w)
  have KP34 := Lib.hid (fun (w : World) => hasPrefix_lib s ⟨#[34]⟩ w)
  rw [show (⟨#[39]⟩ : ByteArray).data.toList = [39] from rfl, pre_head] at KP39
  rw [show (⟨#[34]⟩ : ByteArray).data.toList = [34] from rfl, pre_head] at KP34
  have KF := Lib.hid (fun w => firstLine_any s w hs)
  have hfl := firstL_le s
  have KE := Lib.hid (fun w => bareEnv_impl (firstL s).1 w (by omega))
  have HV : Hid (readE s = if headIs s 39 then readQ false 39 plainT s else if headIs s 34 then readQ true 34 doubT s else ((bareE (firstL s).1).1, s, (bareE (firstL s).1).2)) := rfl
  generalize readE s = r at *
  generalize readQ false 39 plainT s = ra at *
  generalize readQ true 34 doubT s = rd at *
  generalize bareE (firstL s).1 = be at *
  generalize firstL s = x at *
  generalize headIs s 39 = h39 at *
  generalize headIs s 34 = h34 at *
  obtain ⟨x1, x2⟩ := x
  unfold lnV at KF
  unfold quoV dialE at KA KD
  simp only at KF KE HV KA KD
  have hix0 : ∀ w, (Instr.index 116 (.agg bothC) (.int .i64 0)).run Tryz.prog w = .ok (.agg #[.string ⟨#[35]⟩, .string ⟨#[]⟩, .bool true, .bool false, .bool false, .int .i64 0, .string ⟨#[39]⟩, .func (Fn.func 19) #[] #[]]) w := fun w => by kernel_rfl
  have hix1 : ∀ w, (Instr.index 116 (.agg bothC) (.int .i64 1)).run Tryz.prog w = .ok (.agg #[.string ⟨#[35]⟩, .string ⟨#[]⟩, .bool true, .bool false, .bool true, .int .i64 0, .string ⟨#[34]⟩, .func (Fn.func 136) #[] #[]]) w := fun w => by kernel_rfl
  have hfd : ∀ W, (Instr.field 75 (.agg #[.string x1, .string x2]) 0).run Tryz.prog W = .ok (.string x1) W := fun W => by kernel_rfl
  clear hfl
  go_enter Tryz.func69, Tryz.ntmps69
  go_wp2_with fail
  refine (KB.out _).mono ?_
  rintro e W1 ⟨rfl, hb1⟩
  have HB1 := Lib.hid hb1
  clear hb1 KB
  go_wp2
  go_loopw [10] (fun i wr => (i = .int .i64 0 ∨ (i = .int .i64 1 ∧ h39 = false) ∨ (i = .int .i64 2 ∧ h39 = false ∧ h34 = false)) ∧ Hid (Below w.heap.size w wr)) (fun i _ => 2 - (intOf i).toNat)
  case atStart => exact ⟨.inl rfl, HB1⟩
  case round =>
    obtain ⟨hi, hb⟩ := hrel
    clear HB1
    rcases hi with rfl | ⟨rfl, h1⟩ | ⟨rfl, h1, h2⟩
    · cases h39
      · go_wp2_with fail
        refine (KP39.out _).mono ?_
        rintro e w2 ⟨rfl, rfl⟩
        have hb2 := hb.out.alloc hb.out.size (.cells #[.string ⟨#[35]⟩, .string ⟨#[]⟩, .bool true, .bool false, .bool false, .int .i64 0, .string ⟨#[39]⟩, .func (Fn.func 19) #[] #[]] 115)
        go_wp2
        go_roundw
        case rel => exact ⟨.inr (.inl ⟨by go_num, trivial⟩), hb2⟩
        case measure => simp [intOf]
      · have HF : Hid (r = ra) := HV.out
        have KA2 := Lib.hid (fun W => KA.out W rfl)
        clear KA KD HV
        go_wp2_with fail
        refine (KP39.out _).mono ?_
        rintro e w2 ⟨rfl, rfl⟩
        have hb2 := hb.out.alloc hb.out.size (.cells #[.string ⟨#[35]⟩, .string ⟨#[]⟩, .bool true, .bool false, .bool false, .int .i64 0, .string ⟨#[39]⟩, .func (Fn.func 19) #[] #[]] 115)
        go_wp2_with fail
        refine (KA2.out _).mono ?_
        rintro e w3 ⟨rfl, hb3⟩
        have hb4 := hb2.trans (hb3.mono hb2.size)
        go_wp2
        go_ret3
        exact ⟨by rw [HF.out]; rfl, hb4⟩
    · subst h1
      cases h34
      · go_wp2_with fail
        refine (KP34.out _).mono ?_
        rintro e w2 ⟨rfl, rfl⟩
        have hb2 := hb.out.alloc hb.out.size (.cells #[.string ⟨#[35]⟩, .string ⟨#[]⟩, .bool true, .bool false, .bool true, .int .i64 0, .string ⟨#[34]⟩, .func (Fn.func 136) #[] #[]] 115)
        go_wp2
        go_roundw
        case rel => exact ⟨.inr (.inr ⟨by go_num, trivial, trivial⟩), hb2⟩
        case measure => simp [intOf]
      · have HF : Hid (r = rd) := HV.out
        have KD2 := Lib.hid (fun W => KD.out W rfl)
        clear KA KD HV
        go_wp2_with fail
        refine (KP34.out _).mono ?_
        rintro e w2 ⟨rfl, rfl⟩
        have hb2 := hb.out.alloc hb.out.size (.cells #[.string ⟨#[35]⟩, .string ⟨#[]⟩, .bool true, .bool false, .bool true, .int .i64 0, .string ⟨#[34]⟩, .func (Fn.func 136) #[] #[]] 115)
        go_wp2_with fail
        refine (KD2.out _).mono ?_
        rintro e w3 ⟨rfl, hb3⟩
        have hb4 := hb2.trans (hb3.mono hb2.size)
        go_wp2
        go_ret3
        exact ⟨by rw [HF.out]; rfl, hb4⟩
    · subst h1
      subst h2
      have HF : Hid (r = (be.1, s, be.2)) := HV.out
      clear KA KD HV
      go_wp2_with fail
      refine (KF.out _).mono ?_
      rintro e w2 ⟨rfl, hb2⟩
      have hb3 := hb.out.trans (hb2.mono hb.out.size)
      go_wp2_with fail
      refine (KE.out _).mono ?_
      rintro e w3 ⟨rfl, hb4⟩
      have hb5 := hb3.trans (hb4.mono hb3.size)
      go_wp2
      go_ret3
      exact ⟨by rw [HF.out]; rfl, hb5⟩

end Go.Proofs.YtkhkpjnpjgnckaaGreatDoor

/- Environment files: the first record of a file; the program's firstEnv. -/
set_option maxRecDepth 100000
namespace Go.Proofs.YtkhkpjnpjgnckaaGreatDoor
open Go.RowKit Go.Sort Go.Shelf
set_option linter.unusedVariables false

/-- a line in its block -/
def LnAt (w : World) (b : Nat) (x : Ln) : Prop := w.heap[b]? = some (.cells #[.string x.1, .string x.2] 75 (0, 0))
theorem LnAt.over {w w' : World} {b B : Nat} {x : Ln} (h : LnAt w b x) (hb : Below B w w') (hB : b < B) : LnAt w' b x := by
  unfold LnAt at *
  rw [hb.block b hB]
  exact h
theorem LnAt.cells {w : World} {b : Nat} {x : Ln} (h : LnAt w b x) : w.cell? ⟨b, 0, none⟩ = some (.string x.1) ∧ w.cell? ⟨b, 1, none⟩ = some (.string x.2) := by
  unfold LnAt at h
  refine ⟨?_, ?_⟩ <;> (rw [Lib.cell_of_heap h]; rfl)
/-- a record of one line -/
def singleE (k : Int) (x : Ln) : RecD := ⟨k, x.1 ++ x.2, ⟨#[]⟩, ⟨#[]⟩, ⟨#[]⟩, 0⟩
set_option maxHeartbeats 800000 in
theorem single_impl (k : Int) (x : Ln) (w : World) (b : Nat) (hL : LnAt w b x) (hx : x.1.size + x.2.size ≤ 1048576) :
    Calls Tryz.prog 62 #[.int .i64 k, .pointer (some ⟨b, 0, none⟩)] w fun e w' => e = .returned (recV (singleE k x)) ∧ Below w.heap.size w w' := by
  have hbl : b < w.heap.size := (Array.getElem?_eq_some_iff.1 hL).1
  have hL2 := hL.over ((Below.refl w.heap.size w).alloc (Nat.le_refl _) (.cells #[.int .i64 0, .string ⟨#[]⟩, .string ⟨#[]⟩, .string ⟨#[]⟩, .string ⟨#[]⟩, .int .i64 0] 35)) hbl
  obtain ⟨c0, c1⟩ := hL2.cells
  have HV : Hid (recV (singleE k x) = .agg #[.int .i64 k, .string (x.1 ++ x.2), .string ⟨#[]⟩, .string ⟨#[]⟩, .string ⟨#[]⟩, .int .i64 0]) := rfl
  obtain ⟨x1, x2⟩ := x
  simp only at c0 c1 HV hx
  generalize recV (singleE k (x1, x2)) = r at *
  clear hL hL2
  go_enter Tryz.func62, Tryz.ntmps62
  go_wp2
  (try simp only [Exit.inBlock, Exit.then])
  refine bodyPost_ret (v := .agg #[.int .i64 k, .string (x1 ++ x2), .string ⟨#[]⟩, .string ⟨#[]⟩, .string ⟨#[]⟩, .int .i64 0]) ?_ rfl ⟨by rw [HV.out], ?_⟩
  · exact results_cell_row rfl _ _ w.heap.size 35 #[.int .i64 k, .string (x1 ++ x2), .string ⟨#[]⟩, .string ⟨#[]⟩, .string ⟨#[]⟩, .int .i64 0] (0, 0) _ rfl (heap_alloc_new _ _) Tryz.underlying35 rfl (by kernel_rfl)
  · exact (Below.refl _ _).alloc (Nat.le_refl _) _

/-- a text without another at its end -/
def cutEnd (s t : ByteArray) : ByteArray := ⟨(Lib.trimSuffix s.data.toList t.data.toList).toArray⟩
def pairF (s key u : ByteArray) (x : Ln) : RecD := if (readE u).2.2 then ⟨3, cutEnd s (behindL (readE u).2.1), ⟨#[]⟩, key, (readE u).1, 0⟩ else singleE 4 x
def lineF (s t : ByteArray) (x : Ln) : RecD :=
  if (restO (skipE t)).2.2 && nameB (trimE (restO (skipE t)).1) then pairF s (trimE (restO (skipE t)).1) (start5 (s.extract (x.1.size - (restO (skipE t)).2.1.size) s.size)) x else singleE 4 x
/-- the first record of a file, without its line -/
def envF (s : ByteArray) : RecD :=
  if h : 0 < (start5 (firstL s).1).size then (if (start5 (firstL s).1)[0] = 35 then singleE 1 (firstL s) else lineF s (start5 (firstL s).1) (firstL s)) else singleE 0 (firstL s)
theorem skipE_size (t : ByteArray) : (skipE t).size ≤ t.size := by
  unfold skipE
  split
  · exact Nat.le_refl _
  · have h1 := start5_size (exP t)
    have h2 := exP_size t
    omega
theorem readE_size (s : ByteArray) : (readE s).2.1.size ≤ s.size := by
  unfold readE
  have hq : ∀ e m t, (readQ e m t s).2.1.size ≤ s.size := by
    intro e m t
    unfold readQ
    split
    · simp only []
      unfold afterQ
      rw [ByteArray.size_extract, ByteArray.size_extract]
      omega
    · exact Nat.zero_le _
  split
  · exact hq _ _ _
  · split
    · exact hq _ _ _
    · exact Nat.le_refl _
theorem text_noneF (x : ByteArray) (h : x.size = 0) : (x.toList == []) = true ∧ x.toList.isEmpty = true := text_noneE x h


end Go.Proofs.YtkhkpjnpjgnckaaGreatDoor

/- Environment files: the first record of a file; the program's firstEnv. -/
set_option maxRecDepth 100000
namespace Go.Proofs.YtkhkpjnpjgnckaaGreatDoor
open Go.RowKit Go.Sort Go.Shelf
set_option linter.unusedVariables false

set_option maxHeartbeats 1600000 in
theorem firstEnv_impl (s : ByteArray) (w : World) (hs : s.size ≤ 1048576) (h0s : s.size ≠ 0) :
    Calls Tryz.prog 41 #[.string s] w fun e w' => e = .returned (recV (envF s)) ∧ Below w.heap.size w w' := by
  have KFL := Lib.hid (fun w => firstLine_any s w hs)
  have hle := firstL_le s
  have HV : Hid (envF s = if h : 0 < (start5 (firstL s).1).size then (if (start5 (firstL s).1)[0] = 35 then singleE 1 (firstL s) else lineF s (start5 (firstL s).1) (firstL s)) else singleE 0 (firstL s)) := rfl
  have hts := start5_size (firstL s).1
  have KTS := Lib.hid (fun w => trimStart_impl (firstL s).1 w)
  generalize envF s = r at *
  generalize start5 (firstL s).1 = t at *
  generalize firstL s = x at *
  obtain ⟨x1, x2⟩ := x
  unfold lnV at KFL
  simp only at KFL hle hts KTS HV
  have HR0 : Hid (RecIn (w.alloc (.cells #[.int .i64 0, .string ⟨#[]⟩, .string ⟨#[]⟩, .string ⟨#[]⟩, .string ⟨#[]⟩, .int .i64 0] 35)) w.heap.size (kindP 0)) := heap_alloc_new _ _
  have hb0 : Below w.heap.size w (w.alloc (.cells #[.int .i64 0, .string ⟨#[]⟩, .string ⟨#[]⟩, .string ⟨#[]⟩, .string ⟨#[]⟩, .int .i64 0] 35)) := (Below.refl _ _).alloc (Nat.le_refl _) _
  have hw0 : w.heap.size < (w.alloc (.cells #[.int .i64 0, .string ⟨#[]⟩, .string ⟨#[]⟩, .string ⟨#[]⟩, .string ⟨#[]⟩, .int .i64 0] 35)).heap.size := by simp
  go_enter Tryz.func41, Tryz.ntmps41
  go_wp2_with fail
  generalize w.alloc (.cells #[.int .i64 0, .string ⟨#[]⟩, .string ⟨#[]⟩, .string ⟨#[]⟩, .string ⟨#[]⟩, .int .i64 0] 35) = W0 at *
  refine (KFL.out _).mono ?_
  rintro e W1 ⟨rfl, hb1⟩
  have HR1 := Lib.hid (HR0.out.over hb1 hw0)
  have hB1 := hb0.trans (hb1.mono hb0.size)
  have hw1 := Nat.lt_of_lt_of_le hw0 hb1.size
  clear KFL hb1 HR0 hb0 hw0
  have HL2 : Hid (LnAt (W1.alloc (.cells #[.string x1, .string x2] 75)) W1.heap.size (x1, x2)) := heap_alloc_new _ _
  have hb2 : Below W1.heap.size W1 (W1.alloc (.cells #[.string x1, .string x2] 75)) := (Below.refl _ _).alloc (Nat.le_refl _) _
  have HR2 := Lib.hid (HR1.out.over hb2 hw1)
  have hB2 := hB1.trans (hb2.mono (Nat.le_of_lt hw1))
  have hw2 : W1.heap.size < (W1.alloc (.cells #[.string x1, .string x2] 75)).heap.size := by simp
  clear HR1 hB1 hb2
  go_wp2_with fail
  generalize (W1.alloc (.cells #[.string x1, .string x2] 75)) = W2 at *
  generalize hbl : W1.heap.size = bl at *
  refine (KTS.out _).mono ?_
  rintro e W3 ⟨rfl, hb3⟩
  have HR := Lib.hid (HR2.out.over hb3 (by omega))
  have HL := Lib.hid (HL2.out.over hb3 hw2)
  have HB := Lib.hid (hB2.trans (hb3.mono hB2.size))
  have n4 : w.heap.size < W3.heap.size := by have := hb3.size; omega
  have n5 : bl < W3.heap.size := by have := hb3.size; omega
  clear KTS hb3 HR2 HL2 hB2 hbl hw1 hw2
  by_cases ht0 : t.size = 0
  · obtain ⟨e1, e2⟩ := text_noneE t ht0
    have HF : Hid (r = singleE 0 (x1, x2)) := by unfold Hid; rw [HV.out, dif_neg (by omega)]
    clear HV ht0
    have KSI := Lib.hid (single_impl 0 (x1, x2) _ bl HL.out (by simp only; omega))
    go_wp2_with fail
    refine KSI.out.mono ?_
    rintro e w9 ⟨rfl, hb9⟩
    have HRQ := Lib.hid (HR.out.over hb9 n4)
    have HBQ := Lib.hid (HB.out.trans (hb9.mono HB.out.size))
    clear KSI hb9 HB HR HL n4 n5
    unfold recV singleE
    simp only
    obtain ⟨z0, z1, z2, z3, z4, z5⟩ := HRQ.out.cells
    simp only [kindP] at z0 z1 z2 z3 z4 z5
    have f0 := HRQ.out.free 0
    have f1 := HRQ.out.free 1
    have f2 := HRQ.out.free 2
    have f3 := HRQ.out.free 3
    have f4 := HRQ.out.free 4
    have f5 := HRQ.out.free 5
    go_wp2
    (try simp only [Exit.inBlock, Exit.then])
    have hq7 := HRQ.out.put (singleE 0 (x1, x2))
    have hq8 := below_put HBQ.out (Nat.le_refl w.heap.size) (singleE 0 (x1, x2))
    simp only [singleE] at hq7 hq8
    refine bodyPost_ret (results_cell_row rfl _ _ w.heap.size 35 _ (0, 0) _ rfl hq7 Tryz.underlying35 rfl (by kernel_rfl)) rfl ⟨?_, hq8⟩
    rw [HF.out]; rfl
  · obtain ⟨e1, e2⟩ := text_someE t (by omega)
    have ht1 : 0 < t.size := by omega
    have ht1z : (0 : Int) < (t.size : Int) := by omega
    have HF0 : Hid (r = if t[0] = 35 then singleE 1 (x1, x2) else lineF s t (x1, x2)) := by unfold Hid; rw [HV.out, dif_pos ht1]
    have KH := Lib.hid (fun w => hasByte_any ⟨#[35]⟩ t[0] w)
    rw [one_has] at KH
    clear HV
    by_cases h35 : t[0] = 35
    · have HF : Hid (r = singleE 1 (x1, x2)) := by unfold Hid; rw [HF0.out, if_pos h35]
      have q35 : (t[0] == 35) = true := by simp [h35]
      rw [q35] at KH
      clear HF0 q35 h35
      go_wp2_with fail
      refine (KH.out _).mono ?_
      rintro e w5 ⟨rfl, rfl⟩
      clear KH
      have KSI := Lib.hid (single_impl 1 (x1, x2) _ bl HL.out (by simp only; omega))
      go_wp2_with fail
      refine KSI.out.mono ?_
      rintro e w9 ⟨rfl, hb9⟩
      have HRQ := Lib.hid (HR.out.over hb9 n4)
      have HBQ := Lib.hid (HB.out.trans (hb9.mono HB.out.size))
      clear KSI hb9 HB HR HL n4 n5
      unfold recV singleE
      simp only
      obtain ⟨z0, z1, z2, z3, z4, z5⟩ := HRQ.out.cells
      simp only [kindP] at z0 z1 z2 z3 z4 z5
      have f0 := HRQ.out.free 0
      have f1 := HRQ.out.free 1
      have f2 := HRQ.out.free 2
      have f3 := HRQ.out.free 3
      have f4 := HRQ.out.free 4
      have f5 := HRQ.out.free 5
      go_wp2
      (try simp only [Exit.inBlock, Exit.then])
      have hq7 := HRQ.out.put (singleE 1 (x1, x2))
      have hq8 := below_put HBQ.out (Nat.le_refl w.heap.size) (singleE 1 (x1, x2))
      simp only [singleE] at hq7 hq8
      refine bodyPost_ret (results_cell_row rfl _ _ w.heap.size 35 _ (0, 0) _ rfl hq7 Tryz.underlying35 rfl (by kernel_rfl)) rfl ⟨?_, hq8⟩
      rw [HF.out]; rfl
    · have HF1 : Hid (r = lineF s t (x1, x2)) := by unfold Hid; rw [HF0.out, if_neg h35]
      have q35 : (t[0] == 35) = false := by simp [h35]
      rw [q35] at KH
      clear HF0 q35 h35
      have KSK := Lib.hid (fun w => skip_impl t w (by omega))
      have hsk := skipE_size t
      unfold lineF at HF1
      generalize skipE t = y at *
      have KCUT := Lib.hid (fun w => cutAt_impl y ⟨#[61]⟩ w (by omega) (by decide))
      rw [restO_res] at KCUT
      have hro := restO_size y
      generalize restO y = ro at *
      obtain ⟨ra, rb, ok⟩ := ro
      simp only at KCUT hro HF1
      have KTR := Lib.hid (fun w => trimE_impl ra w (by omega))
      have hta := trimE_size ra
      generalize trimE ra = key at *
      have KN := Lib.hid (fun w => nameOk_impl key w (by omega))
      go_wp2_with fail
      refine (KH.out _).mono ?_
      rintro e w5 ⟨rfl, rfl⟩
      clear KH
      go_wp2_with fail
      refine (KSK.out _).mono ?_
      rintro e w5 ⟨rfl, hb5⟩
      replace HR := Lib.hid (HR.out.over hb5 n4)
      replace HL := Lib.hid (HL.out.over hb5 n5)
      replace HB := Lib.hid (HB.out.trans (hb5.mono HB.out.size))
      replace n4 := Nat.lt_of_lt_of_le n4 hb5.size
      replace n5 := Nat.lt_of_lt_of_le n5 hb5.size
      clear KSK hb5
      go_wp2_with fail
      refine (KCUT.out _).mono ?_
      rintro e w6 ⟨rfl, nd, rfl⟩
      have hb6 : Below w5.heap.size w5 (w5.drewN nd) := _root_.Go.below_drewN (Below.refl _ _) nd
      replace HR := Lib.hid (HR.out.over hb6 n4)
      replace HL := Lib.hid (HL.out.over hb6 n5)
      replace HB := Lib.hid (HB.out.trans (hb6.mono HB.out.size))
      replace n4 := Nat.lt_of_lt_of_le n4 hb6.size
      replace n5 := Nat.lt_of_lt_of_le n5 hb6.size
      clear KCUT hb6
      generalize w5.drewN nd = w6 at *
      go_wp2_with fail
      refine (KTR.out _).mono ?_
      rintro e w7 ⟨rfl, hb7⟩
      replace HR := Lib.hid (HR.out.over hb7 n4)
      replace HL := Lib.hid (HL.out.over hb7 n5)
      replace HB := Lib.hid (HB.out.trans (hb7.mono HB.out.size))
      replace n4 := Nat.lt_of_lt_of_le n4 hb7.size
      replace n5 := Nat.lt_of_lt_of_le n5 hb7.size
      clear KTR hb7
      cases ok
      · have HF : Hid (r = singleE 4 (x1, x2)) := by unfold Hid; rw [HF1.out, Bool.false_and, if_neg (by decide)]
        clear HF1 KN
        have KSI := Lib.hid (single_impl 4 (x1, x2) _ bl HL.out (by simp only; omega))
        go_wp2_with fail
        refine KSI.out.mono ?_
        rintro e w9 ⟨rfl, hb9⟩
        have HRQ := Lib.hid (HR.out.over hb9 n4)
        have HBQ := Lib.hid (HB.out.trans (hb9.mono HB.out.size))
        clear KSI hb9 HB HR HL n4 n5
        unfold recV singleE
        simp only
        obtain ⟨z0, z1, z2, z3, z4, z5⟩ := HRQ.out.cells
        simp only [kindP] at z0 z1 z2 z3 z4 z5
        have f0 := HRQ.out.free 0
        have f1 := HRQ.out.free 1
        have f2 := HRQ.out.free 2
        have f3 := HRQ.out.free 3
        have f4 := HRQ.out.free 4
        have f5 := HRQ.out.free 5
        go_wp2
        (try simp only [Exit.inBlock, Exit.then])
        have hq7 := HRQ.out.put (singleE 4 (x1, x2))
        have hq8 := below_put HBQ.out (Nat.le_refl w.heap.size) (singleE 4 (x1, x2))
        simp only [singleE] at hq7 hq8
        refine bodyPost_ret (results_cell_row rfl _ _ w.heap.size 35 _ (0, 0) _ rfl hq7 Tryz.underlying35 rfl (by kernel_rfl)) rfl ⟨?_, hq8⟩
        rw [HF.out]; rfl
      · have HF2 : Hid (r = if nameB key then pairF s key (start5 (s.extract (x1.size - rb.size) s.size)) (x1, x2) else singleE 4 (x1, x2)) := by unfold Hid; rw [HF1.out, Bool.true_and]
        clear HF1
        go_wp2_with fail
        refine (KN.out _).mono ?_
        rintro e w8 ⟨rfl, hb8⟩
        replace HR := Lib.hid (HR.out.over hb8 n4)
        replace HL := Lib.hid (HL.out.over hb8 n5)
        replace HB := Lib.hid (HB.out.trans (hb8.mono HB.out.size))
        replace n4 := Nat.lt_of_lt_of_le n4 hb8.size
        replace n5 := Nat.lt_of_lt_of_le n5 hb8.size
        clear KN hb8
        generalize nameB key = nk at *
        cases nk
        · have HF : Hid (r = singleE 4 (x1, x2)) := by unfold Hid; rw [HF2.out, if_neg (by decide)]
          clear HF2
          have KSI := Lib.hid (single_impl 4 (x1, x2) _ bl HL.out (by simp only; omega))
          go_wp2_with fail
          refine KSI.out.mono ?_
          rintro e w9 ⟨rfl, hb9⟩
          have HRQ := Lib.hid (HR.out.over hb9 n4)
          have HBQ := Lib.hid (HB.out.trans (hb9.mono HB.out.size))
          clear KSI hb9 HB HR HL n4 n5
          unfold recV singleE
          simp only
          obtain ⟨z0, z1, z2, z3, z4, z5⟩ := HRQ.out.cells
          simp only [kindP] at z0 z1 z2 z3 z4 z5
          have f0 := HRQ.out.free 0
          have f1 := HRQ.out.free 1
          have f2 := HRQ.out.free 2
          have f3 := HRQ.out.free 3
          have f4 := HRQ.out.free 4
          have f5 := HRQ.out.free 5
          go_wp2
          (try simp only [Exit.inBlock, Exit.then])
          have hq7 := HRQ.out.put (singleE 4 (x1, x2))
          have hq8 := below_put HBQ.out (Nat.le_refl w.heap.size) (singleE 4 (x1, x2))
          simp only [singleE] at hq7 hq8
          refine bodyPost_ret (results_cell_row rfl _ _ w.heap.size 35 _ (0, 0) _ rfl hq7 Tryz.underlying35 rfl (by kernel_rfl)) rfl ⟨?_, hq8⟩
          rw [HF.out]; rfl
        · have HF3 : Hid (r = pairF s key (start5 (s.extract (x1.size - rb.size) s.size)) (x1, x2)) := by unfold Hid; rw [HF2.out, if_pos rfl]
          clear HF2
          have hez : (s.extract (x1.size - rb.size) s.size).size ≤ s.size := by rw [ByteArray.size_extract]; omega
          have KT2 := Lib.hid (fun w => trimStart_impl (s.extract (x1.size - rb.size) s.size) w)
          have hus := start5_size (s.extract (x1.size - rb.size) s.size)
          unfold pairF at HF3
          generalize start5 (s.extract (x1.size - rb.size) s.size) = u at *
          have KRE := Lib.hid (fun w => readEnv_impl u w (by omega))
          have hre := readE_size u
          generalize readE u = re at *
          obtain ⟨val, rest, fine⟩ := re
          simp only at KRE HF3 hre
          have KBL := Lib.hid (fun w => behindLine_impl rest w (by omega))
          have KSU := Lib.hid (fun w => Any.strings_TrimSuffix lays102 s (behindL rest) w (by omega))
          have HCE : Hid ((⟨(Lib.trimSuffix s.data.toList (behindL rest).data.toList).toArray⟩ : ByteArray) = cutEnd s (behindL rest)) := rfl
          rw [HCE.out] at KSU
          generalize cutEnd s (behindL rest) = raw at *
          generalize behindL rest = bh at *
          clear HCE
          obtain ⟨l0, l1⟩ := HL.out.cells
          simp only at l0 l1
          have q1 : (0 : Int) ≤ (x1.size : Int) - (rb.size : Int) := by omega
          have q2 : (x1.size : Int) - (rb.size : Int) ≤ (s.size : Int) := by omega
          have q3 : ((x1.size : Int) - (rb.size : Int)).toNat = x1.size - rb.size := by omega
          go_wp2_with fail
          refine (KT2.out _).mono ?_
          rintro e w5 ⟨rfl, hb5⟩
          clear l0 l1
          replace HR := Lib.hid (HR.out.over hb5 n4)
          replace HL := Lib.hid (HL.out.over hb5 n5)
          replace HB := Lib.hid (HB.out.trans (hb5.mono HB.out.size))
          replace n4 := Nat.lt_of_lt_of_le n4 hb5.size
          replace n5 := Nat.lt_of_lt_of_le n5 hb5.size
          clear KT2 hb5 q1 q2 q3
          go_wp2_with fail
          refine (KRE.out _).mono ?_
          rintro e w6 ⟨rfl, hb6⟩
          replace HR := Lib.hid (HR.out.over hb6 n4)
          replace HL := Lib.hid (HL.out.over hb6 n5)
          replace HB := Lib.hid (HB.out.trans (hb6.mono HB.out.size))
          replace n4 := Nat.lt_of_lt_of_le n4 hb6.size
          replace n5 := Nat.lt_of_lt_of_le n5 hb6.size
          clear KRE hb6
          cases fine
          · have HF : Hid (r = singleE 4 (x1, x2)) := by unfold Hid; rw [HF3.out, if_neg (by decide)]
            clear HF3 KBL KSU
            have KSI := Lib.hid (single_impl 4 (x1, x2) _ bl HL.out (by simp only; omega))
            go_wp2_with fail
            refine KSI.out.mono ?_
            rintro e w9 ⟨rfl, hb9⟩
            have HRQ := Lib.hid (HR.out.over hb9 n4)
            have HBQ := Lib.hid (HB.out.trans (hb9.mono HB.out.size))
            clear KSI hb9 HB HR HL n4 n5
            unfold recV singleE
            simp only
            obtain ⟨z0, z1, z2, z3, z4, z5⟩ := HRQ.out.cells
            simp only [kindP] at z0 z1 z2 z3 z4 z5
            have f0 := HRQ.out.free 0
            have f1 := HRQ.out.free 1
            have f2 := HRQ.out.free 2
            have f3 := HRQ.out.free 3
            have f4 := HRQ.out.free 4
            have f5 := HRQ.out.free 5
            go_wp2
            (try simp only [Exit.inBlock, Exit.then])
            have hq7 := HRQ.out.put (singleE 4 (x1, x2))
            have hq8 := below_put HBQ.out (Nat.le_refl w.heap.size) (singleE 4 (x1, x2))
            simp only [singleE] at hq7 hq8
            refine bodyPost_ret (results_cell_row rfl _ _ w.heap.size 35 _ (0, 0) _ rfl hq7 Tryz.underlying35 rfl (by kernel_rfl)) rfl ⟨?_, hq8⟩
            rw [HF.out]; rfl
          · have HF : Hid (r = ⟨3, raw, ⟨#[]⟩, key, val, 0⟩) := by unfold Hid; rw [HF3.out, if_pos rfl]
            clear HF3 HL n5
            go_wp2_with fail
            refine (KBL.out _).mono ?_
            rintro e w7 ⟨rfl, hb7⟩
            replace HR := Lib.hid (HR.out.over hb7 n4)
            replace HB := Lib.hid (HB.out.trans (hb7.mono HB.out.size))
            clear KBL hb7 n4
            obtain ⟨z0, z1, z2, z3, z4, z5⟩ := HR.out.cells
            simp only [kindP] at z0 z1 z2 z3 z4 z5
            have f0 := HR.out.free 0
            have f1 := HR.out.free 1
            have f2 := HR.out.free 2
            have f3 := HR.out.free 3
            have f4 := HR.out.free 4
            have f5 := HR.out.free 5
            go_wp2_with fail
            refine (KSU.out _).mono ?_
            rintro e w8 ⟨rfl, rfl⟩
            clear KSU
            go_wp2
            (try simp only [Exit.inBlock, Exit.then])
            have hq7 := HR.out.put ⟨3, raw, ⟨#[]⟩, key, val, 0⟩
            have hq8 := below_put HB.out (Nat.le_refl w.heap.size) ⟨3, raw, ⟨#[]⟩, key, val, 0⟩
            try simp only at hq7 hq8
            refine bodyPost_ret (results_cell_row rfl _ _ w.heap.size 35 _ (0, 0) _ rfl hq7 Tryz.underlying35 rfl (by kernel_rfl)) rfl ⟨?_, hq8⟩
            rw [HF.out]; rfl

end Go.Proofs.YtkhkpjnpjgnckaaGreatDoor
