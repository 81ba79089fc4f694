/- Lines that a mark joins: the program's joinMarked. -/
import Derived.Test.YtcphmgdeigbemaaDoorProg
import Derived.Test.YtcphmgdeigbemaaDoorPlain
import Derived.Test.YtcphmgdeigbemaaDoorTail
import Derived.Test.YtcphmgdeigbemaaDoorLines
import Derived.Test.YtcphmgdeigbemaaDoorLinesArg
import Derived.Test.YtcphmgdeigbemaaDoorBuild
import Derived.Test.YtcphmgdeigbemaaDoorJoin
import Derived.Test.YtcphmgdeigbemaaDoorBareSpec
import Derived.Test.YtcphmgdeigbemaaDoorQuotSpec
import Derived.Test.YtcphmgdeigbemaaDoorBareImpl
import Derived.Test.YtcphmgdeigbemaaDoorBareRun
import Derived.Test.YtcphmgdeigbemaaDoorQuotImpl
import Derived.Test.YtcphmgdeigbemaaDoorTakeImpl
import Derived.WalkKit
import Derived.WalkLawsBesides
import Derived.Laws.IdiomStrings
import Derived.Lib.Hide
import Derived.IntWalk
import Derived.Outline
set_option maxRecDepth 100000
namespace Go.Proofs.YtcphmgdeigbemaaDoor
open Go.RowKit
set_option linter.unusedVariables false

/-! a builder kept over what happens above -/
theorem builtAt_overM {T e B b : Nat} {p : Value} {bs : List Value} {w w' : World} (h : Lib.BuilderAtF T e B b p bs w) (hb : Below w.heap.size w w') : Lib.BuilderAtF T e B b p bs w' := by
  obtain ⟨hB, v, hbk, hown, hne⟩ := h
  refine ⟨hB, v, (hb.block b (Array.getElem?_eq_some_iff.1 hbk).1).trans hbk, ⟨hown.1, ?_⟩, hne⟩
  rcases hown.2 with h2 | ⟨g, cap, cur, fz, hv, hg0, hg, h5, h6, h7, h8, h9⟩
  · exact .inl h2
  · exact .inr ⟨g, cap, cur, fz, hv, hg0, (hb.block g (Array.getElem?_eq_some_iff.1 hg).1).trans hg, h5, h6, h7, h8, h9⟩
theorem built_overM {B b : Nat} {l : List UInt8} {w w' : World} (h : BuiltF B b l w) (hb : Below w.heap.size w w') : BuiltF B b l w' := by
  rcases h with h | h
  · exact .inl (builtAt_overM h hb)
  · exact .inr (builtAt_overM h hb)

/-- a text without its last byte -/
def butLast (s : ByteArray) : ByteArray := s.extract 0 (s.size - 1)
abbrev slashB : ByteArray := ⟨#[92]⟩
theorem tail_last (s : ByteArray) (h : tailN s ≠ 0) : 0 < s.size ∧ s.extract (s.size - 1) s.size = slashB := by
  unfold tailN at h
  rcases List.eq_nil_or_concat s.data.toList with h0 | ⟨i, c, h0⟩
  · rw [h0] at h; simp at h
  · rw [List.concat_eq_append] at h0
    have hz : s.size = i.length + 1 := by rw [Lib.size_eq, h0]; simp
    rw [h0, List.reverse_append] at h
    simp only [List.reverse_cons, List.reverse_nil, List.nil_append, List.cons_append, List.takeWhile_cons] at h
    have hc : c = 92 := by
      cases hcc : (c == 92)
      · rw [hcc] at h; simp at h
      · simpa using hcc
    refine ⟨by omega, same_data ?_⟩
    rw [ext_data, h0, hz, hc]
    simp
set_option maxHeartbeats 1600000 in
theorem hasSlash_any (s : ByteArray) (w : World) (hs : s.size ≤ 1048576) (h0 : 0 < s.size) (he : s.extract (s.size - 1) s.size = slashB) :
    Calls Tryd.prog 104 #[.string s, .string slashB] w fun e w' => e = .returned (.bool true) ∧ w = w' := by
  have h1 : (1 : Int) ≤ (s.size : Int) := by omega
  have h2 : ((s.size : Int) - 1).toNat = s.size - 1 := by omega
  have h3 : (s.size : Int) - 1 ≤ (s.size : Int) := by omega
  have h4 : (0 : Int) ≤ (s.size : Int) - 1 := by omega
  have h5 : ((s.extract (s.size - 1) s.size).toList == [92]) = true := by rw [he, Lib.toList_data]; rfl
  have h6 : Hid (s.extract (s.size - 1) s.size = slashB) := he
  clear he
  go_enter Tryd.func104, Tryd.ntmps104
  go_wp2
  go_ret
  exact ⟨rfl, rfl⟩
set_option maxHeartbeats 1600000 in
theorem trimSlash_lite (s : ByteArray) (w : World) (hs : s.size ≤ 1048576) (h0 : 0 < s.size) (he : s.extract (s.size - 1) s.size = slashB) :
    Calls Tryd.prog 94 #[.string s, .string slashB] w fun e w' => e = .returned (.string (butLast s)) ∧ w = w' := by
  have K := Lib.hid (fun w => hasSlash_any s w hs h0 he)
  have h1 : (1 : Int) ≤ (s.size : Int) := by omega
  have h2 : ((s.size : Int) - 1).toNat = s.size - 1 := by omega
  have h3 : (s.size : Int) - 1 ≤ (s.size : Int) := by omega
  have h4 : (0 : Int) ≤ (s.size : Int) - 1 := by omega
  have HV : Hid (butLast s = s.extract 0 (s.size - 1)) := rfl
  clear he
  go_enter Tryd.func94, Tryd.ntmps94
  go_wp2_with fail
  refine (K.out _).mono ?_
  rintro e w' ⟨rfl, rfl⟩
  go_wp2
  go_ret
  exact ⟨by rw [HV.out]; rfl, rfl⟩
theorem trimSlash_any (s : ByteArray) (w : World) (hs : s.size ≤ 1048576) (h : tailN s ≠ 0) :
    Calls Tryd.prog 80 #[.string s, .string slashB] w fun e w' => e = .returned (.string (butLast s)) ∧ w = w' := by
  have K := Lib.hid (fun w => trimSlash_lite s w hs (tail_last s h).1 (tail_last s h).2)
  generalize butLast s = x at *
  go_enter Tryd.func80, Tryd.ntmps80
  go_wp2_with fail
  refine (K.out _).mono ?_
  rintro e w' ⟨rfl, rfl⟩
  go_wp2
  go_ret
  exact ⟨rfl, rfl⟩

/-- lines joined by a mark: their text, and how many they are -/
def jmI : List Ln → List UInt8 × Nat
  | [] => ([], 0)
  | x :: r => if x.2.size = 0 ∨ tailN (start5 x.1) % 2 = 0 then ((start5 x.1).data.toList, 1) else ((butLast (start5 x.1)).data.toList ++ (jmI r).1, (jmI r).2 + 1)
theorem jmI_len (l : List Ln) : (jmI l).1.length ≤ (joinB l).length := by
  induction l with
  | nil => exact Nat.le_refl _
  | cons x r ih =>
    have h1 := start5_size x.1
    have h2 : (joinB (x :: r)).length = x.1.size + x.2.size + (joinB r).length := by
      simp only [joinB, List.flatMap_cons, List.length_append, ← Lib.size_eq]
    have h3 : (butLast (start5 x.1)).size ≤ (start5 x.1).size := by unfold butLast; rw [ByteArray.size_extract]; omega
    unfold jmI
    split
    · simp only [← Lib.size_eq]; omega
    · simp only [List.length_append, ← Lib.size_eq]; omega
theorem jmI_count (l : List Ln) : (jmI l).2 ≤ l.length ∧ (l ≠ [] → 1 ≤ (jmI l).2) := by
  induction l with
  | nil => exact ⟨Nat.le_refl _, fun h => absurd rfl h⟩
  | cons x r ih =>
    unfold jmI
    split
    · simp
    · simp only [List.length_cons]; omega
/-- its text, as a text -/
def jmT (l : List Ln) : ByteArray := ⟨(jmI l).1.toArray⟩
theorem drop_at (l : List Ln) (k : Nat) (h : k < l.length) : l.drop k = l[k] :: l.drop (k + 1) := List.drop_eq_getElem_cons h

set_option maxHeartbeats 3200000 in
theorem joinMarked_impl (w : World) (u : Value) (g o : Nat) (l : List Ln) (hu : LinesRd w u g o l) (hl : costL l ≤ 1048576) (hg : l ≠ [] → g < w.heap.size) :
    Calls Tryd.prog 64 #[u] w fun e w' => e = .returned (.tuple #[.string (jmT l), .int .i64 (((jmI l).2 : Nat) : Int)]) ∧ Below w.heap.size w w' := by
  obtain ⟨a, cap, rfl, ha⟩ := hu.form
  have hll : l.length ≤ 1048576 := by have := joinB_len l; omega
  have CU := Lib.hid hu
  have HA := Lib.hid ha
  clear hu ha
  have h0 : BuiltF w.heap.size w.heap.size [] (w.alloc (.cells #[.pointer none, .slice none 0 0] 90)) := Lib.IsBuilderF.of (Lib.fresh_isBuilder 90 5 w)
  have H0 := Lib.hid h0
  clear h0
  have HT : Hid (jmT l = ⟨(jmI l).1.toArray⟩) := rfl
  have HL : Hid ((joinB l).length ≤ 1048576) := by unfold Hid; have := joinB_len l; omega
  have HJ := Lib.hid (jmI_len)
  have HP : Hid (∀ k (h : k < l.length), (start5 l[k].1).size ≤ 1048576) := by
    intro k h
    have := costL_at l k h
    rw [start5_size]; omega
  have HJB : Hid (∀ k, k < l.length → (joinB (l.drop k)).length ≤ 1048576) := by
    intro k h
    have h1 := joinB_len (l.drop k)
    have h2 := costL_drop l k
    omega
  generalize jmT l = jt at *
  go_enter Tryd.func64, Tryd.ntmps64
  go_wp2
  go_loopw [10] (fun i wr => ∃ (k : Nat) (z : List UInt8), k ≤ l.length ∧ i = .int .i64 k ∧ Hid (BuiltF w.heap.size w.heap.size z wr) ∧ Hid (jmI l = (z ++ (jmI (l.drop k)).1, k + (jmI (l.drop k)).2)) ∧ Hid (z.length ≤ 1048576) ∧ w.heap.size < wr.heap.size ∧ Below w.heap.size w wr) (fun i _ => l.length - (intOf i).toNat)
  case atStart => exact ⟨0, [], Nat.zero_le _, rfl, H0, by unfold Hid; simp, by unfold Hid; simp, by simp, (Below.refl _ _).alloc (Nat.le_refl _) _⟩
  case round =>
    obtain ⟨k, z, hk, rfl, hB, hz, hzl, hsz, hb⟩ := hrel
    clear H0
    by_cases hlt : k < l.length
    · have hln : l ≠ [] := by intro e; subst e; simp at hlt
      obtain rfl := HA.out hln
      have hgl := hg hln
      have q1 := (hb.cell (p := ⟨g, o + k * 2, none⟩) hgl).trans (CU.out.c0 k hlt)
      have q2 := (hb.cell (p := ⟨g, o + k * 2 + 1, none⟩) hgl).trans (CU.out.c1 k hlt)
      have HD : Hid (jmI (l.drop k) = if l[k].2.size = 0 ∨ tailN (start5 l[k].1) % 2 = 0 then ((start5 l[k].1).data.toList, 1) else ((butLast (start5 l[k].1)).data.toList ++ (jmI (l.drop (k + 1))).1, (jmI (l.drop (k + 1))).2 + 1)) := by
        unfold Hid
        rw [drop_at l k hlt]
        rfl
      have hps := HP.out k hlt
      generalize l[k] = x at *
      obtain ⟨x1, x2⟩ := x
      simp only at HD hps q1 q2
      have K0 := Lib.hid (fun w => trimStart_impl x1 w)
      have K1 := Lib.hid (fun w => tail_impl (start5 x1) w (by unfold maxLen; omega))
      have K2 := Lib.hid (fun w (h : tailN (start5 x1) ≠ 0) => trimSlash_any (start5 x1) w hps h)
      have htl := tailN_le (start5 x1)
      have hbs : (butLast (start5 x1)).size ≤ (start5 x1).size := by unfold butLast; rw [ByteArray.size_extract]; omega
      go_wp2_with fail
      have hB1 : BuiltF w.heap.size w.heap.size z (wr.alloc (.cells #[.string x1, .string x2] 72)) := hB.out.alloc _
      refine (K0.out _).mono ?_
      rintro e w1 ⟨rfl, hb1⟩
      have hB2 := Lib.hid (built_overM hB1 hb1)
      have hbl : w1.heap[wr.heap.size]? = some (.cells #[.string x1, .string x2] 72 (0, 0)) := by rw [hb1.block _ (by simp)]; exact heap_alloc_new _ _
      have c1 : w1.cell? ⟨wr.heap.size, 1, none⟩ = some (.string x2) := by rw [Lib.cell_of_heap hbl]; rfl
      have hs1 : w.heap.size < w1.heap.size := by have := hb1.size; simp at this; omega
      have hb3 := (hb.alloc (by omega) _).trans (hb1.mono (by simp; omega))
      clear hB hB1 hbl hb1 hb K0 q1 q2
      by_cases hx : x2.size = 0
      · obtain ⟨e1, e2⟩ := text_none x2 hx
        have HF : Hid (jmI l = (z ++ (start5 x1).data.toList, k + 1)) := by unfold Hid; rw [hz.out, HD.out, if_pos (.inl hx)]
        clear HD hz hx K1 K2 htl hbs
        generalize start5 x1 = p at *
        go_wp2_with fail
        refine (built_write w.heap.size w.heap.size z p _ hB2.out (by have := hzl.out; omega) (by omega)).mono ?_
        rintro e w4 ⟨rfl, hB4, hb4, _⟩
        have HB4 := Lib.hid hB4
        have hb5 := hb3.trans hb4
        have hs4 := Nat.lt_of_lt_of_le hs1 hb4.size
        clear hB4 hb4 hB2 hb3
        go_wp2_with fail
        refine (built_string w.heap.size w.heap.size (z ++ p.data.toList) _ HB4.out (by omega)).mono ?_
        rintro e w5 ⟨rfl, _, hb6, _⟩
        have hb7 := hb5.trans hb6
        clear HB4 hb6
        go_wp2
        go_ret2
        exact ⟨by rw [HT.out, HF.out]; rfl, hb7⟩
      · obtain ⟨e1, e2⟩ := text_some x2 (by omega)
        go_wp2_with fail
        refine (K1.out _).mono ?_
        rintro e w2 ⟨rfl, hb2⟩
        replace hB2 := Lib.hid (built_overM hB2.out hb2)
        replace hb3 := hb3.trans (hb2.mono (by omega))
        replace hs1 := Nat.lt_of_lt_of_le hs1 hb2.size
        clear hb2 K1 c1
        by_cases ht : tailN (start5 x1) % 2 = 0
        · have HF : Hid (jmI l = (z ++ (start5 x1).data.toList, k + 1)) := by unfold Hid; rw [hz.out, HD.out, if_pos (.inr ht)]
          have ht2 : (((tailN (start5 x1) : Int) % 2) == 0) = true := by rw [beq_iff_eq]; omega
          clear HD hz hx K2 hbs ht
          generalize tailN (start5 x1) = tn at *
          generalize start5 x1 = p at *
          go_wp2_with fail
          refine (built_write w.heap.size w.heap.size z p _ hB2.out (by have := hzl.out; omega) (by omega)).mono ?_
          rintro e w4 ⟨rfl, hB4, hb4, _⟩
          have HB4 := Lib.hid hB4
          have hb5 := hb3.trans hb4
          have hs4 := Nat.lt_of_lt_of_le hs1 hb4.size
          clear hB4 hb4 hB2 hb3
          go_wp2_with fail
          refine (built_string w.heap.size w.heap.size (z ++ p.data.toList) _ HB4.out (by omega)).mono ?_
          rintro e w5 ⟨rfl, _, hb6, _⟩
          have hb7 := hb5.trans hb6
          clear HB4 hb6
          go_wp2
          go_ret2
          exact ⟨by rw [HT.out, HF.out]; rfl, hb7⟩
        · have HF : Hid (jmI l = (z ++ (butLast (start5 x1)).data.toList ++ (jmI (l.drop (k + 1))).1, k + 1 + (jmI (l.drop (k + 1))).2)) := by
            unfold Hid
            rw [hz.out, HD.out, if_neg (by rintro (h | h); exact hx h; exact ht h)]
            simp only [List.append_assoc, Prod.mk.injEq, true_and]
            omega
          have ht2 : (((tailN (start5 x1) : Int) % 2) == 0) = false := by rw [beq_eq_false_iff_ne]; omega
          have K3 := Lib.hid (fun w => K2.out w (by omega))
          have hz2 : Hid ((z ++ (butLast (start5 x1)).data.toList).length ≤ 1048576) := by
            have h1 := HJ.out l
            rw [HF.out] at h1
            simp only [List.length_append] at h1 ⊢
            have := HL.out
            unfold Hid
            omega
          have hbs2 : (butLast (start5 x1)).size ≤ 1048576 := by omega
          clear HD hz hx K2 ht hbs
          generalize butLast (start5 x1) = bl at *
          generalize tailN (start5 x1) = tn at *
          generalize start5 x1 = p at *
          go_wp2_with fail
          refine (K3.out _).mono ?_
          rintro e w3 ⟨rfl, rfl⟩
          clear K3
          go_wp2_with fail
          refine (built_write w.heap.size w.heap.size z bl _ hB2.out (by have := hzl.out; omega) (by omega)).mono ?_
          rintro e w4 ⟨rfl, hB4, hb4, _⟩
          have HB4 := Lib.hid hB4
          have hb5 := hb3.trans hb4
          have hs4 := Nat.lt_of_lt_of_le hs1 hb4.size
          clear hB4 hb4 hB2 hb3 hzl
          go_wp2
          go_roundw
          case rel => exact ⟨k + 1, z ++ bl.data.toList, by omega, by go_num, HB4, HF, hz2, hs4, hb5⟩
          case measure => simp [intOf]; omega
    · obtain rfl : k = l.length := by omega
      have HF : Hid (jmI l = (z, l.length)) := by unfold Hid; rw [hz.out, List.drop_length]; simp [jmI]
      clear hz
      go_wp2_with fail
      refine (built_string w.heap.size w.heap.size z _ hB.out (by omega)).mono ?_
      rintro e w2 ⟨rfl, _, hb4, _⟩
      have hb5 := hb.trans hb4
      clear hB hb4
      go_wp2
      go_ret2
      exact ⟨by rw [HT.out, HF.out]; rfl, hb5⟩

end Go.Proofs.YtcphmgdeigbemaaDoor
