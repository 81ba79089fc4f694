/- Escapes taken back: the program's loop, and its Unescape. -/
import Derived.Test.YtkhkpjnpjgnckaaDoorProg
import Derived.Test.YtkhkpjnpjgnckaaDoorPlain
import Derived.Test.YtkhkpjnpjgnckaaDoorCut
import Derived.Test.YtkhkpjnpjgnckaaDoorTrim
import Derived.Test.YtkhkpjnpjgnckaaDoorBuild
import Derived.Test.YtkhkpjnpjgnckaaDoorDialectRows
import Derived.Test.YtkhkpjnpjgnckaaDoorUnescSpec
import Derived.Test.YtkhkpjnpjgnckaaDoorUnescImpl
import Derived.WalkKit
import Derived.WalkLawsBesides
import Derived.Tactics
import Derived.Tactics2
import Derived.Defers
import Derived.Recover
import Derived.Laws.IdiomStrings
import Derived.Lib.Hide
import Derived.IntWalk
set_option maxRecDepth 100000
namespace Go.Proofs.YtkhkpjnpjgnckaaDoor
open Go.RowKit
set_option linter.unusedVariables false

abbrev backB : ByteArray := ⟨#[92]⟩
theorem back_has (c : UInt8) : hasB backB c = (c == 92) := by
  unfold hasB
  simp only [List.contains_cons, List.contains_nil, Bool.or_false]
theorem unE_skip : ∀ (p r : List UInt8), (∀ x, x ∈ p → x ≠ 92) → unE (p ++ r) = (unE r).map (p ++ ·) := by
  intro p
  induction p with
  | nil => intro r _; show unE r = _; cases unE r <;> rfl
  | cons c p ih =>
    intro r h
    rw [List.cons_append, unE_plain _ (h c (by simp)), ih r (fun x hx => h x (by simp [hx]))]
    cases unE r <;> rfl
/-- where it stands: l is written, t is to be read -/
def UnTo (all l t : List UInt8) : Prop := unE all = (unE t).map (l ++ ·)
theorem unTo_start (t : List UInt8) : UnTo t [] t := by
  unfold UnTo
  cases unE t <;> rfl
theorem first_none {s : ByteArray} (h : ¬ firstIn (hasB backB) s < s.size) : ∀ x, x ∈ s.data.toList → x ≠ 92 := by
  intro x hx e
  apply h
  unfold firstIn
  rw [Lib.size_eq, List.findIdx_lt_length]
  exact ⟨x, hx, by rw [back_has, e]; rfl⟩
theorem first_some {s : ByteArray} (h : firstIn (hasB backB) s < s.size) :
    s.data.toList = s.data.toList.take (firstIn (hasB backB) s) ++ 92 :: s.data.toList.drop (firstIn (hasB backB) s + 1) ∧ ∀ x, x ∈ s.data.toList.take (firstIn (hasB backB) s) → x ≠ 92 := by
  have hl : firstIn (hasB backB) s < s.data.toList.length := by rw [← Lib.size_eq]; exact h
  have hp : hasB backB (s.data.toList[firstIn (hasB backB) s]) = true := List.findIdx_getElem (p := hasB backB)
  have e : s.data.toList[firstIn (hasB backB) s] = 92 := by rw [back_has] at hp; simpa using hp
  refine ⟨?_, ?_⟩
  · conv => lhs; rw [← List.take_append_drop (firstIn (hasB backB) s) s.data.toList, List.drop_eq_getElem_cons hl, e]
  · intro x hx e2
    obtain ⟨j, hj, rfl⟩ := List.getElem_of_mem hx
    rw [List.length_take] at hj
    have h2 : hasB backB (s.data.toList[j]'(by omega)) = false := by
      have := List.not_of_lt_findIdx (p := hasB backB) (xs := s.data.toList) (i := j) (by unfold firstIn at hj; omega)
      simpa using this
    rw [back_has] at h2
    rw [List.getElem_take] at e2
    simp [e2] at h2
theorem unTo_end {all l : List UInt8} {t : ByteArray} (h : UnTo all l t.data.toList) (hn : ¬ firstIn (hasB backB) t < t.size) : unE all = some (l ++ t.data.toList) := by
  unfold UnTo at h
  rw [h]
  have := unE_skip t.data.toList [] (first_none hn)
  rw [List.append_nil] at this
  rw [this, unE_nil]
  simp
theorem unTo_good {all l : List UInt8} {t : ByteArray} {b : UInt8} (h : UnTo all l t.data.toList) (hn : firstIn (hasB backB) t < t.size) (hb : escO (t.data.toList.drop (firstIn (hasB backB) t + 1)) = some b) :
    UnTo all (l ++ t.data.toList.take (firstIn (hasB backB) t) ++ [b]) (t.data.toList.drop (firstIn (hasB backB) t + 2)) := by
  obtain ⟨h1, h2⟩ := first_some hn
  generalize hk : firstIn (hasB backB) t = k at *
  unfold UnTo at *
  have e : t.data.toList.drop (k + 2) = (t.data.toList.drop (k + 1)).drop 1 := by rw [List.drop_drop]
  rw [e]
  rw [h1, unE_skip _ _ h2] at h
  rw [h]
  cases hd : t.data.toList.drop (k + 1) with
  | nil => rw [hd] at hb; cases hb
  | cons c u =>
    rw [hd] at hb
    rw [unE_esc u hb]
    simp only [List.drop_succ_cons, List.drop_zero]
    cases unE u with
    | none => simp
    | some x => simp
theorem unTo_bad {all l : List UInt8} {t : ByteArray} (h : UnTo all l t.data.toList) (hn : firstIn (hasB backB) t < t.size) (hb : escO (t.data.toList.drop (firstIn (hasB backB) t + 1)) = none) : unE all = none := by
  obtain ⟨h1, h2⟩ := first_some hn
  generalize hk : firstIn (hasB backB) t = k at *
  unfold UnTo at *
  rw [h1, unE_skip _ _ h2] at h
  rw [h]
  cases hd : t.data.toList.drop (k + 1) with
  | nil => rw [unE_end]; rfl
  | cons c u =>
    rw [hd] at hb
    rw [unE_bad u hb]
    rfl
theorem drop_data (t : ByteArray) (k : Nat) : (t.extract k t.size).data.toList = t.data.toList.drop k := by
  rw [Lib.extract_eq]
  simp only [Lib.size_eq]
  rw [List.take_of_length_le (by simp)]
theorem take_data (t : ByteArray) (k : Nat) : (t.extract 0 k).data.toList = t.data.toList.take k := by
  rw [Lib.extract_eq]
  simp

/-- how the loop ends -/
def UnEnd (s : ByteArray) (e : Ending) : Prop := (∃ l, unE s.data.toList = some l ∧ e = .returned (.string ⟨l.toArray⟩)) ∨ (unE s.data.toList = none ∧ Paniced e)

set_option maxRecDepth 100000 in
set_option maxHeartbeats 3200000 in
theorem replaceEscapes_impl (s : ByteArray) (w : World) (hs : s.size ≤ 1048576) :
    Calls Tryd.prog 34 #[.string s] w fun e w' => UnEnd s e ∧ Below w.heap.size w w' := by
  have h0 : BuiltF w.heap.size w.heap.size [] (w.alloc (.cells #[.pointer none, .slice none 0 0] 59)) := Lib.IsBuilderF.of (Lib.fresh_isBuilder 59 5 w)
  have H0 := Lib.hid h0
  clear h0
  go_enter Tryd.func34, Tryd.ntmps34
  go_wp2
  go_loopw [0] (fun x wr => ∃ (t : ByteArray) (l : List UInt8), x = .string t ∧ Hid (UnTo s.data.toList l t.data.toList ∧ l.length + t.size ≤ s.size) ∧ t.size ≤ 1048576 ∧ Hid (BuiltF w.heap.size w.heap.size l wr) ∧ w.heap.size < wr.heap.size ∧ Below w.heap.size w wr) (fun x _ => match x with | .string t => t.size | _ => 0)
  case atStart => exact ⟨s, [], rfl, ⟨unTo_start _, by simp⟩, hs, H0, by simp, (Below.refl _ _).alloc (Nat.le_refl _) _⟩
  case round =>
    obtain ⟨t, l, rfl, HU, ht, hB, hsz, hb⟩ := hrel
    clear H0
    have KC := Lib.hid (fun w => cutAt_impl t backB w ht (by decide))
    by_cases hf : firstIn (hasB backB) t < t.size
    · have hr : Hid (cutRes t (firstIn (hasB backB) t) = .tuple #[.string (t.extract 0 (firstIn (hasB backB) t)), .string (t.extract (firstIn (hasB backB) t + 1) t.size), .bool true]) := by unfold Hid cutRes; rw [if_pos hf]
      rw [hr.out] at KC
      have GOOD := Lib.hid (fun b => unTo_good (b := b) HU.out.1 hf)
      have BAD := Lib.hid (unTo_bad HU.out.1 hf)
      have hlen := HU.out.2
      clear hr HU
      generalize firstIn (hasB backB) t = k at *
      have e1 : Hid ((t.extract (k + 1) t.size).size + (k + 1) = t.size) := by unfold Hid; rw [ByteArray.size_extract]; omega
      have e0 : Hid ((t.extract 0 k).size = k) := by unfold Hid; rw [ByteArray.size_extract]; omega
      have d1 := Lib.hid (drop_data t (k + 1))
      have d0 := Lib.hid (take_data t k)
      rw [← d1.out] at GOOD BAD
      rw [← d0.out] at GOOD
      have d2 : Hid (t.data.toList.drop (k + 2) = (t.extract (k + 1) t.size).data.toList.drop 1) := by
        unfold Hid
        rw [d1.out, List.drop_drop]
      rw [d2.out] at GOOD
      clear d1 d0 d2
      generalize t.extract (k + 1) t.size = rest at *
      generalize t.extract 0 k = plain at *
      go_wp2_with fail
      refine (KC.out _).mono ?_
      rintro e w1 ⟨rfl, n, rfl⟩
      have hbn : Below wr.heap.size wr (wr.drewN n) := below_drewN (Below.refl _ _) n
      have hB1 := builtU_over hB.out hbn
      have hb1 := hb.trans (hbn.mono hb.size)
      have hz1 := Nat.lt_of_lt_of_le hsz hbn.size
      generalize wr.drewN n = w1 at *
      clear hbn hB hb hsz KC
      go_wp2_with fail
      refine (built_write w.heap.size w.heap.size l plain _ hB1 (by have := e0.out; omega) (by omega)).mono ?_
      rintro e w2 ⟨rfl, hB2, hb2, _⟩
      have hB2' := Lib.hid hB2
      have hb2' := hb1.trans hb2
      have hz2 := Nat.lt_of_lt_of_le hz1 hb2.size
      clear hB1 hb2 hz1 hb1 hB2
      cases hE : escO rest.data.toList with
      | none =>
        have HN : Hid (unE s.data.toList = none) := BAD.out hE
        have HE := Lib.hid hE
        clear GOOD BAD hE
        go_wp2_with fail
        refine (escByte_bad rest _ HE.out (by have := e1.out; omega)).mono ?_
        rintro e w3 ⟨⟨v, rfl⟩, rfl⟩
        go_wp2
        exact ⟨rfl, .inr ⟨HN.out, _, rfl⟩, hb2'⟩
      | some b =>
        have HG := Lib.hid (GOOD.out b hE)
        have hrs : 0 < rest.size := by
          have h3 := Lib.size_eq rest
          cases h : rest.data.toList with
          | nil => rw [h] at hE; cases hE
          | cons c u => rw [h, List.length_cons] at h3; omega
        have HE := Lib.hid hE
        clear GOOD BAD hE
        go_wp2_with fail
        refine (escByte_good rest b _ HE.out (by have := e1.out; omega)).mono ?_
        rintro e w3 ⟨rfl, rfl⟩
        go_wp2_with fail
        refine (built_byte w.heap.size w.heap.size _ b _ hB2'.out (by have := e0.out; rw [List.length_append, ← Lib.size_eq]; omega) (by omega)).mono ?_
        rintro e w4 ⟨rfl, hB4, hb4, _⟩
        have HB4 := Lib.hid hB4
        have hb4' := hb2'.trans hb4
        have hz4 := Nat.lt_of_lt_of_le hz2 hb4.size
        have hr1 : (rest.extract 1 rest.size).size = rest.size - 1 := by rw [ByteArray.size_extract]; omega
        have HG2 : Hid (UnTo s.data.toList (l ++ plain.data.toList ++ [b]) (rest.extract 1 rest.size).data.toList ∧ (l ++ plain.data.toList ++ [b]).length + (rest.extract 1 rest.size).size ≤ s.size) := by
          refine ⟨?_, ?_⟩
          · rw [drop_data]; exact HG.out
          · rw [hr1, List.length_append, List.length_append, ← Lib.size_eq, List.length_cons, List.length_nil]; have := e0.out; have := e1.out; omega
        have hr2 : (rest.extract 1 rest.size).size ≤ 1048576 := by rw [hr1]; have := e1.out; omega
        have hr3 : Hid ((rest.extract 1 rest.size).size < t.size) := by unfold Hid; rw [hr1]; have := e1.out; omega
        clear hr1
        have q1 : (1 : Int) ≤ (rest.size : Int) := by omega
        clear hB4 hb4 hB2' hb2' hz2 HE HG
        go_wp2
        go_roundw
        case rel => exact ⟨_, _, rfl, HG2, hr2, HB4, hz4, hb4'⟩
        case measure => exact hr3.out
    · have hr : Hid (cutRes t (firstIn (hasB backB) t) = .tuple #[.string t, .string ⟨#[]⟩, .bool false]) := by unfold Hid cutRes; rw [if_neg hf]
      rw [hr.out] at KC
      have HN := Lib.hid (unTo_end HU.out.1 hf)
      have hlen := HU.out.2
      clear hr HU hf
      go_wp2_with fail
      refine (KC.out _).mono ?_
      rintro e w1 ⟨rfl, n, rfl⟩
      have hbn : Below wr.heap.size wr (wr.drewN n) := below_drewN (Below.refl _ _) n
      have hB1 := builtU_over hB.out hbn
      have hb1 := hb.trans (hbn.mono hb.size)
      have hz1 := Nat.lt_of_lt_of_le hsz hbn.size
      generalize wr.drewN n = w1 at *
      clear hbn hB hb hsz KC
      go_wp2_with fail
      refine (built_write w.heap.size w.heap.size l t _ hB1 (by omega) (by omega)).mono ?_
      rintro e w2 ⟨rfl, hB2, hb2, _⟩
      have hB2' := Lib.hid hB2
      have hb2' := hb1.trans hb2
      have hz2 := Nat.lt_of_lt_of_le hz1 hb2.size
      clear hB1 hb2 hz1 hb1 hB2
      go_wp2_with fail
      refine (built_string w.heap.size w.heap.size _ _ hB2'.out (by omega)).mono ?_
      rintro e w3 ⟨rfl, _, hb3, _⟩
      have hb5 := hb2'.trans hb3
      clear hB2' hb3 hb2'
      go_wp2
      go_ret
      exact ⟨.inl ⟨_, HN.out, rfl⟩, hb5⟩

end Go.Proofs.YtkhkpjnpjgnckaaDoor
