/- Escapes taken back: the program's contract of Unescape. -/
import Derived.Test.YtkhkpjnpjgnckaaGreatDoorProg
import Derived.Test.YtkhkpjnpjgnckaaGreatDoorPlain
import Derived.Test.YtkhkpjnpjgnckaaGreatDoorCut
import Derived.Test.YtkhkpjnpjgnckaaGreatDoorTrim
import Derived.Test.YtkhkpjnpjgnckaaGreatDoorBuild
import Derived.Test.YtkhkpjnpjgnckaaGreatDoorDialectRows
import Derived.Test.YtkhkpjnpjgnckaaGreatDoorQuotSpec
import Derived.WalkKit
import Derived.WalkLawsBesides
import Derived.Tactics
import Derived.Tactics2
import Derived.Defers
import Derived.Recover
import Derived.Lib.FrozenHead2
import Derived.Laws.IdiomStrings
import Derived.Lib.Hide
import Derived.IntWalk
import Derived.Test.YtkhkpjnpjgnckaaGreatDoorTail
import Derived.Test.YtkhkpjnpjgnckaaGreatDoorBareImpl
import Derived.BigQuiet
import Derived.Deep.QuietTactic
import Derived.Lib.QuietBelow
set_option maxRecDepth 100000
namespace Go.Proofs.YtkhkpjnpjgnckaaGreatDoor
open Go.RowKit
set_option linter.unusedVariables false

theorem builtAtU_over {T e B b : Nat} {p : Value} {bs : List Value} {w w' : World} (h : Lib.BuilderAtF T e B b p bs w) (hb : Below w.heap.size w w') : Lib.BuilderAtF T e B b p bs w' := by
  obtain ⟨hB, v, hbk, hown, hne⟩ := h
  refine ⟨hB, v, (hb.block b (Array.getElem?_eq_some_iff.1 hbk).1).trans hbk, ⟨hown.1, ?_⟩, hne⟩
  rcases hown.2 with h2 | ⟨g, cap, cur, fz, hv, hg0, hg, h5, h6, h7, h8, h9⟩
  · exact .inl h2
  · exact .inr ⟨g, cap, cur, fz, hv, hg0, (hb.block g (Array.getElem?_eq_some_iff.1 hg).1).trans hg, h5, h6, h7, h8, h9⟩
theorem builtU_over {B b : Nat} {l : List UInt8} {w w' : World} (h : BuiltF B b l w) (hb : Below w.heap.size w w') : BuiltF B b l w' := by
  rcases h with h | h
  · exact .inl (builtAtU_over h hb)
  · exact .inr (builtAtU_over h hb)

set_option maxHeartbeats 2000000 in
set_option maxRecDepth 100000 in
theorem built_byte (B b : Nat) (l : List UInt8) (c : UInt8) (w : World) (h : BuiltF B b l w) (hlen : l.length + 1 ≤ 140737488355328) (hBw : B ≤ w.heap.size) :
    Calls Tryz.prog 181 #[.pointer (some ⟨b, 0, none⟩), .int .u8 (c.toNat : Int)] w fun e w' => e = .returned .nilIface ∧ (BuiltF B b (l ++ [c]) w' ∧ Below B w w' ∧ Others b w w') := by
  obtain ⟨i0, hi, hz0, hz1, hz2⟩ := info_parts info_byteB
  have hbl : (Lib.byteCells l).length = l.length := by simp [Lib.byteCells]
  have happ : Lib.byteCells (l ++ [c]) = Lib.byteCells l ++ [.int .u8 (c.toNat : Int)] := by simp [Lib.byteCells]
  unfold BuiltF
  rw [happ]
  unfold BuiltF at h
  generalize Lib.byteCells l = bs at *
  rw [← hbl] at hlen
  clear hbl happ
  generalize (c.toNat : Int) = x at *
  go_enter Tryz.func181, Tryz.ntmps181
  go_wp2_with fail
  refine (check_any B b bs w h).mono ?_
  rintro e w1 ⟨rfl, h1, hb1, hk1⟩
  obtain ⟨hB, v, hbk, hown, hne⟩ := h1
  have c0 : w1.cell? ⟨b, 0, none⟩ = some (.pointer (some ⟨b, 0, none⟩)) := by rw [Lib.cell_of_heap hbk]; rfl
  have c1 : w1.cell? ⟨b, 1, none⟩ = some v := by rw [Lib.cell_of_heap hbk]; rfl
  have hown1 := World.ownsRowF.alloc hown (.cells #[.int .u8 x] 5)
  go_wp2_with (at_builtin; refine wpList_append_ownF _ rfl _ _ 22 rfl B 5 i0 (.int .u8 0) 1 1 Tryz.underlying22 hi hz0 hz1 hz2 rfl (by decide) _ _ _ rfl hown1 ⟨w1.heap.size, 0, none⟩ 1 1 [.int .u8 x] rfl rfl ?c1 ?c2 ?c3 ?c4 ?c5 ?_)
  case c1 =>
    intro j u hj
    match j, hj with
    | 0, hj => simp at hj; subst hj; simp [Addr.add]
  case c2 => intro u hu; simp at hu; subst hu; rfl
  case c3 => unfold maxLen; omega
  case c4 => omega
  case c5 => have := hb1.size; simp; omega
  intro v' w2 hown' hgrow _
  have hlt : b < w1.heap.size := World.block_lt_of_cell? _ _ c0
  have hb2 : w2.heap[b]? = some (.cells #[.pointer (some ⟨b, 0, none⟩), v] 95 (0, 0)) := by
    rw [hgrow.block b (by simp; omega) (fun e => hne e.symm), Lib.alloc_old w1 _ b hlt]
    exact hbk
  have d0 : w2.cell? ⟨b, 0, none⟩ = some (.pointer (some ⟨b, 0, none⟩)) := by rw [Lib.cell_of_heap hb2]; rfl
  have d1 : w2.cell? ⟨b, 1, none⟩ = some v := by rw [Lib.cell_of_heap hb2]; rfl
  have f1 : w2.frozen? ⟨b, 1, none⟩ = false := Lib.frozen_of_heap hb2 1
  obtain ⟨ao, n', cap, rfl⟩ : ∃ ao n' cap, v' = .slice ao n' cap := by
    rcases hown'.2 with ⟨hv, _⟩ | ⟨g, cap, cur, fz, hv, _⟩
    · exact ⟨_, _, _, hv⟩
    · exact ⟨_, _, _, hv⟩
  go_wp2
  go_ret
  refine ⟨rfl, .inr ?_, ?_, ((hk1.alloc _).grown hgrow (Lib.ownsRowF_kind hown1)).setCell ⟨b, 1, none⟩ rfl _⟩
  · exact Lib.BuilderAtF.put (T := 95) (e := 5) hB hb2 (bs' := bs ++ [.int .u8 x]) (by simpa using hown') (by decide)
  · exact ((hb1.alloc (by have := hb1.size; omega) _).grown hgrow (by have := hb1.size; simp; omega) (fun k hk => (hown.lt k hk).1)).setCell (p := ⟨b, 1, none⟩) hB _

/-! what a byte behind a backslash denotes -/
abbrev selfsB : ByteArray := ⟨#[92, 34, 91, 93, 61, 58, 35, 59, 33, 32, 9]⟩
theorem selfs_has (c : UInt8) : hasB selfsB c = selfB c := by
  unfold selfB hasB blankB
  simp only [hasB, List.contains_cons, List.contains_nil, Bool.or_false, Bool.or_assoc]
theorem unB_self {c : UInt8} (h1 : c ≠ 110) (h2 : c ≠ 116) (h3 : c ≠ 114) : unB c = if selfB c then some c else none := by
  unfold unB
  rw [if_neg h1, if_neg h2, if_neg h3]
/-- the first byte of a text, as an escape -/
def escO : List UInt8 → Option UInt8
  | [] => none
  | c :: _ => unB c
/-- it ends in a panic of a text -/
def Paniced (e : Ending) : Prop := ∃ v, e = .panicked [{ v := .iface 9 v, recovered := false }]

set_option maxHeartbeats 1600000 in
theorem escByte_good (t : ByteArray) (b : UInt8) (w : World) (hb : escO t.data.toList = some b) (hs : t.size ≤ 1048576) :
    Calls Tryz.prog 182 #[.string t] w fun e w' => e = .returned (.int .u8 (b.toNat : Int)) ∧ w = w' := by
  have hz : 0 < t.size := by
    have h3 := Lib.size_eq t
    cases h : t.data.toList with
    | nil => rw [h] at hb; cases hb
    | cons c u => rw [h, List.length_cons] at h3; omega
  have hc : unB t[0] = some b := by
    have e : t.data.toList = t[0] :: t.data.toList.drop 1 := by
      have hl : 0 < t.data.toList.length := by rw [← Lib.size_eq]; exact hz
      have := List.drop_eq_getElem_cons hl
      rw [List.drop_zero] at this
      exact this
    rw [e] at hb
    exact hb
  have h2 : (t.toList == []) = false := by
    rw [Lib.toList_data]
    cases h : t.data.toList with
    | nil => exfalso; have h3 := Lib.size_eq t; rw [h, List.length_nil] at h3; omega
    | cons c u => rfl
  have h2' : t.toList.isEmpty = false := by
    rw [Lib.toList_data]
    cases h : t.data.toList with
    | nil => exfalso; have h3 := Lib.size_eq t; rw [h, List.length_nil] at h3; omega
    | cons c u => rfl
  clear hb
  have hz' : (0 : Int) < (t.size : Int) := by omega
  have K := Lib.hid (fun w => hasByte_any selfsB t[0] w)
  by_cases h110 : t[0] = 110
  · have hb : b = 10 := by rw [h110] at hc; simpa [unB] using hc.symm
    subst hb
    have e1 := byte_same t[0] 110 h110
    change ((t[0].toNat : Int) == 110) = true at e1
    clear hc h110 K
    go_enter Tryz.func182, Tryz.ntmps182
    go_wp2
    go_ret
    exact ⟨rfl, rfl⟩
  · have e1 := byte_differ t[0] 110 h110
    change ((t[0].toNat : Int) == 110) = false at e1
    by_cases h116 : t[0] = 116
    · have hb : b = 9 := by rw [h116] at hc; simpa [unB] using hc.symm
      subst hb
      have e2 := byte_same t[0] 116 h116
      change ((t[0].toNat : Int) == 116) = true at e2
      clear hc h110 h116 K
      go_enter Tryz.func182, Tryz.ntmps182
      go_wp2
      go_ret
      exact ⟨rfl, rfl⟩
    · have e2 := byte_differ t[0] 116 h116
      change ((t[0].toNat : Int) == 116) = false at e2
      by_cases h114 : t[0] = 114
      · have hb : b = 13 := by rw [h114] at hc; simpa [unB] using hc.symm
        subst hb
        have e3 := byte_same t[0] 114 h114
        change ((t[0].toNat : Int) == 114) = true at e3
        clear hc h110 h116 h114 K
        go_enter Tryz.func182, Tryz.ntmps182
        go_wp2
        go_ret
        exact ⟨rfl, rfl⟩
      · have e3 := byte_differ t[0] 114 h114
        change ((t[0].toNat : Int) == 114) = false at e3
        rw [unB_self h110 h116 h114] at hc
        have hs1 : selfB t[0] = true := by
          cases h : selfB t[0]
          · rw [h] at hc; simp at hc
          · rfl
        rw [hs1] at hc
        have hb : t[0] = b := by simpa using hc
        have H : Hid (hasB selfsB t[0] = true) := (selfs_has _).trans hs1
        rw [H.out] at K
        have HB : Hid ((t[0].toNat : Int) = (b.toNat : Int)) := by unfold Hid; rw [hb]
        clear hc hs1 hb h110 h116 h114 H
        go_enter Tryz.func182, Tryz.ntmps182
        go_wp2_with fail
        refine (K.out _).mono ?_
        rintro e w' ⟨rfl, rfl⟩
        go_wp2
        go_ret
        exact ⟨by rw [← HB.out]; rfl, rfl⟩

set_option maxHeartbeats 1600000 in
theorem escByte_bad (t : ByteArray) (w : World) (hb : escO t.data.toList = none) (hs : t.size ≤ 1048576) :
    Calls Tryz.prog 182 #[.string t] w fun e w' => Paniced e ∧ w = w' := by
  by_cases hz : 0 < t.size
  · have hc : unB t[0] = none := by
      have e : t.data.toList = t[0] :: t.data.toList.drop 1 := by
        have hl : 0 < t.data.toList.length := by rw [← Lib.size_eq]; exact hz
        have := List.drop_eq_getElem_cons hl
        rw [List.drop_zero] at this
        exact this
      rw [e] at hb
      exact hb
    have h2 : (t.toList == []) = false := by
      rw [Lib.toList_data]
      cases h : t.data.toList with
      | nil => exfalso; have h3 := Lib.size_eq t; rw [h, List.length_nil] at h3; omega
      | cons c u => rfl
    have h2' : t.toList.isEmpty = false := by
      rw [Lib.toList_data]
      cases h : t.data.toList with
      | nil => exfalso; have h3 := Lib.size_eq t; rw [h, List.length_nil] at h3; omega
      | cons c u => rfl
    have hz' : (0 : Int) < (t.size : Int) := by omega
    have K := Lib.hid (fun w => hasByte_any selfsB t[0] w)
    have h110 : t[0] ≠ 110 := by intro e; rw [e] at hc; simp [unB] at hc
    have h116 : t[0] ≠ 116 := by intro e; rw [e] at hc; simp [unB] at hc
    have h114 : t[0] ≠ 114 := by intro e; rw [e] at hc; simp [unB] at hc
    have e1 := byte_differ t[0] 110 h110
    change ((t[0].toNat : Int) == 110) = false at e1
    have e2 := byte_differ t[0] 116 h116
    change ((t[0].toNat : Int) == 116) = false at e2
    have e3 := byte_differ t[0] 114 h114
    change ((t[0].toNat : Int) == 114) = false at e3
    rw [unB_self h110 h116 h114] at hc
    have hs1 : selfB t[0] = false := by
      cases h : selfB t[0]
      · rfl
      · rw [h] at hc; simp at hc
    have H : Hid (hasB selfsB t[0] = false) := (selfs_has _).trans hs1
    rw [H.out] at K
    clear hc hs1 hb h110 h116 h114 H
    go_enter Tryz.func182, Tryz.ntmps182
    go_wp2_with fail
    refine (K.out _).mono ?_
    rintro e w' ⟨rfl, rfl⟩
    go_wp2
    exact ⟨rfl, ⟨_, rfl⟩, rfl⟩
  · have h3 := Lib.size_eq t
    obtain rfl : t = ⟨#[]⟩ := by
      have : t.data.toList = [] := List.eq_nil_of_length_eq_zero (by omega)
      cases t with
      | mk d => cases d; simp_all
    clear hb hz h3 hs
    go_enter Tryz.func182, Tryz.ntmps182
    go_wp2
    exact ⟨rfl, ⟨_, rfl⟩, rfl⟩

end Go.Proofs.YtkhkpjnpjgnckaaGreatDoor

/- Escapes taken back: the program's loop, and its Unescape. -/
set_option maxRecDepth 100000
namespace Go.Proofs.YtkhkpjnpjgnckaaGreatDoor
open Go.RowKit
set_option linter.unusedVariables false

abbrev backB : ByteArray := ⟨#[92]⟩
theorem back_has (c : UInt8) : hasB backB c = (c == 92) := by
  unfold hasB
  simp only [List.contains_cons, List.contains_nil, Bool.or_false]
theorem unE_skip : ∀ (p r : List UInt8), (∀ x, x ∈ p → x ≠ 92) → unE (p ++ r) = (unE r).map (p ++ ·) := by
  intro p
  induction p with
  | nil => intro r _; show unE r = _; cases unE r <;> rfl
  | cons c p ih =>
    intro r h
    rw [List.cons_append, unE_plain _ (h c (by simp)), ih r (fun x hx => h x (by simp [hx]))]
    cases unE r <;> rfl
/-- where it stands: l is written, t is to be read -/
def UnTo (all l t : List UInt8) : Prop := unE all = (unE t).map (l ++ ·)
theorem unTo_start (t : List UInt8) : UnTo t [] t := by
  unfold UnTo
  cases unE t <;> rfl
theorem first_none {s : ByteArray} (h : ¬ firstIn (hasB backB) s < s.size) : ∀ x, x ∈ s.data.toList → x ≠ 92 := by
  intro x hx e
  apply h
  unfold firstIn
  rw [Lib.size_eq, List.findIdx_lt_length]
  exact ⟨x, hx, by rw [back_has, e]; rfl⟩
theorem first_some {s : ByteArray} (h : firstIn (hasB backB) s < s.size) :
    s.data.toList = s.data.toList.take (firstIn (hasB backB) s) ++ 92 :: s.data.toList.drop (firstIn (hasB backB) s + 1) ∧ ∀ x, x ∈ s.data.toList.take (firstIn (hasB backB) s) → x ≠ 92 := by
  have hl : firstIn (hasB backB) s < s.data.toList.length := by rw [← Lib.size_eq]; exact h
  have hp : hasB backB (s.data.toList[firstIn (hasB backB) s]) = true := List.findIdx_getElem (p := hasB backB)
  have e : s.data.toList[firstIn (hasB backB) s] = 92 := by rw [back_has] at hp; simpa using hp
  refine ⟨?_, ?_⟩
  · conv => lhs; rw [← List.take_append_drop (firstIn (hasB backB) s) s.data.toList, List.drop_eq_getElem_cons hl, e]
  · intro x hx e2
    obtain ⟨j, hj, rfl⟩ := List.getElem_of_mem hx
    rw [List.length_take] at hj
    have h2 : hasB backB (s.data.toList[j]'(by omega)) = false := by
      have := List.not_of_lt_findIdx (p := hasB backB) (xs := s.data.toList) (i := j) (by unfold firstIn at hj; omega)
      simpa using this
    rw [back_has] at h2
    rw [List.getElem_take] at e2
    simp [e2] at h2
theorem unTo_end {all l : List UInt8} {t : ByteArray} (h : UnTo all l t.data.toList) (hn : ¬ firstIn (hasB backB) t < t.size) : unE all = some (l ++ t.data.toList) := by
  unfold UnTo at h
  rw [h]
  have := unE_skip t.data.toList [] (first_none hn)
  rw [List.append_nil] at this
  rw [this, unE_nil]
  simp
theorem unTo_good {all l : List UInt8} {t : ByteArray} {b : UInt8} (h : UnTo all l t.data.toList) (hn : firstIn (hasB backB) t < t.size) (hb : escO (t.data.toList.drop (firstIn (hasB backB) t + 1)) = some b) :
    UnTo all (l ++ t.data.toList.take (firstIn (hasB backB) t) ++ [b]) (t.data.toList.drop (firstIn (hasB backB) t + 2)) := by
  obtain ⟨h1, h2⟩ := first_some hn
  generalize hk : firstIn (hasB backB) t = k at *
  unfold UnTo at *
  have e : t.data.toList.drop (k + 2) = (t.data.toList.drop (k + 1)).drop 1 := by rw [List.drop_drop]
  rw [e]
  rw [h1, unE_skip _ _ h2] at h
  rw [h]
  cases hd : t.data.toList.drop (k + 1) with
  | nil => rw [hd] at hb; cases hb
  | cons c u =>
    rw [hd] at hb
    rw [unE_esc u hb]
    simp only [List.drop_succ_cons, List.drop_zero]
    cases unE u with
    | none => simp
    | some x => simp
theorem unTo_bad {all l : List UInt8} {t : ByteArray} (h : UnTo all l t.data.toList) (hn : firstIn (hasB backB) t < t.size) (hb : escO (t.data.toList.drop (firstIn (hasB backB) t + 1)) = none) : unE all = none := by
  obtain ⟨h1, h2⟩ := first_some hn
  generalize hk : firstIn (hasB backB) t = k at *
  unfold UnTo at *
  rw [h1, unE_skip _ _ h2] at h
  rw [h]
  cases hd : t.data.toList.drop (k + 1) with
  | nil => rw [unE_end]; rfl
  | cons c u =>
    rw [hd] at hb
    rw [unE_bad u hb]
    rfl
theorem drop_data (t : ByteArray) (k : Nat) : (t.extract k t.size).data.toList = t.data.toList.drop k := by
  rw [Lib.extract_eq]
  simp only [Lib.size_eq]
  rw [List.take_of_length_le (by simp)]
theorem take_data (t : ByteArray) (k : Nat) : (t.extract 0 k).data.toList = t.data.toList.take k := by
  rw [Lib.extract_eq]
  simp

/-- how the loop ends -/
def UnEnd (s : ByteArray) (e : Ending) : Prop := (∃ l, unE s.data.toList = some l ∧ e = .returned (.string ⟨l.toArray⟩)) ∨ (unE s.data.toList = none ∧ Paniced e)

set_option maxRecDepth 100000 in
set_option maxHeartbeats 3200000 in
theorem replaceEscapes_impl (s : ByteArray) (w : World) (hs : s.size ≤ 1048576) :
    Calls Tryz.prog 179 #[.string s] w fun e w' => UnEnd s e ∧ Below w.heap.size w w' := by
  have h0 : BuiltF w.heap.size w.heap.size [] (w.alloc (.cells #[.pointer none, .slice none 0 0] 95)) := Lib.IsBuilderF.of (Lib.fresh_isBuilder 95 5 w)
  have H0 := Lib.hid h0
  clear h0
  go_enter Tryz.func179, Tryz.ntmps179
  go_wp2
  go_loopw [0] (fun x wr => ∃ (t : ByteArray) (l : List UInt8), x = .string t ∧ Hid (UnTo s.data.toList l t.data.toList ∧ l.length + t.size ≤ s.size) ∧ t.size ≤ 1048576 ∧ Hid (BuiltF w.heap.size w.heap.size l wr) ∧ w.heap.size < wr.heap.size ∧ Below w.heap.size w wr) (fun x _ => match x with | .string t => t.size | _ => 0)
  case atStart => exact ⟨s, [], rfl, ⟨unTo_start _, by simp⟩, hs, H0, by simp, (Below.refl _ _).alloc (Nat.le_refl _) _⟩
  case round =>
    obtain ⟨t, l, rfl, HU, ht, hB, hsz, hb⟩ := hrel
    clear H0
    have KC := Lib.hid (fun w => cutAt_impl t backB w ht (by decide))
    by_cases hf : firstIn (hasB backB) t < t.size
    · have hr : Hid (cutRes t (firstIn (hasB backB) t) = .tuple #[.string (t.extract 0 (firstIn (hasB backB) t)), .string (t.extract (firstIn (hasB backB) t + 1) t.size), .bool true]) := by unfold Hid cutRes; rw [if_pos hf]
      rw [hr.out] at KC
      have GOOD := Lib.hid (fun b => unTo_good (b := b) HU.out.1 hf)
      have BAD := Lib.hid (unTo_bad HU.out.1 hf)
      have hlen := HU.out.2
      clear hr HU
      generalize firstIn (hasB backB) t = k at *
      have e1 : Hid ((t.extract (k + 1) t.size).size + (k + 1) = t.size) := by unfold Hid; rw [ByteArray.size_extract]; omega
      have e0 : Hid ((t.extract 0 k).size = k) := by unfold Hid; rw [ByteArray.size_extract]; omega
      have d1 := Lib.hid (drop_data t (k + 1))
      have d0 := Lib.hid (take_data t k)
      rw [← d1.out] at GOOD BAD
      rw [← d0.out] at GOOD
      have d2 : Hid (t.data.toList.drop (k + 2) = (t.extract (k + 1) t.size).data.toList.drop 1) := by
        unfold Hid
        rw [d1.out, List.drop_drop]
      rw [d2.out] at GOOD
      clear d1 d0 d2
      generalize t.extract (k + 1) t.size = rest at *
      generalize t.extract 0 k = plain at *
      go_wp2_with fail
      refine (KC.out _).mono ?_
      rintro e w1 ⟨rfl, n, rfl⟩
      have hbn : Below wr.heap.size wr (wr.drewN n) := below_drewN (Below.refl _ _) n
      have hB1 := builtU_over hB.out hbn
      have hb1 := hb.trans (hbn.mono hb.size)
      have hz1 := Nat.lt_of_lt_of_le hsz hbn.size
      generalize wr.drewN n = w1 at *
      clear hbn hB hb hsz KC
      go_wp2_with fail
      refine (built_write w.heap.size w.heap.size l plain _ hB1 (by have := e0.out; omega) (by omega)).mono ?_
      rintro e w2 ⟨rfl, hB2, hb2, _⟩
      have hB2' := Lib.hid hB2
      have hb2' := hb1.trans hb2
      have hz2 := Nat.lt_of_lt_of_le hz1 hb2.size
      clear hB1 hb2 hz1 hb1 hB2
      cases hE : escO rest.data.toList with
      | none =>
        have HN : Hid (unE s.data.toList = none) := BAD.out hE
        have HE := Lib.hid hE
        clear GOOD BAD hE
        go_wp2_with fail
        refine (escByte_bad rest _ HE.out (by have := e1.out; omega)).mono ?_
        rintro e w3 ⟨⟨v, rfl⟩, rfl⟩
        go_wp2
        exact ⟨rfl, .inr ⟨HN.out, _, rfl⟩, hb2'⟩
      | some b =>
        have HG := Lib.hid (GOOD.out b hE)
        have hrs : 0 < rest.size := by
          have h3 := Lib.size_eq rest
          cases h : rest.data.toList with
          | nil => rw [h] at hE; cases hE
          | cons c u => rw [h, List.length_cons] at h3; omega
        have HE := Lib.hid hE
        clear GOOD BAD hE
        go_wp2_with fail
        refine (escByte_good rest b _ HE.out (by have := e1.out; omega)).mono ?_
        rintro e w3 ⟨rfl, rfl⟩
        go_wp2_with fail
        refine (built_byte w.heap.size w.heap.size _ b _ hB2'.out (by have := e0.out; rw [List.length_append, ← Lib.size_eq]; omega) (by omega)).mono ?_
        rintro e w4 ⟨rfl, hB4, hb4, _⟩
        have HB4 := Lib.hid hB4
        have hb4' := hb2'.trans hb4
        have hz4 := Nat.lt_of_lt_of_le hz2 hb4.size
        have hr1 : (rest.extract 1 rest.size).size = rest.size - 1 := by rw [ByteArray.size_extract]; omega
        have HG2 : Hid (UnTo s.data.toList (l ++ plain.data.toList ++ [b]) (rest.extract 1 rest.size).data.toList ∧ (l ++ plain.data.toList ++ [b]).length + (rest.extract 1 rest.size).size ≤ s.size) := by
          refine ⟨?_, ?_⟩
          · rw [drop_data]; exact HG.out
          · rw [hr1, List.length_append, List.length_append, ← Lib.size_eq, List.length_cons, List.length_nil]; have := e0.out; have := e1.out; omega
        have hr2 : (rest.extract 1 rest.size).size ≤ 1048576 := by rw [hr1]; have := e1.out; omega
        have hr3 : Hid ((rest.extract 1 rest.size).size < t.size) := by unfold Hid; rw [hr1]; have := e1.out; omega
        clear hr1
        have q1 : (1 : Int) ≤ (rest.size : Int) := by omega
        clear hB4 hb4 hB2' hb2' hz2 HE HG
        go_wp2
        go_roundw
        case rel => exact ⟨_, _, rfl, HG2, hr2, HB4, hz4, hb4'⟩
        case measure => exact hr3.out
    · have hr : Hid (cutRes t (firstIn (hasB backB) t) = .tuple #[.string t, .string ⟨#[]⟩, .bool false]) := by unfold Hid cutRes; rw [if_neg hf]
      rw [hr.out] at KC
      have HN := Lib.hid (unTo_end HU.out.1 hf)
      have hlen := HU.out.2
      clear hr HU hf
      go_wp2_with fail
      refine (KC.out _).mono ?_
      rintro e w1 ⟨rfl, n, rfl⟩
      have hbn : Below wr.heap.size wr (wr.drewN n) := below_drewN (Below.refl _ _) n
      have hB1 := builtU_over hB.out hbn
      have hb1 := hb.trans (hbn.mono hb.size)
      have hz1 := Nat.lt_of_lt_of_le hsz hbn.size
      generalize wr.drewN n = w1 at *
      clear hbn hB hb hsz KC
      go_wp2_with fail
      refine (built_write w.heap.size w.heap.size l t _ hB1 (by omega) (by omega)).mono ?_
      rintro e w2 ⟨rfl, hB2, hb2, _⟩
      have hB2' := Lib.hid hB2
      have hb2' := hb1.trans hb2
      have hz2 := Nat.lt_of_lt_of_le hz1 hb2.size
      clear hB1 hb2 hz1 hb1 hB2
      go_wp2_with fail
      refine (built_string w.heap.size w.heap.size _ _ hB2'.out (by omega)).mono ?_
      rintro e w3 ⟨rfl, _, hb3, _⟩
      have hb5 := hb2'.trans hb3
      clear hB2' hb3 hb2'
      go_wp2
      go_ret
      exact ⟨.inl ⟨_, HN.out, rfl⟩, hb5⟩

end Go.Proofs.YtkhkpjnpjgnckaaGreatDoor

/- Escapes taken back: the program's Unescape, which recovers. -/
set_option maxRecDepth 100000
namespace Go.Proofs.YtkhkpjnpjgnckaaGreatDoor
open Go.RowKit
set_option linter.unusedVariables false

theorem unCatch_panicking (u : TypeId) (pv : Value) (older : List PanicEntry) (w : World) :
    CallsD Tryz.prog 178 #[] (.panicking ({ v := .iface u pv, recovered := false } :: older)) w fun e u' w' =>
      e = .returned (.tuple #[]) ∧ u' = .panicking ({ v := .iface u pv, recovered := true } :: older) ∧ w' = w := by
  refine callsD_of_wpS Tryz.func178 rfl fun c₀ cs hu => ?_
  apply wpS_region
  simp [wpOpsS, go_sem, recoverD, hu, Tryz.ntmps178, Exit.thenS, bodyPostS, results, Tryz.results178]
theorem unCatch_idle (w : World) :
    CallsD Tryz.prog 178 #[] .returning w fun e u' w' => e = .returned (.tuple #[]) ∧ u' = .returning ∧ w' = w := by
  refine callsD_of_wpS Tryz.func178 rfl fun c₀ cs hu => ?_
  apply wpS_region
  simp [wpOpsS, go_sem, recoverD, hu, Tryz.ntmps178, Exit.thenS, bodyPostS, results, Tryz.results178]
  cases c₀
  simp_all

set_option maxRecDepth 100000 in
set_option maxHeartbeats 3200000 in
theorem unescape_impl (d : DialectD) (s : ByteArray) (w : World) (hs : s.size ≤ 1048576) :
    Calls Tryz.prog 173 #[.string s, dialectV d] w fun e w' => e = .returned (.tuple #[.string (unT d.esc s).1, .bool (unT d.esc s).2]) ∧ Below w.heap.size w w' := by
  have K := Lib.hid (fun w => replaceEscapes_impl s w hs)
  obtain ⟨d0, d1, d2, d3, d4, d5⟩ := d
  unfold dialectV
  simp only
  have hb0 := (Below.refl w.heap.size w).alloc (Nat.le_refl _) (.cells #[.string d0, .string d1, .bool d2, .bool d3, .bool d4, .int .i64 d5] 25)
  have hmf : ∀ (fn : Fn) (first cap : Array Value) (w : World), (Instr.makeFunc fn first cap).run Tryz.prog w = .ok (.func fn first cap) w := fun _ _ _ _ => rfl
  cases d4
  · rw [unT_off]
    clear K
    go_enter_defers Tryz.func173, Tryz.ntmps173
    go_wp2
    simp [bodyPostD, Leaves, settle, results, Tryz.results173, go_sem]
    exact hb0
  · go_enter_defers Tryz.func173, Tryz.ntmps173
    go_wp2_with fail
    refine (K.out _).mono ?_
    rintro e w1 ⟨hE, hb1⟩
    have hb2 := hb0.trans (hb1.mono hb0.size)
    rcases hE with ⟨l, hl, rfl⟩ | ⟨hn, v, rfl⟩
    · have HU := Lib.hid (unT_good hl)
      clear hl K hb0 hb1
      go_wp2
      refine leaves_cons (f := 178) (args := #[]) (by simp) (by simp [go_sem]) ?_
      refine (unCatch_idle _).mono ?_
      rintro e u' w'' ⟨rfl, rfl, rfl⟩
      dsimp only
      rw [HU.out]
      simp [Leaves, settle, results, Tryz.results173, go_sem]
      exact hb2
    · have HU := Lib.hid (unT_bad hn)
      clear hn K hb0 hb1
      go_wp2
      refine leaves_cons (f := 178) (args := #[]) (by simp) (by simp [go_sem]) ?_
      refine (unCatch_panicking _ _ _ _).mono ?_
      rintro e u' w'' ⟨rfl, rfl, rfl⟩
      dsimp only
      rw [HU.out]
      simp [Leaves, settle, results, Tryz.results173, go_sem]
      exact hb2

end Go.Proofs.YtkhkpjnpjgnckaaGreatDoor

/- A bare value: the program's trim, beforeNote and Bare. -/
set_option maxRecDepth 100000
namespace Go.Proofs.YtkhkpjnpjgnckaaGreatDoor
open Go.RowKit Go.Sort
set_option linter.unusedVariables false

theorem ext_data (s : ByteArray) (a b : Nat) : (s.extract a b).data.toList = (s.data.toList.drop a).take (b - a) := by
  rw [Lib.extract_eq]
theorem same_data {x y : ByteArray} (h : x.data.toList = y.data.toList) : x = y := by
  cases x with
  | mk a => cases y with
    | mk b => cases a; cases b; simp_all
theorem ext_ext (s : ByteArray) (a b c d : Nat) (hd : c + d ≤ b - a) : (s.extract a b).extract c (c + d) = s.extract (a + c) (a + c + d) := by
  apply same_data
  rw [ext_data, ext_data, ext_data, List.drop_take, List.take_take, List.drop_drop]
  congr 1
  omega
theorem at_data (s : ByteArray) (i : Nat) (h : i < s.size) : s[i] = s.data.toList[i]'(by rw [← Lib.size_eq]; exact h) := rfl
theorem ext_at (s : ByteArray) (a b i : Nat) (hb : b ≤ s.size) (hi : i < b - a) (h : i < (s.extract a b).size) : (s.extract a b)[i] = s[a + i]'(by omega) := by
  have hl : s.data.toList.length = s.size := (Lib.size_eq s).symm
  rw [at_data, at_data]
  have : ((s.data.toList.drop a).take (b - a))[i]? = s.data.toList[a + i]? := by
    rw [List.getElem?_take, if_pos hi, List.getElem?_drop]
  have e := ext_data s a b
  have h1 : (s.extract a b).data.toList[i]? = s.data.toList[a + i]? := by rw [e]; exact this
  rw [List.getElem?_eq_getElem (by rw [← Lib.size_eq]; exact h), List.getElem?_eq_getElem (by omega)] at h1
  exact Option.some.inj h1
theorem takeWhile_stop (p : UInt8 → Bool) : ∀ (xs ys : List UInt8), ys.takeWhile p = [] → (xs ++ ys).takeWhile p = xs.takeWhile p := by
  intro xs
  induction xs with
  | nil => intro ys h; simpa using h
  | cons c xs ih =>
    intro ys h
    simp only [List.cons_append, List.takeWhile_cons]
    rw [ih ys h]
/-- nothing ahead of a place reaches over it -/
def Stops (s : ByteArray) (a : Nat) : Prop := a = 0 ∨ ∃ h : a - 1 < s.size, 1 ≤ a ∧ s[a - 1]'h ≠ 92
theorem tail_stops {s : ByteArray} {a j : Nat} (h : Stops s a) (haj : a ≤ j) (hj : j ≤ s.size) : tailN (s.extract a j) = tailN (s.extract 0 j) := by
  have hl : s.data.toList.length = s.size := (Lib.size_eq s).symm
  unfold tailN
  rw [ext_data, ext_data, List.drop_zero, Nat.sub_zero]
  have e : s.data.toList.take j = s.data.toList.take a ++ (s.data.toList.drop a).take (j - a) := by
    have := List.take_append_drop a (s.data.toList.take j)
    rw [List.take_take, Nat.min_eq_left haj, List.drop_take] at this
    exact this.symm
  rw [e, List.reverse_append, takeWhile_stop]
  rcases h with rfl | ⟨h1, h2, h3⟩
  · simp
  · obtain ⟨b, rfl⟩ : ∃ b, a = b + 1 := ⟨a - 1, by omega⟩
    have hb : b < s.data.toList.length := by omega
    rw [List.take_succ_eq_append_getElem hb, List.reverse_append]
    simp only [List.reverse_cons, List.reverse_nil, List.nil_append, List.cons_append, List.takeWhile_cons]
    have h4 : s.data.toList[b] ≠ 92 := h3
    rw [if_neg (by simpa using h4)]
theorem front_stops (s : ByteArray) : Stops s (front5 s) := by
  by_cases h : front5 s = 0
  · exact .inl h
  · refine .inr ⟨by have := front5_le s; omega, by omega, ?_⟩
    have hf := front5_le s
    have hl : s.data.toList.length = s.size := (Lib.size_eq s).symm
    have hx : s[front5 s - 1]'(by omega) ∈ s.data.toList.takeWhile blankB := by
      have e := List.takeWhile_append_dropWhile (p := blankB) (l := s.data.toList)
      have hlt : front5 s - 1 < (s.data.toList.takeWhile blankB).length := by
        have : (s.data.toList.takeWhile blankB).length = front5 s := rfl
        omega
      have h1 : s.data.toList[front5 s - 1]? = (s.data.toList.takeWhile blankB)[front5 s - 1]? := by
        conv => lhs; rw [← e]
        rw [List.getElem?_append_left hlt]
      rw [List.getElem?_eq_getElem (by omega), List.getElem?_eq_getElem hlt] at h1
      have h2 := Option.some.inj h1
      rw [at_data, h2]
      exact List.getElem_mem _
    have hy : blankB (s[front5 s - 1]'(by omega)) = true := by
      have := List.all_takeWhile (p := blankB) (l := s.data.toList)
      rw [List.all_eq_true] at this
      exact this _ hx
    intro e
    rw [e] at hy
    exact absurd hy (by decide)
theorem ends_ext {e : Bool} {s : ByteArray} {a b : Nat} (h : Stops s a) (hab : a ≤ b) (hb : b ≤ s.size) : ends5 e (s.extract a b) = (decide (a < b) && blank5 e s (b - 1)) := by
  have hsz : (s.extract a b).size = b - a := by rw [ByteArray.size_extract]; omega
  unfold ends5
  by_cases hlt : a < b
  · rw [dif_pos (by omega), decide_eq_true hlt, Bool.true_and]
    unfold blank5
    rw [dif_pos (by omega)]
    have e1 : (s.extract a b)[(s.extract a b).size - 1]'(by omega) = s[b - 1]'(by omega) := by
      rw [ext_at s a b _ hb (by omega)]
      congr 1
      omega
    rw [e1]
    congr 1
    unfold esc5
    have e2 : (s.extract a b).extract 0 ((s.extract a b).size - 1) = s.extract a (b - 1) := by
      rw [hsz]
      have := ext_ext s a b 0 (b - a - 1) (by omega)
      rw [Nat.zero_add] at this
      rw [this, Nat.add_zero]
      congr 1
      omega
    rw [e2, tail_stops h (by omega) (by omega)]
    generalize tailN (s.extract 0 (b - 1)) = n
    cases e
    · rfl
    · rcases (show n % 2 = 0 ∨ n % 2 = 1 by omega) with q | q <;> rw [q] <;> rfl
  · rw [dif_neg (by omega), decide_eq_false hlt]
    rfl

set_option maxHeartbeats 3200000 in
theorem trim_implD (d : DialectD) (s : ByteArray) (w : World) (hs : s.size ≤ 1048576) :
    Calls Tryz.prog 118 #[dialectV d, .string s] w fun e w' => e = .returned (.string (trim5 d.esc s)) ∧ Below w.heap.size w w' := by
  have K1 := Lib.hid (fun w => trimStart_impl s w)
  have K2 := Lib.hid (fun (t : ByteArray) (w : World) (h : t.size ≤ 1048576) => endsWith_impl d t w h)
  have HF := Lib.hid (front5_le s)
  have HS := Lib.hid (front_stops s)
  have HT : Hid (trim5 d.esc s = s.extract (front5 s) (back5 d.esc s (front5 s) s.size)) := rfl
  have H1 : Hid (start5 s = s.extract (front5 s) s.size) := rfl
  have HN := Lib.hid (dialAt_new w d)
  generalize trim5 d.esc s = r at *
  generalize front5 s = a at *
  obtain ⟨d0, d1, d2, d3, d4, d5⟩ := d
  unfold dialectV at *
  simp only at K1 K2 HT HN ⊢
  rw [H1.out] at K1
  have hb0 := (Below.refl w.heap.size w).alloc (Nat.le_refl _) (.cells #[.string d0, .string d1, .bool d2, .bool d3, .bool d4, .int .i64 d5] 25)
  have hw0 : w.heap.size < (w.alloc (.cells #[.string d0, .string d1, .bool d2, .bool d3, .bool d4, .int .i64 d5] 25)).heap.size := by simp
  clear H1
  go_enter Tryz.func118, Tryz.ntmps118
  go_wp2_with fail
  refine (K1.out _).mono ?_
  rintro e w1 ⟨rfl, hb1⟩
  have hB1 := hb0.trans (hb1.mono hb0.size)
  have hD1 := Lib.hid (HN.out.over hb1 hw0)
  have hw1 := Nat.lt_of_lt_of_le hw0 hb1.size
  clear hb1 hb0 HN hw0 K1
  go_wp2
  go_loopw [1] (fun sv wr => ∃ b : Nat, sv = .string (s.extract a b) ∧ Hid (a ≤ b ∧ b ≤ s.size ∧ back5 d4 s a s.size = back5 d4 s a b) ∧ Hid (DialAt wr w.heap.size ⟨d0, d1, d2, d3, d4, d5⟩) ∧ Below w.heap.size w wr ∧ w.heap.size < wr.heap.size) (fun sv _ => match sv with | .string t => t.size | _ => 0)
  case atStart => exact ⟨s.size, rfl, ⟨HF.out, Nat.le_refl _, rfl⟩, hD1, hB1, hw1⟩
  case round =>
    obtain ⟨b, rfl, hI, hD, hb, hwl⟩ := hrel
    clear hB1 hD1 hw1
    have hsz : (s.extract a b).size = b - a := by have := hI.out; rw [ByteArray.size_extract]; omega
    have KE := Lib.hid (K2.out (s.extract a b) wr (by have := hI.out.2.1; omega))
    have he := Lib.hid (ends_ext (e := d4) HS.out hI.out.1 hI.out.2.1)
    obtain ⟨c0, c1, c2, c3, c4, c5⟩ := hD.out.cells
    simp only at c0 c1 c2 c3 c4 c5
    cases hE : ends5 d4 (s.extract a b)
    · rw [hE] at KE
      have hfin : Hid (r = s.extract a b) := by
        unfold Hid
        rw [HT.out, hI.out.2.2]
        congr 1
        have h2 := he.out
        rw [hE] at h2
        rcases Nat.lt_or_ge a b with hlt | hge
        · obtain ⟨c, rfl⟩ : ∃ c, b = c + 1 := ⟨b - 1, by omega⟩
          rw [decide_eq_true hlt, Bool.true_and] at h2
          exact back5_no h2.symm
        · have : a = b := by have := hI.out.1; omega
          subst this
          exact back5_end
      clear hE he hsz hI
      generalize s.extract a b = t at *
      go_wp2_with fail
      refine KE.out.mono ?_
      rintro e w2 ⟨rfl, hb2⟩
      have hb3 := hb.trans (hb2.mono hb.size)
      clear hb2 hb KE K2
      go_wp2
      go_ret
      exact ⟨by rw [hfin.out]; rfl, hb3⟩
    · rw [hE] at KE
      have h2 := he.out
      rw [hE] at h2
      have h3 := (Bool.and_eq_true _ _ ▸ h2.symm : decide (a < b) = true ∧ blank5 d4 s (b - 1) = true)
      have hlt : a < b := of_decide_eq_true h3.1
      obtain ⟨c, rfl⟩ : ∃ c, b = c + 1 := ⟨b - 1, by omega⟩
      have hI2 : Hid (a ≤ c ∧ c ≤ s.size ∧ back5 d4 s a s.size = back5 d4 s a c) := by
        refine ⟨by omega, by have := hI.out.2.1; omega, ?_⟩
        rw [hI.out.2.2]
        exact back5_yes hlt h3.2
      have hx : Hid ((s.extract a (c + 1)).extract 0 (c - a) = s.extract a c) := by
        unfold Hid
        have := ext_ext s a (c + 1) 0 (c - a) (by omega)
        rw [Nat.zero_add] at this
        rw [this, Nat.add_zero]
        congr 1
        omega
      have hm : Hid ((s.extract a c).size < (s.extract a (c + 1)).size) := by
        unfold Hid
        have := hI.out.2.1
        rw [hsz, ByteArray.size_extract]
        omega
      have hzz : Hid ((s.extract a (c + 1)).size = (c - a) + 1) := by unfold Hid; rw [hsz]; omega
      have hz9 : (s.extract a (c + 1)).size ≤ 1048576 := by have := hI.out.2.1; rw [hsz]; omega
      clear h2 h3 he hE hsz hI
      generalize s.extract a (c + 1) = t at *
      generalize c - a = n at *
      have z1 : (t.size : Int) - 1 = (n : Int) := by have := hzz.out; omega
      have z2 : (n : Int) ≤ (t.size : Int) := by have := hzz.out; omega
      have z3 : (n : Int) ≤ 1048576 := by omega
      have z4 : (0 : Int) ≤ (n : Int) := by omega
      go_wp2_with fail
      refine KE.out.mono ?_
      rintro e w2 ⟨rfl, hb2⟩
      have hb3 := hb.trans (hb2.mono hb.size)
      have hD3 := Lib.hid (hD.out.over hb2 hwl)
      have hwl3 := Nat.lt_of_lt_of_le hwl hb2.size
      clear hb2 hb KE hD hwl c0 c1 c2 c3 c4 c5
      go_wp2
      go_roundw
      case rel => exact ⟨c, by rw [← hx.out], hI2, hD3, hb3, hwl3⟩
      case measure => first | exact hm.out | (rw [hx.out]; exact hm.out) | (simp only [Int.toNat_natCast, hx.out]; exact hm.out)

/-- a note behind a value, as the program looks for it -/
theorem note5_ends (d : DialectD) (s : ByteArray) (k : Nat) (h : k < s.size) : note5 d s k = (hasB d.notes s[k] && ends5 d.esc (s.extract 0 k)) := by
  rw [ends_ext (.inl rfl) (Nat.zero_le _) (by omega)]
  unfold note5
  by_cases hk : 1 ≤ k
  · rw [dif_pos ⟨hk, h⟩, decide_eq_true (show 0 < k by omega), Bool.true_and]
  · rw [dif_neg (fun x => hk x.1), decide_eq_false (show ¬ 0 < k by omega), Bool.false_and, Bool.and_false]
/-- what stands ahead of a note -/
def ahead5 (d : DialectD) (s : ByteArray) : ByteArray := s.extract 0 ((List.range s.size).findIdx (note5 d s))

set_option maxHeartbeats 3200000 in
theorem beforeNote_impl (d : DialectD) (s : ByteArray) (w : World) (hs : s.size ≤ 1048576) :
    Calls Tryz.prog 172 #[dialectV d, .string s] w fun e w' => e = .returned (.string (ahead5 d s)) ∧ Below w.heap.size w w' := by
  have K1 := Lib.hid (fun (i : Nat) (w : World) (hi : i < s.size) => endsWith_impl d (s.extract 0 i) w (by rw [ByteArray.size_extract]; omega))
  have K0 := Lib.hid (fun (i : Nat) (w : World) (hi : i < s.size) => hasByte_any d.notes s[i] w)
  have HN := Lib.hid (dialAt_new w d)
  have HB : Hid (∀ i, i ≤ s.size → (∀ j, j < i → note5 d s j = false) → (i < s.size → note5 d s i = true) → ahead5 d s = s.extract 0 i) := by
    intro i hi h1 h2
    unfold ahead5
    rw [findIdx_range _ _ i hi h1 h2]
  have HNA := Lib.hid (fun k h => note5_ends d s k h)
  have HX := Lib.hid (extract_all s)
  obtain ⟨d0, d1, d2, d3, d4, d5⟩ := d
  unfold dialectV at *
  simp only at K1 K0 HN HB HNA ⊢
  generalize hNN : note5 ⟨d0, d1, d2, d3, d4, d5⟩ s = note at *
  clear hNN
  generalize ahead5 ⟨d0, d1, d2, d3, d4, d5⟩ s = r at *
  have hb0 := (Below.refl w.heap.size w).alloc (Nat.le_refl _) (.cells #[.string d0, .string d1, .bool d2, .bool d3, .bool d4, .int .i64 d5] 25)
  have hw0 : w.heap.size < (w.alloc (.cells #[.string d0, .string d1, .bool d2, .bool d3, .bool d4, .int .i64 d5] 25)).heap.size := by simp
  go_enter Tryz.func172, Tryz.ntmps172
  go_wp2
  generalize w.alloc (.cells #[.string d0, .string d1, .bool d2, .bool d3, .bool d4, .int .i64 d5] 25) = W0 at *
  go_loopw [8] (fun i wr => ∃ k : Nat, k ≤ s.size ∧ i = .int .i64 k ∧ Hid (∀ j, j < k → note j = false) ∧ Hid (DialAt wr w.heap.size ⟨d0, d1, d2, d3, d4, d5⟩) ∧ Below w.heap.size w wr ∧ w.heap.size < wr.heap.size) (fun i _ => s.size - (intOf i).toNat)
  case atStart => exact ⟨0, Nat.zero_le _, rfl, fun j hj => absurd hj (Nat.not_lt_zero _), HN, hb0, hw0⟩
  case round =>
    obtain ⟨k, hks, rfl, hno, hD, hb, hwl⟩ := hrel
    clear hb0 HN hw0
    by_cases hlt : k < s.size
    · have hna := HNA.out k hlt
      obtain ⟨c0, c1, c2, c3, c4, c5⟩ := hD.out.cells
      simp only at c0 c1 c2 c3 c4 c5
      have x0 := cell_regrown c0
      have x1 := cell_regrown c1
      have x2 := cell_regrown c2
      have x3 := cell_regrown c3
      have x4 := cell_regrown c4
      have x5 := cell_regrown c5
      have KA : Hid (∀ q os, Calls Tryz.prog 64 #[.string d0, .int .u8 (s[k].toNat : Int)] (grow (redrawn wr q) os) fun e w' => e = .returned (.bool (hasB d0 s[k])) ∧ ∃ p : Regrown, w' = grow (redrawn wr p.d) p.os) := by
        intro q os
        refine Calls.regrown_of ((K0.out k _ hlt).mono ?_)
        rintro e w' ⟨rfl, rfl⟩
        exact ⟨rfl, Below.refl _ _⟩
      have KB : Hid (∀ q os, Calls Tryz.prog 157 #[.agg #[.string d0, .string d1, .bool d2, .bool d3, .bool d4, .int .i64 d5], .string (s.extract 0 k)] (grow (redrawn wr q) os) fun e w' => e = .returned (.bool (ends5 d4 (s.extract 0 k))) ∧ ∃ p : Regrown, w' = grow (redrawn wr p.d) p.os) := by
        intro q os
        exact Calls.regrown_of (K1.out k (grow (redrawn wr q) os) hlt)
      have hkz : (k : Int) ≤ (s.size : Int) := by omega
      have hkz2 : (k : Int) < (s.size : Int) := by omega
      have HNA2 := Lib.hid hna
      clear hna
      cases h1 : hasB d0 s[k] <;> cases h2 : ends5 d4 (s.extract 0 k) <;> rw [h1] at KA HNA2 <;> rw [h2] at KB HNA2 <;> clear h1 h2
      all_goals
        go_wp2_with fail
        refine wp_region_quiet_below (by kernel_rfl) (by kernel_rfl) ?_
        repeat (go_big_quiet_step (first | with_reducible exact KA.out _ _ | with_reducible exact KB.out _ _))
        refine wpQuiet_nil ?_
        intro _ hw'
        obtain ⟨⟨dq, osq⟩, hw''⟩ := hw'
        subst hw''
        have hbq := below_regrown wr dq osq
        have hb2 := hb.trans (hbq.mono hb.size)
        have hD2 := Lib.hid (hD.out.over hbq hwl)
        have hwl2 := Nat.lt_of_lt_of_le hwl hbq.size
        clear KA KB c0 c1 c2 c3 c4 c5 x0 x1 x2 x3 x4 x5 hbq hb hD
        generalize grow (redrawn wr dq) osq = w2 at *
      iterate 3
        · have hno2 : Hid (∀ j, j < k + 1 → note j = false) := by
            intro j hj
            by_cases e : j = k
            · subst e; exact HNA2.out
            · exact hno.out j (by omega)
          clear hno HNA2
          go_wp2
          go_roundw
          case rel => exact ⟨k + 1, by omega, by go_num, hno2, hD2, hb2, hwl2⟩
          case measure => simp [intOf]; omega
      · have HTT : Hid (r = s.extract 0 k) := HB.out k (by omega) hno.out (fun _ => HNA2.out)
        clear hno HNA2 HB
        go_wp2
        go_ret
        exact ⟨by rw [HTT.out]; rfl, hb2⟩
    · obtain rfl : k = s.size := by omega
      have HTT : Hid (r = s) := by
        unfold Hid
        rw [HB.out s.size (Nat.le_refl _) hno.out (fun h => absurd h (Nat.lt_irrefl _))]
        exact HX.out
      clear hno HB
      go_wp2
      go_ret
      exact ⟨by rw [HTT.out]; rfl, hb⟩

end Go.Proofs.YtkhkpjnpjgnckaaGreatDoor
