/- Escapes taken back: the program's contract of Unescape. -/
import Derived.Test.YteocaaclcecolaaGreatDoorProg
import Derived.Test.YteocaaclcecolaaGreatDoorPlain
import Derived.Test.YteocaaclcecolaaGreatDoorCut
import Derived.Test.YteocaaclcecolaaGreatDoorTrim
import Derived.Test.YteocaaclcecolaaGreatDoorBuild
import Derived.Test.YteocaaclcecolaaGreatDoorDialectRows
import Derived.Test.YteocaaclcecolaaGreatDoorUnescSpec
import Derived.WalkKit
import Derived.WalkLawsBesides
import Derived.Tactics
import Derived.Tactics2
import Derived.Defers
import Derived.Recover
import Derived.Lib.FrozenHead2
import Derived.Laws.IdiomStrings
import Derived.Lib.Hide
import Derived.IntWalk
set_option maxRecDepth 100000
namespace Go.Proofs.YteocaaclcecolaaGreatDoor
open Go.RowKit
set_option linter.unusedVariables false

theorem builtAtU_over {T e B b : Nat} {p : Value} {bs : List Value} {w w' : World} (h : Lib.BuilderAtF T e B b p bs w) (hb : Below w.heap.size w w') : Lib.BuilderAtF T e B b p bs w' := by
  obtain ⟨hB, v, hbk, hown, hne⟩ := h
  refine ⟨hB, v, (hb.block b (Array.getElem?_eq_some_iff.1 hbk).1).trans hbk, ⟨hown.1, ?_⟩, hne⟩
  rcases hown.2 with h2 | ⟨g, cap, cur, fz, hv, hg0, hg, h5, h6, h7, h8, h9⟩
  · exact .inl h2
  · exact .inr ⟨g, cap, cur, fz, hv, hg0, (hb.block g (Array.getElem?_eq_some_iff.1 hg).1).trans hg, h5, h6, h7, h8, h9⟩
theorem builtU_over {B b : Nat} {l : List UInt8} {w w' : World} (h : BuiltF B b l w) (hb : Below w.heap.size w w') : BuiltF B b l w' := by
  rcases h with h | h
  · exact .inl (builtAtU_over h hb)
  · exact .inr (builtAtU_over h hb)

set_option maxHeartbeats 2000000 in
set_option maxRecDepth 100000 in
theorem built_byte (B b : Nat) (l : List UInt8) (c : UInt8) (w : World) (h : BuiltF B b l w) (hlen : l.length + 1 ≤ 140737488355328) (hBw : B ≤ w.heap.size) :
    Calls Tryz.prog 143 #[.pointer (some ⟨b, 0, none⟩), .int .u8 (c.toNat : Int)] w fun e w' => e = .returned .nilIface ∧ (BuiltF B b (l ++ [c]) w' ∧ Below B w w' ∧ Others b w w') := by
  obtain ⟨i0, hi, hz0, hz1, hz2⟩ := info_parts info_byteB
  have hbl : (Lib.byteCells l).length = l.length := by simp [Lib.byteCells]
  have happ : Lib.byteCells (l ++ [c]) = Lib.byteCells l ++ [.int .u8 (c.toNat : Int)] := by simp [Lib.byteCells]
  unfold BuiltF
  rw [happ]
  unfold BuiltF at h
  generalize Lib.byteCells l = bs at *
  rw [← hbl] at hlen
  clear hbl happ
  generalize (c.toNat : Int) = x at *
  go_enter Tryz.func143, Tryz.ntmps143
  go_wp2_with fail
  refine (check_any B b bs w h).mono ?_
  rintro e w1 ⟨rfl, h1, hb1, hk1⟩
  obtain ⟨hB, v, hbk, hown, hne⟩ := h1
  have c0 : w1.cell? ⟨b, 0, none⟩ = some (.pointer (some ⟨b, 0, none⟩)) := by rw [Lib.cell_of_heap hbk]; rfl
  have c1 : w1.cell? ⟨b, 1, none⟩ = some v := by rw [Lib.cell_of_heap hbk]; rfl
  have hown1 := World.ownsRowF.alloc hown (.cells #[.int .u8 x] 5)
  go_wp2_with (at_builtin; refine wpList_append_ownF _ rfl _ _ 22 rfl B 5 i0 (.int .u8 0) 1 1 Tryz.underlying22 hi hz0 hz1 hz2 rfl (by decide) _ _ _ rfl hown1 ⟨w1.heap.size, 0, none⟩ 1 1 [.int .u8 x] rfl rfl ?c1 ?c2 ?c3 ?c4 ?c5 ?_)
  case c1 =>
    intro j u hj
    match j, hj with
    | 0, hj => simp at hj; subst hj; simp [Addr.add]
  case c2 => intro u hu; simp at hu; subst hu; rfl
  case c3 => unfold maxLen; omega
  case c4 => omega
  case c5 => have := hb1.size; simp; omega
  intro v' w2 hown' hgrow _
  have hlt : b < w1.heap.size := World.block_lt_of_cell? _ _ c0
  have hb2 : w2.heap[b]? = some (.cells #[.pointer (some ⟨b, 0, none⟩), v] 70 (0, 0)) := by
    rw [hgrow.block b (by simp; omega) (fun e => hne e.symm), Lib.alloc_old w1 _ b hlt]
    exact hbk
  have d0 : w2.cell? ⟨b, 0, none⟩ = some (.pointer (some ⟨b, 0, none⟩)) := by rw [Lib.cell_of_heap hb2]; rfl
  have d1 : w2.cell? ⟨b, 1, none⟩ = some v := by rw [Lib.cell_of_heap hb2]; rfl
  have f1 : w2.frozen? ⟨b, 1, none⟩ = false := Lib.frozen_of_heap hb2 1
  obtain ⟨ao, n', cap, rfl⟩ : ∃ ao n' cap, v' = .slice ao n' cap := by
    rcases hown'.2 with ⟨hv, _⟩ | ⟨g, cap, cur, fz, hv, _⟩
    · exact ⟨_, _, _, hv⟩
    · exact ⟨_, _, _, hv⟩
  go_wp2
  go_ret
  refine ⟨rfl, .inr ?_, ?_, ((hk1.alloc _).grown hgrow (Lib.ownsRowF_kind hown1)).setCell ⟨b, 1, none⟩ rfl _⟩
  · exact Lib.BuilderAtF.put (T := 70) (e := 5) hB hb2 (bs' := bs ++ [.int .u8 x]) (by simpa using hown') (by decide)
  · exact ((hb1.alloc (by have := hb1.size; omega) _).grown hgrow (by have := hb1.size; simp; omega) (fun k hk => (hown.lt k hk).1)).setCell (p := ⟨b, 1, none⟩) hB _

/-! what a byte behind a backslash denotes -/
abbrev selfsB : ByteArray := ⟨#[92, 34, 91, 93, 61, 58, 35, 59, 33, 32, 9]⟩
theorem selfs_has (c : UInt8) : hasB selfsB c = selfB c := by
  unfold selfB hasB blankB
  simp only [hasB, List.contains_cons, List.contains_nil, Bool.or_false, Bool.or_assoc]
theorem unB_self {c : UInt8} (h1 : c ≠ 110) (h2 : c ≠ 116) (h3 : c ≠ 114) : unB c = if selfB c then some c else none := by
  unfold unB
  rw [if_neg h1, if_neg h2, if_neg h3]
/-- the first byte of a text, as an escape -/
def escO : List UInt8 → Option UInt8
  | [] => none
  | c :: _ => unB c
/-- it ends in a panic of a text -/
def Paniced (e : Ending) : Prop := ∃ v, e = .panicked [{ v := .iface 9 v, recovered := false }]

set_option maxHeartbeats 1600000 in
theorem escByte_good (t : ByteArray) (b : UInt8) (w : World) (hb : escO t.data.toList = some b) (hs : t.size ≤ 1048576) :
    Calls Tryz.prog 144 #[.string t] w fun e w' => e = .returned (.int .u8 (b.toNat : Int)) ∧ w = w' := by
  have hz : 0 < t.size := by
    have h3 := Lib.size_eq t
    cases h : t.data.toList with
    | nil => rw [h] at hb; cases hb
    | cons c u => rw [h, List.length_cons] at h3; omega
  have hc : unB t[0] = some b := by
    have e : t.data.toList = t[0] :: t.data.toList.drop 1 := by
      have hl : 0 < t.data.toList.length := by rw [← Lib.size_eq]; exact hz
      have := List.drop_eq_getElem_cons hl
      rw [List.drop_zero] at this
      exact this
    rw [e] at hb
    exact hb
  have h2 : (t.toList == []) = false := by
    rw [Lib.toList_data]
    cases h : t.data.toList with
    | nil => exfalso; have h3 := Lib.size_eq t; rw [h, List.length_nil] at h3; omega
    | cons c u => rfl
  have h2' : t.toList.isEmpty = false := by
    rw [Lib.toList_data]
    cases h : t.data.toList with
    | nil => exfalso; have h3 := Lib.size_eq t; rw [h, List.length_nil] at h3; omega
    | cons c u => rfl
  clear hb
  have hz' : (0 : Int) < (t.size : Int) := by omega
  have K := Lib.hid (fun w => hasByte_any selfsB t[0] w)
  by_cases h110 : t[0] = 110
  · have hb : b = 10 := by rw [h110] at hc; simpa [unB] using hc.symm
    subst hb
    have e1 := byte_same t[0] 110 h110
    change ((t[0].toNat : Int) == 110) = true at e1
    clear hc h110 K
    go_enter Tryz.func144, Tryz.ntmps144
    go_wp2
    go_ret
    exact ⟨rfl, rfl⟩
  · have e1 := byte_differ t[0] 110 h110
    change ((t[0].toNat : Int) == 110) = false at e1
    by_cases h116 : t[0] = 116
    · have hb : b = 9 := by rw [h116] at hc; simpa [unB] using hc.symm
      subst hb
      have e2 := byte_same t[0] 116 h116
      change ((t[0].toNat : Int) == 116) = true at e2
      clear hc h110 h116 K
      go_enter Tryz.func144, Tryz.ntmps144
      go_wp2
      go_ret
      exact ⟨rfl, rfl⟩
    · have e2 := byte_differ t[0] 116 h116
      change ((t[0].toNat : Int) == 116) = false at e2
      by_cases h114 : t[0] = 114
      · have hb : b = 13 := by rw [h114] at hc; simpa [unB] using hc.symm
        subst hb
        have e3 := byte_same t[0] 114 h114
        change ((t[0].toNat : Int) == 114) = true at e3
        clear hc h110 h116 h114 K
        go_enter Tryz.func144, Tryz.ntmps144
        go_wp2
        go_ret
        exact ⟨rfl, rfl⟩
      · have e3 := byte_differ t[0] 114 h114
        change ((t[0].toNat : Int) == 114) = false at e3
        rw [unB_self h110 h116 h114] at hc
        have hs1 : selfB t[0] = true := by
          cases h : selfB t[0]
          · rw [h] at hc; simp at hc
          · rfl
        rw [hs1] at hc
        have hb : t[0] = b := by simpa using hc
        have H : Hid (hasB selfsB t[0] = true) := (selfs_has _).trans hs1
        rw [H.out] at K
        have HB : Hid ((t[0].toNat : Int) = (b.toNat : Int)) := by unfold Hid; rw [hb]
        clear hc hs1 hb h110 h116 h114 H
        go_enter Tryz.func144, Tryz.ntmps144
        go_wp2_with fail
        refine (K.out _).mono ?_
        rintro e w' ⟨rfl, rfl⟩
        go_wp2
        go_ret
        exact ⟨by rw [← HB.out]; rfl, rfl⟩

set_option maxHeartbeats 1600000 in
theorem escByte_bad (t : ByteArray) (w : World) (hb : escO t.data.toList = none) (hs : t.size ≤ 1048576) :
    Calls Tryz.prog 144 #[.string t] w fun e w' => Paniced e ∧ w = w' := by
  by_cases hz : 0 < t.size
  · have hc : unB t[0] = none := by
      have e : t.data.toList = t[0] :: t.data.toList.drop 1 := by
        have hl : 0 < t.data.toList.length := by rw [← Lib.size_eq]; exact hz
        have := List.drop_eq_getElem_cons hl
        rw [List.drop_zero] at this
        exact this
      rw [e] at hb
      exact hb
    have h2 : (t.toList == []) = false := by
      rw [Lib.toList_data]
      cases h : t.data.toList with
      | nil => exfalso; have h3 := Lib.size_eq t; rw [h, List.length_nil] at h3; omega
      | cons c u => rfl
    have h2' : t.toList.isEmpty = false := by
      rw [Lib.toList_data]
      cases h : t.data.toList with
      | nil => exfalso; have h3 := Lib.size_eq t; rw [h, List.length_nil] at h3; omega
      | cons c u => rfl
    have hz' : (0 : Int) < (t.size : Int) := by omega
    have K := Lib.hid (fun w => hasByte_any selfsB t[0] w)
    have h110 : t[0] ≠ 110 := by intro e; rw [e] at hc; simp [unB] at hc
    have h116 : t[0] ≠ 116 := by intro e; rw [e] at hc; simp [unB] at hc
    have h114 : t[0] ≠ 114 := by intro e; rw [e] at hc; simp [unB] at hc
    have e1 := byte_differ t[0] 110 h110
    change ((t[0].toNat : Int) == 110) = false at e1
    have e2 := byte_differ t[0] 116 h116
    change ((t[0].toNat : Int) == 116) = false at e2
    have e3 := byte_differ t[0] 114 h114
    change ((t[0].toNat : Int) == 114) = false at e3
    rw [unB_self h110 h116 h114] at hc
    have hs1 : selfB t[0] = false := by
      cases h : selfB t[0]
      · rfl
      · rw [h] at hc; simp at hc
    have H : Hid (hasB selfsB t[0] = false) := (selfs_has _).trans hs1
    rw [H.out] at K
    clear hc hs1 hb h110 h116 h114 H
    go_enter Tryz.func144, Tryz.ntmps144
    go_wp2_with fail
    refine (K.out _).mono ?_
    rintro e w' ⟨rfl, rfl⟩
    go_wp2
    exact ⟨rfl, ⟨_, rfl⟩, rfl⟩
  · have h3 := Lib.size_eq t
    obtain rfl : t = ⟨#[]⟩ := by
      have : t.data.toList = [] := List.eq_nil_of_length_eq_zero (by omega)
      cases t with
      | mk d => cases d; simp_all
    clear hb hz h3 hs
    go_enter Tryz.func144, Tryz.ntmps144
    go_wp2
    exact ⟨rfl, ⟨_, rfl⟩, rfl⟩

end Go.Proofs.YteocaaclcecolaaGreatDoor

/- Escapes taken back: the program's loop, and its Unescape. -/
set_option maxRecDepth 100000
namespace Go.Proofs.YteocaaclcecolaaGreatDoor
open Go.RowKit
set_option linter.unusedVariables false

abbrev backB : ByteArray := ⟨#[92]⟩
theorem back_has (c : UInt8) : hasB backB c = (c == 92) := by
  unfold hasB
  simp only [List.contains_cons, List.contains_nil, Bool.or_false]
theorem unE_skip : ∀ (p r : List UInt8), (∀ x, x ∈ p → x ≠ 92) → unE (p ++ r) = (unE r).map (p ++ ·) := by
  intro p
  induction p with
  | nil => intro r _; show unE r = _; cases unE r <;> rfl
  | cons c p ih =>
    intro r h
    rw [List.cons_append, unE_plain _ (h c (by simp)), ih r (fun x hx => h x (by simp [hx]))]
    cases unE r <;> rfl
/-- where it stands: l is written, t is to be read -/
def UnTo (all l t : List UInt8) : Prop := unE all = (unE t).map (l ++ ·)
theorem unTo_start (t : List UInt8) : UnTo t [] t := by
  unfold UnTo
  cases unE t <;> rfl
theorem first_none {s : ByteArray} (h : ¬ firstIn (hasB backB) s < s.size) : ∀ x, x ∈ s.data.toList → x ≠ 92 := by
  intro x hx e
  apply h
  unfold firstIn
  rw [Lib.size_eq, List.findIdx_lt_length]
  exact ⟨x, hx, by rw [back_has, e]; rfl⟩
theorem first_some {s : ByteArray} (h : firstIn (hasB backB) s < s.size) :
    s.data.toList = s.data.toList.take (firstIn (hasB backB) s) ++ 92 :: s.data.toList.drop (firstIn (hasB backB) s + 1) ∧ ∀ x, x ∈ s.data.toList.take (firstIn (hasB backB) s) → x ≠ 92 := by
  have hl : firstIn (hasB backB) s < s.data.toList.length := by rw [← Lib.size_eq]; exact h
  have hp : hasB backB (s.data.toList[firstIn (hasB backB) s]) = true := List.findIdx_getElem (p := hasB backB)
  have e : s.data.toList[firstIn (hasB backB) s] = 92 := by rw [back_has] at hp; simpa using hp
  refine ⟨?_, ?_⟩
  · conv => lhs; rw [← List.take_append_drop (firstIn (hasB backB) s) s.data.toList, List.drop_eq_getElem_cons hl, e]
  · intro x hx e2
    obtain ⟨j, hj, rfl⟩ := List.getElem_of_mem hx
    rw [List.length_take] at hj
    have h2 : hasB backB (s.data.toList[j]'(by omega)) = false := by
      have := List.not_of_lt_findIdx (p := hasB backB) (xs := s.data.toList) (i := j) (by unfold firstIn at hj; omega)
      simpa using this
    rw [back_has] at h2
    rw [List.getElem_take] at e2
    simp [e2] at h2
theorem unTo_end {all l : List UInt8} {t : ByteArray} (h : UnTo all l t.data.toList) (hn : ¬ firstIn (hasB backB) t < t.size) : unE all = some (l ++ t.data.toList) := by
  unfold UnTo at h
  rw [h]
  have := unE_skip t.data.toList [] (first_none hn)
  rw [List.append_nil] at this
  rw [this, unE_nil]
  simp
theorem unTo_good {all l : List UInt8} {t : ByteArray} {b : UInt8} (h : UnTo all l t.data.toList) (hn : firstIn (hasB backB) t < t.size) (hb : escO (t.data.toList.drop (firstIn (hasB backB) t + 1)) = some b) :
    UnTo all (l ++ t.data.toList.take (firstIn (hasB backB) t) ++ [b]) (t.data.toList.drop (firstIn (hasB backB) t + 2)) := by
  obtain ⟨h1, h2⟩ := first_some hn
  generalize hk : firstIn (hasB backB) t = k at *
  unfold UnTo at *
  have e : t.data.toList.drop (k + 2) = (t.data.toList.drop (k + 1)).drop 1 := by rw [List.drop_drop]
  rw [e]
  rw [h1, unE_skip _ _ h2] at h
  rw [h]
  cases hd : t.data.toList.drop (k + 1) with
  | nil => rw [hd] at hb; cases hb
  | cons c u =>
    rw [hd] at hb
    rw [unE_esc u hb]
    simp only [List.drop_succ_cons, List.drop_zero]
    cases unE u with
    | none => simp
    | some x => simp
theorem unTo_bad {all l : List UInt8} {t : ByteArray} (h : UnTo all l t.data.toList) (hn : firstIn (hasB backB) t < t.size) (hb : escO (t.data.toList.drop (firstIn (hasB backB) t + 1)) = none) : unE all = none := by
  obtain ⟨h1, h2⟩ := first_some hn
  generalize hk : firstIn (hasB backB) t = k at *
  unfold UnTo at *
  rw [h1, unE_skip _ _ h2] at h
  rw [h]
  cases hd : t.data.toList.drop (k + 1) with
  | nil => rw [unE_end]; rfl
  | cons c u =>
    rw [hd] at hb
    rw [unE_bad u hb]
    rfl
theorem drop_data (t : ByteArray) (k : Nat) : (t.extract k t.size).data.toList = t.data.toList.drop k := by
  rw [Lib.extract_eq]
  simp only [Lib.size_eq]
  rw [List.take_of_length_le (by simp)]
theorem take_data (t : ByteArray) (k : Nat) : (t.extract 0 k).data.toList = t.data.toList.take k := by
  rw [Lib.extract_eq]
  simp

/-- how the loop ends -/
def UnEnd (s : ByteArray) (e : Ending) : Prop := (∃ l, unE s.data.toList = some l ∧ e = .returned (.string ⟨l.toArray⟩)) ∨ (unE s.data.toList = none ∧ Paniced e)

set_option maxRecDepth 100000 in
set_option maxHeartbeats 3200000 in
theorem replaceEscapes_impl (s : ByteArray) (w : World) (hs : s.size ≤ 1048576) :
    Calls Tryz.prog 140 #[.string s] w fun e w' => UnEnd s e ∧ Below w.heap.size w w' := by
  have h0 : BuiltF w.heap.size w.heap.size [] (w.alloc (.cells #[.pointer none, .slice none 0 0] 70)) := Lib.IsBuilderF.of (Lib.fresh_isBuilder 70 5 w)
  have H0 := Lib.hid h0
  clear h0
  go_enter Tryz.func140, Tryz.ntmps140
  go_wp2
  go_loopw [0] (fun x wr => ∃ (t : ByteArray) (l : List UInt8), x = .string t ∧ Hid (UnTo s.data.toList l t.data.toList ∧ l.length + t.size ≤ s.size) ∧ t.size ≤ 1048576 ∧ Hid (BuiltF w.heap.size w.heap.size l wr) ∧ w.heap.size < wr.heap.size ∧ Below w.heap.size w wr) (fun x _ => match x with | .string t => t.size | _ => 0)
  case atStart => exact ⟨s, [], rfl, ⟨unTo_start _, by simp⟩, hs, H0, by simp, (Below.refl _ _).alloc (Nat.le_refl _) _⟩
  case round =>
    obtain ⟨t, l, rfl, HU, ht, hB, hsz, hb⟩ := hrel
    clear H0
    have KC := Lib.hid (fun w => cutAt_impl t backB w ht (by decide))
    by_cases hf : firstIn (hasB backB) t < t.size
    · have hr : Hid (cutRes t (firstIn (hasB backB) t) = .tuple #[.string (t.extract 0 (firstIn (hasB backB) t)), .string (t.extract (firstIn (hasB backB) t + 1) t.size), .bool true]) := by unfold Hid cutRes; rw [if_pos hf]
      rw [hr.out] at KC
      have GOOD := Lib.hid (fun b => unTo_good (b := b) HU.out.1 hf)
      have BAD := Lib.hid (unTo_bad HU.out.1 hf)
      have hlen := HU.out.2
      clear hr HU
      generalize firstIn (hasB backB) t = k at *
      have e1 : Hid ((t.extract (k + 1) t.size).size + (k + 1) = t.size) := by unfold Hid; rw [ByteArray.size_extract]; omega
      have e0 : Hid ((t.extract 0 k).size = k) := by unfold Hid; rw [ByteArray.size_extract]; omega
      have d1 := Lib.hid (drop_data t (k + 1))
      have d0 := Lib.hid (take_data t k)
      rw [← d1.out] at GOOD BAD
      rw [← d0.out] at GOOD
      have d2 : Hid (t.data.toList.drop (k + 2) = (t.extract (k + 1) t.size).data.toList.drop 1) := by
        unfold Hid
        rw [d1.out, List.drop_drop]
      rw [d2.out] at GOOD
      clear d1 d0 d2
      generalize t.extract (k + 1) t.size = rest at *
      generalize t.extract 0 k = plain at *
      go_wp2_with fail
      refine (KC.out _).mono ?_
      rintro e w1 ⟨rfl, n, rfl⟩
      have hbn : Below wr.heap.size wr (wr.drewN n) := below_drewN (Below.refl _ _) n
      have hB1 := builtU_over hB.out hbn
      have hb1 := hb.trans (hbn.mono hb.size)
      have hz1 := Nat.lt_of_lt_of_le hsz hbn.size
      generalize wr.drewN n = w1 at *
      clear hbn hB hb hsz KC
      go_wp2_with fail
      refine (built_write w.heap.size w.heap.size l plain _ hB1 (by have := e0.out; omega) (by omega)).mono ?_
      rintro e w2 ⟨rfl, hB2, hb2, _⟩
      have hB2' := Lib.hid hB2
      have hb2' := hb1.trans hb2
      have hz2 := Nat.lt_of_lt_of_le hz1 hb2.size
      clear hB1 hb2 hz1 hb1 hB2
      cases hE : escO rest.data.toList with
      | none =>
        have HN : Hid (unE s.data.toList = none) := BAD.out hE
        have HE := Lib.hid hE
        clear GOOD BAD hE
        go_wp2_with fail
        refine (escByte_bad rest _ HE.out (by have := e1.out; omega)).mono ?_
        rintro e w3 ⟨⟨v, rfl⟩, rfl⟩
        go_wp2
        exact ⟨rfl, .inr ⟨HN.out, _, rfl⟩, hb2'⟩
      | some b =>
        have HG := Lib.hid (GOOD.out b hE)
        have hrs : 0 < rest.size := by
          have h3 := Lib.size_eq rest
          cases h : rest.data.toList with
          | nil => rw [h] at hE; cases hE
          | cons c u => rw [h, List.length_cons] at h3; omega
        have HE := Lib.hid hE
        clear GOOD BAD hE
        go_wp2_with fail
        refine (escByte_good rest b _ HE.out (by have := e1.out; omega)).mono ?_
        rintro e w3 ⟨rfl, rfl⟩
        go_wp2_with fail
        refine (built_byte w.heap.size w.heap.size _ b _ hB2'.out (by have := e0.out; rw [List.length_append, ← Lib.size_eq]; omega) (by omega)).mono ?_
        rintro e w4 ⟨rfl, hB4, hb4, _⟩
        have HB4 := Lib.hid hB4
        have hb4' := hb2'.trans hb4
        have hz4 := Nat.lt_of_lt_of_le hz2 hb4.size
        have hr1 : (rest.extract 1 rest.size).size = rest.size - 1 := by rw [ByteArray.size_extract]; omega
        have HG2 : Hid (UnTo s.data.toList (l ++ plain.data.toList ++ [b]) (rest.extract 1 rest.size).data.toList ∧ (l ++ plain.data.toList ++ [b]).length + (rest.extract 1 rest.size).size ≤ s.size) := by
          refine ⟨?_, ?_⟩
          · rw [drop_data]; exact HG.out
          · rw [hr1, List.length_append, List.length_append, ← Lib.size_eq, List.length_cons, List.length_nil]; have := e0.out; have := e1.out; omega
        have hr2 : (rest.extract 1 rest.size).size ≤ 1048576 := by rw [hr1]; have := e1.out; omega
        have hr3 : Hid ((rest.extract 1 rest.size).size < t.size) := by unfold Hid; rw [hr1]; have := e1.out; omega
        clear hr1
        have q1 : (1 : Int) ≤ (rest.size : Int) := by omega
        clear hB4 hb4 hB2' hb2' hz2 HE HG
        go_wp2
        go_roundw
        case rel => exact ⟨_, _, rfl, HG2, hr2, HB4, hz4, hb4'⟩
        case measure => exact hr3.out
    · have hr : Hid (cutRes t (firstIn (hasB backB) t) = .tuple #[.string t, .string ⟨#[]⟩, .bool false]) := by unfold Hid cutRes; rw [if_neg hf]
      rw [hr.out] at KC
      have HN := Lib.hid (unTo_end HU.out.1 hf)
      have hlen := HU.out.2
      clear hr HU hf
      go_wp2_with fail
      refine (KC.out _).mono ?_
      rintro e w1 ⟨rfl, n, rfl⟩
      have hbn : Below wr.heap.size wr (wr.drewN n) := below_drewN (Below.refl _ _) n
      have hB1 := builtU_over hB.out hbn
      have hb1 := hb.trans (hbn.mono hb.size)
      have hz1 := Nat.lt_of_lt_of_le hsz hbn.size
      generalize wr.drewN n = w1 at *
      clear hbn hB hb hsz KC
      go_wp2_with fail
      refine (built_write w.heap.size w.heap.size l t _ hB1 (by omega) (by omega)).mono ?_
      rintro e w2 ⟨rfl, hB2, hb2, _⟩
      have hB2' := Lib.hid hB2
      have hb2' := hb1.trans hb2
      have hz2 := Nat.lt_of_lt_of_le hz1 hb2.size
      clear hB1 hb2 hz1 hb1 hB2
      go_wp2_with fail
      refine (built_string w.heap.size w.heap.size _ _ hB2'.out (by omega)).mono ?_
      rintro e w3 ⟨rfl, _, hb3, _⟩
      have hb5 := hb2'.trans hb3
      clear hB2' hb3 hb2'
      go_wp2
      go_ret
      exact ⟨.inl ⟨_, HN.out, rfl⟩, hb5⟩

end Go.Proofs.YteocaaclcecolaaGreatDoor

/- Escapes taken back: the program's Unescape, which recovers. -/
set_option maxRecDepth 100000
namespace Go.Proofs.YteocaaclcecolaaGreatDoor
open Go.RowKit
set_option linter.unusedVariables false

theorem unCatch_panicking (u : TypeId) (pv : Value) (older : List PanicEntry) (w : World) :
    CallsD Tryz.prog 139 #[] (.panicking ({ v := .iface u pv, recovered := false } :: older)) w fun e u' w' =>
      e = .returned (.tuple #[]) ∧ u' = .panicking ({ v := .iface u pv, recovered := true } :: older) ∧ w' = w := by
  refine callsD_of_wpS Tryz.func139 rfl fun c₀ cs hu => ?_
  apply wpS_region
  simp [wpOpsS, go_sem, recoverD, hu, Tryz.ntmps139, Exit.thenS, bodyPostS, results, Tryz.results139]
theorem unCatch_idle (w : World) :
    CallsD Tryz.prog 139 #[] .returning w fun e u' w' => e = .returned (.tuple #[]) ∧ u' = .returning ∧ w' = w := by
  refine callsD_of_wpS Tryz.func139 rfl fun c₀ cs hu => ?_
  apply wpS_region
  simp [wpOpsS, go_sem, recoverD, hu, Tryz.ntmps139, Exit.thenS, bodyPostS, results, Tryz.results139]
  cases c₀
  simp_all

set_option maxRecDepth 100000 in
set_option maxHeartbeats 3200000 in
theorem unescape_impl (d : DialectD) (s : ByteArray) (w : World) (hs : s.size ≤ 1048576) :
    Calls Tryz.prog 134 #[.string s, dialectV d] w fun e w' => e = .returned (.tuple #[.string (unT d.esc s).1, .bool (unT d.esc s).2]) ∧ Below w.heap.size w w' := by
  have K := Lib.hid (fun w => replaceEscapes_impl s w hs)
  obtain ⟨d0, d1, d2, d3, d4, d5⟩ := d
  unfold dialectV
  simp only
  have hb0 := (Below.refl w.heap.size w).alloc (Nat.le_refl _) (.cells #[.string d0, .string d1, .bool d2, .bool d3, .bool d4, .int .i64 d5] 25)
  have hmf : ∀ (fn : Fn) (first cap : Array Value) (w : World), (Instr.makeFunc fn first cap).run Tryz.prog w = .ok (.func fn first cap) w := fun _ _ _ _ => rfl
  cases d4
  · rw [unT_off]
    clear K
    go_enter_defers Tryz.func134, Tryz.ntmps134
    go_wp2
    simp [bodyPostD, Leaves, settle, results, Tryz.results134, go_sem]
    exact hb0
  · go_enter_defers Tryz.func134, Tryz.ntmps134
    go_wp2_with fail
    refine (K.out _).mono ?_
    rintro e w1 ⟨hE, hb1⟩
    have hb2 := hb0.trans (hb1.mono hb0.size)
    rcases hE with ⟨l, hl, rfl⟩ | ⟨hn, v, rfl⟩
    · have HU := Lib.hid (unT_good hl)
      clear hl K hb0 hb1
      go_wp2
      refine leaves_cons (f := 139) (args := #[]) (by simp) (by simp [go_sem]) ?_
      refine (unCatch_idle _).mono ?_
      rintro e u' w'' ⟨rfl, rfl, rfl⟩
      dsimp only
      rw [HU.out]
      simp [Leaves, settle, results, Tryz.results134, go_sem]
      exact hb2
    · have HU := Lib.hid (unT_bad hn)
      clear hn K hb0 hb1
      go_wp2
      refine leaves_cons (f := 139) (args := #[]) (by simp) (by simp [go_sem]) ?_
      refine (unCatch_panicking _ _ _ _).mono ?_
      rintro e u' w'' ⟨rfl, rfl, rfl⟩
      dsimp only
      rw [HU.out]
      simp [Leaves, settle, results, Tryz.results134, go_sem]
      exact hb2

end Go.Proofs.YteocaaclcecolaaGreatDoor
