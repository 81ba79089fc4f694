/- Escapes taken back: the program's contract of Unescape. -/
import Derived.Test.YtkhkpjnpjgnckaaDoorProg
import Derived.Test.YtkhkpjnpjgnckaaDoorPlain
import Derived.Test.YtkhkpjnpjgnckaaDoorCut
import Derived.Test.YtkhkpjnpjgnckaaDoorTrim
import Derived.Test.YtkhkpjnpjgnckaaDoorBuild
import Derived.Test.YtkhkpjnpjgnckaaDoorDialectRows
import Derived.Test.YtkhkpjnpjgnckaaDoorUnescSpec
import Derived.WalkKit
import Derived.WalkLawsBesides
import Derived.Tactics
import Derived.Tactics2
import Derived.Defers
import Derived.Recover
import Derived.Lib.FrozenHead2
import Derived.Laws.IdiomStrings
import Derived.Lib.Hide
import Derived.IntWalk
set_option maxRecDepth 100000
namespace Go.Proofs.YtkhkpjnpjgnckaaDoor
open Go.RowKit
set_option linter.unusedVariables false

theorem builtAtU_over {T e B b : Nat} {p : Value} {bs : List Value} {w w' : World} (h : Lib.BuilderAtF T e B b p bs w) (hb : Below w.heap.size w w') : Lib.BuilderAtF T e B b p bs w' := by
  obtain ⟨hB, v, hbk, hown, hne⟩ := h
  refine ⟨hB, v, (hb.block b (Array.getElem?_eq_some_iff.1 hbk).1).trans hbk, ⟨hown.1, ?_⟩, hne⟩
  rcases hown.2 with h2 | ⟨g, cap, cur, fz, hv, hg0, hg, h5, h6, h7, h8, h9⟩
  · exact .inl h2
  · exact .inr ⟨g, cap, cur, fz, hv, hg0, (hb.block g (Array.getElem?_eq_some_iff.1 hg).1).trans hg, h5, h6, h7, h8, h9⟩
theorem builtU_over {B b : Nat} {l : List UInt8} {w w' : World} (h : BuiltF B b l w) (hb : Below w.heap.size w w') : BuiltF B b l w' := by
  rcases h with h | h
  · exact .inl (builtAtU_over h hb)
  · exact .inr (builtAtU_over h hb)

set_option maxHeartbeats 2000000 in
set_option maxRecDepth 100000 in
theorem built_byte (B b : Nat) (l : List UInt8) (c : UInt8) (w : World) (h : BuiltF B b l w) (hlen : l.length + 1 ≤ 140737488355328) (hBw : B ≤ w.heap.size) :
    Calls Tryd.prog 53 #[.pointer (some ⟨b, 0, none⟩), .int .u8 (c.toNat : Int)] w fun e w' => e = .returned .nilIface ∧ (BuiltF B b (l ++ [c]) w' ∧ Below B w w' ∧ Others b w w') := by
  obtain ⟨i0, hi, hz0, hz1, hz2⟩ := info_parts info_byteB
  have hbl : (Lib.byteCells l).length = l.length := by simp [Lib.byteCells]
  have happ : Lib.byteCells (l ++ [c]) = Lib.byteCells l ++ [.int .u8 (c.toNat : Int)] := by simp [Lib.byteCells]
  unfold BuiltF
  rw [happ]
  unfold BuiltF at h
  generalize Lib.byteCells l = bs at *
  rw [← hbl] at hlen
  clear hbl happ
  generalize (c.toNat : Int) = x at *
  go_enter Tryd.func53, Tryd.ntmps53
  go_wp2_with fail
  refine (check_any B b bs w h).mono ?_
  rintro e w1 ⟨rfl, h1, hb1, hk1⟩
  obtain ⟨hB, v, hbk, hown, hne⟩ := h1
  have c0 : w1.cell? ⟨b, 0, none⟩ = some (.pointer (some ⟨b, 0, none⟩)) := by rw [Lib.cell_of_heap hbk]; rfl
  have c1 : w1.cell? ⟨b, 1, none⟩ = some v := by rw [Lib.cell_of_heap hbk]; rfl
  have hown1 := World.ownsRowF.alloc hown (.cells #[.int .u8 x] 5)
  go_wp2_with (at_builtin; refine wpList_append_ownF _ rfl _ _ 22 rfl B 5 i0 (.int .u8 0) 1 1 Tryd.underlying22 hi hz0 hz1 hz2 rfl (by decide) _ _ _ rfl hown1 ⟨w1.heap.size, 0, none⟩ 1 1 [.int .u8 x] rfl rfl ?c1 ?c2 ?c3 ?c4 ?c5 ?_)
  case c1 =>
    intro j u hj
    match j, hj with
    | 0, hj => simp at hj; subst hj; simp [Addr.add]
  case c2 => intro u hu; simp at hu; subst hu; rfl
  case c3 => unfold maxLen; omega
  case c4 => omega
  case c5 => have := hb1.size; simp; omega
  intro v' w2 hown' hgrow _
  have hlt : b < w1.heap.size := World.block_lt_of_cell? _ _ c0
  have hb2 : w2.heap[b]? = some (.cells #[.pointer (some ⟨b, 0, none⟩), v] 59 (0, 0)) := by
    rw [hgrow.block b (by simp; omega) (fun e => hne e.symm), Lib.alloc_old w1 _ b hlt]
    exact hbk
  have d0 : w2.cell? ⟨b, 0, none⟩ = some (.pointer (some ⟨b, 0, none⟩)) := by rw [Lib.cell_of_heap hb2]; rfl
  have d1 : w2.cell? ⟨b, 1, none⟩ = some v := by rw [Lib.cell_of_heap hb2]; rfl
  have f1 : w2.frozen? ⟨b, 1, none⟩ = false := Lib.frozen_of_heap hb2 1
  obtain ⟨ao, n', cap, rfl⟩ : ∃ ao n' cap, v' = .slice ao n' cap := by
    rcases hown'.2 with ⟨hv, _⟩ | ⟨g, cap, cur, fz, hv, _⟩
    · exact ⟨_, _, _, hv⟩
    · exact ⟨_, _, _, hv⟩
  go_wp2
  go_ret
  refine ⟨rfl, .inr ?_, ?_, ((hk1.alloc _).grown hgrow (Lib.ownsRowF_kind hown1)).setCell ⟨b, 1, none⟩ rfl _⟩
  · exact Lib.BuilderAtF.put (T := 59) (e := 5) hB hb2 (bs' := bs ++ [.int .u8 x]) (by simpa using hown') (by decide)
  · exact ((hb1.alloc (by have := hb1.size; omega) _).grown hgrow (by have := hb1.size; simp; omega) (fun k hk => (hown.lt k hk).1)).setCell (p := ⟨b, 1, none⟩) hB _

/-! what a byte behind a backslash denotes -/
abbrev selfsB : ByteArray := ⟨#[92, 34, 91, 93, 61, 58, 35, 59, 33, 32, 9]⟩
theorem selfs_has (c : UInt8) : hasB selfsB c = selfB c := by
  unfold selfB hasB blankB
  simp only [hasB, List.contains_cons, List.contains_nil, Bool.or_false, Bool.or_assoc]
theorem unB_self {c : UInt8} (h1 : c ≠ 110) (h2 : c ≠ 116) (h3 : c ≠ 114) : unB c = if selfB c then some c else none := by
  unfold unB
  rw [if_neg h1, if_neg h2, if_neg h3]
/-- the first byte of a text, as an escape -/
def escO : List UInt8 → Option UInt8
  | [] => none
  | c :: _ => unB c
/-- it ends in a panic of a text -/
def Paniced (e : Ending) : Prop := ∃ v, e = .panicked [{ v := .iface 9 v, recovered := false }]

set_option maxHeartbeats 1600000 in
theorem escByte_good (t : ByteArray) (b : UInt8) (w : World) (hb : escO t.data.toList = some b) (hs : t.size ≤ 1048576) :
    Calls Tryd.prog 54 #[.string t] w fun e w' => e = .returned (.int .u8 (b.toNat : Int)) ∧ w = w' := by
  have hz : 0 < t.size := by
    have h3 := Lib.size_eq t
    cases h : t.data.toList with
    | nil => rw [h] at hb; cases hb
    | cons c u => rw [h, List.length_cons] at h3; omega
  have hc : unB t[0] = some b := by
    have e : t.data.toList = t[0] :: t.data.toList.drop 1 := by
      have hl : 0 < t.data.toList.length := by rw [← Lib.size_eq]; exact hz
      have := List.drop_eq_getElem_cons hl
      rw [List.drop_zero] at this
      exact this
    rw [e] at hb
    exact hb
  have h2 : (t.toList == []) = false := by
    rw [Lib.toList_data]
    cases h : t.data.toList with
    | nil => exfalso; have h3 := Lib.size_eq t; rw [h, List.length_nil] at h3; omega
    | cons c u => rfl
  have h2' : t.toList.isEmpty = false := by
    rw [Lib.toList_data]
    cases h : t.data.toList with
    | nil => exfalso; have h3 := Lib.size_eq t; rw [h, List.length_nil] at h3; omega
    | cons c u => rfl
  clear hb
  have hz' : (0 : Int) < (t.size : Int) := by omega
  have K := Lib.hid (fun w => hasByte_any selfsB t[0] w)
  by_cases h110 : t[0] = 110
  · have hb : b = 10 := by rw [h110] at hc; simpa [unB] using hc.symm
    subst hb
    have e1 := byte_same t[0] 110 h110
    change ((t[0].toNat : Int) == 110) = true at e1
    clear hc h110 K
    go_enter Tryd.func54, Tryd.ntmps54
    go_wp2
    go_ret
    exact ⟨rfl, rfl⟩
  · have e1 := byte_differ t[0] 110 h110
    change ((t[0].toNat : Int) == 110) = false at e1
    by_cases h116 : t[0] = 116
    · have hb : b = 9 := by rw [h116] at hc; simpa [unB] using hc.symm
      subst hb
      have e2 := byte_same t[0] 116 h116
      change ((t[0].toNat : Int) == 116) = true at e2
      clear hc h110 h116 K
      go_enter Tryd.func54, Tryd.ntmps54
      go_wp2
      go_ret
      exact ⟨rfl, rfl⟩
    · have e2 := byte_differ t[0] 116 h116
      change ((t[0].toNat : Int) == 116) = false at e2
      by_cases h114 : t[0] = 114
      · have hb : b = 13 := by rw [h114] at hc; simpa [unB] using hc.symm
        subst hb
        have e3 := byte_same t[0] 114 h114
        change ((t[0].toNat : Int) == 114) = true at e3
        clear hc h110 h116 h114 K
        go_enter Tryd.func54, Tryd.ntmps54
        go_wp2
        go_ret
        exact ⟨rfl, rfl⟩
      · have e3 := byte_differ t[0] 114 h114
        change ((t[0].toNat : Int) == 114) = false at e3
        rw [unB_self h110 h116 h114] at hc
        have hs1 : selfB t[0] = true := by
          cases h : selfB t[0]
          · rw [h] at hc; simp at hc
          · rfl
        rw [hs1] at hc
        have hb : t[0] = b := by simpa using hc
        have H : Hid (hasB selfsB t[0] = true) := (selfs_has _).trans hs1
        rw [H.out] at K
        have HB : Hid ((t[0].toNat : Int) = (b.toNat : Int)) := by unfold Hid; rw [hb]
        clear hc hs1 hb h110 h116 h114 H
        go_enter Tryd.func54, Tryd.ntmps54
        go_wp2_with fail
        refine (K.out _).mono ?_
        rintro e w' ⟨rfl, rfl⟩
        go_wp2
        go_ret
        exact ⟨by rw [← HB.out]; rfl, rfl⟩

set_option maxHeartbeats 1600000 in
theorem escByte_bad (t : ByteArray) (w : World) (hb : escO t.data.toList = none) (hs : t.size ≤ 1048576) :
    Calls Tryd.prog 54 #[.string t] w fun e w' => Paniced e ∧ w = w' := by
  by_cases hz : 0 < t.size
  · have hc : unB t[0] = none := by
      have e : t.data.toList = t[0] :: t.data.toList.drop 1 := by
        have hl : 0 < t.data.toList.length := by rw [← Lib.size_eq]; exact hz
        have := List.drop_eq_getElem_cons hl
        rw [List.drop_zero] at this
        exact this
      rw [e] at hb
      exact hb
    have h2 : (t.toList == []) = false := by
      rw [Lib.toList_data]
      cases h : t.data.toList with
      | nil => exfalso; have h3 := Lib.size_eq t; rw [h, List.length_nil] at h3; omega
      | cons c u => rfl
    have h2' : t.toList.isEmpty = false := by
      rw [Lib.toList_data]
      cases h : t.data.toList with
      | nil => exfalso; have h3 := Lib.size_eq t; rw [h, List.length_nil] at h3; omega
      | cons c u => rfl
    have hz' : (0 : Int) < (t.size : Int) := by omega
    have K := Lib.hid (fun w => hasByte_any selfsB t[0] w)
    have h110 : t[0] ≠ 110 := by intro e; rw [e] at hc; simp [unB] at hc
    have h116 : t[0] ≠ 116 := by intro e; rw [e] at hc; simp [unB] at hc
    have h114 : t[0] ≠ 114 := by intro e; rw [e] at hc; simp [unB] at hc
    have e1 := byte_differ t[0] 110 h110
    change ((t[0].toNat : Int) == 110) = false at e1
    have e2 := byte_differ t[0] 116 h116
    change ((t[0].toNat : Int) == 116) = false at e2
    have e3 := byte_differ t[0] 114 h114
    change ((t[0].toNat : Int) == 114) = false at e3
    rw [unB_self h110 h116 h114] at hc
    have hs1 : selfB t[0] = false := by
      cases h : selfB t[0]
      · rfl
      · rw [h] at hc; simp at hc
    have H : Hid (hasB selfsB t[0] = false) := (selfs_has _).trans hs1
    rw [H.out] at K
    clear hc hs1 hb h110 h116 h114 H
    go_enter Tryd.func54, Tryd.ntmps54
    go_wp2_with fail
    refine (K.out _).mono ?_
    rintro e w' ⟨rfl, rfl⟩
    go_wp2
    exact ⟨rfl, ⟨_, rfl⟩, rfl⟩
  · have h3 := Lib.size_eq t
    obtain rfl : t = ⟨#[]⟩ := by
      have : t.data.toList = [] := List.eq_nil_of_length_eq_zero (by omega)
      cases t with
      | mk d => cases d; simp_all
    clear hb hz h3 hs
    go_enter Tryd.func54, Tryd.ntmps54
    go_wp2
    exact ⟨rfl, ⟨_, rfl⟩, rfl⟩

end Go.Proofs.YtkhkpjnpjgnckaaDoor
