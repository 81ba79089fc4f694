/- Lines that are joined by their indent: the program's indentedValue, indentedValues. -/
import Derived.Test.YtkhkpjnpjgnckaaGreatDoorProg
import Derived.Test.YtkhkpjnpjgnckaaGreatDoorPlain
import Derived.Test.YtkhkpjnpjgnckaaGreatDoorTexts
import Derived.Test.YtkhkpjnpjgnckaaGreatDoorDialectRows
import Derived.Test.YtkhkpjnpjgnckaaGreatDoorLines
import Derived.Test.YtkhkpjnpjgnckaaGreatDoorSplitSpec
import Derived.Test.YtkhkpjnpjgnckaaGreatDoorSplitImpl
import Derived.Test.YtkhkpjnpjgnckaaGreatDoorJoin
import Derived.Test.YtkhkpjnpjgnckaaGreatDoorQuotSpec
import Derived.Test.YtkhkpjnpjgnckaaGreatDoorBareImpl
import Derived.Test.YtkhkpjnpjgnckaaGreatDoorUnescTop
import Derived.Test.YtkhkpjnpjgnckaaGreatDoorBareTop
import Derived.Test.YtkhkpjnpjgnckaaGreatDoorQuotImpl
import Derived.WalkKit
import Derived.WalkLawsBesides
import Derived.OwnWalk
import Derived.Maps.AppendAt
import Derived.Laws.IdiomStrings
import Derived.Lib.Hide
import Derived.IntWalk
import Derived.Outline
import Derived.Shelf.Strings.Builder2
import Derived.Test.YtkhkpjnpjgnckaaGreatDoorBuild
import Derived.BigQuiet
import Derived.Deep.QuietTactic
import Derived.Test.YtkhkpjnpjgnckaaGreatDoorRecRows
import Derived.Test.YtkhkpjnpjgnckaaGreatDoorRecArg
import Derived.Test.YtkhkpjnpjgnckaaGreatDoorHeadSpec
import Derived.Test.YtkhkpjnpjgnckaaGreatDoorIniSmall
import Derived.Test.YtkhkpjnpjgnckaaGreatDoorRecOf
import Derived.Test.YtkhkpjnpjgnckaaGreatDoorTakeImpl
import Derived.Test.YtkhkpjnpjgnckaaGreatDoorMarkedRec
import Derived.Deep.RegionHeld3
import Derived.Deep.AppendLies
import Derived.Lib.QuietBelow
import Derived.Laws.OwnMore
set_option maxRecDepth 100000
namespace Go.Proofs.YtkhkpjnpjgnckaaGreatDoor
open Go.RowKit
set_option linter.unusedVariables false

/-- begins with a blank -/
def blank0 (t : ByteArray) : Bool := if h : 0 < t.size then blankB t[0] else false
/-- the value of a line that is indented -/
def indV (d : DialectD) (t : ByteArray) : ByteArray × Bool := if 0 < (trim5 d.esc t).size ∧ blank0 t = true ∧ isN d (trim5 d.esc t) = false then bareT d (trim5 d.esc t) else (⟨#[]⟩, false)
set_option maxHeartbeats 3200000 in
theorem indentedValue_impl (d : DialectD) (t : ByteArray) (w : World) (hs : t.size ≤ 1048576) :
    Calls Tryz.prog 123 #[dialectV d, .string t] w fun e w' => e = .returned (.tuple #[.string (indV d t).1, .bool (indV d t).2]) ∧ Below w.heap.size w w' := by
  have hst := trim5_size d.esc t
  have hs2 : (trim5 d.esc t).size ≤ 1048576 := Nat.le_trans hst hs
  have K0 := Lib.hid (fun w => trim_implD d t w hs)
  have K1 := Lib.hid (fun (h : 0 < t.size) w => isBlankD_any t[0] w)
  have K2 := Lib.hid (fun w => isNote_impl d (trim5 d.esc t) w hs2)
  have K3 := Lib.hid (fun w => bare_impl d (trim5 d.esc t) w hs2)
  have HV : Hid (indV d t = if 0 < (trim5 d.esc t).size ∧ blank0 t = true ∧ isN d (trim5 d.esc t) = false then bareT d (trim5 d.esc t) else (⟨#[]⟩, false)) := rfl
  have HB : Hid (∀ h : 0 < t.size, blank0 t = blankB t[0]) := by intro h; unfold blank0; rw [dif_pos h]
  have HN := Lib.hid (dialAt_new w d)
  generalize indV d t = r at *
  generalize bareT d (trim5 d.esc t) = bt at *
  generalize isN d (trim5 d.esc t) = nn at *
  generalize trim5 d.esc t = tr at *
  generalize blank0 t = bl at *
  obtain ⟨b1, b2⟩ := bt
  have hb0 := (Below.refl w.heap.size w).alloc (Nat.le_refl _) (.cells #[.string d.notes, .string d.seps, .bool d.inl, .bool d.quo, .bool d.esc, .int .i64 d.join] 25)
  have hw0 : w.heap.size < (w.alloc (.cells #[.string d.notes, .string d.seps, .bool d.inl, .bool d.quo, .bool d.esc, .int .i64 d.join] 25)).heap.size := by simp
  obtain ⟨d0, d1, d2, d3, d4, d5⟩ := d
  unfold dialectV at *
  simp only at K0 K2 K3 HN hb0 hw0 ⊢
  go_enter Tryz.func123, Tryz.ntmps123
  go_wp2_with fail
  refine (K0.out _).mono ?_
  rintro e w1 ⟨rfl, hb1⟩
  have hD1 := Lib.hid (HN.out.over hb1 hw0)
  have hB1 := hb0.trans (hb1.mono hb0.size)
  have hw1 := Nat.lt_of_lt_of_le hw0 hb1.size
  clear hb1 hb0 HN hw0 K0
  obtain ⟨c0, c1, c2, c3, c4, c5⟩ := hD1.out.cells
  simp only at c0 c1 c2 c3 c4 c5
  by_cases hz : 0 < tr.size
  · obtain ⟨e1, e2⟩ := text_some tr hz
    have htz : 0 < t.size := by omega
    have htz2 : (0 : Int) < (t.size : Int) := by omega
    have hbb := HB.out htz
    replace K1 := Lib.hid (K1.out htz)
    clear HB
    rw [← hbb] at K1
    clear hbb
    cases bl
    · have HF : Hid (r = (⟨#[]⟩, false)) := by unfold Hid; rw [HV.out, if_neg (by simp)]
      clear HV K2 K3
      go_wp2_with fail
      refine (K1.out _).mono ?_
      rintro e w2 ⟨rfl, rfl⟩
      go_wp2
      go_ret2
      exact ⟨by rw [HF.out]; rfl, hB1⟩
    · cases nn
      · have HF : Hid (r = (b1, b2)) := by unfold Hid; rw [HV.out, if_pos ⟨hz, rfl, rfl⟩]
        clear HV
        go_wp2_with fail
        refine (K1.out _).mono ?_
        rintro e w2 ⟨rfl, rfl⟩
        go_wp2_with fail
        refine (K2.out _).mono ?_
        rintro e w2 ⟨rfl, hb2⟩
        clear c0 c1 c2 c3 c4 c5
        obtain ⟨c0, c1, c2, c3, c4, c5⟩ := (hD1.out.over hb2 hw1).cells
        simp only at c0 c1 c2 c3 c4 c5
        have hB2 := hB1.trans (hb2.mono hB1.size)
        clear hb2
        go_wp2_with fail
        refine (K3.out _).mono ?_
        rintro e w3 ⟨rfl, hb3⟩
        have hB3 := hB2.trans (hb3.mono hB2.size)
        clear hb3
        go_wp2
        go_ret2
        exact ⟨by rw [HF.out]; rfl, hB3⟩
      · have HF : Hid (r = (⟨#[]⟩, false)) := by unfold Hid; rw [HV.out, if_neg (by simp)]
        clear HV K3
        go_wp2_with fail
        refine (K1.out _).mono ?_
        rintro e w2 ⟨rfl, rfl⟩
        go_wp2_with fail
        refine (K2.out _).mono ?_
        rintro e w2 ⟨rfl, hb2⟩
        replace hB1 := hB1.trans (hb2.mono hB1.size)
        clear hb2 c0 c1 c2 c3 c4 c5
        go_wp2
        go_ret2
        exact ⟨by rw [HF.out]; rfl, hB1⟩
  · obtain ⟨e1, e2⟩ := text_none tr (by omega)
    have HF : Hid (r = (⟨#[]⟩, false)) := by unfold Hid; rw [HV.out, if_neg (fun h => hz h.1)]
    clear HV K1 K2 K3 HB
    go_wp2
    go_ret2
    exact ⟨by rw [HF.out]; rfl, hB1⟩

/-- the values of the lines that are joined -/
def indVs (d : DialectD) : List Ln → List ByteArray
  | [] => []
  | x :: r => if (indV d x.1).2 then (indV d x.1).1 :: indVs d r else []
theorem indVs_len (d : DialectD) (l : List Ln) : (indVs d l).length ≤ l.length := by
  induction l with
  | nil => exact Nat.le_refl _
  | cons x r ih => unfold indVs; split <;> simp; omega
theorem info_stringI : (Tryz.prog.info? 9).map (fun i => (i.zero, i.size, i.bytes)) = some (some (.string ByteArray.empty), 1, 16) := by kernel_rfl
/-- a list of texts that the call itself made -/
def OwnTextsI (w : World) (l : List ByteArray) (e : Ending) (w' : World) : Prop := ∃ v, e = .returned v ∧ (l = [] → v = .slice none 0 0) ∧ w'.ownsRow w.heap.size 9 1 v l.length (l.map Value.string) ∧ Below w.heap.size w w'
theorem own_lower {w : World} {B C e size n : Nat} {v : Value} {xs : List Value} (h : w.ownsRow B e size v n xs) (hc : C ≤ B) : w.ownsRow C e size v n xs := by
  refine ⟨h.1, ?_⟩
  rcases h.2 with h2 | ⟨g, cap, cur, hv, hb, h3⟩
  · exact .inl h2
  · exact .inr ⟨g, cap, cur, hv, by omega, h3⟩

set_option maxHeartbeats 3200000 in
theorem indentedValues_impl (d : DialectD) (w : World) (u : Value) (g o : Nat) (l : List Ln) (hu : LinesRd w u g o l) (hl : costL l ≤ 1048576) (hg : l ≠ [] → g < w.heap.size) :
    Calls Tryz.prog 86 #[dialectV d, u] w (OwnTextsI w (indVs d l)) := by
  obtain ⟨i0, hi, hz0, hz1, hz2⟩ := info_parts info_stringI
  obtain ⟨a, cap, rfl, ha⟩ := hu.form
  have hll : l.length ≤ 1048576 := by have := joinB_len l; omega
  have CU := Lib.hid hu
  have HA := Lib.hid ha
  clear hu ha
  have HP : Hid (∀ k (h : k < l.length), l[k].1.size ≤ 1048576) := by
    intro k h
    have := costL_at l k h
    omega
  have K0 := Lib.hid (fun (t : ByteArray) (w : World) (h : t.size ≤ 1048576) => indentedValue_impl d t w h)
  have HD : Hid (∀ k (h : k < l.length), indVs d (l.drop k) = if (indV d l[k].1).2 then (indV d l[k].1).1 :: indVs d (l.drop (k + 1)) else []) := by
    intro k h
    rw [List.drop_eq_getElem_cons h]
    rfl
  have HN := Lib.hid (dialAt_new w d)
  have hb0 := (Below.refl w.heap.size w).alloc (Nat.le_refl _) (.cells #[.string d.notes, .string d.seps, .bool d.inl, .bool d.quo, .bool d.esc, .int .i64 d.join] 25)
  have hw0 : w.heap.size < (w.alloc (.cells #[.string d.notes, .string d.seps, .bool d.inl, .bool d.quo, .bool d.esc, .int .i64 d.join] 25)).heap.size := by simp
  have HZ : Hid (indVs d (l.drop l.length) = []) := by unfold Hid; rw [List.drop_length]; rfl
  have H00 : Hid (indVs d l = [] ++ indVs d (l.drop 0)) := by unfold Hid; simp
  generalize hgen : indVs d = F at *
  clear hgen
  obtain ⟨d0, d1, d2, d3, d4, d5⟩ := d
  unfold dialectV at *
  simp only at K0 HN hb0 hw0 ⊢
  go_enter Tryz.func86, Tryz.ntmps86
  go_wp2
  generalize w.alloc (.cells #[.string d0, .string d1, .bool d2, .bool d3, .bool d4, .int .i64 d5] 25) = W0 at *
  go_loopw [5, 12] (fun v i wr => ∃ (k : Nat) (m : List ByteArray), k ≤ l.length ∧ i = .int .i64 k ∧ m.length ≤ k ∧ Hid (m = [] → v = .slice none 0 0) ∧ Hid (F l = m ++ F (l.drop k)) ∧ Hid (DialAt wr w.heap.size ⟨d0, d1, d2, d3, d4, d5⟩) ∧ wr.ownsRow (w.heap.size + 1) 9 1 v m.length (m.map Value.string) ∧ w.heap.size + 1 ≤ wr.heap.size ∧ Below w.heap.size w wr) (fun _ i _ => l.length - (intOf i).toNat)
  case atStart => exact ⟨0, [], Nat.zero_le _, rfl, Nat.le_refl _, fun _ => rfl, H00, HN, ⟨rfl, .inl ⟨rfl, rfl⟩⟩, hw0, hb0⟩
  case round =>
    obtain ⟨k, m, hk, rfl, hmk, hnil, hF, hD, hown, hsz, hb⟩ := hrel
    clear H00 HN hb0 hw0
    by_cases hlt : k < l.length
    · have hln : l ≠ [] := by intro e; subst e; simp at hlt
      obtain rfl := HA.out hln
      have hgl := hg hln
      have q1 := (hb.cell (p := ⟨g, o + k * 2, none⟩) hgl).trans (CU.out.c0 k hlt)
      have q2 := (hb.cell (p := ⟨g, o + k * 2 + 1, none⟩) hgl).trans (CU.out.c1 k hlt)
      have HD1 := Lib.hid (HD.out k hlt)
      have hps := HP.out k hlt
      generalize l[k] = x at *
      obtain ⟨x1, x2⟩ := x
      simp only at HD1 hps q1 q2
      have K1 := Lib.hid (fun w => K0.out x1 w hps)
      generalize indV ⟨d0, d1, d2, d3, d4, d5⟩ x1 = iv at *
      obtain ⟨v1, v2⟩ := iv
      simp only at K1 HD1
      have hbl : Below wr.heap.size wr (wr.alloc (.cells #[.string x1, .string x2] 75)) := (Below.refl _ _).alloc (Nat.le_refl _) _
      have hDl := hD.out.over hbl (by omega)
      obtain ⟨c0, c1, c2, c3, c4, c5⟩ := hDl.cells
      simp only at c0 c1 c2 c3 c4 c5
      go_wp2_with fail
      refine (K1.out _).mono ?_
      rintro e w1 ⟨rfl, hb1⟩
      have hbb := hbl.trans (hb1.mono hbl.size)
      have hD1 := Lib.hid (hD.out.over hbb (by omega))
      have hown1 := ownsRow_below hown hbb
      have hB1 := hb.trans (hbb.mono hb.size)
      have hs1 := Nat.le_trans hsz hbb.size
      clear c0 c1 c2 c3 c4 c5 hDl hbl hb1 hbb hD hown hb hsz K1 q1 q2
      cases v2
      · have HF : Hid (F l = m) := by unfold Hid; rw [hF.out, HD1.out]; simp
        clear hF HD1
        go_wp2
        go_ret
        exact ⟨_, rfl, by rw [HF.out]; exact hnil.out, by rw [HF.out]; exact own_lower hown1 (Nat.le_succ _), hB1⟩
      · have HF : Hid (F l = (m ++ [v1]) ++ F (l.drop (k + 1))) := by unfold Hid; rw [hF.out, HD1.out]; simp
        clear hF HD1
        go_wp2_with (at_builtin; refine wpList_append_own _ rfl _ _ 46 rfl (w.heap.size + 1) 9 i0 (.string ByteArray.empty) 1 16 Tryz.underlying46 hi hz0 hz1 hz2 rfl (by decide) _ _ _ rfl (hown1.alloc _) ⟨w1.heap.size, 0, none⟩ 1 1 [.string v1] rfl rfl (cell_one_new _ _ _) (by simp [Value.oneCell']) (by unfold maxLen; omega) (by omega) (by simp; omega) ?_; intro v' w2 hown' hgrow _)
        have hB2 : Below w.heap.size w w2 := (hB1.alloc (by omega) _).grown hgrow (by simp; omega) (fun j hj => by have := own_blockL hown1 j hj; omega)
        have hD2 : Hid (DialAt w2 w.heap.size ⟨d0, d1, d2, d3, d4, d5⟩) := by
          unfold Hid DialAt
          rw [hgrow.block w.heap.size (by simp; omega) (own_low hown1 (by omega)), Below.heap_alloc _ _ _ (by omega)]
          exact hD1.out
        have hs2 : w.heap.size + 1 ≤ w2.heap.size := by have := hgrow.size; simp at this; omega
        have hown2 : w2.ownsRow (w.heap.size + 1) 9 1 v' (m ++ [v1]).length ((m ++ [v1]).map Value.string) := by simpa using hown'
        clear hown' hown1 hgrow hB1 hD1 hs1 hnil
        go_wp2
        go_roundw
        case rel => exact ⟨k + 1, m ++ [v1], by omega, by go_num, by simp; omega, by intro e; simp at e, HF, hD2, hown2, hs2, hB2⟩
        case measure => simp [intOf]; omega
    · obtain rfl : k = l.length := by omega
      have HF : Hid (F l = m) := by unfold Hid; rw [hF.out, HZ.out]; simp
      clear hF
      go_wp2
      go_ret
      exact ⟨_, rfl, by rw [HF.out]; exact hnil.out, by rw [HF.out]; exact own_lower hown (Nat.le_succ _), hb⟩

end Go.Proofs.YtkhkpjnpjgnckaaGreatDoor

/- The closure of a Builder's grow at this program, for the library's contract. -/
namespace Go.Proofs.YtkhkpjnpjgnckaaGreatDoor
open Go.Shelf
def lays241_ren : Go.Shelf.Ren := ⟨fun | 241 => 148 | 277 => 166 | n => n, fun | 70 => 93 | 3 => 3 | 0 => 0 | 72 => 95 | 37 => 22 | 5 => 5 | n => n, fun | n => n⟩
theorem lays241 : Go.Proofs.Lays.n241 Tryz.prog lays241_ren := {
  mixed := by kernel_rfl
  f241 := Tryz.func148.trans (congrArg some (by kernel_rfl))
  f277 := Tryz.func166.trans (congrArg some (by kernel_rfl))
  t0 := Tryz.underlying0
  a0 := Tryz.isAgg0
  z0 := Tryz.sizeOf0
  v0 := Tryz.zeroValue0
  t3 := Tryz.underlying3
  a3 := Tryz.isAgg3
  z3 := Tryz.sizeOf3
  v3 := Tryz.zeroValue3
  t37 := Tryz.underlying22
  a37 := Tryz.isAgg22
  z37 := Tryz.sizeOf22
  v37 := Tryz.zeroValue22
  t70 := Tryz.underlying93
  a70 := Tryz.isAgg93
  z70 := Tryz.sizeOf93
  v70 := Tryz.zeroValue93
  t72 := Tryz.underlying95
  a72 := Tryz.isAgg95
  z72 := Tryz.sizeOf95
  v72 := Tryz.zeroValue95 }
end Go.Proofs.YtkhkpjnpjgnckaaGreatDoor

/- Texts put together with a line end between: a Builder's Grow, and strings.Join, at this program. -/
set_option maxRecDepth 100000
namespace Go.Proofs.YtkhkpjnpjgnckaaGreatDoor
open Go.RowKit Go.Shelf
set_option linter.unusedVariables false

theorem growX : Builder.Extra Tryz.prog lays241_ren := {
  sizeBuilder := by kernel_rfl
  liesBuilder := by kernel_rfl
  t5 := Tryz.underlying5
  a5 := Tryz.isAgg5
  z5 := Tryz.sizeOf5
  v5 := Tryz.zeroValue5
  infoByte := by kernel_rfl
  cellsByte := by kernel_rfl
  sizeByte := by kernel_rfl
  neB5 := by decide }
set_option maxHeartbeats 1600000 in
theorem grow_new (b n : Nat) (w : World) (hbk : w.heap[b]? = some (.cells #[.pointer none, .slice none 0 0] 95 (0, 0))) (hn : n ≤ 1000000000) (hn1 : 1 ≤ n) :
    Calls Tryz.prog 107 #[.pointer (some ⟨b, 0, none⟩), .int .i64 (n : Int)] w fun e w' => e = .returned (.tuple #[]) ∧ (BuiltF b b [] w' ∧ Below b w w') := by
  have hlt : b < w.heap.size := (Array.getElem?_eq_some_iff.1 hbk).1
  have hk1 : (w.setCell ⟨b, 0, none⟩ (.pointer (some ⟨b, 0, none⟩))).heap[b]? = some (.cells #[.pointer (some ⟨b, 0, none⟩), .slice none 0 0] 95 (0, 0)) := by
    simp [World.setCell, Array.getElem?_modify, hbk]
  have hb1 : Below b w (w.setCell ⟨b, 0, none⟩ (.pointer (some ⟨b, 0, none⟩))) := (Below.refl b w).setCell (p := ⟨b, 0, none⟩) (Nat.le_refl _) _
  have KC := Lib.hid (check_fresh b w (by rw [Lib.cell_of_heap hbk]; rfl) (by simp [World.shape?, hbk]) (Lib.frozen_of_heap hbk 0))
  have hz1 : b ≤ (w.setCell ⟨b, 0, none⟩ (.pointer (some ⟨b, 0, none⟩))).heap.size := by simp [World.setCell]; omega
  have HB1 := Lib.hid hb1
  have HK1 := Lib.hid hk1
  have hn2 : (0 : Int) < (n : Int) := by omega
  have hn3 : ¬ ((n : Int) < 0) := by omega
  clear hbk hb1
  go_enter Tryz.func107, Tryz.ntmps107
  go_wp2_with fail
  refine KC.out.mono ?_
  rintro e w1 ⟨rfl, rfl⟩
  have c1 : (w.setCell ⟨b, 0, none⟩ (.pointer (some ⟨b, 0, none⟩))).cell? ⟨b, 1, none⟩ = some (.slice none 0 0) := by rw [Lib.cell_of_heap hk1]; rfl
  clear hk1
  generalize w.setCell ⟨b, 0, none⟩ (.pointer (some ⟨b, 0, none⟩)) = W at *
  go_wp2_with fail
  go_quiet (fail)
  have hk2 : (W.drewN nq).heap[b]? = some (.cells #[.pointer (some ⟨b, 0, none⟩), .slice none 0 0] 95 (0, 0)) := HK1.out
  have HG := Lib.hid (Any.Builder_grow_fresh lays241 growX b b n (W.drewN nq) (Nat.le_refl _) hk2 hz1 (by omega))
  have hb2 := below_drewN HB1.out nq
  clear hk2 c1
  generalize W.drewN nq = W2 at *
  go_wp2_with fail
  refine HG.out.mono ?_
  rintro e w' ⟨rfl, h1, h2⟩
  go_wp2
  go_end0
  exact ⟨rfl, Lib.IsBuilderF.of (.inr h1), hb2.trans h2⟩

abbrev nlB : ByteArray := ⟨#[10]⟩
/-- texts with a line end ahead of each -/
def nlTail (r : List ByteArray) : List UInt8 := r.flatMap (fun y => (10 : UInt8) :: y.data.toList)
/-- texts with a line end between -/
def nlJoin : List ByteArray → List UInt8
  | [] => []
  | x :: r => x.data.toList ++ nlTail r
theorem nlTail_succ (r : List ByteArray) (k : Nat) (h : k < r.length) : nlTail (r.take (k + 1)) = nlTail (r.take k) ++ [10] ++ r[k].data.toList := by
  unfold nlTail
  rw [List.take_succ_eq_append_getElem h, List.flatMap_append]
  simp only [List.flatMap_cons, List.flatMap_nil, List.append_nil, List.append_assoc, List.cons_append, List.nil_append]
theorem nlTail_take_le (r : List ByteArray) (k : Nat) : (nlTail (r.take k)).length ≤ (nlTail r).length := by
  have e : nlTail r = nlTail (r.take k) ++ nlTail (r.drop k) := by
    unfold nlTail
    conv => lhs; rw [← List.take_append_drop k r]
    rw [List.flatMap_append]
  rw [e, List.length_append]
  omega
theorem nlTail_len (r : List ByteArray) : (nlTail r).length = r.length + (r.map (·.size)).sum := by
  induction r with
  | nil => rfl
  | cons x r ih =>
    have := Lib.size_eq x
    simp only [nlTail, List.flatMap_cons, List.length_append, List.length_cons, List.map_cons, List.sum_cons] at *
    omega
/-- the size of the first k texts -/
def sizesTo (l : List ByteArray) (k : Nat) : Nat := ((l.take k).map (·.size)).sum
theorem sizesTo_succ (l : List ByteArray) (k : Nat) (h : k < l.length) : sizesTo l (k + 1) = sizesTo l k + l[k].size := by
  unfold sizesTo
  rw [List.take_succ_eq_append_getElem h, List.map_append, List.sum_append]
  simp only [List.map_cons, List.map_nil, List.sum_cons, List.sum_nil, Nat.add_zero]
theorem sizesTo_le (l : List ByteArray) (k : Nat) : sizesTo l k ≤ sizesTo l l.length := by
  unfold sizesTo
  rw [List.take_length]
  conv => rhs; rw [← List.take_append_drop k l]
  rw [List.map_append, List.sum_append]
  omega

set_option maxHeartbeats 3200000 in
theorem joinNL_one (w : World) (g c : Nat) (x : ByteArray) (c0 : w.cell? ⟨g, 0, none⟩ = some (.string x)) :
    Calls Tryz.prog 87 #[.slice (some ⟨g, 0, none⟩) 1 c, .string nlB] w fun e w' => e = .returned (.string x) ∧ Below w.heap.size w w' := by
  go_enter Tryz.func87, Tryz.ntmps87
  go_wp2
  go_ret
  exact ⟨rfl, Below.refl _ _⟩

set_option maxHeartbeats 800000 in
theorem joinNL_many (w : World) (g c n : Nat) (xs : List ByteArray) (x : ByteArray) (r : List ByteArray) (hxs : xs = x :: r) (hr : r.length = n + 1) (hT : ∀ i (h : i < xs.length), w.cell? ⟨g, i, none⟩ = some (.string xs[i])) (hg : g < w.heap.size) (hlen : (nlJoin xs).length ≤ 10000000) (hc : xs.length ≤ c) :
    Calls Tryz.prog 87 #[.slice (some ⟨g, 0, none⟩) (n + 2) c, .string nlB] w fun e w' => e = .returned (.string ⟨(nlJoin xs).toArray⟩) ∧ Below w.heap.size w w' := by
  have hl : xs.length = n + 2 := by rw [hxs]; simp [hr]
  have hL : (nlJoin xs).length = x.size + r.length + (r.map (·.size)).sum := by
    have := nlTail_len r
    rw [hxs]
    simp only [nlJoin, List.length_append, ← Lib.size_eq]
    omega
  have hS : sizesTo xs (n + 2) = x.size + (r.map (·.size)).sum := by
    unfold sizesTo
    rw [← hl, List.take_length, hxs]
    simp
  have hS2 : sizesTo xs (n + 2) ≤ 10000000 := by omega
  have hn : n ≤ 10000000 := by omega
  have HW : Hid (∀ k, (x.data.toList ++ nlTail (r.take k)).length ≤ 10000000) := by
    intro k
    have h1 := nlTail_take_le r k
    rw [hxs] at hlen
    simp only [nlJoin, List.length_append] at hlen ⊢
    omega
  have HJ : Hid (nlJoin xs = x.data.toList ++ nlTail (r.take (n + 1))) := by unfold Hid; rw [← hr, List.take_length, hxs]; rfl
  have hX0 : w.cell? ⟨g, 0, none⟩ = some (.string x) := by
    have := hT 0 (by omega)
    simp only [hxs, List.getElem_cons_zero] at this
    exact this
  have HXK : Hid (∀ k (h : k < r.length), w.cell? ⟨g, 1 + k, none⟩ = some (.string r[k])) := by
    intro k h
    have := hT (k + 1) (by omega)
    simp only [hxs, List.getElem_cons_succ] at this
    rw [Nat.add_comm]
    exact this
  have HSL : Hid (∀ k, sizesTo xs k ≤ sizesTo xs (n + 2)) := by intro k; rw [← hl]; exact sizesTo_le xs k
  have HSS : Hid (∀ k (h : k < xs.length), sizesTo xs (k + 1) = sizesTo xs k + xs[k].size) := sizesTo_succ xs
  have HS0 : Hid (sizesTo xs 0 = 0) := by unfold Hid; simp [sizesTo]
  have HT := Lib.hid hT
  have HR := Lib.hid hr
  have HLN := Lib.hid hl
  clear hT hL hS hlen hr hl hxs
  generalize nlJoin xs = res at *
  have h1 : ((n : Int) + 2) - 1 = (n : Int) + 1 := by omega
  have h2 : ¬ (9223372036854775807 / ((n : Int) + 1) ≤ 1) := by
    have : (2 : Int) ≤ 9223372036854775807 / ((n : Int) + 1) := (Int.le_ediv_iff_mul_le (by omega)).2 (by omega)
    omega
  have h3 : (((n : Int) + 2) == 0) = false := beq_eq_false_iff_ne.2 (by omega)
  have h4 : (((n : Int) + 2) == 1) = false := beq_eq_false_iff_ne.2 (by omega)
  go_enter Tryz.func87, Tryz.ntmps87
  go_wp2_with fail
  clear h2 h3 h4
  go_loop [5, 41] (fun m i => ∃ k : Nat, k ≤ n + 2 ∧ i = .int .i64 k ∧ m = .int .i64 ((n + 1 + sizesTo xs k : Nat) : Int)) (fun _ i => n + 2 - (intOf i).toNat)
  case atStart => exact ⟨0, Nat.zero_le _, rfl, by rw [HS0.out]; go_num⟩
  case round =>
    obtain ⟨k, hk, rfl, rfl⟩ := hrel
    by_cases hlt : k < n + 2
    · have hkx : k < xs.length := by rw [HLN.out]; exact hlt
      have hcx := HT.out k hkx
      have hst := HSS.out k hkx
      have hle := HSL.out (k + 1)
      generalize xs[k] = y at *
      have hkz : (k : Int) < (n : Int) + 2 := by omega
      have hys : y.size ≤ 10000000 := by omega
      have hsk : sizesTo xs k ≤ 10000000 := by omega
      have HST := Lib.hid hst
      clear hst hle
      generalize hA : sizesTo xs k = A at *
      have HA := Lib.hid hA
      clear hA
      go_wp2
      go_round
      case rel => exact ⟨k + 1, by omega, by go_num, by rw [HST.out]; go_num⟩
      case measure => simp [intOf]; omega
    · obtain rfl : k = n + 2 := by omega
      clear HSL HSS HS0 HT
      generalize sizesTo xs (n + 2) = T at *
      have KG0 := (grow_new w.heap.size (n + 1 + T) (w.alloc (.cells #[.pointer none, .slice none 0 0] 95)) (heap_alloc_new _ _) (by omega) (by omega))
      rw [show ((n + 1 + T : Nat) : Int) = (n : Int) + 1 + (T : Int) by omega] at KG0
      have KG := Lib.hid KG0
      clear KG0
      go_wp2_with fail
      with_reducible refine KG.out.mono ?_
      rintro e w1 ⟨rfl, hB1, hb1⟩
      clear KG
      have hb1' : Below w.heap.size w w1 := ((Below.refl w.heap.size w).alloc (Nat.le_refl _) _).trans hb1
      have c0 := (hb1'.cell (p := ⟨g, 0, none⟩) hg).trans hX0
      have HB1 := Lib.hid hB1
      have hs1 := hb1'.size
      clear hB1 hb1 hX0
      go_wp2_with fail
      refine (built_write w.heap.size w.heap.size [] x _ HB1.out (by have := HW.out 0; simp at this ⊢; omega) hs1).mono ?_
      rintro e w2 ⟨rfl, hB2, hb2, _⟩
      have hb2' := hb1'.trans hb2
      have HB2 : Hid (BuiltF w.heap.size w.heap.size (x.data.toList ++ nlTail (r.take 0)) w2) := by unfold Hid; simpa [nlTail] using hB2
      clear HB1 hb1' hb2 hB2 c0 hs1
      have hcn : (1 : Int) ≤ (n : Int) + 2 := by omega
      have hcc : ¬ (c = 1) := by have := HLN.out; omega
      have hcc2 : (n : Int) + 2 ≤ (c : Int) := by have := HLN.out; omega
      go_wp2_with fail
      go_loopw [10, 65] (fun _ i wr => ∃ k : Nat, k ≤ n + 1 ∧ i = .int .i64 k ∧ Hid (BuiltF w.heap.size w.heap.size (x.data.toList ++ nlTail (r.take k)) wr) ∧ Below w.heap.size w wr) (fun _ i _ => n + 1 - (intOf i).toNat)
      case atStart => exact ⟨0, Nat.zero_le _, rfl, HB2, hb2'⟩
      case round =>
        obtain ⟨k, hk2, rfl, hB, hb⟩ := hrel
        clear HB2 hb2'
        by_cases hlt2 : k < n + 1
        · have hkr : k < r.length := by rw [HR.out]; exact hlt2
          have cy := (hb.cell (p := ⟨g, 1 + k, none⟩) hg).trans (HXK.out k hkr)
          have HN := Lib.hid (nlTail_succ r k hkr)
          have hl2 := HW.out (k + 1)
          rw [HN.out] at hl2
          simp only [List.length_append, ← Lib.size_eq] at hl2
          have HL2 := Lib.hid hl2
          clear hl2
          generalize r[k] = y at *
          have hkz : (k : Int) < (n : Int) + 1 := by omega
          have hsz := hb.size
          go_wp2_with fail
          refine (built_write w.heap.size w.heap.size _ nlB _ hB.out (by have := HL2.out; rw [List.length_append, ← Lib.size_eq, show nlB.size = 1 from rfl]; simp at this; omega) hsz).mono ?_
          rintro e w3 ⟨rfl, hB3, hb3, _⟩
          have HB3 := Lib.hid hB3
          have hb3' := hb.trans hb3
          have hsz3 := hb3'.size
          clear hB hB3 hb hb3 hsz
          go_wp2_with fail
          refine (built_write w.heap.size w.heap.size _ y _ HB3.out (by have := HL2.out; simp only [List.length_append, ← Lib.size_eq] at this ⊢; simp at this ⊢; omega) hsz3).mono ?_
          rintro e w4 ⟨rfl, hB4, hb4, _⟩
          have HB4 : Hid (BuiltF w.heap.size w.heap.size (x.data.toList ++ nlTail (r.take (k + 1))) w4) := by
            unfold Hid
            rw [HN.out]
            simpa using hB4
          have hb4' := hb3'.trans hb4
          clear HB3 hB4 hb3' hb4 cy HN HL2
          go_wp2
          go_roundw
          case rel => exact ⟨k + 1, by omega, by go_num, HB4, hb4'⟩
          case measure => simp [intOf]; omega
        · obtain rfl : k = n + 1 := by omega
          rw [← HJ.out] at hB
          go_wp2_with fail
          refine (built_string w.heap.size w.heap.size res _ hB.out hb.size).mono ?_
          rintro e w5 ⟨rfl, _, hb5, _⟩
          have hb6 := hb.trans hb5
          clear hB hb5
          go_wp2
          go_ret
          exact ⟨rfl, hb6⟩

end Go.Proofs.YtkhkpjnpjgnckaaGreatDoor

/- A record of lines that are joined by their indent: the program's indentedRec. -/
set_option maxRecDepth 100000
namespace Go.Proofs.YtkhkpjnpjgnckaaGreatDoor
open Go.RowKit Go.Sort
set_option linter.unusedVariables false

/-- append of nothing, as one step of a region that draws -/
theorem step_append_none {P : Program} (w : World) {ops : Array Oper} {o : Oper} {a : Act} {K : Act → World → Prop} {Q : Exit → Act → World → Prop} {E : Prop} (hgd : o.guard = none) (sl x : Operand) (t : TypeId)
    (ho : o.op = .call { callee := .builtin .append, args := #[sl, x], argTypes := #[t, t] })
    (base : Nat) (e : TypeId) (i : TypeInfo) (size : Nat) (ht : P.underlying t = some (.slice e)) (hi : P.info? e = some i)
    (v : Value) (n : Nat) (xs : List Value) (hs : a.eval sl = v) (hown : w.ownsRow base e size v n xs) (hx : a.eval x = .slice none 0 0)
    (h : K (a.put o.dst v) w) :
    if Region.wanted o (yielded ops a.tmps) = true then Oper.wp P o a w K Q else E := by
  have hw : Region.wanted o (yielded ops a.tmps) = true := by simp [Region.wanted, hgd]
  rw [if_pos hw]
  have hr := run_append_owned_none (P := P) (w := w) base t o.type e i size ht hi v n xs hown
  unfold Oper.wp execOp
  simp only [ho, resolve, invoke, builtin, Sem.run_bind, Sem.run_pure, Result.andThen_ok, List.map_toArray, List.map_cons, List.map_nil, hs, hx, hr]
  exact h

theorem lines_next {w : World} {g n cap : Nat} {l : List Ln} (h : LinesRd w (.slice (some ⟨g, 0, none⟩) l.length n) g 0 l) (k : Nat) (hk : k < l.length) : LinesRd w (.slice (if l.length = k + 1 then some ⟨g, 0, none⟩ else some ⟨g, (k + 1) * 2, none⟩) (l.length - (k + 1)) cap) g ((k + 1) * 2) (l.drop (k + 1)) := by
  by_cases e : l.length = k + 1
  · have h0 : l.drop (k + 1) = [] := List.drop_of_length_le (by omega)
    rw [h0, e, Nat.sub_self, if_pos rfl]
    exact ⟨⟨_, _, rfl, fun h => absurd rfl h⟩, fun i hi => absurd hi (Nat.not_lt_zero _), fun i hi => absurd hi (Nat.not_lt_zero _)⟩
  · rw [if_neg e]
    exact lines_rest h (k + 1) (by omega)
/-- what indentedRec holds -/
structure IndH (w W : World) (b : Nat) (d : DialectD) (g : Nat) (l : List Ln) (k : Nat) (sec : ByteArray) (q : Nat) (x : RecD) : Prop where
  pr : Pars W b d g l k sec
  ra : RecAt W w.heap.size noRec
  rx : RecAt W q x
  bl : Below w.heap.size w W
  hq : w.heap.size < q
  qs : q < W.heap.size
theorem IndH.over {w W W' : World} {b : Nat} {d : DialectD} {g : Nat} {l : List Ln} {k : Nat} {sec : ByteArray} {q : Nat} {x : RecD} (h : IndH w W b d g l k sec q x) (hb : Below W.heap.size W W') : IndH w W' b d g l k sec q x :=
  ⟨h.pr.over hb, h.ra.over hb (by have := h.hq; have := h.qs; omega), h.rx.over hb h.qs, h.bl.trans (hb.mono h.bl.size), h.hq, Nat.lt_of_lt_of_le h.qs hb.size⟩

theorem IndH.putVal {w W : World} {b : Nat} {d : DialectD} {g : Nat} {l : List Ln} {k : Nat} {sec : ByteArray} {q : Nat} {x0 : Int} {x1 x2 x3 x4 : ByteArray} {x5 : Int} (h : IndH w W b d g l k sec q ⟨x0, x1, x2, x3, x4, x5⟩) (v : ByteArray) (hb : b ≠ q) (hg : g ≠ q) (hw : w.heap.size ≠ q) : IndH w (W.setCell ⟨q, 4, none⟩ (.string v)) b d g l k sec q ⟨x0, x1, x2, x3, v, x5⟩ := by
  refine ⟨h.pr.set hb hg _, h.ra.set hw _, ?_, h.bl.setCell (p := ⟨q, 4, none⟩) (Nat.le_of_lt h.hq) _, h.hq, by have := h.qs; simpa [World.setCell] using this⟩
  have := h.rx
  unfold RecAt at *
  rw [set_cellR _ q 4 _ _ _ _ this]
  rfl
theorem IndH.low {w W W' : World} {B b : Nat} {d : DialectD} {g : Nat} {l : List Ln} {k : Nat} {sec : ByteArray} {q : Nat} {x : RecD} (h : IndH w W b d g l k sec q x) (hb : Below B W W') (hq : q < B) (hbB : b < B) (hgB : g < B) : IndH w W' b d g l k sec q x :=
  ⟨⟨h.pr.pa.kept (hb.block b hbB), h.pr.ls.kept (fun _ => hb.block g hgB), h.pr.ne, h.pr.co, h.pr.se⟩, h.ra.over hb (by have := h.hq; omega), h.rx.over hb hq, h.bl.trans (hb.mono (by have := h.hq; omega)), h.hq, Nat.lt_of_lt_of_le h.qs hb.size⟩
theorem own_cap {w : World} {B e size n g cap : Nat} {xs : List Value} (h : w.ownsRow B e size (.slice (some ⟨g, 0, none⟩) n cap) n xs) (hn : 0 < n) : n ≤ cap := by
  rcases h.2 with ⟨_, h0⟩ | ⟨g2, cap2, cur, hv, _, _, h3, _⟩
  · omega
  · injection hv with _ _ h5
    omega
theorem quotI_size (d : DialectD) (s : ByteArray) : (quotT d s).1.size ≤ s.size := by
  unfold quotT
  split
  · split
    · refine Nat.le_trans (unT_size _ _) ?_
      rw [ByteArray.size_extract]
      omega
    · exact Nat.zero_le _
  · exact Nat.zero_le _
theorem valI_size (d : DialectD) (s : ByteArray) : (valI d s).1.size ≤ s.size := by
  unfold valI
  split
  · exact quotI_size d s
  · exact bareT_size d s
theorem recI_size (d : DialectD) (sec t : ByteArray) : (recI d sec t).value.size ≤ t.size := by
  have h0 : (⟨#[]⟩ : ByteArray).size ≤ t.size := Nat.zero_le _
  unfold recI
  split
  · exact h0
  · split
    · exact h0
    · split
      · split <;> exact h0
      · split
        · unfold pairI
          split
          · exact Nat.le_trans (valI_size _ _) (Nat.le_trans (trim5_size _ _) (Nat.le_trans (cutZ_size _ _) (trim5_size _ _)))
          · exact h0
        · exact h0
theorem indV_size (d : DialectD) (t : ByteArray) : (indV d t).1.size ≤ t.size := by
  unfold indV
  split
  · exact Nat.le_trans (bareT_size _ _) (trim5_size _ _)
  · exact Nat.zero_le _
theorem indVs_cost (d : DialectD) (l : List Ln) : (nlTail (indVs d l)).length ≤ costL l := by
  induction l with
  | nil => exact Nat.le_refl _
  | cons x l ih =>
    have h1 : costL (x :: l) = 1 + x.1.size + x.2.size + costL l := by simp only [costL, List.length_cons, List.map_cons, List.sum_cons]; omega
    have h2 := indV_size d x.1
    unfold indVs
    split
    · rw [h1, show nlTail ((indV d x.1).1 :: indVs d l) = ((10 : UInt8) :: (indV d x.1).1.data.toList) ++ nlTail (indVs d l) from rfl, List.length_append, List.length_cons, ← Lib.size_eq]
      omega
    · simp [nlTail]
theorem own_some {w : World} {B e size n : Nat} {v : Value} {xs : List Value} (h : w.ownsRow B e size v n xs) (hn : 0 < n) : ∃ g cap, v = .slice (some ⟨g, 0, none⟩) n cap := by
  rcases h.2 with ⟨_, h0⟩ | ⟨g, cap, cur, hv, _⟩
  · omega
  · exact ⟨g, cap, hv⟩
/-- what indentedValues answers, from a world W on; its row lies from W0's end on -/
def GotA (W0 W : World) (vs : List ByteArray) (e : Ending) (w1 : World) : Prop := ∃ v, e = .returned v ∧ (vs = [] → v = .slice none 0 0) ∧ w1.ownsRow W0.heap.size 9 1 v vs.length (vs.map Value.string) ∧ Below W.heap.size W w1
/-- the values of a pair and of what is joined with it -/
def indL (d : DialectD) (sec : ByteArray) (l : List Ln) (k : Nat) (h : k < l.length) : List ByteArray := (recI d sec l[k].1).value :: indVs d (l.drop (k + 1))
def indQ (d : DialectD) (sec : ByteArray) (l : List Ln) (k : Nat) (h : k < l.length) : Bool := (recI d sec l[k].1).kind != 3 || hasQ d l[k].1
/-- how many lines it is, and the record -/
def indN (d : DialectD) (sec : ByteArray) (l : List Ln) (k : Nat) (h : k < l.length) : Nat := if indQ d sec l k h then 1 else (indL d sec l k h).length
def indR (d : DialectD) (sec : ByteArray) (l : List Ln) (k : Nat) (h : k < l.length) : RecD := if indQ d sec l k h then recI d sec l[k].1 else ⟨(recI d sec l[k].1).kind, (recI d sec l[k].1).raw, (recI d sec l[k].1).sect, (recI d sec l[k].1).key, ⟨(nlJoin (indL d sec l k h)).toArray⟩, (recI d sec l[k].1).line⟩
theorem indN_le (d : DialectD) (sec : ByteArray) (l : List Ln) (k : Nat) (h : k < l.length) : 1 ≤ indN d sec l k h ∧ k + indN d sec l k h ≤ l.length := by
  unfold indN indL
  split
  · omega
  · have := indVs_len d (l.drop (k + 1))
    rw [List.length_drop] at this
    simp only [List.length_cons]
    omega

set_option maxHeartbeats 6400000 in
theorem indentedRec_impl (d : DialectD) (w : World) (b k : Nat) (sec : ByteArray) (g : Nat) (l : List Ln) (h : Pars w b d g l k sec) (hk : k < l.length) :
    Calls Tryz.prog 56 #[.pointer (some ⟨b, 0, none⟩)] w (Stepped w b d g l k (indN d sec l k hk) (indR d sec l k hk)) := by
  have hbl := h.pa.lt
  have hb0 := (Below.refl w.heap.size w).alloc (Nat.le_refl _) (.cells #[.int .i64 0, .string ⟨#[]⟩, .string ⟨#[]⟩, .string ⟨#[]⟩, .string ⟨#[]⟩, .int .i64 0] 35)
  have HB2 : Hid (RecAt (w.alloc (.cells #[.int .i64 0, .string ⟨#[]⟩, .string ⟨#[]⟩, .string ⟨#[]⟩, .string ⟨#[]⟩, .int .i64 0] 35)) w.heap.size noRec) := recAt_new w noRec
  have hs0 : w.heap.size < (w.alloc (.cells #[.int .i64 0, .string ⟨#[]⟩, .string ⟨#[]⟩, .string ⟨#[]⟩, .string ⟨#[]⟩, .int .i64 0] 35)).heap.size := by simp
  have h0 := h.over hb0
  have hlen := h.len
  have hr1 : (k : Int) < (l.length : Int) := by omega
  have n1 : b ≠ w.heap.size := by omega
  have n2 : w.heap.size ≠ b := by omega
  have hgl := h.ls.lt (by intro e; subst e; simp at hk)
  have n3 : g ≠ w.heap.size := by omega
  have htx := h.size k hk
  have HSE := Lib.hid h.se
  have KR := Lib.hid (fun (W : World) (hW : Pars W b d g l k sec) => recOf_impl d l[k].1 W b _ k sec hW.pa htx h.se)
  have KQ := Lib.hid (fun (W : World) => hasQuoted_impl d l[k].1 W htx h.se)
  have KT := Lib.hid (fun (W : World) (c : Nat) (x : RecD) (hW : Pars W b d g l k sec) (h1 : 1 ≤ c) (h2 : k + c ≤ l.length) => take_any (c := c) x hW h1 h2)
  have KI := Lib.hid (fun (W : World) (hW : Pars W b d g l k sec) => indentedValues_impl d W (.slice (if l.length = k + 1 then some ⟨g, 0, none⟩ else some ⟨g, (k + 1) * 2, none⟩) (l.length - (k + 1)) (l.length - (k + 1))) g ((k + 1) * 2) (l.drop (k + 1)) (lines_next hW.ls k hk) (Nat.le_trans (costL_drop l (k + 1)) h.co) (fun _ => hW.ls.lt (by intro e; subst e; simp at hk)))
  have HN : Hid (indN d sec l k hk = if indQ d sec l k hk then 1 else (indL d sec l k hk).length) := rfl
  have HR : Hid (indR d sec l k hk = if indQ d sec l k hk then recI d sec l[k].1 else ⟨(recI d sec l[k].1).kind, (recI d sec l[k].1).raw, (recI d sec l[k].1).sect, (recI d sec l[k].1).key, ⟨(nlJoin (indL d sec l k hk)).toArray⟩, (recI d sec l[k].1).line⟩) := rfl
  have HQ : Hid (indQ d sec l k hk = ((recI d sec l[k].1).kind != 3 || hasQ d l[k].1)) := rfl
  have HL : Hid (indL d sec l k hk = (recI d sec l[k].1).value :: indVs d (l.drop (k + 1))) := rfl
  have HNL : Hid ((nlJoin (indL d sec l k hk)).length ≤ 10000000) := by
    have h1 := recI_size d sec l[k].1
    have h2 := indVs_cost d (l.drop (k + 1))
    have h3 := costL_drop l (k + 1)
    have h4 := h.co
    unfold Hid indL
    rw [show nlJoin ((recI d sec l[k].1).value :: indVs d (l.drop (k + 1))) = (recI d sec l[k].1).value.data.toList ++ nlTail (indVs d (l.drop (k + 1))) from rfl, List.length_append, ← Lib.size_eq]
    omega
  have t0 := h0.text k hk
  have H0 := Lib.hid h0
  have HB0 := Lib.hid hb0
  clear h h0 hb0
  generalize indN d sec l k hk = mn at *
  generalize indR d sec l k hk = mr at *
  generalize indQ d sec l k hk = mq at *
  generalize indL d sec l k hk = ml at *
  generalize recI d sec l[k].1 = x at *
  generalize hasQ d l[k].1 = hq at *
  generalize l[k].1 = tx at *
  obtain ⟨x0, x1, x2, x3, x4, x5⟩ := x
  unfold recV at KR
  simp only at KR HR HQ HL
  go_enter Tryz.func56, Tryz.ntmps56
  go_wp2_with fail
  generalize w.alloc (.cells #[.int .i64 0, .string ⟨#[]⟩, .string ⟨#[]⟩, .string ⟨#[]⟩, .string ⟨#[]⟩, .int .i64 0] 35) = W at *
  obtain ⟨p0, p1, p2, p3, p4, p5, p6, p7, p8⟩ := H0.out.pa.cells
  clear p0 p1 p2 p3 p4 p5 p8
  go_quiet (fail)
  have hbq := below_drewN (Below.refl W.heap.size W) nq
  replace H0 := Lib.hid (H0.out.over hbq)
  replace HB0 := Lib.hid (HB0.out.trans (hbq.mono HB0.out.size))
  replace HB2 := Lib.hid (HB2.out.over hbq hs0)
  replace hs0 := Nat.lt_of_lt_of_le hs0 hbq.size
  clear p6 p7 t0 hbq
  generalize W.drewN nq = W1 at *
  go_wp2_with fail
  refine (KR.out _ H0.out).mono ?_
  rintro e W2 ⟨rfl, hb2⟩
  have hbb := hb2.trans ((Below.refl W2.heap.size W2).alloc (Nat.le_refl _) (.cells #[.int .i64 x0, .string x1, .string x2, .string x3, .string x4, .int .i64 x5] 35) |>.mono hb2.size)
  have H : Hid (IndH w (W2.alloc (.cells #[.int .i64 x0, .string x1, .string x2, .string x3, .string x4, .int .i64 x5] 35)) b d g l k sec W2.heap.size ⟨x0, x1, x2, x3, x4, x5⟩) :=
    ⟨H0.out.over hbb, HB2.out.over hbb hs0, recAt_new W2 ⟨x0, x1, x2, x3, x4, x5⟩, HB0.out.trans (hbb.mono HB0.out.size), Nat.lt_of_lt_of_le hs0 hb2.size, by simp⟩
  clear KR H0 HB0 HB2 hbb hb2 hs0
  obtain ⟨d0, d1, d2, d3, d4, d5⟩ := d
  unfold dialectV at *
  simp only at KQ HSE
  unfold recV at KT
  by_cases hx : x0 = 3
  · cases hq
    · have hx2 : (x0 != 3) = false := by simpa using hx
      obtain rfl : mq = false := by rw [HQ.out, hx2]; rfl
      replace HR : Hid (mr = ⟨x0, x1, x2, x3, ⟨(nlJoin ml).toArray⟩, x5⟩) := HR.out
      replace HN : Hid (mn = ml.length) := HN.out
      clear HQ hx
      obtain ⟨p0, p1, p2, p3, p4, p5, p6, p7, p8⟩ := H.out.pr.pa.cells
      obtain ⟨c0, c1, c2, c3, c4, c5⟩ := H.out.rx.cells
      simp only at p0 p1 p2 p3 p4 p5 p6 p7 p8 c0 c1 c2 c3 c4 c5
      go_wp2_with fail
      refine (KQ.out _).mono ?_
      rintro e W3 ⟨rfl, hb3⟩
      replace H := Lib.hid (H.out.over hb3)
      clear p0 p1 p2 p3 p4 p5 p6 p7 p8 c0 c1 c2 c3 c4 c5
      clear hb3 KQ
      generalize W2.heap.size = q at *
      obtain ⟨p0, p1, p2, p3, p4, p5, p6, p7, p8⟩ := H.out.pr.pa.cells
      obtain ⟨c0, c1, c2, c3, c4, c5⟩ := H.out.rx.cells
      simp only at p0 p1 p2 p3 p4 p5 p6 p7 p8 c0 c1 c2 c3 c4 c5
      have r1 : IntKind.i64.wrap ((k : Int) + 1) = (k : Int) + 1 := IntWalk.i64_in _ (by omega)
      have r2 : ((k : Int) + 1).toNat = k + 1 := by omega
      have r3 : (k : Int) + 1 ≤ (l.length : Int) := by omega
      have r4 : (0 : Int) ≤ (k : Int) + 1 := by omega
      obtain ⟨av, hav⟩ : ∃ av : Option Addr, (if l.length = k + 1 then some (⟨g, 0, none⟩ : Addr) else some ⟨g, (k + 1) * 2, none⟩) = av := ⟨_, rfl⟩
      rw [hav] at KI
      have KA : Hid (Calls Tryz.prog 86 #[.agg #[.string d0, .string d1, .bool d2, .bool d3, .bool d4, .int .i64 d5], .slice av (l.length - (k + 1)) (l.length - (k + 1))] (W3.alloc (.cells #[.string x4] 9)).drew (GotA W3 (W3.alloc (.cells #[.string x4] 9)) (indVs ⟨d0, d1, d2, d3, d4, d5⟩ (l.drop (k + 1))))) := by
        have hb : Below W3.heap.size W3 (W3.alloc (.cells #[.string x4] 9)).drew := below_drewN ((Below.refl W3.heap.size W3).alloc (Nat.le_refl _) _) 1
        refine (KI.out _ (H.out.over hb).pr).mono ?_
        rintro e w1 ⟨v, rfl, hnil, hown, hb1⟩
        exact ⟨v, rfl, hnil, own_lower hown (by simp), (below_drewN (Below.refl _ (W3.alloc (.cells #[.string x4] 9))) 1).trans hb1⟩
      have KB : Hid (Calls Tryz.prog 86 #[.agg #[.string d0, .string d1, .bool d2, .bool d3, .bool d4, .int .i64 d5], .slice av (l.length - (k + 1)) (l.length - (k + 1))] W3.drew (GotA W3 W3 (indVs ⟨d0, d1, d2, d3, d4, d5⟩ (l.drop (k + 1))))) := by
        have hb : Below W3.heap.size W3 W3.drew := below_drewN (Below.refl W3.heap.size W3) 1
        refine (KI.out _ (H.out.over hb).pr).mono ?_
        rintro e w1 ⟨v, rfl, hnil, hown, hb1⟩
        exact ⟨v, rfl, hnil, hown, hb.trans hb1⟩
      clear KI
      have hln := indVs_len ⟨d0, d1, d2, d3, d4, d5⟩ (l.drop (k + 1))
      rw [List.length_drop] at hln
      generalize indVs ⟨d0, d1, d2, d3, d4, d5⟩ (l.drop (k + 1)) = vs at *
      obtain rfl := HL.out
      clear HL
      obtain ⟨i0, hi, hz0, hz1, hz2⟩ := info_parts info_stringI
      have hq3 := H.out.qs
      cases vs with
      | nil =>
        replace KA : Hid (Calls Tryz.prog 86 #[.agg #[.string d0, .string d1, .bool d2, .bool d3, .bool d4, .int .i64 d5], .slice av (l.length - (k + 1)) (l.length - (k + 1))] (W3.alloc (.cells #[.string x4] 9)).drew fun e w1 => e = .returned (.slice none 0 0) ∧ IndH w w1 b ⟨d0, d1, d2, d3, d4, d5⟩ g l k sec q ⟨x0, x1, x2, x3, x4, x5⟩ ∧ w1.ownsRow W3.heap.size 9 1 (.slice (some ⟨W3.heap.size, 0, none⟩) 1 1) 1 [.string x4]) := by
          refine KA.out.mono ?_
          rintro e w1 ⟨v, rfl, hnil, hown1, hb1⟩
          exact ⟨by rw [hnil rfl], H.out.over (((Below.refl W3.heap.size W3).alloc (Nat.le_refl _) _).trans (hb1.mono (by simp))), ownsRow_below (World.ownsRow_lit (base := W3.heap.size) (e := 9) (size := 1) W3 #[.string x4] 1 (Nat.le_refl _) (by decide) rfl) hb1⟩
        replace KB : Hid (Calls Tryz.prog 86 #[.agg #[.string d0, .string d1, .bool d2, .bool d3, .bool d4, .int .i64 d5], .slice av (l.length - (k + 1)) (l.length - (k + 1))] W3.drew fun e w1 => e = .returned (.slice none 0 0) ∧ IndH w w1 b ⟨d0, d1, d2, d3, d4, d5⟩ g l k sec q ⟨x0, x1, x2, x3, x4, x5⟩ ∧ (w1.alloc (.cells #[.string x4] 9)).ownsRow W3.heap.size 9 1 (.slice (some ⟨w1.heap.size, 0, none⟩) 1 1) 1 [.string x4]) := by
          refine KB.out.mono ?_
          rintro e w1 ⟨v, rfl, hnil, hown1, hb1⟩
          exact ⟨by rw [hnil rfl], H.out.over hb1, World.ownsRow_lit (base := W3.heap.size) (e := 9) (size := 1) w1 #[.string x4] 1 hb1.size (by decide) rfl⟩
        go_wp2_with fail
        go_region_held3 (fun w' => w'.cell? ⟨b, 0, none⟩ = some (.string d0) ∧ w'.cell? ⟨b, 1, none⟩ = some (.string d1) ∧ w'.cell? ⟨b, 2, none⟩ = some (.bool d2) ∧ w'.cell? ⟨b, 3, none⟩ = some (.bool d3) ∧ w'.cell? ⟨b, 4, none⟩ = some (.bool d4) ∧ w'.cell? ⟨b, 5, none⟩ = some (.int .i64 d5) ∧ w'.cell? ⟨b, 6, none⟩ = some (.slice (some ⟨g, 0, none⟩) l.length l.length) ∧ w'.cell? ⟨b, 7, none⟩ = some (.int .i64 (k : Int)) ∧ w'.cell? ⟨q, 4, none⟩ = some (.string x4))
          (first | go_keep | exact ⟨m0, m1, m2, m3, m4, m5, m6, m7, mc4⟩)
          (first
            | ((with_reducible refine KA.out.mono ?_); rintro e w1 ⟨rfl, hI1, hrow⟩; obtain ⟨m0, m1, m2, m3, m4, m5, m6, m7, m8⟩ := hI1.pr.pa.cells; obtain ⟨mc0, mc1, mc2, mc3, mc4, mc5⟩ := hI1.rx.cells; simp only at m0 m1 m2 m3 m4 m5 m6 m7 mc4)
            | ((with_reducible refine KB.out.mono ?_); rintro e w1 ⟨rfl, hI1, hrow⟩; obtain ⟨m0, m1, m2, m3, m4, m5, m6, m7, m8⟩ := hI1.pr.pa.cells; obtain ⟨mc0, mc1, mc2, mc3, mc4, mc5⟩ := hI1.rx.cells; simp only at m0 m1 m2 m3 m4 m5 m6 m7 mc4)
            | (refine step_append_none _ (by rfl) _ _ 46 (by rfl) W3.heap.size 9 i0 1 Tryz.underlying46 hi _ _ _ (by rfl) hrow (by rfl) ?_))
        · have hcell : w1.cell? ⟨W3.heap.size, 0, none⟩ = some (.string x4) := World.ownsRow.cells hrow (g := W3.heap.size) rfl 0 _ rfl
          have HI := Lib.hid hI1
          have n4 : b ≠ q := by have := H.out.hq; omega
          have n5 : g ≠ q := by have := H.out.hq; omega
          have n6 : w.heap.size ≠ q := by have := H.out.hq; omega
          clear hrow hI1 KA KB H hq3 m0 m1 m2 m3 m4 m5 m6 m7 m8 mc0 mc1 mc2 mc3 mc4 mc5 hav r1 r2 r3 r4 p0 p1 p2 p3 p4 p5 p6 p7 p8 c0 c1 c2 c3 c4 c5
          generalize W3.heap.size = gS at *
          obtain ⟨Wf, hWf⟩ : ∃ Wf, Wf = w1 := ⟨_, rfl⟩
          subst hWf
          have KJ := Lib.hid (joinNL_one Wf gS 1 x4 hcell)
          obtain ⟨jv, hjv⟩ : ∃ jv, jv = x4 := ⟨_, rfl⟩
          rw [← hjv] at KJ
          have HMN : Hid (mn = 1) := HN.out
          have HMR : Hid (mr = ⟨x0, x1, x2, x3, jv, x5⟩) := by
            unfold Hid
            rw [HR.out, hjv]
            simp [nlJoin, nlTail]
          clear HN HR hjv
          have hm1 : 1 ≤ 1 := Nat.le_refl _
          have hm2 : k + 1 ≤ l.length := by omega
          go_wp2_with fail
          with_reducible refine KJ.out.mono ?_
          rintro e w4 ⟨rfl, hb4⟩
          replace HI := Lib.hid (HI.out.over hb4)
          clear hb4 KJ
          obtain ⟨c0, c1, c2, c3, c4, c5⟩ := HI.out.rx.cells
          simp only at c0 c1 c2 c3 c4 c5
          have f4 := HI.out.rx.free 4
          have H5 := Lib.hid (HI.out.putVal jv n4 n5 n6)
          go_wp2_with fail
          clear c0 c1 c2 c3 c4 c5 f4
          have HB0 := Lib.hid H5.out.bl
          have HB2 := Lib.hid H5.out.ra
          have hs0 := Nat.lt_trans H5.out.hq H5.out.qs
          have KT2 := Lib.hid (KT.out _ _ ⟨x0, x1, x2, x3, jv, x5⟩ H5.out.pr hm1 hm2)
          clear KT HI
          try rw [hcast] at KT2
          generalize w4.setCell ⟨q, 4, none⟩ (.string jv) = W5 at *
          refine (KT2.out.mono (fun _ _ => stepV)).mono ?_
          rintro e w2 ⟨y0, y1, y2, y3, y4, y5, hT, rfl, hp2, hu2⟩
          clear KT2 H5
          have hB3 : RecAt w2 w.heap.size noRec := by
            unfold RecAt
            rw [hu2.block _ hs0 n2]
            exact HB2.out
          obtain ⟨a0, a1, a2, a3, a4, a5⟩ := hB3.cells
          simp only [noRec] at a0 a1 a2 a3 a4 a5
          have f0 := hB3.free 0
          have f1 := hB3.free 1
          have f2 := hB3.free 2
          have f3 := hB3.free 3
          have f4 := hB3.free 4
          have f5 := hB3.free 5
          have HB3 := Lib.hid hB3
          have HP2 := Lib.hid hp2
          have HU2 := Lib.hid hu2
          have HT := Lib.hid hT
          clear hB3 hp2 hu2 hT
          go_wp2
          (try simp only [Exit.inBlock, Exit.then])
          refine bodyPost_ret (rec_result _ w.heap.size _ _ _ _ rfl rfl (HB3.out.put6 _ _ _ _ _ _)) rfl ?_
          rw [HMN.out, HMR.out]
          exact stepped HT.out (HP2.out.set6 n1 n3 _ _ _ _ _ _) (((But.of HB0.out).trans (HU2.out.mono HB0.out.size)).put6 _ (Nat.le_refl _) _ _ _ _ _ _)
        · have hcell : (w1.alloc (.cells #[.string x4] 9)).cell? ⟨w1.heap.size, 0, none⟩ = some (.string x4) := World.ownsRow.cells hrow (g := w1.heap.size) rfl 0 _ rfl
          have HI := Lib.hid (hI1.over ((Below.refl w1.heap.size w1).alloc (Nat.le_refl _) (.cells #[.string x4] 9)))
          have n4 : b ≠ q := by have := H.out.hq; omega
          have n5 : g ≠ q := by have := H.out.hq; omega
          have n6 : w.heap.size ≠ q := by have := H.out.hq; omega
          clear hrow hI1 KA KB H hq3 m0 m1 m2 m3 m4 m5 m6 m7 m8 mc0 mc1 mc2 mc3 mc4 mc5 hav r1 r2 r3 r4 p0 p1 p2 p3 p4 p5 p6 p7 p8 c0 c1 c2 c3 c4 c5
          generalize w1.alloc (.cells #[.string x4] 9) = Wf at *
          generalize w1.heap.size = gS at *
          have KJ := Lib.hid (joinNL_one Wf gS 1 x4 hcell)
          obtain ⟨jv, hjv⟩ : ∃ jv, jv = x4 := ⟨_, rfl⟩
          rw [← hjv] at KJ
          have HMN : Hid (mn = 1) := HN.out
          have HMR : Hid (mr = ⟨x0, x1, x2, x3, jv, x5⟩) := by
            unfold Hid
            rw [HR.out, hjv]
            simp [nlJoin, nlTail]
          clear HN HR hjv
          have hm1 : 1 ≤ 1 := Nat.le_refl _
          have hm2 : k + 1 ≤ l.length := by omega
          go_wp2_with fail
          with_reducible refine KJ.out.mono ?_
          rintro e w4 ⟨rfl, hb4⟩
          replace HI := Lib.hid (HI.out.over hb4)
          clear hb4 KJ
          obtain ⟨c0, c1, c2, c3, c4, c5⟩ := HI.out.rx.cells
          simp only at c0 c1 c2 c3 c4 c5
          have f4 := HI.out.rx.free 4
          have H5 := Lib.hid (HI.out.putVal jv n4 n5 n6)
          go_wp2_with fail
          clear c0 c1 c2 c3 c4 c5 f4
          have HB0 := Lib.hid H5.out.bl
          have HB2 := Lib.hid H5.out.ra
          have hs0 := Nat.lt_trans H5.out.hq H5.out.qs
          have KT2 := Lib.hid (KT.out _ _ ⟨x0, x1, x2, x3, jv, x5⟩ H5.out.pr hm1 hm2)
          clear KT HI
          try rw [hcast] at KT2
          generalize w4.setCell ⟨q, 4, none⟩ (.string jv) = W5 at *
          refine (KT2.out.mono (fun _ _ => stepV)).mono ?_
          rintro e w2 ⟨y0, y1, y2, y3, y4, y5, hT, rfl, hp2, hu2⟩
          clear KT2 H5
          have hB3 : RecAt w2 w.heap.size noRec := by
            unfold RecAt
            rw [hu2.block _ hs0 n2]
            exact HB2.out
          obtain ⟨a0, a1, a2, a3, a4, a5⟩ := hB3.cells
          simp only [noRec] at a0 a1 a2 a3 a4 a5
          have f0 := hB3.free 0
          have f1 := hB3.free 1
          have f2 := hB3.free 2
          have f3 := hB3.free 3
          have f4 := hB3.free 4
          have f5 := hB3.free 5
          have HB3 := Lib.hid hB3
          have HP2 := Lib.hid hp2
          have HU2 := Lib.hid hu2
          have HT := Lib.hid hT
          clear hB3 hp2 hu2 hT
          go_wp2
          (try simp only [Exit.inBlock, Exit.then])
          refine bodyPost_ret (rec_result _ w.heap.size _ _ _ _ rfl rfl (HB3.out.put6 _ _ _ _ _ _)) rfl ?_
          rw [HMN.out, HMR.out]
          exact stepped HT.out (HP2.out.set6 n1 n3 _ _ _ _ _ _) (((But.of HB0.out).trans (HU2.out.mono HB0.out.size)).put6 _ (Nat.le_refl _) _ _ _ _ _ _)
      | cons y vs =>
        replace KA : Hid (Calls Tryz.prog 86 #[.agg #[.string d0, .string d1, .bool d2, .bool d3, .bool d4, .int .i64 d5], .slice av (l.length - (k + 1)) (l.length - (k + 1))] (W3.alloc (.cells #[.string x4] 9)).drew fun e w1 => ∃ gv cv, e = .returned (.slice (some ⟨gv, 0, none⟩) (vs.length + 1) cv) ∧ IndH w w1 b ⟨d0, d1, d2, d3, d4, d5⟩ g l k sec q ⟨x0, x1, x2, x3, x4, x5⟩ ∧ w1.ownsRow W3.heap.size 9 1 (.slice (some ⟨W3.heap.size, 0, none⟩) 1 1) 1 [.string x4] ∧ (∀ j u, ((y :: vs).map Value.string)[j]? = some u → w1.cell? ((⟨gv, 0, none⟩ : Addr).add j) = some u) ∧ W3.heap.size ≤ w1.heap.size) := by
          refine KA.out.mono ?_
          rintro e w1 ⟨v, rfl, hnil, hown1, hb1⟩
          have hbw : Below W3.heap.size W3 w1 := ((Below.refl W3.heap.size W3).alloc (Nat.le_refl _) _).trans (hb1.mono (by simp))
          obtain ⟨gv, cv, rfl⟩ := own_some hown1 (by simp)
          exact ⟨gv, cv, rfl, H.out.over hbw, ownsRow_below (World.ownsRow_lit (base := W3.heap.size) (e := 9) (size := 1) W3 #[.string x4] 1 (Nat.le_refl _) (by decide) rfl) hb1, fun j u hu => World.ownsRow.cells hown1 (g := gv) rfl j u hu, hbw.size⟩
        replace KB : Hid (Calls Tryz.prog 86 #[.agg #[.string d0, .string d1, .bool d2, .bool d3, .bool d4, .int .i64 d5], .slice av (l.length - (k + 1)) (l.length - (k + 1))] W3.drew fun e w1 => ∃ gv cv, e = .returned (.slice (some ⟨gv, 0, none⟩) (vs.length + 1) cv) ∧ IndH w w1 b ⟨d0, d1, d2, d3, d4, d5⟩ g l k sec q ⟨x0, x1, x2, x3, x4, x5⟩ ∧ (w1.alloc (.cells #[.string x4] 9)).ownsRow W3.heap.size 9 1 (.slice (some ⟨w1.heap.size, 0, none⟩) 1 1) 1 [.string x4] ∧ (∀ j u, ((y :: vs).map Value.string)[j]? = some u → (w1.alloc (.cells #[.string x4] 9)).cell? ((⟨gv, 0, none⟩ : Addr).add j) = some u) ∧ W3.heap.size ≤ w1.heap.size) := by
          refine KB.out.mono ?_
          rintro e w1 ⟨v, rfl, hnil, hown1, hb1⟩
          obtain ⟨gv, cv, rfl⟩ := own_some hown1 (by simp)
          exact ⟨gv, cv, rfl, H.out.over hb1, World.ownsRow_lit (base := W3.heap.size) (e := 9) (size := 1) w1 #[.string x4] 1 hb1.size (by decide) rfl, fun j u hu => World.ownsRow.cells (hown1.alloc _) (g := gv) rfl j u hu, hb1.size⟩
        have hbB : b < W3.heap.size := by have := H.out.hq; omega
        have hgB : g < W3.heap.size := by have := H.out.hq; omega
        have hvl : vs.length + 1 ≤ 1048576 := by simp only [List.length_cons] at hln; omega
        go_wp2_with fail
        go_region_held3 (fun w' => w'.cell? ⟨b, 0, none⟩ = some (.string d0) ∧ w'.cell? ⟨b, 1, none⟩ = some (.string d1) ∧ w'.cell? ⟨b, 2, none⟩ = some (.bool d2) ∧ w'.cell? ⟨b, 3, none⟩ = some (.bool d3) ∧ w'.cell? ⟨b, 4, none⟩ = some (.bool d4) ∧ w'.cell? ⟨b, 5, none⟩ = some (.int .i64 d5) ∧ w'.cell? ⟨b, 6, none⟩ = some (.slice (some ⟨g, 0, none⟩) l.length l.length) ∧ w'.cell? ⟨b, 7, none⟩ = some (.int .i64 (k : Int)) ∧ w'.cell? ⟨q, 4, none⟩ = some (.string x4))
          (first | go_keep | exact ⟨m0, m1, m2, m3, m4, m5, m6, m7, mc4⟩ | exact ⟨z0, z1, z2, z3, z4, z5, z6, z7, zc4⟩)
          (first
            | ((with_reducible refine KA.out.mono ?_); rintro e w1 ⟨gv, cv, rfl, hI1, hrow, hcv, hsz1⟩; obtain ⟨m0, m1, m2, m3, m4, m5, m6, m7, m8⟩ := hI1.pr.pa.cells; obtain ⟨mc0, mc1, mc2, mc3, mc4, mc5⟩ := hI1.rx.cells; simp only at m0 m1 m2 m3 m4 m5 m6 m7 mc4)
            | ((with_reducible refine KB.out.mono ?_); rintro e w1 ⟨gv, cv, rfl, hI1, hrow, hcv, hsz1⟩; obtain ⟨m0, m1, m2, m3, m4, m5, m6, m7, m8⟩ := hI1.pr.pa.cells; obtain ⟨mc0, mc1, mc2, mc3, mc4, mc5⟩ := hI1.rx.cells; simp only at m0 m1 m2 m3 m4 m5 m6 m7 mc4)
            | (refine step_append_lies _ (by rfl) _ _ _ (by rfl) W3.heap.size 9 i0 (.string ByteArray.empty) 1 16 Tryz.underlying46 hi hz0 hz1 hz2 rfl (by decide) _ _ _ (by rfl) hrow ⟨gv, 0, none⟩ (vs.length + 1) cv ((y :: vs).map Value.string) (by rfl) (by simp) hcv (by simp [Value.oneCell']) (by omega) (by unfold maxLen; omega) (by omega) hsz1 _ rfl ?_; intro gg cap w2 hown2 hgrow hat hlt2; have hkI := hI1.low ((Below.refl W3.heap.size w1).grown hgrow hsz1 (own_blockL hrow)) H.out.qs hbB hgB; obtain ⟨z0, z1, z2, z3, z4, z5, z6, z7, z8⟩ := hkI.pr.pa.cells; obtain ⟨zc0, zc1, zc2, zc3, zc4, zc5⟩ := hkI.rx.cells; simp only at z0 z1 z2 z3 z4 z5 z6 z7 zc4)
            | (refine step_append_lies _ (by rfl) _ _ _ (by rfl) W3.heap.size 9 i0 (.string ByteArray.empty) 1 16 Tryz.underlying46 hi hz0 hz1 hz2 rfl (by decide) _ _ _ (by rfl) hrow ⟨gv, 0, none⟩ (vs.length + 1) cv ((y :: vs).map Value.string) (by rfl) (by simp) hcv (by simp [Value.oneCell']) (by omega) (by unfold maxLen; omega) (by omega) (by simp; omega) _ rfl ?_; intro gg cap w2 hown2 hgrow hat hlt2; have hkI := hI1.low (((Below.refl W3.heap.size w1).alloc hsz1 _).grown hgrow (by simp; omega) (own_blockL hrow)) H.out.qs hbB hgB; obtain ⟨z0, z1, z2, z3, z4, z5, z6, z7, z8⟩ := hkI.pr.pa.cells; obtain ⟨zc0, zc1, zc2, zc3, zc4, zc5⟩ := hkI.rx.cells; simp only at z0 z1 z2 z3 z4 z5 z6 z7 zc4))
        ·
          have e9 : 1 + (vs.length + 1) = vs.length + 2 := by omega
          rw [e9] at hown2
          rw [e9]
          have hcells : ∀ i (h : i < (x4 :: y :: vs).length), w2.cell? ⟨gg, i, none⟩ = some (.string (x4 :: y :: vs)[i]) := by
            intro i h
            have := World.ownsRow.cells hown2 (g := gg) rfl i (.string (x4 :: y :: vs)[i]) (by rw [show [Value.string x4] ++ (y :: vs).map Value.string = (x4 :: y :: vs).map Value.string from rfl, List.getElem?_map, List.getElem?_eq_getElem h]; rfl)
            rwa [row_addr] at this
          have hcp := own_cap hown2 (by omega)
          have KJ0 := joinNL_many w2 gg cap vs.length (x4 :: y :: vs) x4 (y :: vs) rfl rfl hcells hlt2 HNL.out hcp
          obtain ⟨jv, hjv⟩ : ∃ jv : ByteArray, jv = ⟨(nlJoin (x4 :: y :: vs)).toArray⟩ := ⟨_, rfl⟩
          rw [← hjv] at KJ0
          have KJ := Lib.hid KJ0
          have HI := Lib.hid hkI
          have n4 : b ≠ q := by have := H.out.hq; omega
          have n5 : g ≠ q := by have := H.out.hq; omega
          have n6 : w.heap.size ≠ q := by have := H.out.hq; omega
          have HMN : Hid (mn = vs.length + 2) := HN.out
          have HMR : Hid (mr = ⟨x0, x1, x2, x3, jv, x5⟩) := by unfold Hid; rw [HR.out, hjv]
          have hm1 : 1 ≤ vs.length + 2 := by omega
          have hm2 : k + (vs.length + 2) ≤ l.length := by simp only [List.length_cons] at hln; omega
          have hcast : ((vs.length + 2 : Nat) : Int) = (vs.length : Int) + 2 := by omega
          clear e9 hcells hcp KJ0 hjv HN HR hrow hI1 hkI KA KB H hq3 m0 m1 m2 m3 m4 m5 m6 m7 m8 mc0 mc1 mc2 mc3 mc4 mc5 z0 z1 z2 z3 z4 z5 z6 z7 z8 zc0 zc1 zc2 zc3 zc4 zc5 hav r1 r2 r3 r4 p0 p1 p2 p3 p4 p5 p6 p7 p8 c0 c1 c2 c3 c4 c5 hown2 hgrow hat hcv hsz1 hbB hgB
          go_wp2_with fail
          with_reducible refine KJ.out.mono ?_
          rintro e w4 ⟨rfl, hb4⟩
          replace HI := Lib.hid (HI.out.over hb4)
          clear hb4 KJ
          obtain ⟨c0, c1, c2, c3, c4, c5⟩ := HI.out.rx.cells
          simp only at c0 c1 c2 c3 c4 c5
          have f4 := HI.out.rx.free 4
          have H5 := Lib.hid (HI.out.putVal jv n4 n5 n6)
          go_wp2_with fail
          clear c0 c1 c2 c3 c4 c5 f4
          have HB0 := Lib.hid H5.out.bl
          have HB2 := Lib.hid H5.out.ra
          have hs0 := Nat.lt_trans H5.out.hq H5.out.qs
          have KT2 := Lib.hid (KT.out _ _ ⟨x0, x1, x2, x3, jv, x5⟩ H5.out.pr hm1 hm2)
          clear KT HI
          try rw [hcast] at KT2
          generalize w4.setCell ⟨q, 4, none⟩ (.string jv) = W5 at *
          refine (KT2.out.mono (fun _ _ => stepV)).mono ?_
          rintro e w2 ⟨y0, y1, y2, y3, y4, y5, hT, rfl, hp2, hu2⟩
          clear KT2 H5
          have hB3 : RecAt w2 w.heap.size noRec := by
            unfold RecAt
            rw [hu2.block _ hs0 n2]
            exact HB2.out
          obtain ⟨a0, a1, a2, a3, a4, a5⟩ := hB3.cells
          simp only [noRec] at a0 a1 a2 a3 a4 a5
          have f0 := hB3.free 0
          have f1 := hB3.free 1
          have f2 := hB3.free 2
          have f3 := hB3.free 3
          have f4 := hB3.free 4
          have f5 := hB3.free 5
          have HB3 := Lib.hid hB3
          have HP2 := Lib.hid hp2
          have HU2 := Lib.hid hu2
          have HT := Lib.hid hT
          clear hB3 hp2 hu2 hT
          go_wp2
          (try simp only [Exit.inBlock, Exit.then])
          refine bodyPost_ret (rec_result _ w.heap.size _ _ _ _ rfl rfl (HB3.out.put6 _ _ _ _ _ _)) rfl ?_
          rw [HMN.out, HMR.out]
          exact stepped HT.out (HP2.out.set6 n1 n3 _ _ _ _ _ _) (((But.of HB0.out).trans (HU2.out.mono HB0.out.size)).put6 _ (Nat.le_refl _) _ _ _ _ _ _)
        ·
          have e9 : 1 + (vs.length + 1) = vs.length + 2 := by omega
          rw [e9] at hown2
          rw [e9]
          have hcells : ∀ i (h : i < (x4 :: y :: vs).length), w2.cell? ⟨gg, i, none⟩ = some (.string (x4 :: y :: vs)[i]) := by
            intro i h
            have := World.ownsRow.cells hown2 (g := gg) rfl i (.string (x4 :: y :: vs)[i]) (by rw [show [Value.string x4] ++ (y :: vs).map Value.string = (x4 :: y :: vs).map Value.string from rfl, List.getElem?_map, List.getElem?_eq_getElem h]; rfl)
            rwa [row_addr] at this
          have hcp := own_cap hown2 (by omega)
          have KJ0 := joinNL_many w2 gg cap vs.length (x4 :: y :: vs) x4 (y :: vs) rfl rfl hcells hlt2 HNL.out hcp
          obtain ⟨jv, hjv⟩ : ∃ jv : ByteArray, jv = ⟨(nlJoin (x4 :: y :: vs)).toArray⟩ := ⟨_, rfl⟩
          rw [← hjv] at KJ0
          have KJ := Lib.hid KJ0
          have HI := Lib.hid hkI
          have n4 : b ≠ q := by have := H.out.hq; omega
          have n5 : g ≠ q := by have := H.out.hq; omega
          have n6 : w.heap.size ≠ q := by have := H.out.hq; omega
          have HMN : Hid (mn = vs.length + 2) := HN.out
          have HMR : Hid (mr = ⟨x0, x1, x2, x3, jv, x5⟩) := by unfold Hid; rw [HR.out, hjv]
          have hm1 : 1 ≤ vs.length + 2 := by omega
          have hm2 : k + (vs.length + 2) ≤ l.length := by simp only [List.length_cons] at hln; omega
          have hcast : ((vs.length + 2 : Nat) : Int) = (vs.length : Int) + 2 := by omega
          clear e9 hcells hcp KJ0 hjv HN HR hrow hI1 hkI KA KB H hq3 m0 m1 m2 m3 m4 m5 m6 m7 m8 mc0 mc1 mc2 mc3 mc4 mc5 z0 z1 z2 z3 z4 z5 z6 z7 z8 zc0 zc1 zc2 zc3 zc4 zc5 hav r1 r2 r3 r4 p0 p1 p2 p3 p4 p5 p6 p7 p8 c0 c1 c2 c3 c4 c5 hown2 hgrow hat hcv hsz1 hbB hgB
          go_wp2_with fail
          with_reducible refine KJ.out.mono ?_
          rintro e w4 ⟨rfl, hb4⟩
          replace HI := Lib.hid (HI.out.over hb4)
          clear hb4 KJ
          obtain ⟨c0, c1, c2, c3, c4, c5⟩ := HI.out.rx.cells
          simp only at c0 c1 c2 c3 c4 c5
          have f4 := HI.out.rx.free 4
          have H5 := Lib.hid (HI.out.putVal jv n4 n5 n6)
          go_wp2_with fail
          clear c0 c1 c2 c3 c4 c5 f4
          have HB0 := Lib.hid H5.out.bl
          have HB2 := Lib.hid H5.out.ra
          have hs0 := Nat.lt_trans H5.out.hq H5.out.qs
          have KT2 := Lib.hid (KT.out _ _ ⟨x0, x1, x2, x3, jv, x5⟩ H5.out.pr hm1 hm2)
          clear KT HI
          try rw [hcast] at KT2
          generalize w4.setCell ⟨q, 4, none⟩ (.string jv) = W5 at *
          refine (KT2.out.mono (fun _ _ => stepV)).mono ?_
          rintro e w2 ⟨y0, y1, y2, y3, y4, y5, hT, rfl, hp2, hu2⟩
          clear KT2 H5
          have hB3 : RecAt w2 w.heap.size noRec := by
            unfold RecAt
            rw [hu2.block _ hs0 n2]
            exact HB2.out
          obtain ⟨a0, a1, a2, a3, a4, a5⟩ := hB3.cells
          simp only [noRec] at a0 a1 a2 a3 a4 a5
          have f0 := hB3.free 0
          have f1 := hB3.free 1
          have f2 := hB3.free 2
          have f3 := hB3.free 3
          have f4 := hB3.free 4
          have f5 := hB3.free 5
          have HB3 := Lib.hid hB3
          have HP2 := Lib.hid hp2
          have HU2 := Lib.hid hu2
          have HT := Lib.hid hT
          clear hB3 hp2 hu2 hT
          go_wp2
          (try simp only [Exit.inBlock, Exit.then])
          refine bodyPost_ret (rec_result _ w.heap.size _ _ _ _ rfl rfl (HB3.out.put6 _ _ _ _ _ _)) rfl ?_
          rw [HMN.out, HMR.out]
          exact stepped HT.out (HP2.out.set6 n1 n3 _ _ _ _ _ _) (((But.of HB0.out).trans (HU2.out.mono HB0.out.size)).put6 _ (Nat.le_refl _) _ _ _ _ _ _)
    · have hx2 : (x0 != 3) = false := by simpa using hx
      obtain rfl : mq = true := by rw [HQ.out]; simp
      obtain rfl : mr = ⟨x0, x1, x2, x3, x4, x5⟩ := HR.out
      obtain rfl : mn = 1 := HN.out
      clear HQ HR HN HL KI hx
      obtain ⟨p0, p1, p2, p3, p4, p5, p6, p7, p8⟩ := H.out.pr.pa.cells
      obtain ⟨c0, c1, c2, c3, c4, c5⟩ := H.out.rx.cells
      simp only at p0 p1 p2 p3 p4 p5 p6 p7 p8 c0 c1 c2 c3 c4 c5
      go_wp2_with fail
      refine (KQ.out _).mono ?_
      rintro e W3 ⟨rfl, hb3⟩
      replace H := Lib.hid (H.out.over hb3)
      clear p0 p1 p2 p3 p4 p5 p6 p7 p8 c0 c1 c2 c3 c4 c5
      clear hb3 KQ
      generalize W2.heap.size = q at *
      obtain ⟨p0, p1, p2, p3, p4, p5, p6, p7, p8⟩ := H.out.pr.pa.cells
      obtain ⟨c0, c1, c2, c3, c4, c5⟩ := H.out.rx.cells
      simp only at p0 p1 p2 p3 p4 p5 p6 p7 p8 c0 c1 c2 c3 c4 c5
      go_wp2_with fail
      clear p0 p1 p2 p3 p4 p5 p6 p7 p8 c0 c1 c2 c3 c4 c5
      have HB0 := Lib.hid H.out.bl
      have HB2 := Lib.hid H.out.ra
      have hs0 := Nat.lt_trans H.out.hq H.out.qs
      refine ((KT.out _ 1 ⟨x0, x1, x2, x3, x4, x5⟩ H.out.pr (Nat.le_refl _) (by omega)).mono (fun _ _ => stepV)).mono ?_
      rintro e w2 ⟨y0, y1, y2, y3, y4, y5, hT, rfl, hp2, hu2⟩
      clear KT H
      have hB3 : RecAt w2 w.heap.size noRec := by
        unfold RecAt
        rw [hu2.block _ hs0 n2]
        exact HB2.out
      obtain ⟨a0, a1, a2, a3, a4, a5⟩ := hB3.cells
      simp only [noRec] at a0 a1 a2 a3 a4 a5
      have f0 := hB3.free 0
      have f1 := hB3.free 1
      have f2 := hB3.free 2
      have f3 := hB3.free 3
      have f4 := hB3.free 4
      have f5 := hB3.free 5
      have HB3 := Lib.hid hB3
      have HP2 := Lib.hid hp2
      have HU2 := Lib.hid hu2
      have HT := Lib.hid hT
      clear hB3 hp2 hu2 hT
      go_wp2
      (try simp only [Exit.inBlock, Exit.then])
      exact bodyPost_ret (rec_result _ w.heap.size _ _ _ _ rfl rfl (HB3.out.put6 _ _ _ _ _ _)) rfl (stepped HT.out (HP2.out.set6 n1 n3 _ _ _ _ _ _) (((But.of HB0.out).trans (HU2.out.mono HB0.out.size)).put6 _ (Nat.le_refl _) _ _ _ _ _ _))
  · have hx2 : (x0 != 3) = true := by simpa using hx
    obtain rfl : mq = true := by rw [HQ.out, hx2]; rfl
    obtain rfl : mr = ⟨x0, x1, x2, x3, x4, x5⟩ := HR.out
    obtain rfl : mn = 1 := HN.out
    clear HQ HR HN HL KI KQ hx
    obtain ⟨p0, p1, p2, p3, p4, p5, p6, p7, p8⟩ := H.out.pr.pa.cells
    obtain ⟨c0, c1, c2, c3, c4, c5⟩ := H.out.rx.cells
    simp only at p0 p1 p2 p3 p4 p5 p6 p7 p8 c0 c1 c2 c3 c4 c5
    go_wp2_with fail
    clear p0 p1 p2 p3 p4 p5 p6 p7 p8 c0 c1 c2 c3 c4 c5
    have HB0 := Lib.hid H.out.bl
    have HB2 := Lib.hid H.out.ra
    have hs0 := Nat.lt_trans H.out.hq H.out.qs
    refine ((KT.out _ 1 ⟨x0, x1, x2, x3, x4, x5⟩ H.out.pr (Nat.le_refl _) (by omega)).mono (fun _ _ => stepV)).mono ?_
    rintro e w2 ⟨y0, y1, y2, y3, y4, y5, hT, rfl, hp2, hu2⟩
    clear KT H
    have hB3 : RecAt w2 w.heap.size noRec := by
      unfold RecAt
      rw [hu2.block _ hs0 n2]
      exact HB2.out
    obtain ⟨a0, a1, a2, a3, a4, a5⟩ := hB3.cells
    simp only [noRec] at a0 a1 a2 a3 a4 a5
    have f0 := hB3.free 0
    have f1 := hB3.free 1
    have f2 := hB3.free 2
    have f3 := hB3.free 3
    have f4 := hB3.free 4
    have f5 := hB3.free 5
    have HB3 := Lib.hid hB3
    have HP2 := Lib.hid hp2
    have HU2 := Lib.hid hu2
    have HT := Lib.hid hT
    clear hB3 hp2 hu2 hT
    go_wp2
    (try simp only [Exit.inBlock, Exit.then])
    exact bodyPost_ret (rec_result _ w.heap.size _ _ _ _ rfl rfl (HB3.out.put6 _ _ _ _ _ _)) rfl (stepped HT.out (HP2.out.set6 n1 n3 _ _ _ _ _ _) (((But.of HB0.out).trans (HU2.out.mono HB0.out.size)).put6 _ (Nat.le_refl _) _ _ _ _ _ _))

end Go.Proofs.YtkhkpjnpjgnckaaGreatDoor
