/- Lines that are joined by their indent: the program's indentedValue, indentedValues. -/
import Derived.Test.YtcphmgdeigbemaaDoorProg
import Derived.Test.YtcphmgdeigbemaaDoorPlain
import Derived.Test.YtcphmgdeigbemaaDoorTexts
import Derived.Test.YtcphmgdeigbemaaDoorDialectRows
import Derived.Test.YtcphmgdeigbemaaDoorLines
import Derived.Test.YtcphmgdeigbemaaDoorLinesArg
import Derived.Test.YtcphmgdeigbemaaDoorSplitSpec
import Derived.Test.YtcphmgdeigbemaaDoorSplitImpl
import Derived.Test.YtcphmgdeigbemaaDoorJoin
import Derived.Test.YtcphmgdeigbemaaDoorBareSpec
import Derived.Test.YtcphmgdeigbemaaDoorQuotSpec
import Derived.Test.YtcphmgdeigbemaaDoorBareImpl
import Derived.Test.YtcphmgdeigbemaaDoorBareRun
import Derived.Test.YtcphmgdeigbemaaDoorBareTop
import Derived.Test.YtcphmgdeigbemaaDoorQuotImpl
import Derived.WalkKit
import Derived.WalkLawsBesides
import Derived.OwnWalk
import Derived.Maps.AppendAt
import Derived.Laws.IdiomStrings
import Derived.Lib.Hide
import Derived.IntWalk
import Derived.Outline
set_option maxRecDepth 100000
namespace Go.Proofs.YtcphmgdeigbemaaDoor
open Go.RowKit
set_option linter.unusedVariables false

/-- begins with a blank -/
def blank0 (t : ByteArray) : Bool := if h : 0 < t.size then blankB t[0] else false
/-- the value of a line that is indented -/
def indV (d : DialectD) (t : ByteArray) : ByteArray × Bool := if 0 < (trim5 d.esc t).size ∧ blank0 t = true ∧ isN d (trim5 d.esc t) = false then bareT d (trim5 d.esc t) else (⟨#[]⟩, false)
set_option maxHeartbeats 3200000 in
theorem indentedValue_impl (d : DialectD) (t : ByteArray) (w : World) (hs : t.size ≤ 1048576) :
    Calls Tryd.prog 85 #[dialectV d, .string t] w fun e w' => e = .returned (.tuple #[.string (indV d t).1, .bool (indV d t).2]) ∧ Below w.heap.size w w' := by
  have hst := trim5_size d.esc t
  have hs2 : (trim5 d.esc t).size ≤ 1048576 := Nat.le_trans hst hs
  have K0 := Lib.hid (fun w => trim_implD d t w hs)
  have K1 := Lib.hid (fun (h : 0 < t.size) w => isBlankD_any t[0] w)
  have K2 := Lib.hid (fun w => isNote_impl d (trim5 d.esc t) w hs2)
  have K3 := Lib.hid (fun w => bare_impl d (trim5 d.esc t) w hs2)
  have HV : Hid (indV d t = if 0 < (trim5 d.esc t).size ∧ blank0 t = true ∧ isN d (trim5 d.esc t) = false then bareT d (trim5 d.esc t) else (⟨#[]⟩, false)) := rfl
  have HB : Hid (∀ h : 0 < t.size, blank0 t = blankB t[0]) := by intro h; unfold blank0; rw [dif_pos h]
  have HN := Lib.hid (dialAt_new w d)
  generalize indV d t = r at *
  generalize bareT d (trim5 d.esc t) = bt at *
  generalize isN d (trim5 d.esc t) = nn at *
  generalize trim5 d.esc t = tr at *
  generalize blank0 t = bl at *
  obtain ⟨b1, b2⟩ := bt
  have hb0 := (Below.refl w.heap.size w).alloc (Nat.le_refl _) (.cells #[.string d.notes, .string d.seps, .bool d.inl, .bool d.quo, .bool d.esc, .int .i64 d.join] 25)
  have hw0 : w.heap.size < (w.alloc (.cells #[.string d.notes, .string d.seps, .bool d.inl, .bool d.quo, .bool d.esc, .int .i64 d.join] 25)).heap.size := by simp
  obtain ⟨d0, d1, d2, d3, d4, d5⟩ := d
  unfold dialectV at *
  simp only at K0 K2 K3 HN hb0 hw0 ⊢
  go_enter Tryd.func85, Tryd.ntmps85
  go_wp2_with fail
  refine (K0.out _).mono ?_
  rintro e w1 ⟨rfl, hb1⟩
  have hD1 := Lib.hid (HN.out.over hb1 hw0)
  have hB1 := hb0.trans (hb1.mono hb0.size)
  have hw1 := Nat.lt_of_lt_of_le hw0 hb1.size
  clear hb1 hb0 HN hw0 K0
  obtain ⟨c0, c1, c2, c3, c4, c5⟩ := hD1.out.cells
  simp only at c0 c1 c2 c3 c4 c5
  by_cases hz : 0 < tr.size
  · obtain ⟨e1, e2⟩ := text_some tr hz
    have htz : 0 < t.size := by omega
    have htz2 : (0 : Int) < (t.size : Int) := by omega
    have hbb := HB.out htz
    replace K1 := Lib.hid (K1.out htz)
    clear HB
    rw [← hbb] at K1
    clear hbb
    cases bl
    · have HF : Hid (r = (⟨#[]⟩, false)) := by unfold Hid; rw [HV.out, if_neg (by simp)]
      clear HV K2 K3
      go_wp2_with fail
      refine (K1.out _).mono ?_
      rintro e w2 ⟨rfl, rfl⟩
      go_wp2
      go_ret2
      exact ⟨by rw [HF.out]; rfl, hB1⟩
    · cases nn
      · have HF : Hid (r = (b1, b2)) := by unfold Hid; rw [HV.out, if_pos ⟨hz, rfl, rfl⟩]
        clear HV
        go_wp2_with fail
        refine (K1.out _).mono ?_
        rintro e w2 ⟨rfl, rfl⟩
        go_wp2_with fail
        refine (K2.out _).mono ?_
        rintro e w2 ⟨rfl, hb2⟩
        clear c0 c1 c2 c3 c4 c5
        obtain ⟨c0, c1, c2, c3, c4, c5⟩ := (hD1.out.over hb2 hw1).cells
        simp only at c0 c1 c2 c3 c4 c5
        have hB2 := hB1.trans (hb2.mono hB1.size)
        clear hb2
        go_wp2_with fail
        refine (K3.out _).mono ?_
        rintro e w3 ⟨rfl, hb3⟩
        have hB3 := hB2.trans (hb3.mono hB2.size)
        clear hb3
        go_wp2
        go_ret2
        exact ⟨by rw [HF.out]; rfl, hB3⟩
      · have HF : Hid (r = (⟨#[]⟩, false)) := by unfold Hid; rw [HV.out, if_neg (by simp)]
        clear HV K3
        go_wp2_with fail
        refine (K1.out _).mono ?_
        rintro e w2 ⟨rfl, rfl⟩
        go_wp2_with fail
        refine (K2.out _).mono ?_
        rintro e w2 ⟨rfl, hb2⟩
        replace hB1 := hB1.trans (hb2.mono hB1.size)
        clear hb2 c0 c1 c2 c3 c4 c5
        go_wp2
        go_ret2
        exact ⟨by rw [HF.out]; rfl, hB1⟩
  · obtain ⟨e1, e2⟩ := text_none tr (by omega)
    have HF : Hid (r = (⟨#[]⟩, false)) := by unfold Hid; rw [HV.out, if_neg (fun h => hz h.1)]
    clear HV K1 K2 K3 HB
    go_wp2
    go_ret2
    exact ⟨by rw [HF.out]; rfl, hB1⟩

/-- the values of the lines that are joined -/
def indVs (d : DialectD) : List Ln → List ByteArray
  | [] => []
  | x :: r => if (indV d x.1).2 then (indV d x.1).1 :: indVs d r else []
theorem indVs_len (d : DialectD) (l : List Ln) : (indVs d l).length ≤ l.length := by
  induction l with
  | nil => exact Nat.le_refl _
  | cons x r ih => unfold indVs; split <;> simp; omega
theorem info_stringI : (Tryd.prog.info? 9).map (fun i => (i.zero, i.size, i.bytes)) = some (some (.string ByteArray.empty), 1, 16) := by kernel_rfl
/-- a list of texts that the call itself made -/
def OwnTextsI (w : World) (l : List ByteArray) (e : Ending) (w' : World) : Prop := ∃ v, e = .returned v ∧ (l = [] → v = .slice none 0 0) ∧ w'.ownsRow w.heap.size 9 1 v l.length (l.map Value.string) ∧ Below w.heap.size w w'
theorem own_lower {w : World} {B C e size n : Nat} {v : Value} {xs : List Value} (h : w.ownsRow B e size v n xs) (hc : C ≤ B) : w.ownsRow C e size v n xs := by
  refine ⟨h.1, ?_⟩
  rcases h.2 with h2 | ⟨g, cap, cur, hv, hb, h3⟩
  · exact .inl h2
  · exact .inr ⟨g, cap, cur, hv, by omega, h3⟩

set_option maxHeartbeats 3200000 in
theorem indentedValues_impl (d : DialectD) (w : World) (u : Value) (g o : Nat) (l : List Ln) (hu : LinesRd w u g o l) (hl : costL l ≤ 1048576) (hg : l ≠ [] → g < w.heap.size) :
    Calls Tryd.prog 68 #[dialectV d, u] w (OwnTextsI w (indVs d l)) := by
  obtain ⟨i0, hi, hz0, hz1, hz2⟩ := info_parts info_stringI
  obtain ⟨a, cap, rfl, ha⟩ := hu.form
  have hll : l.length ≤ 1048576 := by have := joinB_len l; omega
  have CU := Lib.hid hu
  have HA := Lib.hid ha
  clear hu ha
  have HP : Hid (∀ k (h : k < l.length), l[k].1.size ≤ 1048576) := by
    intro k h
    have := costL_at l k h
    omega
  have K0 := Lib.hid (fun (t : ByteArray) (w : World) (h : t.size ≤ 1048576) => indentedValue_impl d t w h)
  have HD : Hid (∀ k (h : k < l.length), indVs d (l.drop k) = if (indV d l[k].1).2 then (indV d l[k].1).1 :: indVs d (l.drop (k + 1)) else []) := by
    intro k h
    rw [List.drop_eq_getElem_cons h]
    rfl
  have HN := Lib.hid (dialAt_new w d)
  have hb0 := (Below.refl w.heap.size w).alloc (Nat.le_refl _) (.cells #[.string d.notes, .string d.seps, .bool d.inl, .bool d.quo, .bool d.esc, .int .i64 d.join] 25)
  have hw0 : w.heap.size < (w.alloc (.cells #[.string d.notes, .string d.seps, .bool d.inl, .bool d.quo, .bool d.esc, .int .i64 d.join] 25)).heap.size := by simp
  have HZ : Hid (indVs d (l.drop l.length) = []) := by unfold Hid; rw [List.drop_length]; rfl
  have H00 : Hid (indVs d l = [] ++ indVs d (l.drop 0)) := by unfold Hid; simp
  generalize hgen : indVs d = F at *
  clear hgen
  obtain ⟨d0, d1, d2, d3, d4, d5⟩ := d
  unfold dialectV at *
  simp only at K0 HN hb0 hw0 ⊢
  go_enter Tryd.func68, Tryd.ntmps68
  go_wp2
  generalize w.alloc (.cells #[.string d0, .string d1, .bool d2, .bool d3, .bool d4, .int .i64 d5] 25) = W0 at *
  go_loopw [5, 12] (fun v i wr => ∃ (k : Nat) (m : List ByteArray), k ≤ l.length ∧ i = .int .i64 k ∧ m.length ≤ k ∧ Hid (m = [] → v = .slice none 0 0) ∧ Hid (F l = m ++ F (l.drop k)) ∧ Hid (DialAt wr w.heap.size ⟨d0, d1, d2, d3, d4, d5⟩) ∧ wr.ownsRow (w.heap.size + 1) 9 1 v m.length (m.map Value.string) ∧ w.heap.size + 1 ≤ wr.heap.size ∧ Below w.heap.size w wr) (fun _ i _ => l.length - (intOf i).toNat)
  case atStart => exact ⟨0, [], Nat.zero_le _, rfl, Nat.le_refl _, fun _ => rfl, H00, HN, ⟨rfl, .inl ⟨rfl, rfl⟩⟩, hw0, hb0⟩
  case round =>
    obtain ⟨k, m, hk, rfl, hmk, hnil, hF, hD, hown, hsz, hb⟩ := hrel
    clear H00 HN hb0 hw0
    by_cases hlt : k < l.length
    · have hln : l ≠ [] := by intro e; subst e; simp at hlt
      obtain rfl := HA.out hln
      have hgl := hg hln
      have q1 := (hb.cell (p := ⟨g, o + k * 2, none⟩) hgl).trans (CU.out.c0 k hlt)
      have q2 := (hb.cell (p := ⟨g, o + k * 2 + 1, none⟩) hgl).trans (CU.out.c1 k hlt)
      have HD1 := Lib.hid (HD.out k hlt)
      have hps := HP.out k hlt
      generalize l[k] = x at *
      obtain ⟨x1, x2⟩ := x
      simp only at HD1 hps q1 q2
      have K1 := Lib.hid (fun w => K0.out x1 w hps)
      generalize indV ⟨d0, d1, d2, d3, d4, d5⟩ x1 = iv at *
      obtain ⟨v1, v2⟩ := iv
      simp only at K1 HD1
      have hbl : Below wr.heap.size wr (wr.alloc (.cells #[.string x1, .string x2] 72)) := (Below.refl _ _).alloc (Nat.le_refl _) _
      have hDl := hD.out.over hbl (by omega)
      obtain ⟨c0, c1, c2, c3, c4, c5⟩ := hDl.cells
      simp only at c0 c1 c2 c3 c4 c5
      go_wp2_with fail
      refine (K1.out _).mono ?_
      rintro e w1 ⟨rfl, hb1⟩
      have hbb := hbl.trans (hb1.mono hbl.size)
      have hD1 := Lib.hid (hD.out.over hbb (by omega))
      have hown1 := ownsRow_below hown hbb
      have hB1 := hb.trans (hbb.mono hb.size)
      have hs1 := Nat.le_trans hsz hbb.size
      clear c0 c1 c2 c3 c4 c5 hDl hbl hb1 hbb hD hown hb hsz K1 q1 q2
      cases v2
      · have HF : Hid (F l = m) := by unfold Hid; rw [hF.out, HD1.out]; simp
        clear hF HD1
        go_wp2
        go_ret
        exact ⟨_, rfl, by rw [HF.out]; exact hnil.out, by rw [HF.out]; exact own_lower hown1 (Nat.le_succ _), hB1⟩
      · have HF : Hid (F l = (m ++ [v1]) ++ F (l.drop (k + 1))) := by unfold Hid; rw [hF.out, HD1.out]; simp
        clear hF HD1
        go_wp2_with (at_builtin; refine wpList_append_own _ rfl _ _ 44 rfl (w.heap.size + 1) 9 i0 (.string ByteArray.empty) 1 16 Tryd.underlying44 hi hz0 hz1 hz2 rfl (by decide) _ _ _ rfl (hown1.alloc _) ⟨w1.heap.size, 0, none⟩ 1 1 [.string v1] rfl rfl (cell_one_new _ _ _) (by simp [Value.oneCell']) (by unfold maxLen; omega) (by omega) (by simp; omega) ?_; intro v' w2 hown' hgrow _)
        have hB2 : Below w.heap.size w w2 := (hB1.alloc (by omega) _).grown hgrow (by simp; omega) (fun j hj => by have := own_blockL hown1 j hj; omega)
        have hD2 : Hid (DialAt w2 w.heap.size ⟨d0, d1, d2, d3, d4, d5⟩) := by
          unfold Hid DialAt
          rw [hgrow.block w.heap.size (by simp; omega) (own_low hown1 (by omega)), Below.heap_alloc _ _ _ (by omega)]
          exact hD1.out
        have hs2 : w.heap.size + 1 ≤ w2.heap.size := by have := hgrow.size; simp at this; omega
        have hown2 : w2.ownsRow (w.heap.size + 1) 9 1 v' (m ++ [v1]).length ((m ++ [v1]).map Value.string) := by simpa using hown'
        clear hown' hown1 hgrow hB1 hD1 hs1 hnil
        go_wp2
        go_roundw
        case rel => exact ⟨k + 1, m ++ [v1], by omega, by go_num, by simp; omega, by intro e; simp at e, HF, hD2, hown2, hs2, hB2⟩
        case measure => simp [intOf]; omega
    · obtain rfl : k = l.length := by omega
      have HF : Hid (F l = m) := by unfold Hid; rw [hF.out, HZ.out]; simp
      clear hF
      go_wp2
      go_ret
      exact ⟨_, rfl, by rw [HF.out]; exact hnil.out, by rw [HF.out]; exact own_lower hown (Nat.le_succ _), hb⟩

end Go.Proofs.YtcphmgdeigbemaaDoor
