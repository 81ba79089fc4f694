/- Lists of lines that come in: their size, their copy; marks on lines. -/
import Derived.Test.YtikhanickkhnbaaProg
import Derived.Test.YtikhanickkhnbaaPlain
import Derived.Test.YtikhanickkhnbaaTexts
import Derived.Test.YtikhanickkhnbaaMarks
import Derived.Test.YtikhanickkhnbaaLines
import Derived.WalkKit
import Derived.WalkLawsBesides
import Derived.OwnWalk
import Derived.BigQuiet
import Derived.Deep.QuietTactic
import Derived.Lib.QuietBelow
import Derived.Laws.IdiomStrings
import Derived.Lib.Hide
import Derived.IntWalk
namespace Go.Proofs.Ytikhanickkhnbaa
open Go.RowKit Go.Sort
set_option linter.unusedVariables false

theorem info_line : (Try.prog.info? 31).map (fun i => (i.zero, i.size, i.bytes)) = some (some (.agg #[.string ByteArray.empty, .string ByteArray.empty]), 2, 32) := by kernel_rfl
def noLn : Ln := (ByteArray.empty, ByteArray.empty)
theorem made_lines (n : Nat) : (madeCells (Value.cells (.agg #[.string ByteArray.empty, .string ByteArray.empty])) (n * 2)).toList = lnCells (List.replicate n noLn) := by
  have hl : (lnCells (List.replicate n noLn)).length = n * 2 := by rw [lnCells_length, List.length_replicate]
  apply List.ext_getElem?
  intro j
  by_cases hj : j < n * 2
  · have hr : (madeCells (Value.cells (.agg #[.string ByteArray.empty, .string ByteArray.empty])) (n * 2)).toList[j]? = some (.string ByteArray.empty) := by
      simp only [madeCells, Value.cells]
      rw [Array.getElem?_toList, Array.getElem?_map, Array.getElem?_range]
      rw [if_pos hj]
      have : j % 2 = 0 ∨ j % 2 = 1 := by omega
      rcases this with h | h <;> simp [h]
    rw [hr]
    have h2 : j / 2 < (List.replicate n noLn).length := by rw [List.length_replicate]; omega
    rcases (show j = j / 2 * 2 ∨ j = j / 2 * 2 + 1 by omega) with h | h
    · have := lnCells_0 (List.replicate n noLn) (j / 2) h2
      rw [← h] at this
      rw [this, List.getElem_replicate]; rfl
    · have := lnCells_1 (List.replicate n noLn) (j / 2) h2
      rw [← h] at this
      rw [this, List.getElem_replicate]; rfl
  · rw [List.getElem?_eq_none (by simp only [Array.length_toList, size_madeCells]; omega), List.getElem?_eq_none (by omega)]

theorem toLine_any (x : Ln) (w : World) :
    Calls Try.prog 36 #[lnV x] w fun e w' => e = .returned (lnV x) ∧ Below w.heap.size w w' := by
  obtain ⟨a, b⟩ := x
  unfold lnV
  have hb := (((Below.refl w.heap.size w).alloc (Nat.le_refl _) (.cells #[.string a, .string b] 56)).alloc (by simp) (.cells #[.string a, .string b] 31)).alloc (by simp; omega) (.cells #[.string a, .string b] 31)
  go_enter Try.func36, Try.ntmps36
  go_wp2
  (try simp only [Exit.inBlock, Exit.then])
  refine bodyPost_ret (v := .agg #[.string a, .string b]) ?_ rfl ⟨rfl, hb⟩
  refine results_cell_row rfl _ _ (w.heap.size + 1) 31 #[.string a, .string b] (0, 0) _ rfl ?_ Try.underlying31 rfl (by kernel_rfl)
  rw [Below.heap_alloc _ _ _ (by simp), show w.heap.size + 1 = (w.alloc (.cells #[.string a, .string b] 56)).heap.size by simp]
  exact heap_alloc_new _ _

/-- one line put into a list -/
theorem LinesIs.store2 {w : World} {v : Value} {g : Nat} {l : List Ln} (h : LinesIs w v g 0 l) (j : Nat) (hj : j < l.length) (x : Ln) : LinesIs ((w.setCell ⟨g, j * 2, none⟩ (.string x.1)).setCell ⟨g, j * 2 + 1, none⟩ (.string x.2)) v g 0 (l.set j x) := by
  obtain ⟨⟨⟨a, cap, rfl, ha⟩, h0, h1⟩, hf⟩ := h
  have z0 := fun i hi => h0 i hi
  have z1 := fun i hi => h1 i hi
  simp only [Nat.zero_add] at z0 z1
  have s1 : (w.setCell ⟨g, j * 2, none⟩ (.string x.1)).cell? ⟨g, j * 2 + 1, none⟩ = some (.string l[j].2) := (World.cell?_setCell_other _ _ _ _ (by intro e; injection e; omega)).trans (z1 j hj)
  refine ⟨⟨⟨a, cap, by rw [List.length_set], fun _ => ha (by intro e; subst e; simp at hj)⟩, fun i hi => ?_, fun i hi => ?_⟩, fun i hi => ?_⟩
  · rw [List.length_set] at hi
    rw [Nat.zero_add, World.cell?_setCell_other _ _ _ _ (by intro e; injection e; omega)]
    by_cases e : j = i
    · subst e
      rw [World.cell?_setCell_same _ _ _ (z0 j hj)]
      simp
    · rw [World.cell?_setCell_other _ _ _ _ (by intro h2; injection h2; omega), z0 i hi]
      simp [e]
  · rw [List.length_set] at hi
    rw [Nat.zero_add]
    by_cases e : j = i
    · subst e
      rw [World.cell?_setCell_same _ _ _ s1]
      simp
    · rw [World.cell?_setCell_other _ _ _ _ (by intro h2; injection h2; omega), World.cell?_setCell_other _ _ _ _ (by intro h2; injection h2; omega), z1 i hi]
      simp [e]
  · rw [List.length_set] at hi
    rw [World.frozen?_setCell, World.frozen?_setCell]
    exact hf i hi

/-- the first k of one list, and of the other what follows -/
def mixL (l m : List Ln) (k : Nat) : List Ln := l.take k ++ m.drop k
theorem mixL_length {l m : List Ln} {k : Nat} (h : l.length = m.length) (hk : k ≤ l.length) : (mixL l m k).length = l.length := by simp [mixL]; omega
theorem mixL_set {l m : List Ln} {k : Nat} (h : l.length = m.length) (hk : k < l.length) : (mixL l m k).set k l[k] = mixL l m (k + 1) := by
  unfold mixL
  have hm : k < m.length := by omega
  rw [List.set_append_right _ _ (by simp; omega), List.drop_eq_getElem_cons (l := m) hm, List.take_succ_eq_append_getElem hk]
  rw [show k - (List.take k l).length = 0 from by simp; omega, List.set_cons_zero, List.append_assoc]
  rfl

/-- a list of lines that the call itself made -/
def NewLines (w : World) (l : List Ln) (e : Ending) (w' : World) : Prop := ∃ v g, e = .returned v ∧ LinesIs w' v g 0 l ∧ w.heap.size ≤ g ∧ Below w.heap.size w w'

set_option maxRecDepth 100000 in
set_option maxHeartbeats 800000 in
theorem toLines (w : World) (u : Value) (g o : Nat) (l : List Ln) (hu : LinesRd w u g o l) (hl : l.length ≤ 1048576) :
    Calls Try.prog 25 #[u] w (NewLines w l) := by
  obtain ⟨i0, hi, hz0, hz1, hz2⟩ := info_parts info_line
  obtain ⟨a, cap, rfl, ha⟩ := hu.form
  have CU := Lib.hid hu
  have HA := Lib.hid ha
  clear hu ha
  go_enter Try.func25, Try.ntmps25
  go_wp2_with (refine wpList_make_full _ rfl _ _ 24 rfl w.heap.size 31 i0 (.agg #[.string ByteArray.empty, .string ByteArray.empty]) 2 Try.underlying24 hi hz0 hz1 .i64 .i64 (l.length : Int) (l.length : Int) l.length rfl rfl rfl rfl (by rw [hz2]; omega) (by unfold maxLen; omega) (Nat.le_refl _) ?_; intro w1 hown hgrow)
  rw [made_lines] at hown
  have h1 : LinesIs w1 (.slice (some ⟨w.heap.size, 0, none⟩) l.length l.length) w.heap.size 0 (List.replicate l.length noLn) := by
    obtain ⟨gg, hh, hgg⟩ := linesIs_of_owns hown (by simp) (by have := hgrow.size; omega)
    by_cases hn : l.length = 0
    · have : l = [] := List.eq_nil_of_length_eq_zero hn
      subst this
      exact ⟨⟨⟨_, _, rfl, fun h => absurd rfl h⟩, fun i hi => by simp at hi, fun i hi => by simp at hi⟩, fun i hi => by simp at hi⟩
    · obtain ⟨a', cap', he, ha'⟩ := hh.form
      have := ha' (by intro e; have := congrArg List.length e; simp at this; exact hn (by rw [this]; rfl))
      injection he with he1 _ _
      rw [this] at he1
      injection he1 with he2
      injection he2 with he3
      rw [← he3] at hh; exact hh
  have hb1 : Below w.heap.size w w1 := ⟨hgrow.os, hgrow.tape, hgrow.output, hgrow.size, fun k hk => hgrow.block k hk (by simp)⟩
  have hlen := Lib.hid (show l.length = (List.replicate l.length noLn).length by simp)
  have h1' : LinesIs w1 (.slice (some ⟨w.heap.size, 0, none⟩) l.length l.length) w.heap.size 0 (mixL l (List.replicate l.length noLn) 0) := by simpa [mixL] using h1
  clear hown hgrow h1
  generalize List.replicate l.length noLn = m at *
  have H1 := Lib.hid h1'
  clear h1'
  go_wp2
  go_loopw [4] (fun i wr => ∃ k : Nat, k ≤ l.length ∧ i = .int .i64 k ∧ Below w.heap.size w wr ∧ Hid (LinesIs wr (.slice (some ⟨w.heap.size, 0, none⟩) l.length l.length) w.heap.size 0 (mixL l m k))) (fun i wr => l.length - (intOf i).toNat)
  case atStart => exact ⟨0, Nat.zero_le _, rfl, hb1, H1⟩
  case round =>
    obtain ⟨k, hk, rfl, hbr, hI⟩ := hrel
    clear hb1 H1
    by_cases hlt : k < l.length
    · have hln : l ≠ [] := by intro e; subst e; simp at hlt
      obtain rfl := HA.out hln
      have q1 := (hbr.cell (p := ⟨g, o + k * 2, none⟩) (CU.out.lt hln)).trans (CU.out.c0 k hlt)
      have q2 := (hbr.cell (p := ⟨g, o + k * 2 + 1, none⟩) (CU.out.lt hln)).trans (CU.out.c1 k hlt)
      have km := Lib.hid (toLine_any l[k])
      have hset := Lib.hid (mixL_set hlen.out hlt)
      have hll := mixL_length hlen.out hk
      generalize l[k] = x at *
      obtain ⟨x1, x2⟩ := x
      unfold lnV at km
      go_wp2_with fail
      refine (km.out _).mono ?_
      rintro e w2 ⟨rfl, hb2⟩
      have hgl : w.heap.size < wr.heap.size := hI.out.lt (by intro e; rw [e] at hll; simp at hll; omega)
      have hI2 := hI.out.below hb2 (fun _ => hgl)
      have hI3 : Hid (LinesIs ((w2.setCell ⟨w.heap.size, k * 2, none⟩ (.string x1)).setCell ⟨w.heap.size, k * 2 + 1, none⟩ (.string x2)) (.slice (some ⟨w.heap.size, 0, none⟩) l.length l.length) w.heap.size 0 (mixL l m (k + 1))) := by
        unfold Hid
        rw [← hset.out]
        exact hI2.store2 k (by omega) (x1, x2)
      have hb3 := ((hbr.trans (hb2.mono hbr.size)).setCell (p := ⟨w.heap.size, k * 2, none⟩) (Nat.le_refl _) (.string x1)).setCell (p := ⟨w.heap.size, k * 2 + 1, none⟩) (Nat.le_refl _) (.string x2)
      have d0 := hI2.c0 k (by omega)
      have d1 := hI2.c1 k (by omega)
      have f0 := hI2.free (k * 2) (by omega)
      have f1 := hI2.free (k * 2 + 1) (by omega)
      simp only [Nat.zero_add] at d0 d1 f0 f1
      generalize (mixL l m k)[k]'(by omega) = old at d0 d1
      clear hI hI2 hset hb2 hbr hll q1 q2 km
      go_wp2
      go_roundw
      case rel => exact ⟨k + 1, by omega, by go_num, hb3, hI3⟩
      case measure => simp [intOf]; omega
    · obtain rfl : k = l.length := by omega
      have hI3 : Hid (LinesIs wr (.slice (some ⟨w.heap.size, 0, none⟩) l.length l.length) w.heap.size 0 l) := by
        unfold Hid
        have := hI.out
        unfold mixL at this
        rw [List.take_length, List.drop_of_length_le (by rw [← hlen.out]; exact Nat.le_refl _), List.append_nil] at this
        exact this
      clear hI
      go_wp2
      go_ret
      exact ⟨_, _, rfl, hI3.out, Nat.le_refl _, hbr⟩


/-! how large they are -/
def costL (l : List Ln) : Nat := l.length + (l.map (fun x => x.1.size + x.2.size)).sum
theorem costL_nil : costL [] = 0 := rfl
theorem costL_take_succ (l : List Ln) (k : Nat) (h : k < l.length) : costL (l.take (k + 1)) = costL (l.take k) + 1 + l[k].1.size + l[k].2.size := by
  rw [List.take_succ_eq_append_getElem h]
  simp only [costL, List.length_append, List.map_append, List.sum_append, List.map_cons, List.map_nil, List.sum_cons, List.sum_nil, List.length_cons, List.length_nil]
  omega
theorem costL_take (l : List Ln) (k : Nat) (h : k ≤ l.length) : costL (l.take k) + (l.length - k) ≤ costL l := by
  have h1 : costL l = costL (l.take k) + costL (l.drop k) := by
    conv => lhs; rw [← List.take_append_drop k l]
    simp only [costL, List.length_append, List.map_append, List.sum_append]
    omega
  have h2 : l.length - k ≤ costL (l.drop k) := by unfold costL; rw [List.length_drop]; omega
  omega
theorem costL_at (l : List Ln) (k : Nat) (h : k < l.length) : l[k].1.size + l[k].2.size + l.length ≤ costL l := by
  have h1 := costL_take_succ l k h
  have h2 := costL_take l (k + 1) h
  have h3 : k ≤ costL (l.take k) := by unfold costL; rw [List.length_take]; omega
  omega

theorem szLine_any (x : Ln) (z : Int) (w : World) (h0 : 0 ≤ z) (h1 : z ≤ 1048576) (hx1 : x.1.size ≤ maxLen) (hx2 : x.2.size ≤ maxLen) :
    Calls Try.prog 35 #[lnV x, .int .i64 z] w fun e w' => e = .returned (.int .i64 (if z - x.1.size < 0 then -1 else if z - x.1.size - x.2.size < 0 then -1 else z - x.1.size - x.2.size)) ∧ Below w.heap.size w w' := by
  obtain ⟨a, b⟩ := x
  unfold lnV
  simp only
  unfold maxLen at hx1 hx2
  simp only at hx1 hx2
  have hb := (Below.refl w.heap.size w).alloc (Nat.le_refl _) (.cells #[.string a, .string b] 56)
  by_cases q1 : z - a.size < 0
  · rw [if_pos q1]
    go_enter Try.func35, Try.ntmps35
    go_wp2
    go_ret
    exact ⟨rfl, hb⟩
  · rw [if_neg q1]
    by_cases q2 : z - a.size - b.size < 0
    · rw [if_pos q2]
      go_enter Try.func35, Try.ntmps35
      go_wp2
      go_ret
      exact ⟨rfl, hb⟩
    · rw [if_neg q2]
      go_enter Try.func35, Try.ntmps35
      go_wp2
      go_ret
      exact ⟨by go_num, hb⟩

/-- what is left of a bound behind a list: -1 where it is too large -/
def SzOf (c : Nat) (left : Int) (z : Int) : Prop := (z = -1 ∧ left < (c : Int)) ∨ (0 ≤ z ∧ z + (c : Int) = left)
set_option maxHeartbeats 800000 in
theorem szLines (w : World) (u : Value) (g o : Nat) (l : List Ln) (left : Int) (hu : LinesRd w u g o l) (hl : l.length ≤ maxLen) (hx : ∀ i (h : i < l.length), l[i].1.size ≤ maxLen ∧ l[i].2.size ≤ maxLen) (h0 : 0 ≤ left) (h1 : left ≤ 1048576) :
    Calls Try.prog 23 #[u, .int .i64 left] w fun e w' => ∃ z, e = .returned (.int .i64 z) ∧ SzOf (costL l) left z ∧ Below w.heap.size w w' := by
  obtain ⟨a, cap, rfl, ha⟩ := hu.form
  have CU := Lib.hid hu
  have HA := Lib.hid ha
  have HX := Lib.hid hx
  clear hu ha hx
  unfold maxLen at hl
  by_cases q : left - l.length < 0
  · have hfin : Hid (SzOf (costL l) left (-1)) := .inl ⟨rfl, by unfold costL; omega⟩
    go_enter Try.func23, Try.ntmps23
    go_wp2
    go_ret
    exact ⟨_, rfl, hfin.out, Below.refl _ _⟩
  · go_enter Try.func23, Try.ntmps23
    go_wp2
    go_loopw [1, 5] (fun v i wr => ∃ (k : Nat) (z : Int), k ≤ l.length ∧ i = .int .i64 k ∧ v = .int .i64 z ∧ 0 ≤ z ∧ z ≤ 1048576 ∧ Hid (z + costL (l.take k) + (l.length - k : Nat) = left) ∧ Below w.heap.size w wr) (fun _ i wr => l.length - (intOf i).toNat)
    case atStart => exact ⟨0, left - l.length, Nat.zero_le _, rfl, by go_num, by omega, by omega, by unfold Hid; rw [List.take_zero, costL_nil]; omega, Below.refl _ _⟩
    case round =>
      obtain ⟨k, z, hk, rfl, rfl, hz0, hz1, hz, hbr⟩ := hrel
      by_cases hlt : k < l.length
      · have hln : l ≠ [] := by intro e; subst e; simp at hlt
        obtain rfl := HA.out hln
        have q1 := (hbr.cell (p := ⟨g, o + k * 2, none⟩) (CU.out.lt hln)).trans (CU.out.c0 k hlt)
        have q2 := (hbr.cell (p := ⟨g, o + k * 2 + 1, none⟩) (CU.out.lt hln)).trans (CU.out.c1 k hlt)
        have km := Lib.hid (fun w => szLine_any l[k] z w hz0 hz1 (HX.out k hlt).1 (HX.out k hlt).2)
        have hst := costL_take_succ l k hlt
        have hle := costL_take l (k + 1) (by omega)
        have hzo := hz.out
        generalize l[k] = x at *
        obtain ⟨x1, x2⟩ := x
        simp only at hst
        unfold lnV at km
        simp only at km
        by_cases e1 : z - x1.size < 0
        · have hfin : Hid (SzOf (costL l) left (-1)) := .inl ⟨rfl, by omega⟩
          rw [if_pos e1] at km
          clear hst hle hzo hz
          go_wp2_with fail
          refine (km.out _).mono ?_
          rintro e w2 ⟨rfl, hb2⟩
          have hb3 := hbr.trans (hb2.mono hbr.size)
          go_wp2
          go_ret
          exact ⟨_, rfl, hfin.out, hb3⟩
        · rw [if_neg e1] at km
          by_cases e2 : z - x1.size - x2.size < 0
          · have hfin : Hid (SzOf (costL l) left (-1)) := .inl ⟨rfl, by omega⟩
            rw [if_pos e2] at km
            clear hst hle hzo hz
            go_wp2_with fail
            refine (km.out _).mono ?_
            rintro e w2 ⟨rfl, hb2⟩
            have hb3 := hbr.trans (hb2.mono hbr.size)
            go_wp2
            go_ret
            exact ⟨_, rfl, hfin.out, hb3⟩
          · rw [if_neg e2] at km
            have hz2 : Hid (z - x1.size - x2.size + costL (l.take (k + 1)) + (l.length - (k + 1) : Nat) = left) := by unfold Hid; omega
            clear hst hle hzo hz
            go_wp2_with fail
            refine (km.out _).mono ?_
            rintro e w2 ⟨rfl, hb2⟩
            have hb3 := hbr.trans (hb2.mono hbr.size)
            go_wp2
            go_roundw
            case rel => exact ⟨k + 1, z - x1.size - x2.size, by omega, by go_num, by go_num, by omega, by omega, hz2, hb3⟩
            case measure => simp [intOf]; omega
      · obtain rfl : k = l.length := by omega
        have hfin : Hid (SzOf (costL l) left z) := by
          refine .inr ⟨hz0, ?_⟩
          have := hz.out
          rw [List.take_length] at this
          omega
        clear hz
        go_wp2
        go_ret
        exact ⟨z, rfl, hfin.out, hbr⟩

/-! marks -/
theorem LinesIs.storeT {w : World} {v : Value} {g o : Nat} {l : List Ln} (h : LinesIs w v g o l) (j : Nat) (hj : j < l.length) (x : ByteArray) : LinesIs (w.setCell ⟨g, o + j * 2, none⟩ (.string x)) v g o (l.set j (x, l[j].2)) := by
  obtain ⟨⟨⟨a, cap, rfl, ha⟩, h0, h1⟩, hf⟩ := h
  refine ⟨⟨⟨a, cap, by rw [List.length_set], fun _ => ha (by intro e; subst e; simp at hj)⟩, fun i hi => ?_, fun i hi => ?_⟩, fun i hi => ?_⟩
  · rw [List.length_set] at hi
    by_cases e : j = i
    · subst e
      rw [World.cell?_setCell_same _ _ _ (h0 j hj)]
      simp
    · rw [World.cell?_setCell_other _ _ _ _ (by intro h2; injection h2; omega), h0 i hi]
      simp [e]
  · rw [List.length_set] at hi
    rw [World.cell?_setCell_other _ _ _ _ (by intro h2; injection h2; omega), h1 i hi]
    by_cases e : j = i
    · subst e; simp
    · simp [e]
  · rw [List.length_set] at hi
    rw [World.frozen?_setCell]
    exact hf i hi
theorem LinesIs.storeE {w : World} {v : Value} {g o : Nat} {l : List Ln} (h : LinesIs w v g o l) (j : Nat) (hj : j < l.length) (x : ByteArray) : LinesIs (w.setCell ⟨g, o + j * 2 + 1, none⟩ (.string x)) v g o (l.set j (l[j].1, x)) := by
  obtain ⟨⟨⟨a, cap, rfl, ha⟩, h0, h1⟩, hf⟩ := h
  refine ⟨⟨⟨a, cap, by rw [List.length_set], fun _ => ha (by intro e; subst e; simp at hj)⟩, fun i hi => ?_, fun i hi => ?_⟩, fun i hi => ?_⟩
  · rw [List.length_set] at hi
    rw [World.cell?_setCell_other _ _ _ _ (by intro h2; injection h2; omega), h0 i hi]
    by_cases e : j = i
    · subst e; simp
    · simp [e]
  · rw [List.length_set] at hi
    by_cases e : j = i
    · subst e
      rw [World.cell?_setCell_same _ _ _ (h1 j hj)]
      simp
    · rw [World.cell?_setCell_other _ _ _ _ (by intro h2; injection h2; omega), h1 i hi]
      simp [e]
  · rw [List.length_set] at hi
    rw [World.frozen?_setCell]
    exact hf i hi
/-- marked lines from k on -/
def markL (k : Nat) : Nat → List Ln
  | 0 => []
  | n + 1 => markL k n ++ [(markB (k + n * 2), markB (k + n * 2 + 1))]
theorem markL_length (k n : Nat) : (markL k n).length = n := by
  induction n with
  | zero => rfl
  | succ n ih => simp [markL, ih]
theorem markL_at (k n i : Nat) (h : i < n) : (markL k n)[i]'(by rw [markL_length]; exact h) = (markB (k + i * 2), markB (k + i * 2 + 1)) := by
  induction n with
  | zero => omega
  | succ n ih =>
    by_cases e : i = n
    · subst e
      simp [markL, markL_length]
    · have := ih (by omega)
      simp only [markL]
      rw [List.getElem_append_left (by rw [markL_length]; omega)]
      exact this
theorem markL_mix (k j : Nat) (l : List Ln) (h : j < l.length) : (markL k j ++ l.drop j).set j (markB (k + j * 2), markB (k + j * 2 + 1)) = markL k (j + 1) ++ l.drop (j + 1) := by
  rw [List.set_append_right _ _ (by rw [markL_length]; exact Nat.le_refl _), markL_length, Nat.sub_self, List.drop_eq_getElem_cons h, List.set_cons_zero]
  simp [markL]

set_option maxHeartbeats 1600000 in
theorem mark_lines (w : World) (v : Value) (g o k : Nat) (l : List Ln) (h : LinesIs w v g o l) (hk : 1 ≤ k) (hl : k + l.length * 2 ≤ 1000000000000) :
    Calls Try.prog 21 #[v, .int .i64 k] w fun e w' => e = .returned (.int .i64 ((k + l.length * 2 : Nat) : Int)) ∧ LinesIs w' v g o (markL k l.length) ∧ w.grownBy w' (some g) := by
  obtain ⟨a, cap, rfl, ha⟩ := h.form
  have HT := Lib.hid h
  have HA := Lib.hid ha
  clear h ha
  go_enter Try.func21, Try.ntmps21
  go_wp2
  go_loopw [1, 5] (fun m i wr => ∃ j : Nat, j ≤ l.length ∧ i = .int .i64 j ∧ m = .int .i64 ((k + j * 2 : Nat) : Int) ∧ Hid (LinesIs wr (.slice a l.length cap) g o (markL k j ++ l.drop j)) ∧ Hid (w.grownBy wr (some g))) (fun _ i _ => l.length - (intOf i).toNat)
  case atStart => exact ⟨0, Nat.zero_le _, rfl, rfl, by unfold Hid; simpa [markL] using HT.out, World.grownBy.refl _ _⟩
  case round =>
    obtain ⟨j, hj, rfl, rfl, hT, hG⟩ := hrel
    by_cases hlt : j < l.length
    · obtain rfl := HA.out (by intro e; subst e; simp at hlt)
      have hll : (markL k j ++ l.drop j).length = l.length := by simp [markL_length]; omega
      have hmix := Lib.hid (markL_mix k j l hlt)
      have hgl : g < wr.heap.size := hT.out.lt (by intro e; rw [e] at hll; simp at hll; omega)
      generalize markL k j ++ l.drop j = m at *
      have K1 := Lib.hid (fun w => mark_any (k + j * 2) w (by omega) (by omega))
      have K2 := Lib.hid (fun w => mark_any (k + j * 2 + 1) w (by omega) (by omega))
      generalize markB (k + j * 2) = m1 at *
      generalize markB (k + j * 2 + 1) = m2 at *
      have ecast : ((k + j * 2 : Nat) : Int) = (k : Int) + j * 2 := by omega
      have ecast2 : ((k + j * 2 + 1 : Nat) : Int) = (k : Int) + j * 2 + 1 := by omega
      rw [ecast] at K1
      rw [ecast2] at K2
      clear ecast ecast2
      go_wp2_with fail
      refine (K1.out _).mono ?_
      rintro e w2 ⟨rfl, hb2⟩
      have hT2 := (hT.out).below hb2 (fun _ => hgl)
      have hc := hT2.c0 j (by omega)
      have hf := hT2.free (j * 2) (by omega)
      have hT3 : LinesIs (w2.setCell ⟨g, o + j * 2, none⟩ (.string m1)) (.slice (some ⟨g, o, none⟩) l.length cap) g o (m.set j (m1, (m[j]'(by omega)).2)) := hT2.storeT j (by omega) m1
      have hG3 : w.grownBy (w2.setCell ⟨g, o + j * 2, none⟩ (.string m1)) (some g) := grown_step hG.out (grown_step (grown_below hb2) (grown_set _ _ _ _))
      have hgl3 : g < (w2.setCell ⟨g, o + j * 2, none⟩ (.string m1)).heap.size := by simp; exact Nat.lt_of_lt_of_le hgl hb2.size
      have HT3 := Lib.hid hT3
      have HG3 := Lib.hid hG3
      generalize (m[j]'(by omega)).1 = old at hc
      clear hT hG hT2 hb2 hT3 hG3
      go_wp2_with fail
      refine (K2.out _).mono ?_
      clear hc hf K1
      generalize w2.setCell ⟨g, o + j * 2, none⟩ (.string m1) = w3 at *
      rintro e w4 ⟨rfl, hb4⟩
      have hT4 := HT3.out.below hb4 (fun _ => hgl3)
      have hlen3 : (m.set j (m1, (m[j]'(by omega)).2)).length = l.length := by rw [List.length_set]; exact hll
      have hc := hT4.c1 j (by omega)
      have hf : w4.frozen? ⟨g, o + j * 2 + 1, none⟩ = false := hT4.free (j * 2 + 1) (by omega)
      have hT5 : Hid (LinesIs (w4.setCell ⟨g, o + j * 2 + 1, none⟩ (.string m2)) (.slice (some ⟨g, o, none⟩) l.length cap) g o (markL k (j + 1) ++ l.drop (j + 1))) := by
        unfold Hid
        have := hT4.storeE j (by omega) m2
        rw [← hmix.out]
        simpa using this
      have hG5 : Hid (w.grownBy (w4.setCell ⟨g, o + j * 2 + 1, none⟩ (.string m2)) (some g)) := grown_step HG3.out (grown_step (grown_below hb4) (grown_set _ _ _ _))
      generalize ((m.set j (m1, (m[j]'(by omega)).2))[j]'(by omega)).2 = old2 at hc
      clear HT3 HG3 hT4 hb4 hlen3 hmix K2
      go_wp2
      go_roundw
      case rel => exact ⟨j + 1, by omega, by go_num, by go_num, hT5, hG5⟩
      case measure => simp [intOf]; omega
    · obtain rfl : j = l.length := by omega
      have hT3 : Hid (LinesIs wr (.slice a l.length cap) g o (markL k l.length)) := by unfold Hid; have := hT.out; rwa [List.drop_length, List.append_nil] at this
      clear hT
      go_wp2
      go_ret
      exact ⟨rfl, hT3.out, hG.out⟩

set_option maxHeartbeats 1600000 in
theorem held_lines (w : World) (v : Value) (g o k n : Nat) (h : LinesIs w v g o (markL k n)) (hk : 1 ≤ k) (hl : k + n * 2 ≤ 1000000000000) :
    Calls Try.prog 22 #[v, .int .i64 k] w fun e w' => e = .returned (.int .i64 ((k + n * 2 : Nat) : Int)) ∧ Below w.heap.size w w' := by
  obtain ⟨a, cap, rfl, ha⟩ := h.form
  have HC := Lib.hid h
  have HA := Lib.hid ha
  clear h ha
  rw [markL_length]
  go_enter Try.func22, Try.ntmps22
  go_wp2
  go_loopw [1, 5] (fun m i wr => ∃ j : Nat, j ≤ n ∧ i = .int .i64 j ∧ m = .int .i64 ((k + j * 2 : Nat) : Int) ∧ Below w.heap.size w wr) (fun _ i _ => n - (intOf i).toNat)
  case atStart => exact ⟨0, Nat.zero_le _, rfl, rfl, Below.refl _ _⟩
  case round =>
    obtain ⟨j, hj, rfl, rfl, hb⟩ := hrel
    by_cases hlt : j < n
    · have hne : markL k n ≠ [] := by intro e; have := markL_length k n; rw [e] at this; simp at this; omega
      obtain rfl := HA.out hne
      have hc := HC.out.c0 j (by rw [markL_length]; exact hlt)
      have hd := HC.out.c1 j (by rw [markL_length]; exact hlt)
      rw [markL_at k n j hlt] at hc hd
      have hcw : wr.cell? ⟨g, o + j * 2, none⟩ = some (.string (markB (k + j * 2))) := (hb.cell (p := ⟨g, o + j * 2, none⟩) (HC.out.lt hne)).trans hc
      have hdw : wr.cell? ⟨g, o + j * 2 + 1, none⟩ = some (.string (markB (k + j * 2 + 1))) := (hb.cell (p := ⟨g, o + j * 2 + 1, none⟩) (HC.out.lt hne)).trans hd
      have hcr := cell_regrown hcw
      have hdr := cell_regrown hdw
      have km : Hid (∀ d os, Calls Try.prog 34 #[.int .i64 ((k + j * 2 : Nat) : Int)] (grow (redrawn wr d) os) fun e w' => e = .returned (.string (markB (k + j * 2))) ∧ ∃ p : Regrown, w' = grow (redrawn wr p.d) p.os) := by
        intro d os
        exact Calls.regrown_of (mark_any (k + j * 2) _ (by omega) (by omega))
      have km2 : Hid (∀ wz, Calls Try.prog 34 #[.int .i64 ((k + j * 2 + 1 : Nat) : Int)] wz fun e w' => e = .returned (.string (markB (k + j * 2 + 1))) ∧ Below wz.heap.size wz w') := fun wz => mark_any (k + j * 2 + 1) wz (by omega) (by omega)
      have ecast : ((k + j * 2 : Nat) : Int) = (k : Int) + j * 2 := by omega
      have ecast2 : ((k + j * 2 + 1 : Nat) : Int) = (k : Int) + j * 2 + 1 := by omega
      rw [ecast] at km
      rw [ecast2] at km2
      clear hc hcw hne hd hdw ecast ecast2
      generalize markB (k + j * 2) = mk at *
      generalize markB (k + j * 2 + 1) = mk2 at *
      have hmm : (mk.toList == mk.toList) = true := by simp
      have hmm2 : (mk2.toList == mk2.toList) = true := by simp
      have hjn : (j : Int) < (n : Int) := by omega
      go_wp2_with fail
      refine wp_region_quiet_below (by kernel_rfl) (by kernel_rfl) ?_
      repeat (go_big_quiet_step (exact km.out _ _))
      refine wpQuiet_nil ?_
      intro _ hw'
      obtain ⟨⟨dq, osq⟩, hw''⟩ := hw'
      subst hw''
      have hb2 := hb.trans ((below_regrown wr dq osq).mono hb.size)
      have hdq := hdr dq osq
      have hdr2 := cell_regrown hdq
      clear hdr hcr km hdq
      generalize grow (redrawn wr dq) osq = w3 at *
      have km3 : Hid (∀ d os, Calls Try.prog 34 #[.int .i64 ((k : Int) + j * 2 + 1)] (grow (redrawn w3 d) os) fun e w' => e = .returned (.string mk2) ∧ ∃ p : Regrown, w' = grow (redrawn w3 p.d) p.os) := by
        intro d os
        exact Calls.regrown_of (km2.out _)
      clear km2
      go_wp2_with fail
      refine wp_region_quiet_below (by kernel_rfl) (by kernel_rfl) ?_
      repeat (go_big_quiet_step (exact km3.out _ _))
      refine wpQuiet_nil ?_
      intro _ hw'
      obtain ⟨⟨dq, osq⟩, hw''⟩ := hw'
      subst hw''
      have hb4 := hb2.trans ((below_regrown w3 dq osq).mono hb2.size)
      go_wp2
      go_roundw
      case rel => exact ⟨j + 1, by omega, by go_num, by go_num, hb4⟩
      case measure => simp [intOf]; omega
    · obtain rfl : j = n := by omega
      go_wp2
      go_ret
      exact ⟨rfl, hb⟩

end Go.Proofs.Ytikhanickkhnbaa
