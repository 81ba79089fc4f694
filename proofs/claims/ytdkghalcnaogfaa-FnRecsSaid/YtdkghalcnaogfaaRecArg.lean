/- Lists of Rec that come in: their copy, their size. -/
import Derived.Test.YtdkghalcnaogfaaProg
import Derived.Test.YtdkghalcnaogfaaPlain
import Derived.Test.YtdkghalcnaogfaaTexts
import Derived.Test.YtdkghalcnaogfaaMarks
import Derived.Test.YtdkghalcnaogfaaRows0
import Derived.Test.YtdkghalcnaogfaaRecRows
import Derived.WalkKit
import Derived.WalkLawsBesides
import Derived.OwnWalk
import Derived.BigQuiet
import Derived.Deep.QuietTactic
import Derived.Lib.QuietBelow
import Derived.Laws.IdiomStrings
import Derived.Lib.Hide
import Derived.IntWalk
namespace Go.Proofs.Ytdkghalcnaogfaa
open Go.RowKit Go.Sort
set_option linter.unusedVariables false

def noRec : RecD := ⟨0, ByteArray.empty, ByteArray.empty, ByteArray.empty, ByteArray.empty, 0⟩
theorem info_rec : (Try.prog.info? 36).map (fun i => (i.zero, i.size, i.bytes)) = some (some (recV noRec), 6, 80) := by kernel_rfl
theorem made_rec (k : Nat) : (madeCells (Value.cells (recV noRec)) (k * 6)).toList = rowCells recS (List.replicate k noRec) := made_rows recS (recV noRec) noRec rfl k

theorem toRec_any (x : RecD) (w : World) :
    Calls Try.prog 47 #[recV x] w fun e w' => e = .returned (recV x) ∧ Below w.heap.size w w' := by
  obtain ⟨a0, a1, a2, a3, a4, a5⟩ := x
  unfold recV
  simp only
  have hb := (((Below.refl w.heap.size w).alloc (Nat.le_refl _) (.cells #[.int .i64 a0, .string a1, .string a2, .string a3, .string a4, .int .i64 a5] 76)).alloc (by simp) (.cells #[.int .i64 a0, .string a1, .string a2, .string a3, .string a4, .int .i64 a5] 36)).alloc (by simp; omega) (.cells #[.int .i64 a0, .string a1, .string a2, .string a3, .string a4, .int .i64 a5] 36)
  go_enter Try.func47, Try.ntmps47
  go_wp2
  (try simp only [Exit.inBlock, Exit.then])
  refine bodyPost_ret (v := .agg #[.int .i64 a0, .string a1, .string a2, .string a3, .string a4, .int .i64 a5]) ?_ rfl ⟨rfl, hb⟩
  refine results_cell_row rfl _ _ (w.heap.size + 1) 36 #[.int .i64 a0, .string a1, .string a2, .string a3, .string a4, .int .i64 a5] (0, 0) _ rfl ?_ Try.underlying36 rfl (by kernel_rfl)
  rw [Below.heap_alloc _ _ _ (by simp), show w.heap.size + 1 = (w.alloc (.cells #[.int .i64 a0, .string a1, .string a2, .string a3, .string a4, .int .i64 a5] 76)).heap.size by simp]
  exact heap_alloc_new _ _

set_option maxRecDepth 100000 in
set_option maxHeartbeats 1600000 in
theorem toRecs (w : World) (u : Value) (g o : Nat) (l : List RecD) (hu : RowsRd recS w u g o l) (hl : l.length ≤ 1048576) :
    Calls Try.prog 26 #[u] w (NewRows recS w l) := by
  obtain ⟨i0, hi, hz0, hz1, hz2⟩ := info_parts info_rec
  obtain ⟨a, cap, rfl, ha⟩ := hu.form
  have CU := Lib.hid hu
  have HA := Lib.hid ha
  clear hu ha
  go_enter Try.func26, Try.ntmps26
  go_wp2_with (refine wpList_make_full _ rfl _ _ 24 rfl w.heap.size 36 i0 (recV noRec) 6 Try.underlying24 hi hz0 hz1 .i64 .i64 (l.length : Int) (l.length : Int) l.length rfl rfl rfl rfl (by rw [hz2]; omega) (by unfold maxLen; omega) (Nat.le_refl _) ?_; intro w1 hown hgrow)
  rw [made_rec] at hown
  have h1 : RowsIs recS w1 (.slice (some ⟨w.heap.size, 0, none⟩) l.length l.length) w.heap.size 0 (List.replicate l.length noRec) := by
    obtain ⟨gg, hh, hgg⟩ := rowsIs_of_owns (S := recS) hown (by simp) (by have := hgrow.size; omega)
    by_cases hn : l.length = 0
    · have : l = [] := List.eq_nil_of_length_eq_zero hn
      subst this
      exact RowsIs.nil _ _ rfl
    · obtain ⟨a', cap', he, ha'⟩ := hh.form
      have := ha' (by intro e; have := congrArg List.length e; simp at this; exact hn (by rw [this]; rfl))
      injection he with he1 _ _
      rw [this] at he1
      injection he1 with he2
      injection he2 with he3
      rw [← he3] at hh; exact hh
  have hb1 : Below w.heap.size w w1 := ⟨hgrow.os, hgrow.tape, hgrow.output, hgrow.size, fun k hk => hgrow.block k hk (by simp)⟩
  have hlen := Lib.hid (show l.length = (List.replicate l.length noRec).length by simp)
  have h1' : RowsIs recS w1 (.slice (some ⟨w.heap.size, 0, none⟩) l.length l.length) w.heap.size 0 (mixR l (List.replicate l.length noRec) 0) := by rw [mixR_zero]; exact h1
  clear hown hgrow h1
  generalize List.replicate l.length noRec = m at *
  have H1 := Lib.hid h1'
  clear h1' hi hz0 hz1 hz2
  go_wp2
  go_loopw [4] (fun i wr => ∃ k : Nat, k ≤ l.length ∧ i = .int .i64 k ∧ Below w.heap.size w wr ∧ Hid (RowsIs recS wr (.slice (some ⟨w.heap.size, 0, none⟩) l.length l.length) w.heap.size 0 (mixR l m k))) (fun i wr => l.length - (intOf i).toNat)
  case atStart => exact ⟨0, Nat.zero_le _, rfl, hb1, H1⟩
  case round =>
    obtain ⟨k, hk, rfl, hbr, hI⟩ := hrel
    clear hb1 H1
    by_cases hlt : k < l.length
    · have hln : l ≠ [] := by intro e; subst e; simp at hlt
      obtain rfl := HA.out hln
      have q0 := (hbr.cell (p := ⟨g, o + k * 6, none⟩) (CU.out.lt hln)).trans (rec_c0 CU.out k hlt)
      have q1 := (hbr.cell (p := ⟨g, o + k * 6 + 1, none⟩) (CU.out.lt hln)).trans (rec_c1 CU.out k hlt)
      have q2 := (hbr.cell (p := ⟨g, o + k * 6 + 2, none⟩) (CU.out.lt hln)).trans (rec_c2 CU.out k hlt)
      have q3 := (hbr.cell (p := ⟨g, o + k * 6 + 3, none⟩) (CU.out.lt hln)).trans (rec_c3 CU.out k hlt)
      have q4 := (hbr.cell (p := ⟨g, o + k * 6 + 4, none⟩) (CU.out.lt hln)).trans (rec_c4 CU.out k hlt)
      have q5 := (hbr.cell (p := ⟨g, o + k * 6 + 5, none⟩) (CU.out.lt hln)).trans (rec_c5 CU.out k hlt)
      have km := Lib.hid (toRec_any l[k])
      have hset := Lib.hid (mixR_set hlen.out hlt)
      have hll := mixR_length hlen.out hk
      generalize l[k] = x at *
      obtain ⟨a0, a1, a2, a3, a4, a5⟩ := x
      unfold recV at km
      simp only at km
      go_wp2_with fail
      refine (km.out _).mono ?_
      rintro e w2 ⟨rfl, hb2⟩
      have hgl : w.heap.size < wr.heap.size := hI.out.lt (by intro e; rw [e] at hll; simp at hll; omega)
      have hI2 := (hI.out.below hb2 (fun _ => hgl)).self k (by omega)
      have hkm : k < (mixR l m k).length := by omega
      have hI3 : Hid (RowsIs recS ((((((w2.setCell ⟨w.heap.size, k * 6, none⟩ (.int .i64 a0)).setCell ⟨w.heap.size, k * 6 + 1, none⟩ (.string a1)).setCell ⟨w.heap.size, k * 6 + 2, none⟩ (.string a2)).setCell ⟨w.heap.size, k * 6 + 3, none⟩ (.string a3)).setCell ⟨w.heap.size, k * 6 + 4, none⟩ (.string a4)).setCell ⟨w.heap.size, k * 6 + 5, none⟩ (.int .i64 a5)) (.slice (some ⟨w.heap.size, 0, none⟩) l.length l.length) w.heap.size 0 (mixR l m (k + 1))) := by
        unfold Hid
        rw [← hset.out]
        have := (rec_p5 (rec_p4 (rec_p3 (rec_p2 (rec_p1 (rec_p0 hI2 hkm a0) hkm a1) hkm a2) hkm a3) hkm a4) hkm a5)
        simp only [Nat.zero_add] at this
        exact this
      have hb3 := (((((((hbr.trans (hb2.mono hbr.size)).setCell (p := ⟨w.heap.size, k * 6, none⟩) (Nat.le_refl _) (.int .i64 a0)).setCell (p := ⟨w.heap.size, k * 6 + 1, none⟩) (Nat.le_refl _) (.string a1)).setCell (p := ⟨w.heap.size, k * 6 + 2, none⟩) (Nat.le_refl _) (.string a2)).setCell (p := ⟨w.heap.size, k * 6 + 3, none⟩) (Nat.le_refl _) (.string a3)).setCell (p := ⟨w.heap.size, k * 6 + 4, none⟩) (Nat.le_refl _) (.string a4)).setCell (p := ⟨w.heap.size, k * 6 + 5, none⟩) (Nat.le_refl _) (.int .i64 a5))
      have d0 := rec_q0 hI2 hkm
      have f0 := rec_f0 hI2 k (by rw [List.length_set]; exact hkm)
      have d1 := rec_q1 hI2 hkm
      have f1 := rec_f1 hI2 k (by rw [List.length_set]; exact hkm)
      have d2 := rec_q2 hI2 hkm
      have f2 := rec_f2 hI2 k (by rw [List.length_set]; exact hkm)
      have d3 := rec_q3 hI2 hkm
      have f3 := rec_f3 hI2 k (by rw [List.length_set]; exact hkm)
      have d4 := rec_q4 hI2 hkm
      have f4 := rec_f4 hI2 k (by rw [List.length_set]; exact hkm)
      have d5 := rec_q5 hI2 hkm
      have f5 := rec_f5 hI2 k (by rw [List.length_set]; exact hkm)
      simp only [Nat.zero_add] at d0 f0 d1 f1 d2 f2 d3 f3 d4 f4 d5 f5
      generalize (mixR l m k)[k]'(by omega) = old at d0 d1 d2 d3 d4 d5
      clear hI hI2 hset hb2 hbr hll hkm q0 q1 q2 q3 q4 q5 km
      go_wp2
      go_roundw
      case rel => exact ⟨k + 1, by omega, by go_num, hb3, hI3⟩
      case measure => simp [intOf]; omega
    · obtain rfl : k = l.length := by omega
      have hI3 : Hid (RowsIs recS wr (.slice (some ⟨w.heap.size, 0, none⟩) l.length l.length) w.heap.size 0 l) := by
        unfold Hid
        have := hI.out
        rw [mixR_all hlen.out] at this
        exact this
      clear hI
      go_wp2
      go_ret
      exact ⟨_, _, rfl, hI3.out, Nat.le_refl _, hbr⟩

/-! how large they are -/
def sizeRec (x : RecD) : Nat := x.raw.size + x.sect.size + x.key.size + x.value.size
def costRec (l : List RecD) : Nat := l.length + (l.map sizeRec).sum
theorem costRec_nil : costRec [] = 0 := rfl
theorem costRec_take_succ (l : List RecD) (k : Nat) (h : k < l.length) : costRec (l.take (k + 1)) = costRec (l.take k) + 1 + sizeRec l[k] := by
  rw [List.take_succ_eq_append_getElem h]
  simp only [costRec, List.length_append, List.map_append, List.sum_append, List.map_cons, List.map_nil, List.sum_cons, List.sum_nil, List.length_cons, List.length_nil]
  omega
theorem costRec_take (l : List RecD) (k : Nat) (h : k ≤ l.length) : costRec (l.take k) + (l.length - k) ≤ costRec l := by
  have h1 : costRec l = costRec (l.take k) + costRec (l.drop k) := by
    conv => lhs; rw [← List.take_append_drop k l]
    simp only [costRec, List.length_append, List.map_append, List.sum_append]
    omega
  have h2 : l.length - k ≤ costRec (l.drop k) := by unfold costRec; rw [List.length_drop]; omega
  omega
theorem costRec_at (l : List RecD) (k : Nat) (h : k < l.length) : sizeRec l[k] + l.length ≤ costRec l := by
  have h1 := costRec_take_succ l k h
  have h2 := costRec_take l (k + 1) h
  have h3 : k ≤ costRec (l.take k) := by unfold costRec; rw [List.length_take]; omega
  omega
/-- its texts are no longer than a text may be -/
def fitsRec (x : RecD) : Prop := (-9223372036854775808 ≤ x.kind ∧ x.kind ≤ 9223372036854775807) ∧ x.raw.size ≤ maxLen ∧ x.sect.size ≤ maxLen ∧ x.key.size ≤ maxLen ∧ x.value.size ≤ maxLen ∧ (-9223372036854775808 ≤ x.line ∧ x.line ≤ 9223372036854775807)

set_option maxHeartbeats 800000 in
theorem szRec_any (x : RecD) (z : Int) (w : World) (h0 : 0 ≤ z) (h1 : z ≤ 1048576) (hx : fitsRec x) :
    Calls Try.prog 46 #[recV x, .int .i64 z] w fun e w' => e = .returned (.int .i64 (if z < (sizeRec x : Int) then -1 else z - (sizeRec x : Int))) ∧ Below w.heap.size w w' := by
  obtain ⟨a0, a1, a2, a3, a4, a5⟩ := x
  unfold fitsRec at hx
  unfold recV sizeRec
  simp only at hx ⊢
  obtain ⟨hx0, hx1, hx2, hx3, hx4, hx5⟩ := hx
  unfold maxLen at hx1 hx2 hx3 hx4
  have hb := (Below.refl w.heap.size w).alloc (Nat.le_refl _) (.cells #[.int .i64 a0, .string a1, .string a2, .string a3, .string a4, .int .i64 a5] 76)
  by_cases q0 : z - a1.size < 0
  · rw [if_pos (by omega)]
    go_enter Try.func46, Try.ntmps46
    go_wp2
    go_ret
    exact ⟨rfl, hb⟩
  · skip
    by_cases q1 : z - a1.size - a2.size < 0
    · rw [if_pos (by omega)]
      go_enter Try.func46, Try.ntmps46
      go_wp2
      go_ret
      exact ⟨rfl, hb⟩
    · skip
      by_cases q2 : z - a1.size - a2.size - a3.size < 0
      · rw [if_pos (by omega)]
        go_enter Try.func46, Try.ntmps46
        go_wp2
        go_ret
        exact ⟨rfl, hb⟩
      · skip
        by_cases q3 : z - a1.size - a2.size - a3.size - a4.size < 0
        · rw [if_pos (by omega)]
          go_enter Try.func46, Try.ntmps46
          go_wp2
          go_ret
          exact ⟨rfl, hb⟩
        · skip
          rw [if_neg (by omega)]
          go_enter Try.func46, Try.ntmps46
          go_wp2
          go_ret
          exact ⟨by go_num, hb⟩
/-- what is left of a bound behind a list: -1 where it is too large -/
def SzRec (c : Nat) (left : Int) (z : Int) : Prop := (z = -1 ∧ left < (c : Int)) ∨ (0 ≤ z ∧ z + (c : Int) = left)
set_option maxHeartbeats 1600000 in
theorem szRecs (w : World) (u : Value) (g o : Nat) (l : List RecD) (left : Int) (hu : RowsRd recS w u g o l) (hl : l.length ≤ maxLen) (hx : ∀ i (h : i < l.length), fitsRec l[i]) (h0 : 0 ≤ left) (h1 : left ≤ 1048576) :
    Calls Try.prog 24 #[u, .int .i64 left] w fun e w' => ∃ z, e = .returned (.int .i64 z) ∧ SzRec (costRec l) left z ∧ Below w.heap.size w w' := by
  obtain ⟨a, cap, rfl, ha⟩ := hu.form
  have CU := Lib.hid hu
  have HA := Lib.hid ha
  have HX := Lib.hid hx
  clear hu ha hx
  unfold maxLen at hl
  by_cases q : left - l.length < 0
  · have hfin : Hid (SzRec (costRec l) left (-1)) := .inl ⟨rfl, by unfold costRec; omega⟩
    go_enter Try.func24, Try.ntmps24
    go_wp2
    go_ret
    exact ⟨_, rfl, hfin.out, Below.refl _ _⟩
  · go_enter Try.func24, Try.ntmps24
    go_wp2
    go_loopw [1, 5] (fun v i wr => ∃ (k : Nat) (z : Int), k ≤ l.length ∧ i = .int .i64 k ∧ v = .int .i64 z ∧ 0 ≤ z ∧ z ≤ 1048576 ∧ Hid (z + costRec (l.take k) + (l.length - k : Nat) = left) ∧ Below w.heap.size w wr) (fun _ i wr => l.length - (intOf i).toNat)
    case atStart => exact ⟨0, left - l.length, Nat.zero_le _, rfl, by go_num, by omega, by omega, by unfold Hid; rw [List.take_zero, costRec_nil]; omega, Below.refl _ _⟩
    case round =>
      obtain ⟨k, z, hk, rfl, rfl, hz0, hz1, hz, hbr⟩ := hrel
      by_cases hlt : k < l.length
      · have hln : l ≠ [] := by intro e; subst e; simp at hlt
        obtain rfl := HA.out hln
        have q0 := (hbr.cell (p := ⟨g, o + k * 6, none⟩) (CU.out.lt hln)).trans (rec_c0 CU.out k hlt)
        have q1 := (hbr.cell (p := ⟨g, o + k * 6 + 1, none⟩) (CU.out.lt hln)).trans (rec_c1 CU.out k hlt)
        have q2 := (hbr.cell (p := ⟨g, o + k * 6 + 2, none⟩) (CU.out.lt hln)).trans (rec_c2 CU.out k hlt)
        have q3 := (hbr.cell (p := ⟨g, o + k * 6 + 3, none⟩) (CU.out.lt hln)).trans (rec_c3 CU.out k hlt)
        have q4 := (hbr.cell (p := ⟨g, o + k * 6 + 4, none⟩) (CU.out.lt hln)).trans (rec_c4 CU.out k hlt)
        have q5 := (hbr.cell (p := ⟨g, o + k * 6 + 5, none⟩) (CU.out.lt hln)).trans (rec_c5 CU.out k hlt)
        have km := Lib.hid (fun w => szRec_any l[k] z w hz0 hz1 (HX.out k hlt))
        have hst := costRec_take_succ l k hlt
        have hle := costRec_take l (k + 1) (by omega)
        have hzo := hz.out
        generalize sizeRec l[k] = sk at *
        generalize l[k] = x at *
        obtain ⟨a0, a1, a2, a3, a4, a5⟩ := x
        unfold recV at km
        simp only at km q0 q1 q2 q3 q4 q5
        by_cases e1 : z < (sk : Int)
        · have hfin : Hid (SzRec (costRec l) left (-1)) := .inl ⟨rfl, by omega⟩
          rw [if_pos e1] at km
          clear hst hle hzo hz
          go_wp2_with fail
          refine (km.out _).mono ?_
          rintro e w2 ⟨rfl, hb2⟩
          have hb3 := hbr.trans (hb2.mono hbr.size)
          go_wp2
          go_ret
          exact ⟨_, rfl, hfin.out, hb3⟩
        · rw [if_neg e1] at km
          have hz2 : Hid (z - sk + costRec (l.take (k + 1)) + (l.length - (k + 1) : Nat) = left) := by unfold Hid; omega
          clear hst hle hzo hz
          go_wp2_with fail
          refine (km.out _).mono ?_
          rintro e w2 ⟨rfl, hb2⟩
          have hb3 := hbr.trans (hb2.mono hbr.size)
          go_wp2
          go_roundw
          case rel => exact ⟨k + 1, z - sk, by omega, by go_num, by go_num, by omega, by omega, hz2, hb3⟩
          case measure => simp [intOf]; omega
      · obtain rfl : k = l.length := by omega
        have hfin : Hid (SzRec (costRec l) left z) := by
          refine .inr ⟨hz0, ?_⟩
          have := hz.out
          rw [List.take_length] at this
          omega
        clear hz
        go_wp2
        go_ret
        exact ⟨z, rfl, hfin.out, hbr⟩

end Go.Proofs.Ytdkghalcnaogfaa
