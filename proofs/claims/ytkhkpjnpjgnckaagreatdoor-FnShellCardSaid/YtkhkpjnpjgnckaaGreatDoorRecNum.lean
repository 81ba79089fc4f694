/- Records numbered anew: the contracts of Numbered, the model's and the program's. -/
import Derived.Test.YtkhkpjnpjgnckaaGreatDoorProg
import Derived.Test.YtkhkpjnpjgnckaaGreatDoorPlain
import Derived.Test.YtkhkpjnpjgnckaaGreatDoorRows0
import Derived.Test.YtkhkpjnpjgnckaaGreatDoorRecRows
import Derived.Test.YtkhkpjnpjgnckaaGreatDoorRecArg
import Derived.Test.YtkhkpjnpjgnckaaGreatDoorRecEntry
import Derived.Test.YtkhkpjnpjgnckaaGreatDoorRecRaw
import Derived.Test.YtkhkpjnpjgnckaaGreatDoorRecOdd
import Derived.Test.YtkhkpjnpjgnckaaGreatDoorLines
import Derived.Test.YtkhkpjnpjgnckaaGreatDoorSplitSpec
import Derived.Test.YtkhkpjnpjgnckaaGreatDoorSplitImpl
import Derived.WalkKit
import Derived.WalkLawsBesides
import Derived.OwnWalk
import Derived.Lib.AppendStr
import Derived.Laws.IdiomStrings
import Derived.Handy
import Derived.Lib.Hide
import Derived.IntWalk
namespace Go.Proofs.YtkhkpjnpjgnckaaGreatDoor
open Go.RowKit
set_option linter.unusedVariables false

/-- at which line it stands -/
def lineAt (l : List RecD) (k : Nat) : Nat := 1 + (((l.map RecD.raw).take k).map (fun r => (linesOf r).length)).sum
def numL (l : List RecD) : List RecD := (List.range l.length).map (fun k => { (l.getD k noRec) with line := (lineAt l k : Int) })
theorem numL_length (l : List RecD) : (numL l).length = l.length := by simp [numL]
theorem numL_at (l : List RecD) (k : Nat) (h : k < l.length) : (numL l)[k]'(by rw [numL_length]; exact h) = { l[k] with line := (lineAt l k : Int) } := by
  simp [numL, List.getD, List.getElem?_eq_getElem h]
theorem lineAt_zero (l : List RecD) : lineAt l 0 = 1 := by simp [lineAt]
theorem lineAt_succ (l : List RecD) (k : Nat) (h : k < l.length) : lineAt l (k + 1) = lineAt l k + (linesOf l[k].raw).length := by
  unfold lineAt
  rw [List.take_succ_eq_append_getElem (by rw [List.length_map]; exact h), List.map_append, List.sum_append]
  simp
  omega
theorem lineAt_le (l : List RecD) (k : Nat) (h : k ≤ l.length) : lineAt l k ≤ 1 + costRec (l.take k) := by
  induction k with
  | zero => rw [lineAt_zero]; omega
  | succ k ih =>
    rw [lineAt_succ l k (by omega), costRec_take_succ l k (by omega)]
    have h1 := ih (by omega)
    have h2 := linesOf_few l[k].raw
    have h3 : l[k].raw.size ≤ sizeRec l[k] := by unfold sizeRec; omega
    omega
theorem lineAt_bound (l : List RecD) (k : Nat) (h : k ≤ l.length) : lineAt l k ≤ 1 + costRec l := by
  have h1 := lineAt_le l k h
  have h2 := costRec_take l k h
  omega
theorem numL_fits {l : List RecD} (h : costRec l ≤ 1048576) : (numL l).length ≤ 100000000 := by
  rw [numL_length]
  unfold costRec at h
  omega
theorem numL_raw (l : List RecD) : (numL l).map RecD.raw = l.map RecD.raw := by
  apply List.ext_getElem
  · rw [List.length_map, List.length_map, numL_length]
  · intro k h1 h2
    rw [List.getElem_map, List.getElem_map, numL_at l k (by simpa using h2)]
theorem numL_again (l : List RecD) : numL (numL l) = numL l := by
  apply List.ext_getElem
  · rw [numL_length]
  · intro k h1 h2
    have hk : k < l.length := by rw [numL_length] at h2; exact h2
    rw [numL_at (numL l) k h2, numL_at l k hk]
    have : lineAt (numL l) k = lineAt l k := by unfold lineAt; rw [numL_raw]
    rw [this]
theorem rawB_map (l : List RecD) : rawB l = (l.map RecD.raw).flatMap (fun r => r.data.toList) := by simp [rawB, List.flatMap_map]
theorem rawB_num (l : List RecD) : rawB (numL l) = rawB l := by rw [rawB_map, rawB_map, numL_raw]
theorem costRec_num (l : List RecD) : costRec (numL l) = costRec l := by
  unfold costRec
  rw [numL_length]
  congr 2
  apply List.ext_getElem
  · rw [List.length_map, List.length_map, numL_length]
  · intro k h1 h2
    rw [List.getElem_map, List.getElem_map, numL_at l k (by simpa using h2)]
    rfl

theorem RowsIs.alloc' {α : Type} {S : Shape α} {w : World} {v : Value} {g o : Nat} {l : List α} (h : RowsIs S w v g o l) (ob : Obj) : RowsIs S (w.alloc ob) v g o l := h.over ((Below.refl w.heap.size w).alloc (Nat.le_refl _) ob)
/-- what a slice of a known length is -/
theorem own_form {w : World} {base e size n : Nat} {v : Value} {xs : List Value} (h : w.ownsRow base e size v n xs) : ∃ a cap, v = .slice a n cap := by
  rcases h.2 with ⟨rfl, rfl⟩ | ⟨g, cap, cur, rfl, _⟩
  · exact ⟨none, 0, rfl⟩
  · exact ⟨_, cap, rfl⟩

theorem rows_news {w : World} {v : Value} {g o : Nat} {l : List RecD} (h : RowsRd recS w v g o l) (ad : Addr) (hg : l ≠ [] → ad = ⟨g, o, none⟩) (ob : Obj) : ∀ j u, (rowCells recS l)[j]? = some u → (w.alloc ob).cell? (ad.add j) = some u := by
  intro j u hu
  have hj : j < l.length * 6 := by
    have := (List.getElem?_eq_some_iff.1 hu).1
    rw [rowCells_length] at this
    exact this
  have hl : l ≠ [] := by intro e; subst e; simp at hj
  obtain rfl := hg hl
  have hd : j / 6 < l.length := by omega
  have hc := rowCells_at recS l (j / 6) hd (j % 6) (by have := Nat.mod_lt j (show 0 < 6 by decide); exact this)
  rw [show j / 6 * recS.n + j % 6 = j by rw [rec_n]; omega, hu] at hc
  have := h.cell (j / 6) hd (j % 6) u hc.symm
  rw [rec_n, show o + j / 6 * 6 + j % 6 = o + j by omega] at this
  have ha : (⟨g, o, none⟩ : Addr).add j = ⟨g, o + j, none⟩ := by unfold Addr.add; split <;> simp_all
  rw [ha, World.cell?_of_block (a := ⟨g, o + j, none⟩) (Below.heap_alloc _ _ _ (h.lt hl))]
  exact this
theorem mixR_here {α : Type} {l m : List α} {k : Nat} (h : l.length = m.length) (hk : k < m.length) : (mixR l m k)[k]'(by rw [mixR_length h (by omega)]; omega) = m[k] := by
  simp only [mixR]
  rw [List.getElem_append_right (by simp; omega)]
  simp [show min k l.length = k by omega]


theorem entry_form (x : RecD) : ∃ ty vv, entV x = .iface ty vv ∧ ∀ w, (method 277 ty vv "loop.example/g00727/impl.lines").run Tryz.prog w = .ok (199, .agg #[.string x.raw]) w := by
  unfold entV
  split
  · exact ⟨_, _, rfl, fun w => by kernel_rfl⟩
  · split
    · exact ⟨_, _, rfl, fun w => by kernel_rfl⟩
    · split
      · exact ⟨_, _, rfl, fun w => by kernel_rfl⟩
      · exact ⟨_, _, rfl, fun w => by kernel_rfl⟩

theorem lines_any (r : ByteArray) (w : World) (hr : r.size ≤ 1048576) :
    Calls Tryz.prog 199 #[.agg #[.string r]] w fun e w' => e = .returned (.int .i64 ((linesOf r).length : Int)) ∧ Below w.heap.size w w' := by
  have K := Lib.hid (fun w => splitLines_impl r w hr)
  have hb0 := (Below.refl w.heap.size w).alloc (Nat.le_refl _) (.cells #[.string r] 119)
  have hfew := linesOf_few r
  generalize linesOf r = ls at *
  go_enter Tryz.func199, Tryz.ntmps199
  go_wp2_with fail
  refine (K.out _).mono ?_
  rintro e w1 ⟨v, g, rfl, hI, hg, hb⟩
  obtain ⟨a, cap, rfl, _⟩ := hI.form
  have hb2 := hb0.trans (hb.mono (by simp))
  clear hI K
  go_wp2
  go_ret
  exact ⟨rfl, hb2⟩

set_option maxRecDepth 100000 in
set_option maxHeartbeats 3200000 in
theorem numbered_impl (w : World) (u : Value) (g o : Nat) (l : List RecD) (hu : RowsRd recS w u g o l) (hl : costRec l ≤ 1048576) :
    Calls Tryz.prog 42 #[u] w (NewRows recS w (numL l)) := by
  obtain ⟨i0, hi, hz0, hz1, hz2⟩ := info_parts info_rec
  obtain ⟨a, cap, rfl, ha⟩ := hu.form
  have hll : l.length ≤ 1048576 := by unfold costRec at hl; omega
  have CU := Lib.hid hu
  have HA := Lib.hid ha
  have HL := Lib.hid hl
  clear hu ha hl
  go_enter Tryz.func42, Tryz.ntmps42
  go_wp2_with (refine wpList_make_full _ rfl _ _ 32 rfl w.heap.size 35 i0 (recV noRec) 6 Tryz.underlying32 hi hz0 hz1 .i64 .i64 (l.length : Int) (l.length : Int) l.length rfl rfl rfl rfl (by rw [hz2]; omega) (by unfold maxLen; omega) (Nat.le_refl _) ?_; intro w1 hown hgrow)
  rw [made_rec] at hown
  have h1 : RowsIs recS w1 (.slice (some ⟨w.heap.size, 0, none⟩) l.length l.length) w.heap.size 0 (List.replicate l.length noRec) := by
    obtain ⟨gg, hh, hgg⟩ := rowsIs_of_owns (S := recS) hown (by simp) (by have := hgrow.size; omega)
    by_cases hn : l.length = 0
    · have : l = [] := List.eq_nil_of_length_eq_zero hn
      subst this
      exact RowsIs.nil _ _ rfl
    · obtain ⟨a', cap', he, ha'⟩ := hh.form
      have := ha' (by intro e; have := congrArg List.length e; simp at this; exact hn (by rw [this]; rfl))
      injection he with he1 _ _
      rw [this] at he1
      injection he1 with he2
      injection he2 with he3
      rw [← he3] at hh; exact hh
  have hb1 : Below w.heap.size w w1 := ⟨hgrow.os, hgrow.tape, hgrow.output, hgrow.size, fun k hk => hgrow.block k hk (by simp)⟩
  have hlen : l.length = (List.replicate l.length noRec).length := by simp
  have H1 : Hid (RowsIs recS w1 (.slice (some ⟨w.heap.size, 0, none⟩) l.length l.length) w.heap.size 0 (mixR (numL l) (List.replicate l.length noRec) 0)) := by unfold Hid; rw [mixR_zero]; exact h1
  have HLEN : Hid ((numL l).length = (List.replicate l.length noRec).length) := by unfold Hid; rw [numL_length]; exact hlen
  clear hown hgrow h1 hi hz0 hz1 hz2 hlen
  generalize List.replicate l.length noRec = m at *
  go_wp2
  go_loopw [4, 12] (fun ln i wr => ∃ k : Nat, k ≤ l.length ∧ i = .int .i64 k ∧ ln = .int .i64 ((lineAt l k : Nat) : Int) ∧ Below w.heap.size w wr ∧ Hid (RowsIs recS wr (.slice (some ⟨w.heap.size, 0, none⟩) l.length l.length) w.heap.size 0 (mixR (numL l) m k))) (fun _ i _ => l.length - (intOf i).toNat)
  case atStart => exact ⟨0, Nat.zero_le _, rfl, by rw [lineAt_zero]; rfl, hb1, H1⟩
  case round =>
    obtain ⟨k, hk, rfl, rfl, hb, hI⟩ := hrel
    clear hb1 H1
    by_cases hlt : k < l.length
    · have hln : l ≠ [] := by intro e; subst e; simp at hlt
      obtain rfl := HA.out hln
      have hgl0 := CU.out.lt hln
      have q0 := (hb.cell (p := ⟨g, o + k * 6, none⟩) hgl0).trans (rec_c0 CU.out k hlt)
      have q1 := (hb.cell (p := ⟨g, o + k * 6 + 1, none⟩) hgl0).trans (rec_c1 CU.out k hlt)
      have q2 := (hb.cell (p := ⟨g, o + k * 6 + 2, none⟩) hgl0).trans (rec_c2 CU.out k hlt)
      have q3 := (hb.cell (p := ⟨g, o + k * 6 + 3, none⟩) hgl0).trans (rec_c3 CU.out k hlt)
      have q4 := (hb.cell (p := ⟨g, o + k * 6 + 4, none⟩) hgl0).trans (rec_c4 CU.out k hlt)
      have q5 := (hb.cell (p := ⟨g, o + k * 6 + 5, none⟩) hgl0).trans (rec_c5 CU.out k hlt)
      have hnl := numL_length l
      have hml := HLEN.out
      have hkm : k < (mixR (numL l) m k).length := by rw [mixR_length hml (by omega)]; omega
      have hgl : w.heap.size < wr.heap.size := hI.out.lt (by intro e; rw [e] at hkm; simp at hkm)
      have hset : (mixR (numL l) m k).set k { l[k] with line := (lineAt l k : Int) } = mixR (numL l) m (k + 1) := by
        rw [← mixR_set hml (by rw [hnl]; exact hlt), numL_at l k hlt]
      have hlb := lineAt_bound l k hk
      have hls := lineAt_succ l k hlt
      have hlb2 := lineAt_bound l (k + 1) (by omega)
      have hrs : l[k].raw.size ≤ 1048576 := by
        have h1 := costRec_at l k hlt
        have h2 : l[k].raw.size ≤ sizeRec l[k] := by unfold sizeRec; omega
        have h3 := HL.out
        omega
      have K := Lib.hid (fun w => entry_any { l[k] with line := (lineAt l k : Int) } w)
      have K2 := Lib.hid (fun w => lines_any l[k].raw w hrs)
      have hz9 := HL.out
      rw [hls] at hlb2
      generalize linesOf l[k].raw = ls at *
      generalize hline : lineAt l k = line at *
      have HLS := Lib.hid hls
      have HSET := Lib.hid hset
      generalize l[k] = x at *
      obtain ⟨a0, a1, a2, a3, a4, a5⟩ := x
      simp only at K HSET K2
      have HEF := Lib.hid (entry_form ⟨a0, a1, a2, a3, a4, (line : Int)⟩)
      simp only at HEF
      generalize hev : entV ⟨a0, a1, a2, a3, a4, (line : Int)⟩ = ev at *
      unfold recV at K
      simp only at K
      have d0 := rec_q0 (hI.out.self k hkm) hkm
      have f0 := rec_f0 hI.out k hkm
      have d1 := rec_q1 (hI.out.self k hkm) hkm
      have f1 := rec_f1 hI.out k hkm
      have d2 := rec_q2 (hI.out.self k hkm) hkm
      have f2 := rec_f2 hI.out k hkm
      have d3 := rec_q3 (hI.out.self k hkm) hkm
      have f3 := rec_f3 hI.out k hkm
      have d4 := rec_q4 (hI.out.self k hkm) hkm
      have f4 := rec_f4 hI.out k hkm
      have d5 := rec_q5 (hI.out.self k hkm) hkm
      have f5 := rec_f5 hI.out k hkm
      have hI3 : Hid (RowsIs recS (((((((wr.setCell ⟨w.heap.size, k * 6, none⟩ (.int .i64 a0)).setCell ⟨w.heap.size, k * 6 + 1, none⟩ (.string a1)).setCell ⟨w.heap.size, k * 6 + 2, none⟩ (.string a2)).setCell ⟨w.heap.size, k * 6 + 3, none⟩ (.string a3)).setCell ⟨w.heap.size, k * 6 + 4, none⟩ (.string a4)).setCell ⟨w.heap.size, k * 6 + 5, none⟩ (.int .i64 (line : Int))).alloc (.cells #[.int .i64 a0, .string a1, .string a2, .string a3, .string a4, .int .i64 (line : Int)] 35)) (.slice (some ⟨w.heap.size, 0, none⟩) l.length l.length) w.heap.size 0 (mixR (numL l) m (k + 1))) := by
        unfold Hid
        rw [← HSET.out]
        have := (rec_p5 (rec_p4 (rec_p3 (rec_p2 (rec_p1 (rec_p0 (hI.out.self k hkm) hkm a0) hkm a1) hkm a2) hkm a3) hkm a4) hkm (line : Int))
        simp only [Nat.zero_add] at this
        exact this.alloc' _
      have hb3 := ((((((hb.setCell (p := ⟨w.heap.size, k * 6, none⟩) (Nat.le_refl _) (.int .i64 a0)).setCell (p := ⟨w.heap.size, k * 6 + 1, none⟩) (Nat.le_refl _) (.string a1)).setCell (p := ⟨w.heap.size, k * 6 + 2, none⟩) (Nat.le_refl _) (.string a2)).setCell (p := ⟨w.heap.size, k * 6 + 3, none⟩) (Nat.le_refl _) (.string a3)).setCell (p := ⟨w.heap.size, k * 6 + 4, none⟩) (Nat.le_refl _) (.string a4)).setCell (p := ⟨w.heap.size, k * 6 + 5, none⟩) (Nat.le_refl _) (.int .i64 (line : Int))).alloc (by simp only [World.size_setCell]; exact hb.size) (.cells #[.int .i64 a0, .string a1, .string a2, .string a3, .string a4, .int .i64 (line : Int)] 35)
      simp only [Nat.zero_add] at d0 f0 d1 f1 d2 f2 d3 f3 d4 f4 d5 f5
      generalize (mixR (numL l) m k)[k]'hkm = old at d0 d1 d2 d3 d4 d5
      have hgl3 : w.heap.size < (((((((wr.setCell ⟨w.heap.size, k * 6, none⟩ (.int .i64 a0)).setCell ⟨w.heap.size, k * 6 + 1, none⟩ (.string a1)).setCell ⟨w.heap.size, k * 6 + 2, none⟩ (.string a2)).setCell ⟨w.heap.size, k * 6 + 3, none⟩ (.string a3)).setCell ⟨w.heap.size, k * 6 + 4, none⟩ (.string a4)).setCell ⟨w.heap.size, k * 6 + 5, none⟩ (.int .i64 (line : Int))).alloc (.cells #[.int .i64 a0, .string a1, .string a2, .string a3, .string a4, .int .i64 (line : Int)] 35)).heap.size := by simp; omega
      clear hI hset hls hb hrs
      go_wp2_with fail
      refine (K.out _).mono ?_
      rintro e w2 ⟨rfl, hb2⟩
      have hI4 := Lib.hid (hI3.out.over hb2)
      have hb4 := hb3.trans (hb2.mono hb3.size)
      clear hI3 hb3 hb2 d0 f0 q0 d1 f1 q1 d2 f2 q2 d3 f3 q3 d4 f4 q4 d5 f5 q5 K hgl3
      obtain ⟨ty, vv, hv, hm⟩ := HEF.out
      rw [hv]
      have hsl : (line : Int) + (ls.length : Int) ≤ 9223372036854775807 := by omega
      have hb4s := hb4.size
      clear hev hv
      go_wp2_with fail
      refine (K2.out _).mono ?_
      rintro e w3 ⟨rfl, hb5⟩
      have hI6 := Lib.hid (hI4.out.over hb5)
      have hb6 := hb4.trans (hb5.mono hb4.size)
      have hln4 : Hid (lineAt l (k + 1) = line + ls.length) := HLS
      clear hI4 hb4 hb5 K2 hm HLS
      go_wp2
      go_roundw
      case rel => exact ⟨k + 1, by omega, by go_num, by rw [hln4.out]; go_num, hb6, hI6⟩
      case measure => simp [intOf]; omega
    · obtain rfl : k = l.length := by omega
      have hI4 : Hid (RowsIs recS wr (.slice (some ⟨w.heap.size, 0, none⟩) l.length l.length) w.heap.size 0 (numL l)) := by
        unfold Hid
        have := hI.out
        have h2 := mixR_all HLEN.out
        rw [numL_length] at h2
        rw [h2] at this
        exact this
      clear hI
      go_wp2
      go_ret
      exact ⟨_, w.heap.size, rfl, hI4.out, Nat.le_refl _, hb⟩

end Go.Proofs.YtkhkpjnpjgnckaaGreatDoor

