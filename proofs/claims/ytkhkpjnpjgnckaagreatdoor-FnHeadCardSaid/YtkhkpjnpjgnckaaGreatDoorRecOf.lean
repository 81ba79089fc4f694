/- A record out of a line's text: the program's recOf. -/
import Derived.Test.YtkhkpjnpjgnckaaGreatDoorProg
import Derived.Test.YtkhkpjnpjgnckaaGreatDoorPlain
import Derived.Test.YtkhkpjnpjgnckaaGreatDoorCut
import Derived.Test.YtkhkpjnpjgnckaaGreatDoorDialectRows
import Derived.Test.YtkhkpjnpjgnckaaGreatDoorRecRows
import Derived.Test.YtkhkpjnpjgnckaaGreatDoorRecArg
import Derived.Test.YtkhkpjnpjgnckaaGreatDoorQuotSpec
import Derived.Test.YtkhkpjnpjgnckaaGreatDoorBareImpl
import Derived.Test.YtkhkpjnpjgnckaaGreatDoorUnescTop
import Derived.Test.YtkhkpjnpjgnckaaGreatDoorQuotImpl
import Derived.Test.YtkhkpjnpjgnckaaGreatDoorHeadSpec
import Derived.Test.YtkhkpjnpjgnckaaGreatDoorIniSmall
import Derived.WalkKit
import Derived.WalkLawsBesides
import Derived.Laws.IdiomStrings
import Derived.Lib.Hide
import Derived.IntWalk
import Derived.Outline
set_option maxRecDepth 100000
namespace Go.Proofs.YtkhkpjnpjgnckaaGreatDoor
open Go.RowKit
set_option linter.unusedVariables false

/-- begins with a bracket -/
def opensH (s : ByteArray) : Bool := if h : 0 < s.size then s[0] == 91 else false
abbrev brackB : ByteArray := ⟨#[91]⟩
theorem opensH_first (s : ByteArray) (h : 0 < s.size) : ((s.extract 0 1).toList == brackB.toList) = opensH s := by
  obtain ⟨u, hu⟩ := first_data s h
  rw [Lib.toList_data, Lib.toList_data, ext_data, List.drop_zero, hu]
  unfold opensH
  rw [dif_pos h]
  simp
set_option maxHeartbeats 1600000 in
theorem hasBrack_any (s : ByteArray) (w : World) (hs : s.size ≤ 1048576) :
    Calls Tryz.prog 137 #[.string s, .string brackB] w fun e w' => e = .returned (.bool (opensH s)) ∧ w = w' := by
  by_cases hz : 0 < s.size
  · have h1 := opensH_first s hz
    have hz2 : (1 : Int) ≤ (s.size : Int) := by omega
    have hz3 : Hid ((1 : Int) ≤ (s.size : Int)) := hz2
    generalize opensH s = r at *
    go_enter Tryz.func137, Tryz.ntmps137
    go_wp2
    go_ret
    exact ⟨by first | rfl | (rw [← h1]; rfl) | simp_all, rfl⟩
  · have h1 : Hid (opensH s = false) := by unfold Hid opensH; rw [dif_neg hz]
    have hz2 : (s.size : Int) = 0 := by omega
    go_enter Tryz.func137, Tryz.ntmps137
    go_wp2
    go_ret
    exact ⟨by rw [h1.out]; rfl, rfl⟩
/-- the text behind a quote that opensH -/
def innerH (s : ByteArray) : ByteArray := if opensH s then s.extract 1 s.size else s
set_option maxHeartbeats 1600000 in
theorem cutBrack_lite (s : ByteArray) (w : World) (hs : s.size ≤ 1048576) :
    Calls Tryz.prog 158 #[.string s, .string brackB] w fun e w' => e = .returned (.tuple #[.string (innerH s), .bool (opensH s)]) ∧ w = w' := by
  have K := Lib.hid (fun w => hasBrack_any s w hs)
  cases ho : opensH s
  · have hi : Hid (innerH s = s) := by unfold Hid innerH; rw [ho]; rfl
    rw [ho] at K
    clear ho
    go_enter Tryz.func158, Tryz.ntmps158
    go_wp2_with fail
    refine (K.out _).mono ?_
    rintro e w' ⟨rfl, rfl⟩
    go_wp2
    go_ret2
    exact ⟨by rw [hi.out]; rfl, rfl⟩
  · have hi : Hid (innerH s = s.extract 1 s.size) := by unfold Hid innerH; rw [ho]; rfl
    have hz : 0 < s.size := by
      rcases Nat.eq_zero_or_pos s.size with h | h
      · unfold opensH at ho; rw [dif_neg (by omega)] at ho; cases ho
      · exact h
    have hz2 : (1 : Int) ≤ (s.size : Int) := by omega
    rw [ho] at K
    clear ho
    go_enter Tryz.func158, Tryz.ntmps158
    go_wp2_with fail
    refine (K.out _).mono ?_
    rintro e w' ⟨rfl, rfl⟩
    go_wp2
    go_ret2
    exact ⟨by rw [hi.out]; rfl, rfl⟩
theorem cutBrack_any (s : ByteArray) (w : World) (hs : s.size ≤ 1048576) :
    Calls Tryz.prog 119 #[.string s, .string brackB] w fun e w' => e = .returned (.tuple #[.string (innerH s), .bool (opensH s)]) ∧ w = w' := by
  have K := Lib.hid (fun w => cutBrack_lite s w hs)
  generalize innerH s = x at *
  generalize opensH s = o at *
  go_enter Tryz.func119, Tryz.ntmps119
  go_wp2_with fail
  refine (K.out _).mono ?_
  rintro e w' ⟨rfl, rfl⟩
  go_wp2
  go_ret2
  exact ⟨rfl, rfl⟩


/-- a record that is made of a line's text -/
def recI (d : DialectD) (sec text : ByteArray) : RecD :=
  if (trim5 d.esc text).size = 0 then ⟨0, ⟨#[]⟩, sec, ⟨#[]⟩, ⟨#[]⟩, 0⟩
  else if isN d (trim5 d.esc text) then ⟨1, ⟨#[]⟩, sec, ⟨#[]⟩, ⟨#[]⟩, 0⟩
  else if opensH (trim5 d.esc text) then (if (headI d (innerH (trim5 d.esc text))).2 then ⟨2, ⟨#[]⟩, (headI d (innerH (trim5 d.esc text))).1, ⟨#[]⟩, ⟨#[]⟩, 0⟩ else ⟨4, ⟨#[]⟩, sec, ⟨#[]⟩, ⟨#[]⟩, 0⟩)
  else if (pairI d (trim5 d.esc text)).2.2 then ⟨3, ⟨#[]⟩, sec, (pairI d (trim5 d.esc text)).1, (pairI d (trim5 d.esc text)).2.1, 0⟩ else ⟨4, ⟨#[]⟩, sec, ⟨#[]⟩, ⟨#[]⟩, 0⟩

/-- the parser's own struct -/
def PA (w : World) (b : Nat) (d : DialectD) (lv : Value) (k : Nat) (sec : ByteArray) : Prop := w.heap[b]? = some (.cells #[.string d.notes, .string d.seps, .bool d.inl, .bool d.quo, .bool d.esc, .int .i64 d.join, lv, .int .i64 (k : Int), .string sec] 57 (0, 0))
theorem PA.lt {w : World} {b : Nat} {d : DialectD} {lv : Value} {k : Nat} {sec : ByteArray} (h : PA w b d lv k sec) : b < w.heap.size := (Array.getElem?_eq_some_iff.1 h).1
theorem PA.kept {w w' : World} {b : Nat} {d : DialectD} {lv : Value} {k : Nat} {sec : ByteArray} (h : PA w b d lv k sec) (hk : w'.heap[b]? = w.heap[b]?) : PA w' b d lv k sec := by
  unfold PA at *
  rw [hk]
  exact h
theorem PA.over {w w' : World} {b : Nat} {d : DialectD} {lv : Value} {k : Nat} {sec : ByteArray} (h : PA w b d lv k sec) (hb : Below w.heap.size w w') : PA w' b d lv k sec := h.kept (hb.block b h.lt)
theorem PA.cells {w : World} {b : Nat} {d : DialectD} {lv : Value} {k : Nat} {sec : ByteArray} (h : PA w b d lv k sec) : w.cell? ⟨b, 0, none⟩ = some (.string d.notes) ∧ w.cell? ⟨b, 1, none⟩ = some (.string d.seps) ∧ w.cell? ⟨b, 2, none⟩ = some (.bool d.inl) ∧ w.cell? ⟨b, 3, none⟩ = some (.bool d.quo) ∧ w.cell? ⟨b, 4, none⟩ = some (.bool d.esc) ∧ w.cell? ⟨b, 5, none⟩ = some (.int .i64 d.join) ∧ w.cell? ⟨b, 6, none⟩ = some lv ∧ w.cell? ⟨b, 7, none⟩ = some (.int .i64 (k : Int)) ∧ w.cell? ⟨b, 8, none⟩ = some (.string sec) := by
  unfold PA at h
  refine ⟨?_, ?_, ?_, ?_, ?_, ?_, ?_, ?_, ?_⟩ <;> (rw [Lib.cell_of_heap h]; rfl)
theorem PA.free {w : World} {b : Nat} {d : DialectD} {lv : Value} {k : Nat} {sec : ByteArray} (h : PA w b d lv k sec) (j : Nat) : w.frozen? ⟨b, j, none⟩ = false := by
  unfold PA at h
  simp [World.frozen?, h]

/-- what recOf holds: the parser, the Dialect, the record to be -/
structure HeldI (w0 w : World) (b : Nat) (d : DialectD) (lv : Value) (k : Nat) (sec : ByteArray) : Prop where
  pa : PA w b d lv k sec
  da : DialAt w (w0.heap.size + 1) d
  ra : RecAt w w0.heap.size noRec
  bl : Below w0.heap.size w0 w
  sz : w0.heap.size + 1 < w.heap.size
theorem HeldI.over {w0 w w' : World} {b : Nat} {d : DialectD} {lv : Value} {k : Nat} {sec : ByteArray} (h : HeldI w0 w b d lv k sec) (hb : Below w.heap.size w w') : HeldI w0 w' b d lv k sec :=
  ⟨h.pa.over hb, h.da.over hb h.sz, h.ra.over hb (by have := h.sz; omega), h.bl.trans (hb.mono h.bl.size), Nat.lt_of_lt_of_le h.sz hb.size⟩
theorem rec_result (w : World) (g : Nat) (x : RecD) (fn : Func) (p : Tmp) (tmps : Array Value) (h : fn.results = #[.cell p 35]) (hp : tmps.getD p undef = .pointer (some ⟨g, 0, none⟩)) (hg : RecAt w g x) :
    (results fn tmps).run Tryz.prog w = .ok (recV x) w :=
  results_cell_row h _ _ g 35 _ (0, 0) _ hp hg Tryz.underlying35 rfl (by kernel_rfl)
theorem rec_below {B : Nat} {w0 w : World} {b : Nat} (hb : Below B w0 w) (hB : B ≤ b) (y : RecD) : Below B w0 ((((((w.setCell ⟨b, 0, none⟩ (.int .i64 y.kind)).setCell ⟨b, 1, none⟩ (.string y.raw)).setCell ⟨b, 2, none⟩ (.string y.sect)).setCell ⟨b, 3, none⟩ (.string y.key)).setCell ⟨b, 4, none⟩ (.string y.value)).setCell ⟨b, 5, none⟩ (.int .i64 y.line)) :=
  (((((hb.setCell (p := ⟨b, 0, none⟩) hB _).setCell (p := ⟨b, 1, none⟩) hB _).setCell (p := ⟨b, 2, none⟩) hB _).setCell (p := ⟨b, 3, none⟩) hB _).setCell (p := ⟨b, 4, none⟩) hB _).setCell (p := ⟨b, 5, none⟩) hB _

theorem RecAt.put6 {w : World} {b : Nat} {x : RecD} (h : RecAt w b x) (a0 : Int) (a1 a2 a3 a4 : ByteArray) (a5 : Int) :
    RecAt ((((((w.setCell ⟨b, 0, none⟩ (.int .i64 a0)).setCell ⟨b, 1, none⟩ (.string a1)).setCell ⟨b, 2, none⟩ (.string a2)).setCell ⟨b, 3, none⟩ (.string a3)).setCell ⟨b, 4, none⟩ (.string a4)).setCell ⟨b, 5, none⟩ (.int .i64 a5)) b ⟨a0, a1, a2, a3, a4, a5⟩ := h.put ⟨a0, a1, a2, a3, a4, a5⟩
theorem rec_below6 {B : Nat} {w0 w : World} {b : Nat} (hb : Below B w0 w) (hB : B ≤ b) (a0 : Int) (a1 a2 a3 a4 : ByteArray) (a5 : Int) : Below B w0 ((((((w.setCell ⟨b, 0, none⟩ (.int .i64 a0)).setCell ⟨b, 1, none⟩ (.string a1)).setCell ⟨b, 2, none⟩ (.string a2)).setCell ⟨b, 3, none⟩ (.string a3)).setCell ⟨b, 4, none⟩ (.string a4)).setCell ⟨b, 5, none⟩ (.int .i64 a5)) := rec_below hb hB ⟨a0, a1, a2, a3, a4, a5⟩

set_option maxHeartbeats 1600000 in
theorem recOf_impl (d : DialectD) (text : ByteArray) (w : World) (b : Nat) (lv : Value) (k : Nat) (sec : ByteArray) (hX : PA w b d lv k sec) (ht : text.size ≤ 1048576) (hse : d.seps.size ≤ 1048576) :
    Calls Tryz.prog 84 #[.pointer (some ⟨b, 0, none⟩), .string text] w fun e w' => e = .returned (recV (recI d sec text)) ∧ Below w.heap.size w w' := by
  have K0 := Lib.hid (fun w => trim_implD d text w ht)
  have htt := Nat.le_trans (trim5_size d.esc text) ht
  have K1 := Lib.hid (fun w => isNote_impl d (trim5 d.esc text) w htt)
  have K2 := Lib.hid (fun w => cutBrack_any (trim5 d.esc text) w htt)
  have hti : (innerH (trim5 d.esc text)).size ≤ 1048576 := by
    unfold innerH
    split
    · rw [ByteArray.size_extract]; omega
    · exact htt
  have K3 := Lib.hid (fun w => readHead_impl d (innerH (trim5 d.esc text)) w hti)
  have K4 := Lib.hid (fun w => readPair_impl d (trim5 d.esc text) w htt hse)
  have HV : Hid (recI d sec text = if (trim5 d.esc text).size = 0 then ⟨0, ⟨#[]⟩, sec, ⟨#[]⟩, ⟨#[]⟩, 0⟩
    else if isN d (trim5 d.esc text) then ⟨1, ⟨#[]⟩, sec, ⟨#[]⟩, ⟨#[]⟩, 0⟩
    else if opensH (trim5 d.esc text) then (if (headI d (innerH (trim5 d.esc text))).2 then ⟨2, ⟨#[]⟩, (headI d (innerH (trim5 d.esc text))).1, ⟨#[]⟩, ⟨#[]⟩, 0⟩ else ⟨4, ⟨#[]⟩, sec, ⟨#[]⟩, ⟨#[]⟩, 0⟩)
    else if (pairI d (trim5 d.esc text)).2.2 then ⟨3, ⟨#[]⟩, sec, (pairI d (trim5 d.esc text)).1, (pairI d (trim5 d.esc text)).2.1, 0⟩ else ⟨4, ⟨#[]⟩, sec, ⟨#[]⟩, ⟨#[]⟩, 0⟩) := rfl
  clear ht hti htt hse
  generalize recI d sec text = r at *
  generalize headI d (innerH (trim5 d.esc text)) = hd at *
  generalize innerH (trim5 d.esc text) = hi at *
  generalize opensH (trim5 d.esc text) = oh at *
  generalize pairI d (trim5 d.esc text) = pr at *
  generalize isN d (trim5 d.esc text) = nn at *
  generalize trim5 d.esc text = t at *
  obtain ⟨h1, h2⟩ := hd
  obtain ⟨q1, q2, q3⟩ := pr
  have hX1 := hX.over ((Below.refl w.heap.size w).alloc (Nat.le_refl _) (.cells #[.int .i64 0, .string ⟨#[]⟩, .string ⟨#[]⟩, .string ⟨#[]⟩, .string ⟨#[]⟩, .int .i64 0] 35))
  have H : Hid (HeldI w ((w.alloc (.cells #[.int .i64 0, .string ⟨#[]⟩, .string ⟨#[]⟩, .string ⟨#[]⟩, .string ⟨#[]⟩, .int .i64 0] 35)).alloc (.cells #[.string d.notes, .string d.seps, .bool d.inl, .bool d.quo, .bool d.esc, .int .i64 d.join] 25)) b d lv k sec) := by
    refine ⟨hX1.over ((Below.refl _ _).alloc (Nat.le_refl _) _), ?_, ?_, ((Below.refl w.heap.size w).alloc (Nat.le_refl _) _).alloc (by simp) _, by simp⟩
    · have := dialAt_new (w.alloc (.cells #[.int .i64 0, .string ⟨#[]⟩, .string ⟨#[]⟩, .string ⟨#[]⟩, .string ⟨#[]⟩, .int .i64 0] 35)) d
      rw [World.size_alloc] at this
      exact this
    · unfold RecAt
      rw [Below.heap_alloc _ _ _ (by simp)]
      exact heap_alloc_new _ _
  clear hX
  obtain ⟨d0, d1, d2, d3, d4, d5⟩ := d
  unfold dialectV at *
  simp only at K0 K1 K2 K3 K4 HV hX1 H
  obtain ⟨p0, p1, p2, p3, p4, p5, p6, p7, p8⟩ := hX1.cells
  simp only at p0 p1 p2 p3 p4 p5 p6 p7 p8
  have HX1 := Lib.hid hX1
  clear hX1
  go_enter Tryz.func84, Tryz.ntmps84
  go_wp2_with fail
  clear p0 p1 p2 p3 p4 p5 p6 p7 p8 HX1
  generalize (w.alloc (.cells #[.int .i64 0, .string ⟨#[]⟩, .string ⟨#[]⟩, .string ⟨#[]⟩, .string ⟨#[]⟩, .int .i64 0] 35)).alloc (.cells #[.string d0, .string d1, .bool d2, .bool d3, .bool d4, .int .i64 d5] 25) = W at *
  refine (K0.out _).mono ?_
  rintro e W1 ⟨rfl, hb⟩
  replace H := Lib.hid (H.out.over hb)
  clear hb
  obtain ⟨p0, p1, p2, p3, p4, p5, p6, p7, p8⟩ := H.out.pa.cells
  obtain ⟨c0, c1, c2, c3, c4, c5⟩ := H.out.da.cells
  obtain ⟨r0, r1, r2, r3, r4, r5⟩ := H.out.ra.cells
  simp only [noRec] at p0 p1 p2 p3 p4 p5 p6 p7 p8 c0 c1 c2 c3 c4 c5 r0 r1 r2 r3 r4 r5
  have f0 := H.out.ra.free 0
  have f1 := H.out.ra.free 1
  have f2 := H.out.ra.free 2
  have f3 := H.out.ra.free 3
  have f4 := H.out.ra.free 4
  have f5 := H.out.ra.free 5
  by_cases hz : t.size = 0
  · obtain ⟨e1, e2⟩ := text_none t hz
    have HR : Hid (r = ⟨0, ⟨#[]⟩, sec, ⟨#[]⟩, ⟨#[]⟩, 0⟩) := by unfold Hid; rw [HV.out, if_pos hz]
    clear HV hz
    go_wp2
    (try simp only [Exit.inBlock, Exit.then])
    refine bodyPost_ret (rec_result _ w.heap.size _ _ _ _ rfl rfl (H.out.ra.put6 _ _ _ _ _ _)) rfl ⟨?_, rec_below6 H.out.bl (Nat.le_refl _) _ _ _ _ _ _⟩
    rw [HR.out]
  · obtain ⟨e1, e2⟩ := text_some t (by omega)
    replace HV := Lib.hid (HV.out.trans (if_neg hz))
    clear hz
    go_wp2_with fail
    refine (K1.out _).mono ?_
    rintro e W2 ⟨rfl, hb⟩
    clear p0 p1 p2 p3 p4 p5 p6 p7 p8 c0 c1 c2 c3 c4 c5 r0 r1 r2 r3 r4 r5 f0 f1 f2 f3 f4 f5
    replace H := Lib.hid (H.out.over hb)
    clear hb
    obtain ⟨p0, p1, p2, p3, p4, p5, p6, p7, p8⟩ := H.out.pa.cells
    obtain ⟨c0, c1, c2, c3, c4, c5⟩ := H.out.da.cells
    obtain ⟨r0, r1, r2, r3, r4, r5⟩ := H.out.ra.cells
    simp only [noRec] at p0 p1 p2 p3 p4 p5 p6 p7 p8 c0 c1 c2 c3 c4 c5 r0 r1 r2 r3 r4 r5
    have f0 := H.out.ra.free 0
    have f1 := H.out.ra.free 1
    have f2 := H.out.ra.free 2
    have f3 := H.out.ra.free 3
    have f4 := H.out.ra.free 4
    have f5 := H.out.ra.free 5
    cases nn
    · replace HV := Lib.hid (HV.out.trans (if_neg (by simp)))
      clear K0 K1
      go_wp2_with fail
      refine (K2.out _).mono ?_
      rintro e W3 ⟨rfl, rfl⟩
      clear K2
      cases oh
      · replace HV := Lib.hid (HV.out.trans (if_neg (by simp)))
        clear K3
        go_wp2_with fail
        refine (K4.out _).mono ?_
        rintro e W4 ⟨rfl, hb⟩
        clear p0 p1 p2 p3 p4 p5 p6 p7 p8 c0 c1 c2 c3 c4 c5 r0 r1 r2 r3 r4 r5 f0 f1 f2 f3 f4 f5
        replace H := Lib.hid (H.out.over hb)
        clear hb
        clear K4
        obtain ⟨p0, p1, p2, p3, p4, p5, p6, p7, p8⟩ := H.out.pa.cells
        obtain ⟨c0, c1, c2, c3, c4, c5⟩ := H.out.da.cells
        obtain ⟨r0, r1, r2, r3, r4, r5⟩ := H.out.ra.cells
        simp only [noRec] at p0 p1 p2 p3 p4 p5 p6 p7 p8 c0 c1 c2 c3 c4 c5 r0 r1 r2 r3 r4 r5
        have f0 := H.out.ra.free 0
        have f1 := H.out.ra.free 1
        have f2 := H.out.ra.free 2
        have f3 := H.out.ra.free 3
        have f4 := H.out.ra.free 4
        have f5 := H.out.ra.free 5
        cases q3
        · have HR : Hid (r = ⟨4, ⟨#[]⟩, sec, ⟨#[]⟩, ⟨#[]⟩, 0⟩) := HV.out
          clear HV
          go_wp2
          (try simp only [Exit.inBlock, Exit.then])
          refine bodyPost_ret (rec_result _ w.heap.size _ _ _ _ rfl rfl (H.out.ra.put6 _ _ _ _ _ _)) rfl ⟨?_, rec_below6 H.out.bl (Nat.le_refl _) _ _ _ _ _ _⟩
          rw [HR.out]
        · have HR : Hid (r = ⟨3, ⟨#[]⟩, sec, q1, q2, 0⟩) := HV.out
          clear HV
          go_wp2
          (try simp only [Exit.inBlock, Exit.then])
          refine bodyPost_ret (rec_result _ w.heap.size _ _ _ _ rfl rfl (H.out.ra.put6 _ _ _ _ _ _)) rfl ⟨?_, rec_below6 H.out.bl (Nat.le_refl _) _ _ _ _ _ _⟩
          rw [HR.out]
      · replace HV := Lib.hid (HV.out.trans (if_pos rfl))
        clear K4
        go_wp2_with fail
        refine (K3.out _).mono ?_
        rintro e W4 ⟨rfl, hb⟩
        clear p0 p1 p2 p3 p4 p5 p6 p7 p8 c0 c1 c2 c3 c4 c5 r0 r1 r2 r3 r4 r5 f0 f1 f2 f3 f4 f5
        replace H := Lib.hid (H.out.over hb)
        clear hb
        clear K3
        obtain ⟨p0, p1, p2, p3, p4, p5, p6, p7, p8⟩ := H.out.pa.cells
        obtain ⟨c0, c1, c2, c3, c4, c5⟩ := H.out.da.cells
        obtain ⟨r0, r1, r2, r3, r4, r5⟩ := H.out.ra.cells
        simp only [noRec] at p0 p1 p2 p3 p4 p5 p6 p7 p8 c0 c1 c2 c3 c4 c5 r0 r1 r2 r3 r4 r5
        have f0 := H.out.ra.free 0
        have f1 := H.out.ra.free 1
        have f2 := H.out.ra.free 2
        have f3 := H.out.ra.free 3
        have f4 := H.out.ra.free 4
        have f5 := H.out.ra.free 5
        cases h2
        · have HR : Hid (r = ⟨4, ⟨#[]⟩, sec, ⟨#[]⟩, ⟨#[]⟩, 0⟩) := HV.out
          clear HV
          go_wp2
          (try simp only [Exit.inBlock, Exit.then])
          refine bodyPost_ret (rec_result _ w.heap.size _ _ _ _ rfl rfl (H.out.ra.put6 _ _ _ _ _ _)) rfl ⟨?_, rec_below6 H.out.bl (Nat.le_refl _) _ _ _ _ _ _⟩
          rw [HR.out]
        · have HR : Hid (r = ⟨2, ⟨#[]⟩, h1, ⟨#[]⟩, ⟨#[]⟩, 0⟩) := HV.out
          clear HV
          go_wp2
          (try simp only [Exit.inBlock, Exit.then])
          refine bodyPost_ret (rec_result _ w.heap.size _ _ _ _ rfl rfl (H.out.ra.put6 _ _ _ _ _ _)) rfl ⟨?_, rec_below6 H.out.bl (Nat.le_refl _) _ _ _ _ _ _⟩
          rw [HR.out]
    · have HR : Hid (r = ⟨1, ⟨#[]⟩, sec, ⟨#[]⟩, ⟨#[]⟩, 0⟩) := HV.out.trans (if_pos rfl)
      clear HV
      go_wp2
      (try simp only [Exit.inBlock, Exit.then])
      refine bodyPost_ret (rec_result _ w.heap.size _ _ _ _ rfl rfl (H.out.ra.put6 _ _ _ _ _ _)) rfl ⟨?_, rec_below6 H.out.bl (Nat.le_refl _) _ _ _ _ _ _⟩
      rw [HR.out]

end Go.Proofs.YtkhkpjnpjgnckaaGreatDoor
