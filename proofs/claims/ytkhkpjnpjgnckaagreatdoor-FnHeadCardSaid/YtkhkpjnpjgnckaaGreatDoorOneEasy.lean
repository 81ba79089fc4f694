/- What is indented: the model's contract of l05Indent. -/
import Derived.Test.YtkhkpjnpjgnckaaGreatDoorProg
import Derived.Test.YtkhkpjnpjgnckaaGreatDoorPlain
import Derived.Test.YtkhkpjnpjgnckaaGreatDoorCut
import Derived.Test.YtkhkpjnpjgnckaaGreatDoorTrim
import Derived.Test.YtkhkpjnpjgnckaaGreatDoorLines
import Derived.Test.YtkhkpjnpjgnckaaGreatDoorDialectRows
import Derived.Test.YtkhkpjnpjgnckaaGreatDoorRecRows
import Derived.Test.YtkhkpjnpjgnckaaGreatDoorRecArg
import Derived.Test.YtkhkpjnpjgnckaaGreatDoorQuotSpec
import Derived.Test.YtkhkpjnpjgnckaaGreatDoorJoinedSpec
import Derived.Test.YtkhkpjnpjgnckaaGreatDoorHeadSpec
import Derived.WalkKit
import Derived.WalkLawsBesides
import Derived.Laws.IdiomStrings
import Derived.Lib.Hide
import Derived.IntWalk
import Derived.Test.YtkhkpjnpjgnckaaGreatDoorTail
import Derived.BigQuiet
import Derived.Deep.QuietTactic
import Derived.Lib.QuietBelow
namespace Go.Proofs.YtkhkpjnpjgnckaaGreatDoor
open Go.RowKit
set_option linter.unusedVariables false

/-- begins with a blank -/
def blankS (s : ByteArray) : Bool := if h : 0 < s.size then blankB s[0] else false
/-- a line that goes on with a pair -/
def goesOn (d : DialectD) (s : ByteArray) : Bool := decide (0 < (trimT s).size) && blankS s && !noteT d (trimT s) && (bareT d s).2
/-- a value, and the lines behind: joined, and how many lines -/
def indentR (d : DialectD) : ByteArray → List Ln → Nat → ByteArray × Nat
  | v, [], n => (v, n)
  | v, x :: l, n => if goesOn d x.1 then indentR d (v ++ ⟨#[10]⟩ ++ (bareT d x.1).1) l (n + 1) else (v, n)
theorem RecAt.putValue {w : World} {b : Nat} {x : RecD} (h : RecAt w b x) (v : ByteArray) : RecAt (w.setCell ⟨b, 4, none⟩ (.string v)) b { x with value := v } := by
  unfold RecAt at *
  rw [set_cellR _ b 4 _ _ _ _ h]
  rfl
theorem DialAt.setS {w : World} {b g j : Nat} {d : DialectD} (h : DialAt w b d) (hne : g ≠ b) (v : Value) : DialAt (w.setCell ⟨g, j, none⟩ v) b d := by
  unfold DialAt at *
  rw [Below.heap_setCell _ _ _ b (fun e => hne e.symm)]
  exact h
theorem RecAt.setS {w : World} {b g j : Nat} {x : RecD} (h : RecAt w b x) (hne : g ≠ b) (v : Value) : RecAt (w.setCell ⟨g, j, none⟩ v) b x := by
  unfold RecAt at *
  rw [Below.heap_setCell _ _ _ b (fun e => hne e.symm)]
  exact h

set_option maxRecDepth 100000 in
set_option maxHeartbeats 1600000 in
theorem indent_spec (d : DialectD) (x : RecD) (w : World) (u : Value) (g o : Nat) (l : List Ln) (at_ : Nat) (hu : LinesRd w u g o l) (hl : costL l ≤ 1000000) (hat : at_ ≤ l.length) (hn : d.notes.size ≤ 1048576) (hx : x.value.size ≤ 1048576) :
    Calls Tryz.prog 115 #[recV x, u, .int .i64 (at_ : Int), dialectV d] w fun e w' => e = .returned (.tuple #[recV { x with value := (indentR d x.value (l.drop at_) 0).1 }, .int .i64 ((indentR d x.value (l.drop at_) 0).2 : Int)]) ∧ Below w.heap.size w w' := by
  obtain ⟨a, cap, rfl, ha⟩ := hu.form
  have CU := Lib.hid hu
  have HA := Lib.hid ha
  have hll : l.length ≤ 1000000 := Nat.le_trans (by unfold costL; omega) hl
  have KT := Lib.hid (fun (s : ByteArray) (w : World) (hs : s.size ≤ 1048576) => trim_spec s w (by unfold maxLen; omega))
  have KO := Lib.hid (fun (s : ByteArray) (w : World) (hs : s.size ≤ 1048576) => note_spec d (trimT s) w (Nat.le_trans (trimT_size s) (by omega)) (by omega))
  have KB := Lib.hid (fun (s : ByteArray) (w : World) (hs : s.size ≤ 1048576) => bare_spec d s w (by omega) (by omega))
  have HGO : Hid (∀ s, goesOn d s = (decide (0 < (trimT s).size) && blankS s && !noteT d (trimT s) && (bareT d s).2)) := fun s => rfl
  have HIN : Hid (∀ v y m n, indentR d v (y :: m) n = if goesOn d y.1 then indentR d (v ++ ⟨#[10]⟩ ++ (bareT d y.1).1) m (n + 1) else (v, n)) := fun v y m n => rfl
  have HI0 : Hid (∀ v n, indentR d v [] n = (v, n)) := fun v n => rfl
  have HBS := Lib.hid (fun s => bareT_size d s)
  obtain ⟨d0, d1, d2, d3, d4, d5⟩ := d
  obtain ⟨a0, a1, a2, a3, a4, a5⟩ := x
  unfold dialectV recV at *
  simp only at KB KO hn hx ⊢
  clear hu ha
  have hb0 := (((Below.refl w.heap.size w).alloc (Nat.le_refl _) (.cells #[.int .i64 a0, .string a1, .string a2, .string a3, .string a4, .int .i64 a5] 35)).alloc (by simp) (.cells #[.string d0, .string d1, .bool d2, .bool d3, .bool d4, .int .i64 d5] 25)).alloc (by simp; omega) (.cells #[.int .i64 0, .string ⟨#[]⟩, .string ⟨#[]⟩, .string ⟨#[]⟩, .string ⟨#[]⟩, .int .i64 0] 35)
  have HR0 : Hid (RecAt (((w.alloc (.cells #[.int .i64 a0, .string a1, .string a2, .string a3, .string a4, .int .i64 a5] 35)).alloc (.cells #[.string d0, .string d1, .bool d2, .bool d3, .bool d4, .int .i64 d5] 25)).alloc (.cells #[.int .i64 0, .string ⟨#[]⟩, .string ⟨#[]⟩, .string ⟨#[]⟩, .string ⟨#[]⟩, .int .i64 0] 35)) w.heap.size ⟨a0, a1, a2, a3, a4, a5⟩) := by
    unfold Hid RecAt
    rw [Below.heap_alloc _ _ _ (by simp; omega), Below.heap_alloc _ _ _ (by simp)]
    exact heap_alloc_new _ _
  have HD0 : Hid (DialAt (((w.alloc (.cells #[.int .i64 a0, .string a1, .string a2, .string a3, .string a4, .int .i64 a5] 35)).alloc (.cells #[.string d0, .string d1, .bool d2, .bool d3, .bool d4, .int .i64 d5] 25)).alloc (.cells #[.int .i64 0, .string ⟨#[]⟩, .string ⟨#[]⟩, .string ⟨#[]⟩, .string ⟨#[]⟩, .int .i64 0] 35)) (w.heap.size + 1) ⟨d0, d1, d2, d3, d4, d5⟩) := by
    unfold Hid DialAt
    rw [Below.heap_alloc _ _ _ (by simp)]
    have := heap_alloc_new (w.alloc (.cells #[.int .i64 a0, .string a1, .string a2, .string a3, .string a4, .int .i64 a5] 35)) (.cells #[.string d0, .string d1, .bool d2, .bool d3, .bool d4, .int .i64 d5] 25)
    rw [World.size_alloc] at this
    exact this
  have HZ0 : Hid (RecAt (((w.alloc (.cells #[.int .i64 a0, .string a1, .string a2, .string a3, .string a4, .int .i64 a5] 35)).alloc (.cells #[.string d0, .string d1, .bool d2, .bool d3, .bool d4, .int .i64 d5] 25)).alloc (.cells #[.int .i64 0, .string ⟨#[]⟩, .string ⟨#[]⟩, .string ⟨#[]⟩, .string ⟨#[]⟩, .int .i64 0] 35)) (w.heap.size + 2) noRec) := by
    unfold Hid RecAt
    have := heap_alloc_new ((w.alloc (.cells #[.int .i64 a0, .string a1, .string a2, .string a3, .string a4, .int .i64 a5] 35)).alloc (.cells #[.string d0, .string d1, .bool d2, .bool d3, .bool d4, .int .i64 d5] 25)) (.cells #[.int .i64 0, .string ⟨#[]⟩, .string ⟨#[]⟩, .string ⟨#[]⟩, .string ⟨#[]⟩, .int .i64 0] 35)
    rw [World.size_alloc, World.size_alloc] at this
    exact this
  have hw0 : w.heap.size + 2 < (((w.alloc (.cells #[.int .i64 a0, .string a1, .string a2, .string a3, .string a4, .int .i64 a5] 35)).alloc (.cells #[.string d0, .string d1, .bool d2, .bool d3, .bool d4, .int .i64 d5] 25)).alloc (.cells #[.int .i64 0, .string ⟨#[]⟩, .string ⟨#[]⟩, .string ⟨#[]⟩, .string ⟨#[]⟩, .int .i64 0] 35)).heap.size := by simp
  go_enter Tryz.func115, Tryz.ntmps115
  go_wp2
  generalize (((w.alloc (.cells #[.int .i64 a0, .string a1, .string a2, .string a3, .string a4, .int .i64 a5] 35)).alloc (.cells #[.string d0, .string d1, .bool d2, .bool d3, .bool d4, .int .i64 d5] 25)).alloc (.cells #[.int .i64 0, .string ⟨#[]⟩, .string ⟨#[]⟩, .string ⟨#[]⟩, .string ⟨#[]⟩, .int .i64 0] 35)) = W0 at *
  go_loopw [10] (fun nv wr => ∃ (p : Nat) (v : ByteArray), at_ ≤ p ∧ p ≤ l.length ∧ nv = .int .i64 ((p : Int) - (at_ : Int)) ∧ v.size ≤ 1048576 + costL (l.take p) ∧ Hid (indentR ⟨d0, d1, d2, d3, d4, d5⟩ a4 (l.drop at_) 0 = indentR ⟨d0, d1, d2, d3, d4, d5⟩ v (l.drop p) (p - at_)) ∧ Hid (RecAt wr w.heap.size ⟨a0, a1, a2, a3, v, a5⟩) ∧ Hid (DialAt wr (w.heap.size + 1) ⟨d0, d1, d2, d3, d4, d5⟩) ∧ Hid (RecAt wr (w.heap.size + 2) noRec) ∧ Below w.heap.size w wr ∧ w.heap.size + 2 < wr.heap.size) (fun nv _ => l.length - at_ - (intOf nv).toNat)
  case atStart => exact ⟨at_, a4, Nat.le_refl _, hat, by congr 1; omega, by omega, by unfold Hid; congr 1; omega, HR0, HD0, HZ0, hb0, hw0⟩
  case round =>
    obtain ⟨p, v, hap, hpl, rfl, hvs, hI, hR, hD, hZ, hb, hwl⟩ := hrel
    clear HR0 HD0 HZ0 hb0 hw0
    have epz : (at_ : Int) + ((p : Int) - (at_ : Int)) = (p : Int) := by omega
    by_cases hlt : p < l.length
    · have hln : l ≠ [] := by intro e; subst e; simp at hlt
      obtain rfl := HA.out hln
      have hgl := CU.out.lt hln
      have hcl := costL_at l p hlt
      have q1 := (hb.cell (p := ⟨g, o + p * 2, none⟩) hgl).trans (CU.out.c0 p hlt)
      have hss : l[p].1.size ≤ 1048576 := by omega
      have KA := Lib.hid (fun w => KT.out l[p].1 w hss)
      have htr : (⟨(trimL l[p].1.data.toList).toArray⟩ : ByteArray) = trimT l[p].1 := rfl
      rw [htr] at KA
      have KN := Lib.hid (fun w => KO.out l[p].1 w hss)
      have KE := Lib.hid (fun w => KB.out l[p].1 w hss)
      have hgo := HGO.out l[p].1
      have hts := trimT_size l[p].1
      have hbs := HBS.out l[p].1
      have hcs := costL_take_succ l p hlt
      have hIN := Lib.hid (HIN.out v l[p] (l.drop (p + 1)) (p - at_))
      have hdr := Lib.hid (List.drop_eq_getElem_cons hlt)
      generalize hsx : l[p].1 = sx at *
      generalize trimT sx = tt at *
      generalize noteT ⟨d0, d1, d2, d3, d4, d5⟩ tt = nn at *
      generalize hbx : bareT ⟨d0, d1, d2, d3, d4, d5⟩ sx = bx at *
      obtain ⟨bv, bok⟩ := bx
      simp only at KE hbs
      have hpz : (p : Int) < (l.length : Int) := by omega
      clear htr hsx hbx
      go_wp2_with fail
      refine (KA.out _).mono ?_
      rintro e w2 ⟨rfl, rfl⟩
      clear KA
      by_cases ht0 : tt.size = 0
      · obtain ⟨y1, y2⟩ := text_none tt ht0
        have hgo2 : goesOn ⟨d0, d1, d2, d3, d4, d5⟩ sx = false := by rw [hgo, show decide (0 < tt.size) = false by simp [ht0]]; rfl
        have HF : Hid (indentR ⟨d0, d1, d2, d3, d4, d5⟩ a4 (l.drop at_) 0 = (v, p - at_)) := by unfold Hid; rw [hI.out, hdr.out, hIN.out, if_neg (by rw [hgo2]; decide)]
        clear hgo hgo2 hI hIN hdr KN KE hD ht0
        obtain ⟨r0, r1, r2, r3, r4, r5⟩ := hR.out.cells
        simp only at r0 r1 r2 r3 r4 r5
        obtain ⟨z0, z1, z2, z3, z4, z5⟩ := hZ.out.cells
        simp only [noRec] at z0 z1 z2 z3 z4 z5
        have f0 := hZ.out.free 0
        have f1 := hZ.out.free 1
        have f2 := hZ.out.free 2
        have f3 := hZ.out.free 3
        have f4 := hZ.out.free 4
        have f5 := hZ.out.free 5
        have HP : Hid (((((((wr.setCell ⟨w.heap.size + 2, 0, none⟩ (.int .i64 a0)).setCell ⟨w.heap.size + 2, 1, none⟩ (.string a1)).setCell ⟨w.heap.size + 2, 2, none⟩ (.string a2)).setCell ⟨w.heap.size + 2, 3, none⟩ (.string a3)).setCell ⟨w.heap.size + 2, 4, none⟩ (.string v)).setCell ⟨w.heap.size + 2, 5, none⟩ (.int .i64 a5)).heap[w.heap.size + 2]? = some (.cells #[.int .i64 a0, .string a1, .string a2, .string a3, .string v, .int .i64 a5] 35 (0, 0))) := hZ.out.put ⟨a0, a1, a2, a3, v, a5⟩
        have HBZ := Lib.hid ((((((hb.setCell (p := ⟨w.heap.size + 2, 0, none⟩) (by simp) (.int .i64 a0)).setCell (p := ⟨w.heap.size + 2, 1, none⟩) (by simp) (.string a1)).setCell (p := ⟨w.heap.size + 2, 2, none⟩) (by simp) (.string a2)).setCell (p := ⟨w.heap.size + 2, 3, none⟩) (by simp) (.string a3)).setCell (p := ⟨w.heap.size + 2, 4, none⟩) (by simp) (.string v)).setCell (p := ⟨w.heap.size + 2, 5, none⟩) (by simp) (.int .i64 a5))
        have hcast : Hid (((p - at_ : Nat) : Int) = (p : Int) - (at_ : Int)) := by unfold Hid; omega
        go_wp2
        (try simp only [Exit.inBlock, Exit.then])
        refine bodyPost_ret (results_cell1 rfl _ _ (w.heap.size + 2) 35 _ (0, 0) _ rfl HP.out Tryz.underlying35 rfl (by kernel_rfl)) rfl ⟨?_, HBZ.out⟩
        rw [HF.out]
        simp only
        rw [hcast.out]
        rfl
      · obtain ⟨y1, y2⟩ := text_some tt (by omega)
        have hs0 : 0 < sx.size := by omega
        have hs0i : (0 : Int) < (sx.size : Int) := by omega
        have KZ := Lib.hid (fun w => blank_any sx[0] w)
        have hb00 : blankS sx = blankB sx[0] := by unfold blankS; rw [dif_pos hs0]
        rw [hb00, show decide (0 < tt.size) = true by simp; omega] at hgo
        generalize blankB sx[0] = b0 at *
        clear hb00 ht0
        cases b0
        · have hgo2 : goesOn ⟨d0, d1, d2, d3, d4, d5⟩ sx = false := by rw [hgo]; rfl
          have HF : Hid (indentR ⟨d0, d1, d2, d3, d4, d5⟩ a4 (l.drop at_) 0 = (v, p - at_)) := by unfold Hid; rw [hI.out, hdr.out, hIN.out, if_neg (by rw [hgo2]; decide)]
          clear hgo hgo2 hI hIN hdr KN KE hD
          go_wp2_with fail
          refine (KZ.out _).mono ?_
          rintro e w3 ⟨rfl, rfl⟩
          clear KZ
          obtain ⟨r0, r1, r2, r3, r4, r5⟩ := hR.out.cells
          simp only at r0 r1 r2 r3 r4 r5
          obtain ⟨z0, z1, z2, z3, z4, z5⟩ := hZ.out.cells
          simp only [noRec] at z0 z1 z2 z3 z4 z5
          have f0 := hZ.out.free 0
          have f1 := hZ.out.free 1
          have f2 := hZ.out.free 2
          have f3 := hZ.out.free 3
          have f4 := hZ.out.free 4
          have f5 := hZ.out.free 5
          have HP : Hid (((((((wr.setCell ⟨w.heap.size + 2, 0, none⟩ (.int .i64 a0)).setCell ⟨w.heap.size + 2, 1, none⟩ (.string a1)).setCell ⟨w.heap.size + 2, 2, none⟩ (.string a2)).setCell ⟨w.heap.size + 2, 3, none⟩ (.string a3)).setCell ⟨w.heap.size + 2, 4, none⟩ (.string v)).setCell ⟨w.heap.size + 2, 5, none⟩ (.int .i64 a5)).heap[w.heap.size + 2]? = some (.cells #[.int .i64 a0, .string a1, .string a2, .string a3, .string v, .int .i64 a5] 35 (0, 0))) := hZ.out.put ⟨a0, a1, a2, a3, v, a5⟩
          have HBZ := Lib.hid ((((((hb.setCell (p := ⟨w.heap.size + 2, 0, none⟩) (by simp) (.int .i64 a0)).setCell (p := ⟨w.heap.size + 2, 1, none⟩) (by simp) (.string a1)).setCell (p := ⟨w.heap.size + 2, 2, none⟩) (by simp) (.string a2)).setCell (p := ⟨w.heap.size + 2, 3, none⟩) (by simp) (.string a3)).setCell (p := ⟨w.heap.size + 2, 4, none⟩) (by simp) (.string v)).setCell (p := ⟨w.heap.size + 2, 5, none⟩) (by simp) (.int .i64 a5))
          have hcast : Hid (((p - at_ : Nat) : Int) = (p : Int) - (at_ : Int)) := by unfold Hid; omega
          go_wp2
          (try simp only [Exit.inBlock, Exit.then])
          refine bodyPost_ret (results_cell1 rfl _ _ (w.heap.size + 2) 35 _ (0, 0) _ rfl HP.out Tryz.underlying35 rfl (by kernel_rfl)) rfl ⟨?_, HBZ.out⟩
          rw [HF.out]
          simp only
          rw [hcast.out]
          rfl
        · go_wp2_with fail
          refine (KZ.out _).mono ?_
          rintro e w3 ⟨rfl, rfl⟩
          clear KZ
          obtain ⟨c0, c1, c2, c3, c4, c5⟩ := hD.out.cells
          simp only at c0 c1 c2 c3 c4 c5
          go_wp2_with fail
          refine (KN.out _).mono ?_
          rintro e w4 ⟨rfl, hb4⟩
          have hb5 := hb.trans (hb4.mono hb.size)
          have hR4 := Lib.hid (hR.out.over hb4 (by omega))
          have hD4 := Lib.hid (hD.out.over hb4 (by omega))
          have hZ4 := Lib.hid (hZ.out.over hb4 (by omega))
          have hwl4 := Nat.lt_of_lt_of_le hwl hb4.size
          clear KN c0 c1 c2 c3 c4 c5 hR hD hZ hb hb4 q1 hwl
          cases nn
          · obtain ⟨c0, c1, c2, c3, c4, c5⟩ := hD4.out.cells
            simp only at c0 c1 c2 c3 c4 c5
            go_wp2_with fail
            refine (KE.out _).mono ?_
            rintro e w5 ⟨rfl, hb6⟩
            have hb7 := hb5.trans (hb6.mono hb5.size)
            have hR5 := Lib.hid (hR4.out.over hb6 (by omega))
            have hD5 := Lib.hid (hD4.out.over hb6 (by omega))
            have hZ5 := Lib.hid (hZ4.out.over hb6 (by omega))
            have hwl5 := Nat.lt_of_lt_of_le hwl4 hb6.size
            clear KE c0 c1 c2 c3 c4 c5 hR4 hD4 hZ4 hb5 hb6 hwl4
            cases bok
            · have hgo2 : goesOn ⟨d0, d1, d2, d3, d4, d5⟩ sx = false := by rw [hgo]; rfl
              have HF : Hid (indentR ⟨d0, d1, d2, d3, d4, d5⟩ a4 (l.drop at_) 0 = (v, p - at_)) := by unfold Hid; rw [hI.out, hdr.out, hIN.out, if_neg (by rw [hgo2]; decide)]
              clear hgo hgo2 hI hIN hdr hD5
              obtain ⟨r0, r1, r2, r3, r4, r5⟩ := hR5.out.cells
              simp only at r0 r1 r2 r3 r4 r5
              obtain ⟨z0, z1, z2, z3, z4, z5⟩ := hZ5.out.cells
              simp only [noRec] at z0 z1 z2 z3 z4 z5
              have f0 := hZ5.out.free 0
              have f1 := hZ5.out.free 1
              have f2 := hZ5.out.free 2
              have f3 := hZ5.out.free 3
              have f4 := hZ5.out.free 4
              have f5 := hZ5.out.free 5
              have HP : Hid (((((((w5.setCell ⟨w.heap.size + 2, 0, none⟩ (.int .i64 a0)).setCell ⟨w.heap.size + 2, 1, none⟩ (.string a1)).setCell ⟨w.heap.size + 2, 2, none⟩ (.string a2)).setCell ⟨w.heap.size + 2, 3, none⟩ (.string a3)).setCell ⟨w.heap.size + 2, 4, none⟩ (.string v)).setCell ⟨w.heap.size + 2, 5, none⟩ (.int .i64 a5)).heap[w.heap.size + 2]? = some (.cells #[.int .i64 a0, .string a1, .string a2, .string a3, .string v, .int .i64 a5] 35 (0, 0))) := hZ5.out.put ⟨a0, a1, a2, a3, v, a5⟩
              have HBZ := Lib.hid ((((((hb7.setCell (p := ⟨w.heap.size + 2, 0, none⟩) (by simp) (.int .i64 a0)).setCell (p := ⟨w.heap.size + 2, 1, none⟩) (by simp) (.string a1)).setCell (p := ⟨w.heap.size + 2, 2, none⟩) (by simp) (.string a2)).setCell (p := ⟨w.heap.size + 2, 3, none⟩) (by simp) (.string a3)).setCell (p := ⟨w.heap.size + 2, 4, none⟩) (by simp) (.string v)).setCell (p := ⟨w.heap.size + 2, 5, none⟩) (by simp) (.int .i64 a5))
              have hcast : Hid (((p - at_ : Nat) : Int) = (p : Int) - (at_ : Int)) := by unfold Hid; omega
              go_wp2
              (try simp only [Exit.inBlock, Exit.then])
              refine bodyPost_ret (results_cell1 rfl _ _ (w.heap.size + 2) 35 _ (0, 0) _ rfl HP.out Tryz.underlying35 rfl (by kernel_rfl)) rfl ⟨?_, HBZ.out⟩
              rw [HF.out]
              simp only
              rw [hcast.out]
              rfl
            · have hgo2 : goesOn ⟨d0, d1, d2, d3, d4, d5⟩ sx = true := by rw [hgo]; rfl
              have hI2 : Hid (indentR ⟨d0, d1, d2, d3, d4, d5⟩ a4 (l.drop at_) 0 = indentR ⟨d0, d1, d2, d3, d4, d5⟩ (v ++ ⟨#[10]⟩ ++ bv) (l.drop (p + 1)) (p + 1 - at_)) := by
                unfold Hid
                rw [hI.out, hdr.out, hIN.out, if_pos hgo2]
                congr 1
                omega
              have hsv : (v ++ ⟨#[10]⟩ ++ bv).size ≤ 1048576 + costL (l.take (p + 1)) := by
                rw [ByteArray.size_append, ByteArray.size_append, show (⟨#[10]⟩ : ByteArray).size = 1 from rfl]
                omega
              have hct := costL_take l (p + 1) (by omega)
              have hv1 : (v ++ ⟨#[10]⟩).size ≤ 3000000 := by
                rw [ByteArray.size_append, show (⟨#[10]⟩ : ByteArray).size = 1 from rfl]
                omega
              have hv2 : (v ++ ⟨#[10]⟩ ++ bv).size ≤ 3000000 := by omega
              obtain ⟨r0, r1, r2, r3, r4, r5⟩ := hR5.out.cells
              simp only at r0 r1 r2 r3 r4 r5
              have f4 := hR5.out.free 4
              have hR6 := Lib.hid (hR5.out.putValue (v ++ ⟨#[10]⟩ ++ bv))
              have hD6 := Lib.hid (hD5.out.setS (g := w.heap.size) (j := 4) (by omega) (.string (v ++ ⟨#[10]⟩ ++ bv)))
              have hZ6 := Lib.hid (hZ5.out.setS (g := w.heap.size) (j := 4) (by omega) (.string (v ++ ⟨#[10]⟩ ++ bv)))
              have hb8 := hb7.setCell (p := ⟨w.heap.size, 4, none⟩) (Nat.le_refl _) (.string (v ++ ⟨#[10]⟩ ++ bv))
              have hwl6 : w.heap.size + 2 < (w5.setCell ⟨w.heap.size, 4, none⟩ (.string (v ++ ⟨#[10]⟩ ++ bv))).heap.size := by simpa only [World.size_setCell] using hwl5
              clear hgo hgo2 hI hIN hdr hD5 hR5 hZ5 hb7
              go_wp2
              go_roundw
              case rel => exact ⟨p + 1, v ++ ⟨#[10]⟩ ++ bv, by omega, by omega, by go_num, hsv, hI2, hR6, hD6, hZ6, hb8, hwl6⟩
              case measure => simp [intOf]; omega
          · have hgo2 : goesOn ⟨d0, d1, d2, d3, d4, d5⟩ sx = false := by rw [hgo]; rfl
            have HF : Hid (indentR ⟨d0, d1, d2, d3, d4, d5⟩ a4 (l.drop at_) 0 = (v, p - at_)) := by unfold Hid; rw [hI.out, hdr.out, hIN.out, if_neg (by rw [hgo2]; decide)]
            clear hgo hgo2 hI hIN hdr hD4 KE
            obtain ⟨r0, r1, r2, r3, r4, r5⟩ := hR4.out.cells
            simp only at r0 r1 r2 r3 r4 r5
            obtain ⟨z0, z1, z2, z3, z4, z5⟩ := hZ4.out.cells
            simp only [noRec] at z0 z1 z2 z3 z4 z5
            have f0 := hZ4.out.free 0
            have f1 := hZ4.out.free 1
            have f2 := hZ4.out.free 2
            have f3 := hZ4.out.free 3
            have f4 := hZ4.out.free 4
            have f5 := hZ4.out.free 5
            have HP : Hid (((((((w4.setCell ⟨w.heap.size + 2, 0, none⟩ (.int .i64 a0)).setCell ⟨w.heap.size + 2, 1, none⟩ (.string a1)).setCell ⟨w.heap.size + 2, 2, none⟩ (.string a2)).setCell ⟨w.heap.size + 2, 3, none⟩ (.string a3)).setCell ⟨w.heap.size + 2, 4, none⟩ (.string v)).setCell ⟨w.heap.size + 2, 5, none⟩ (.int .i64 a5)).heap[w.heap.size + 2]? = some (.cells #[.int .i64 a0, .string a1, .string a2, .string a3, .string v, .int .i64 a5] 35 (0, 0))) := hZ4.out.put ⟨a0, a1, a2, a3, v, a5⟩
            have HBZ := Lib.hid ((((((hb5.setCell (p := ⟨w.heap.size + 2, 0, none⟩) (by simp) (.int .i64 a0)).setCell (p := ⟨w.heap.size + 2, 1, none⟩) (by simp) (.string a1)).setCell (p := ⟨w.heap.size + 2, 2, none⟩) (by simp) (.string a2)).setCell (p := ⟨w.heap.size + 2, 3, none⟩) (by simp) (.string a3)).setCell (p := ⟨w.heap.size + 2, 4, none⟩) (by simp) (.string v)).setCell (p := ⟨w.heap.size + 2, 5, none⟩) (by simp) (.int .i64 a5))
            have hcast : Hid (((p - at_ : Nat) : Int) = (p : Int) - (at_ : Int)) := by unfold Hid; omega
            go_wp2
            (try simp only [Exit.inBlock, Exit.then])
            refine bodyPost_ret (results_cell1 rfl _ _ (w.heap.size + 2) 35 _ (0, 0) _ rfl HP.out Tryz.underlying35 rfl (by kernel_rfl)) rfl ⟨?_, HBZ.out⟩
            rw [HF.out]
            simp only
            rw [hcast.out]
            rfl
    · obtain rfl : p = l.length := by omega
      have HF : Hid (indentR ⟨d0, d1, d2, d3, d4, d5⟩ a4 (l.drop at_) 0 = (v, l.length - at_)) := by unfold Hid; rw [hI.out, List.drop_length, HI0.out]
      clear hI hD
      obtain ⟨r0, r1, r2, r3, r4, r5⟩ := hR.out.cells
      simp only at r0 r1 r2 r3 r4 r5
      obtain ⟨z0, z1, z2, z3, z4, z5⟩ := hZ.out.cells
      simp only [noRec] at z0 z1 z2 z3 z4 z5
      have f0 := hZ.out.free 0
      have f1 := hZ.out.free 1
      have f2 := hZ.out.free 2
      have f3 := hZ.out.free 3
      have f4 := hZ.out.free 4
      have f5 := hZ.out.free 5
      have HP : Hid (((((((wr.setCell ⟨w.heap.size + 2, 0, none⟩ (.int .i64 a0)).setCell ⟨w.heap.size + 2, 1, none⟩ (.string a1)).setCell ⟨w.heap.size + 2, 2, none⟩ (.string a2)).setCell ⟨w.heap.size + 2, 3, none⟩ (.string a3)).setCell ⟨w.heap.size + 2, 4, none⟩ (.string v)).setCell ⟨w.heap.size + 2, 5, none⟩ (.int .i64 a5)).heap[w.heap.size + 2]? = some (.cells #[.int .i64 a0, .string a1, .string a2, .string a3, .string v, .int .i64 a5] 35 (0, 0))) := hZ.out.put ⟨a0, a1, a2, a3, v, a5⟩
      have HBZ := Lib.hid ((((((hb.setCell (p := ⟨w.heap.size + 2, 0, none⟩) (by simp) (.int .i64 a0)).setCell (p := ⟨w.heap.size + 2, 1, none⟩) (by simp) (.string a1)).setCell (p := ⟨w.heap.size + 2, 2, none⟩) (by simp) (.string a2)).setCell (p := ⟨w.heap.size + 2, 3, none⟩) (by simp) (.string a3)).setCell (p := ⟨w.heap.size + 2, 4, none⟩) (by simp) (.string v)).setCell (p := ⟨w.heap.size + 2, 5, none⟩) (by simp) (.int .i64 a5))
      have hcast : Hid (((l.length - at_ : Nat) : Int) = (l.length : Int) - (at_ : Int)) := by unfold Hid; omega
      go_wp2
      (try simp only [Exit.inBlock, Exit.then])
      refine bodyPost_ret (results_cell1 rfl _ _ (w.heap.size + 2) 35 _ (0, 0) _ rfl HP.out Tryz.underlying35 rfl (by kernel_rfl)) rfl ⟨?_, HBZ.out⟩
      rw [HF.out]
      simp only
      rw [hcast.out]
      rfl

end Go.Proofs.YtkhkpjnpjgnckaaGreatDoor

/- One record, and a file of them, as lists: what l05One, l05Add and ParseIni of the model come to. -/
namespace Go.Proofs.YtkhkpjnpjgnckaaGreatDoor
open Go.RowKit
set_option linter.unusedVariables false

theorem costL_cons (x : Ln) (l : List Ln) : costL (x :: l) = 1 + x.1.size + x.2.size + costL l := by
  simp only [costL, List.length_cons, List.map_cons, List.sum_cons]
  omega
theorem joinR_bound (l : List Ln) : ∀ (t e : ByteArray) (n : Nat), (joinR t e l n).1.size ≤ t.size + costL l ∧ n ≤ (joinR t e l n).2 ∧ (joinR t e l n).2 ≤ n + l.length := by
  induction l with
  | nil =>
    intro t e n
    by_cases h : tailN t % 2 = 1 ∧ 0 < e.size
    · rw [joinR_end n h]
      simp only [ByteArray.size_extract]
      refine ⟨by omega, Nat.le_refl _, by simp⟩
    · rw [joinR_stop [] n h]
      exact ⟨by simp only; omega, Nat.le_refl _, by simp⟩
  | cons x l ih =>
    intro t e n
    by_cases h : tailN t % 2 = 1 ∧ 0 < e.size
    · rw [joinR_on x l n h]
      obtain ⟨h1, h2, h3⟩ := ih (t.extract 0 (t.size - 1) ++ strip5 x.1) x.2 (n + 1)
      have hs := strip5_size x.1
      rw [ByteArray.size_append, ByteArray.size_extract] at h1
      rw [costL_cons, List.length_cons]
      refine ⟨by omega, by omega, by omega⟩
    · rw [joinR_stop (x :: l) n h]
      exact ⟨by simp only; omega, Nat.le_refl _, by simp⟩
theorem joined5_bound (d : DialectD) (x : Ln) (l : List Ln) : (joined5 d x l).1.size ≤ x.1.size + costL l ∧ 1 ≤ (joined5 d x l).2 ∧ (joined5 d x l).2 ≤ 1 + l.length := by
  unfold joined5
  split
  · exact ⟨by simp only; omega, Nat.le_refl _, by simp only; omega⟩
  · exact joinR_bound l x.1 x.2 1
theorem indentR_bound (d : DialectD) (l : List Ln) : ∀ (v : ByteArray) (n : Nat), (indentR d v l n).1.size ≤ v.size + costL l ∧ n ≤ (indentR d v l n).2 ∧ (indentR d v l n).2 ≤ n + l.length := by
  induction l with
  | nil => intro v n; exact ⟨by simp only [indentR]; omega, Nat.le_refl _, by simp [indentR]⟩
  | cons x l ih =>
    intro v n
    simp only [indentR]
    split
    · obtain ⟨h1, h2, h3⟩ := ih (v ++ ⟨#[10]⟩ ++ (bareT d x.1).1) (n + 1)
      have hs := bareT_size d x.1
      rw [ByteArray.size_append, ByteArray.size_append, show (⟨#[10]⟩ : ByteArray).size = 1 from rfl] at h1
      rw [costL_cons, List.length_cons]
      refine ⟨by omega, by omega, by omega⟩
    · rw [costL_cons, List.length_cons]
      exact ⟨by simp only; omega, Nat.le_refl _, by simp only; omega⟩

theorem takeWhile_next (p : UInt8 → Bool) : ∀ (l : List UInt8) (h : (l.takeWhile p).length < l.length), p (l[(l.takeWhile p).length]'h) = false := by
  intro l
  induction l with
  | nil => intro h; simp at h
  | cons c t ih =>
    intro h
    by_cases hc : p c = true
    · simp only [List.takeWhile_cons_of_pos hc, List.length_cons] at h ⊢
      simpa using ih (by omega)
    · simp only [List.takeWhile_cons_of_neg hc, List.length_nil] at h ⊢
      simpa using hc
theorem takeWhile_all (p : UInt8 → Bool) : ∀ (l : List UInt8), ¬ (l.takeWhile p).length < l.length → ∀ c ∈ l, p c = true := by
  intro l
  induction l with
  | nil => intro _ c hc; simp at hc
  | cons c t ih =>
    intro h x hx
    by_cases hc : p c = true
    · simp only [List.takeWhile_cons_of_pos hc, List.length_cons] at h
      rcases List.mem_cons.1 hx with rfl | hx
      · exact hc
      · exact ih (by omega) x hx
    · simp only [List.takeWhile_cons_of_neg hc, List.length_nil, List.length_cons] at h
      omega
theorem dropWhile_nil (p : UInt8 → Bool) : ∀ (l : List UInt8), (∀ c ∈ l, p c = true) → l.dropWhile p = [] := by
  intro l
  induction l with
  | nil => intro _; rfl
  | cons c t ih =>
    intro h
    rw [List.dropWhile_cons_of_pos (h c List.mem_cons_self)]
    exact ih (fun x hx => h x (List.mem_cons_of_mem _ hx))
theorem trimT_none (s : ByteArray) (h : ∀ c ∈ s.data.toList, blankB c = true) : (trimT s).size = 0 := by
  have hr : Lib.trimRightS s.data.toList [32, 9] = [] := by
    unfold Lib.trimRightS
    rw [dropWhile_nil _ _ (fun c hc => by rw [blank_set]; exact h c (List.mem_reverse.1 hc))]
    rfl
  unfold trimT trimL Lib.trimS
  rw [hr]
  rfl
/-- where there is more than blanks, the first of it -/
theorem front5_lt (s : ByteArray) (h : 0 < (trimT s).size) : ∃ h2 : front5 s < s.size, blankB s[front5 s] = false := by
  have hlt : (s.data.toList.takeWhile blankB).length < s.data.toList.length := by
    apply Classical.byContradiction
    intro hn
    have := trimT_none s (takeWhile_all blankB _ hn)
    omega
  refine ⟨by unfold front5; rw [Lib.size_eq]; exact hlt, ?_⟩
  exact takeWhile_next blankB _ hlt
theorem back5_gt (e : Bool) (s : ByteArray) (a i : Nat) (hi : blank5 e s i = false) : ∀ b, i < b → i + 1 ≤ back5 e s a b := by
  intro b
  induction b with
  | zero => intro h; omega
  | succ b ih =>
    intro h
    by_cases hb : b = i
    · subst hb
      rw [back5_no hi]
      exact Nat.le_refl _
    · simp only [back5]
      split
      · exact ih (by omega)
      · omega
theorem trim5_pos (e : Bool) (s : ByteArray) (h : 0 < (trimT s).size) : 0 < (trim5 e s).size := by
  obtain ⟨h2, h3⟩ := front5_lt s h
  have hb : blank5 e s (front5 s) = false := by
    unfold blank5
    rw [dif_pos h2, h3]
    rfl
  have h4 := back5_gt e s (front5 s) (front5 s) hb s.size h2
  have h5 := back5_le e s (front5 s) s.size
  unfold trim5
  rw [ByteArray.size_extract]
  omega

/-- one of a kind, with nothing else -/
def kindR (k : Int) : RecD := ⟨k, ByteArray.empty, ByteArray.empty, ByteArray.empty, ByteArray.empty, 0⟩
/-- begins with a bracket -/
def bracket (t : ByteArray) : Bool := if h : 0 < t.size then t[0] == 91 else false
/-- the record of a line and those behind, how many lines it has, and the section then -/
def one5 (d : DialectD) (sec : ByteArray) (x : Ln) (l : List Ln) : RecD × Nat × ByteArray :=
  if (trimT (joined5 d x l).1).size = 0 then (kindR 0, (joined5 d x l).2, sec)
  else if noteT d (trim5 d.esc (joined5 d x l).1) = true then (kindR 1, (joined5 d x l).2, sec)
  else if bracket (trim5 d.esc (joined5 d x l).1) = true then
    (if (head5 d (trim5 d.esc (joined5 d x l).1)).2 = true then (kindR 2, (joined5 d x l).2, (head5 d (trim5 d.esc (joined5 d x l).1)).1) else (kindR 4, (joined5 d x l).2, sec))
  else if (pair5 d (trim5 d.esc (joined5 d x l).1)).2.2 = true then
    (if d.join = 2 ∧ (pair5 d (trim5 d.esc (joined5 d x l).1)).2.1 = false then
      ({ (pair5 d (trim5 d.esc (joined5 d x l).1)).1 with value := (indentR d (pair5 d (trim5 d.esc (joined5 d x l).1)).1.value (l.drop ((joined5 d x l).2 - 1)) 0).1 }, (joined5 d x l).2 + (indentR d (pair5 d (trim5 d.esc (joined5 d x l).1)).1.value (l.drop ((joined5 d x l).2 - 1)) 0).2, sec)
    else ((pair5 d (trim5 d.esc (joined5 d x l).1)).1, (joined5 d x l).2, sec))
  else (kindR 4, (joined5 d x l).2, sec)
theorem one5_bound (d : DialectD) (sec : ByteArray) (x : Ln) (l : List Ln) : 1 ≤ (one5 d sec x l).2.1 ∧ (one5 d sec x l).2.1 ≤ 1 + l.length := by
  obtain ⟨_, h1, h2⟩ := joined5_bound d x l
  unfold one5
  split
  · exact ⟨h1, h2⟩
  · split
    · exact ⟨h1, h2⟩
    · split
      · split <;> exact ⟨h1, h2⟩
      · split
        · split
          · obtain ⟨_, h4, h5⟩ := indentR_bound d (l.drop ((joined5 d x l).2 - 1)) (pair5 d (trim5 d.esc (joined5 d x l).1)).1.value 0
            rw [List.length_drop] at h5
            exact ⟨by simp only; omega, by simp only; omega⟩
          · exact ⟨h1, h2⟩
        · exact ⟨h1, h2⟩

end Go.Proofs.YtkhkpjnpjgnckaaGreatDoor

/- One record of a file that is a head or none: the model's contract of l05One. -/
namespace Go.Proofs.YtkhkpjnpjgnckaaGreatDoor
open Go.RowKit Go.Sort
set_option linter.unusedVariables false

theorem LinesRd.over {w w' : World} {v : Value} {g o : Nat} {l : List Ln} (h : LinesRd w v g o l) (hb : Below w.heap.size w w') : LinesRd w' v g o l := h.below hb (fun hl => h.lt hl)
theorem grown_then {w w1 w2 : World} {b : Nat} (h : w.grownBy w1 (some b)) (h2 : Below w.heap.size w1 w2) : w.grownBy w2 (some b) :=
  ⟨h2.os.trans h.os, h2.tape.trans h.tape, h2.output.trans h.output, Nat.le_trans h.size h2.size, fun k hk hne => (h2.block k hk).trans (h.block k hk hne)⟩
/-- a file as it is read, in block b -/
def ReadAt (w : World) (b : Nat) (lv : Value) (k : Nat) (sec : ByteArray) (ov : Value) : Prop := w.heap[b]? = some (.cells #[lv, .int .i64 (k : Int), .string sec, ov] 81 (0, 0))
theorem ReadAt.over {w w' : World} {b B : Nat} {lv : Value} {k : Nat} {sec : ByteArray} {ov : Value} (h : ReadAt w b lv k sec ov) (hb : Below B w w') (hB : b < B) : ReadAt w' b lv k sec ov := by
  unfold ReadAt at *
  rw [hb.block b hB]
  exact h
theorem ReadAt.lt {w : World} {b : Nat} {lv : Value} {k : Nat} {sec : ByteArray} {ov : Value} (h : ReadAt w b lv k sec ov) : b < w.heap.size := (Array.getElem?_eq_some_iff.1 h).1
theorem ReadAt.cells {w : World} {b : Nat} {lv : Value} {k : Nat} {sec : ByteArray} {ov : Value} (h : ReadAt w b lv k sec ov) : w.cell? ⟨b, 0, none⟩ = some lv ∧ w.cell? ⟨b, 1, none⟩ = some (.int .i64 (k : Int)) ∧ w.cell? ⟨b, 2, none⟩ = some (.string sec) ∧ w.cell? ⟨b, 3, none⟩ = some ov := by
  unfold ReadAt at h
  refine ⟨?_, ?_, ?_, ?_⟩ <;> (rw [Lib.cell_of_heap h]; rfl)
theorem ReadAt.free {w : World} {b : Nat} {lv : Value} {k : Nat} {sec : ByteArray} {ov : Value} (h : ReadAt w b lv k sec ov) (j : Nat) : w.frozen? ⟨b, j, none⟩ = false := by
  unfold ReadAt at h
  simp [World.frozen?, h]
theorem ReadAt.set {w : World} {b g j : Nat} {lv : Value} {k : Nat} {sec : ByteArray} {ov : Value} (h : ReadAt w b lv k sec ov) (hne : g ≠ b) (v : Value) : ReadAt (w.setCell ⟨g, j, none⟩ v) b lv k sec ov := by
  unfold ReadAt at *
  rw [Below.heap_setCell _ _ _ b (fun e => hne e.symm)]
  exact h
theorem ReadAt.putSec {w : World} {b : Nat} {lv : Value} {k : Nat} {sec : ByteArray} {ov : Value} (h : ReadAt w b lv k sec ov) (v : ByteArray) : ReadAt (w.setCell ⟨b, 2, none⟩ (.string v)) b lv k v ov := by
  unfold ReadAt at *
  rw [set_cellR _ b 2 _ _ _ _ h]
  rfl
theorem quotT_size (d : DialectD) (s : ByteArray) : (quotT d s).1.size ≤ s.size := by
  unfold quotT
  split
  · split
    · refine Nat.le_trans (unT_size _ _) ?_
      rw [ByteArray.size_extract]
      omega
    · exact Nat.zero_le _
  · exact Nat.zero_le _
theorem pair5_value (d : DialectD) (t : ByteArray) : (pair5 d t).1.value.size ≤ t.size := by
  unfold pair5
  cases h : cutT t d.seps with
  | none => exact Nat.zero_le _
  | some ab =>
    obtain ⟨a, b⟩ := ab
    have hb := (cutT_size h).2
    have h5 := trim5_size d.esc b
    simp only
    split
    · exact Nat.zero_le _
    · split
      · exact Nat.le_trans (quotT_size d _) (by omega)
      · exact Nat.le_trans (bareT_size d _) (by omega)

/-- a line that is a head, or none of what is told -/
def easy5 (d : DialectD) (t : ByteArray) : Prop := (trimT t).size ≠ 0 ∧ noteT d (trim5 d.esc t) = false ∧ (bracket (trim5 d.esc t) = true ∨ (pair5 d (trim5 d.esc t)).2.2 = false)
set_option maxRecDepth 100000 in
set_option maxHeartbeats 4800000 in
theorem one_easy (d : DialectD) (w : World) (b : Nat) (lv ov : Value) (k : Nat) (sec : ByteArray) (g o : Nat) (l : List Ln) (hX : ReadAt w b lv k sec ov) (hu : LinesRd w lv g o l) (hl : costL l ≤ 1000000) (hk : k < l.length) (hn : d.notes.size ≤ 1048576) (hse : d.seps.size ≤ 1048576) (hE : easy5 d (joined5 d l[k] (l.drop (k + 1))).1) :
    Calls Tryz.prog 79 #[.pointer (some ⟨b, 0, none⟩), dialectV d] w fun e w' => e = .returned (.tuple #[recV (one5 d sec l[k] (l.drop (k + 1))).1, .int .i64 ((one5 d sec l[k] (l.drop (k + 1))).2.1 : Int)]) ∧ ReadAt w' b lv k (one5 d sec l[k] (l.drop (k + 1))).2.2 ov ∧ w.grownBy w' (some b) := by
  have hbw := hX.lt
  obtain ⟨_, hjn1, hjn2⟩ := joined5_bound d l[k] (l.drop (k + 1))
  have hjs : (joined5 d l[k] (l.drop (k + 1))).1.size ≤ 1000000 := by
    have h1 := (joined5_bound d l[k] (l.drop (k + 1))).1
    have h2 : costL l = costL (l.take (k + 1)) + costL (l.drop (k + 1)) := by
      conv => lhs; rw [← List.take_append_drop (k + 1) l]
      simp only [costL, List.length_append, List.map_append, List.sum_append]
      omega
    have h3 := costL_take_succ l k hk
    omega
  have KJ := Lib.hid (fun (w : World) (hu : LinesRd w lv g o l) => joined_spec d w lv g o l k hu (fun h => hu.lt h) (by omega) hk (by omega))
  have hv : one5 d sec l[k] (l.drop (k + 1)) = one5 d sec l[k] (l.drop (k + 1)) := rfl
  conv at hv => rhs; unfold one5
  generalize one5 d sec l[k] (l.drop (k + 1)) = r at *
  generalize joined5 d l[k] (l.drop (k + 1)) = jj at *
  obtain ⟨tx, n⟩ := jj
  simp only at hjs hjn1 hjn2 KJ hv hE
  obtain ⟨h0, hnt, hbp⟩ := hE
  have K5 := Lib.hid (fun w => trim5_spec d tx w (by omega))
  have KT := Lib.hid (fun w => trim_spec tx w (by unfold maxLen; omega))
  have htr : (⟨(trimL tx.data.toList).toArray⟩ : ByteArray) = trimT tx := rfl
  rw [htr] at KT
  have h5s := trim5_size d.esc tx
  have h5p := trim5_pos d.esc tx
  have KN := Lib.hid (fun w => note_spec d (trim5 d.esc tx) w (by omega) (by omega))
  have KH := Lib.hid (fun (h : 1 ≤ (trim5 d.esc tx).size) w => head_spec d (trim5 d.esc tx) w (by omega) h hn)
  have KP := Lib.hid (fun w => pair_spec d (trim5 d.esc tx) w (by omega) hn hse)
  have hpv := pair5_value d (trim5 d.esc tx)
  have hdd : (l.drop (k + 1)).drop (n - 1) = l.drop (k + n) := by rw [List.drop_drop]; congr 1; omega
  rw [hdd] at hv
  generalize trimT tx = t0 at *
  generalize trim5 d.esc tx = t5 at *
  generalize noteT d t5 = nt at *
  generalize hhd : head5 d t5 = hd at *
  generalize hpd : pair5 d t5 = pd at *
  clear hhd hpd htr hdd
  have HV := Lib.hid hv
  have CU := Lib.hid hu
  have HX := Lib.hid hX
  obtain ⟨d0, d1, d2, d3, d4, d5⟩ := d
  unfold dialectV at *
  simp only at KJ K5 KN KH KP HV ⊢
  clear hv hu hX
  have hb0 := ((Below.refl w.heap.size w).alloc (Nat.le_refl _) (.cells #[.string d0, .string d1, .bool d2, .bool d3, .bool d4, .int .i64 d5] 25)).alloc (by simp) (.cells #[.int .i64 0, .string ⟨#[]⟩, .string ⟨#[]⟩, .string ⟨#[]⟩, .string ⟨#[]⟩, .int .i64 0] 35)
  have HD0 : Hid (DialAt ((w.alloc (.cells #[.string d0, .string d1, .bool d2, .bool d3, .bool d4, .int .i64 d5] 25)).alloc (.cells #[.int .i64 0, .string ⟨#[]⟩, .string ⟨#[]⟩, .string ⟨#[]⟩, .string ⟨#[]⟩, .int .i64 0] 35)) w.heap.size ⟨d0, d1, d2, d3, d4, d5⟩) := by
    unfold Hid DialAt
    rw [Below.heap_alloc _ _ _ (by simp)]
    exact heap_alloc_new _ _
  have HR0 : Hid (RecAt ((w.alloc (.cells #[.string d0, .string d1, .bool d2, .bool d3, .bool d4, .int .i64 d5] 25)).alloc (.cells #[.int .i64 0, .string ⟨#[]⟩, .string ⟨#[]⟩, .string ⟨#[]⟩, .string ⟨#[]⟩, .int .i64 0] 35)) (w.heap.size + 1) noRec) := by
    unfold Hid RecAt
    have := heap_alloc_new (w.alloc (.cells #[.string d0, .string d1, .bool d2, .bool d3, .bool d4, .int .i64 d5] 25)) (.cells #[.int .i64 0, .string ⟨#[]⟩, .string ⟨#[]⟩, .string ⟨#[]⟩, .string ⟨#[]⟩, .int .i64 0] 35)
    rw [World.size_alloc] at this
    exact this
  have hw0 : w.heap.size + 1 < ((w.alloc (.cells #[.string d0, .string d1, .bool d2, .bool d3, .bool d4, .int .i64 d5] 25)).alloc (.cells #[.int .i64 0, .string ⟨#[]⟩, .string ⟨#[]⟩, .string ⟨#[]⟩, .string ⟨#[]⟩, .int .i64 0] 35)).heap.size := by simp
  go_enter Tryz.func79, Tryz.ntmps79
  go_wp2_with fail
  generalize ((w.alloc (.cells #[.string d0, .string d1, .bool d2, .bool d3, .bool d4, .int .i64 d5] 25)).alloc (.cells #[.int .i64 0, .string ⟨#[]⟩, .string ⟨#[]⟩, .string ⟨#[]⟩, .string ⟨#[]⟩, .int .i64 0] 35)) = W0 at *
  have HX0 := Lib.hid (HX.out.over hb0 hbw)
  have hU0 := CU.out.over hb0
  have KJ2 : Hid (∀ q os, Calls Tryz.prog 110 #[lv, .int .i64 (k : Int), .agg #[.string d0, .string d1, .bool d2, .bool d3, .bool d4, .int .i64 d5]] (grow (redrawn W0 q) os) fun e w' => e = .returned (.tuple #[.string tx, .int .i64 (n : Int)]) ∧ ∃ p : Regrown, w' = grow (redrawn W0 p.d) p.os) := by
    intro q os
    exact Calls.regrown_of (KJ.out _ (hU0.over (below_regrown W0 q os)))
  obtain ⟨c0, c1, c2, c3, c4, c5⟩ := HD0.out.cells
  simp only at c0 c1 c2 c3 c4 c5
  obtain ⟨e0, e1, e2, e3⟩ := HX0.out.cells
  have x0 := cell_regrown c0
  have x1 := cell_regrown c1
  have x2 := cell_regrown c2
  have x3 := cell_regrown c3
  have x4 := cell_regrown c4
  have x5 := cell_regrown c5
  have y0 := cell_regrown e0
  have y1 := cell_regrown e1
  refine wp_region_quiet_below (by kernel_rfl) (by kernel_rfl) ?_
  repeat (go_big_quiet_step (first | with_reducible exact KJ2.out _ _))
  refine wpQuiet_nil ?_
  intro _ hw'
  obtain ⟨⟨dq, osq⟩, hw''⟩ := hw'
  subst hw''
  have hbq := below_regrown W0 dq osq
  have hb1 := hb0.trans (hbq.mono hb0.size)
  have HD1 := Lib.hid (HD0.out.over hbq (by omega))
  have HR1 := Lib.hid (HR0.out.over hbq hw0)
  have hw1 := Nat.lt_of_lt_of_le hw0 hbq.size
  clear c0 c1 c2 c3 c4 c5 e0 e1 e2 e3 x0 x1 x2 x3 x4 x5 y0 y1 KJ KJ2 hbq hb0 HD0 HR0 hw0 hU0 HX0
  generalize grow (redrawn W0 dq) osq = W1 at *
  obtain ⟨c0, c1, c2, c3, c4, c5⟩ := HD1.out.cells
  simp only at c0 c1 c2 c3 c4 c5
  go_wp2_with fail
  refine (K5.out _).mono ?_
  rintro e w2 ⟨rfl, hb2⟩
  have hb3 := hb1.trans (hb2.mono hb1.size)
  have HD2 := Lib.hid (HD1.out.over hb2 (by omega))
  have HR2 := Lib.hid (HR1.out.over hb2 hw1)
  have hw2 := Nat.lt_of_lt_of_le hw1 hb2.size
  clear c0 c1 c2 c3 c4 c5 K5 hb1 hb2 HD1 HR1 hw1
  go_wp2_with fail
  refine (KT.out _).mono ?_
  rintro e w3 ⟨rfl, rfl⟩
  clear KT
  have HX2 := Lib.hid (HX.out.over hb3 hbw)
  obtain ⟨u1, u2⟩ := text_some t0 (by omega)
  have h5 : 0 < t5.size := h5p (by omega)
  have hbo := hb3.alloc hb3.size (.cells #[.int .i64 4, .string ⟨#[]⟩, .string ⟨#[]⟩, .string ⟨#[]⟩, .string ⟨#[]⟩, .int .i64 0] 35)
  have HDo := Lib.hid (HD2.out.over ((Below.refl w2.heap.size w2).alloc (Nat.le_refl _) (.cells #[.int .i64 4, .string ⟨#[]⟩, .string ⟨#[]⟩, .string ⟨#[]⟩, .string ⟨#[]⟩, .int .i64 0] 35)) (by omega))
  have HRo := Lib.hid (HR2.out.over ((Below.refl w2.heap.size w2).alloc (Nat.le_refl _) (.cells #[.int .i64 4, .string ⟨#[]⟩, .string ⟨#[]⟩, .string ⟨#[]⟩, .string ⟨#[]⟩, .int .i64 0] 35)) (by omega))
  have HXo := Lib.hid (HX2.out.over ((Below.refl w2.heap.size w2).alloc (Nat.le_refl _) (.cells #[.int .i64 4, .string ⟨#[]⟩, .string ⟨#[]⟩, .string ⟨#[]⟩, .string ⟨#[]⟩, .int .i64 0] 35)) HX2.out.lt)
  have HOo : Hid (RecAt (w2.alloc (.cells #[.int .i64 4, .string ⟨#[]⟩, .string ⟨#[]⟩, .string ⟨#[]⟩, .string ⟨#[]⟩, .int .i64 0] 35)) w2.heap.size (kindR 4)) := heap_alloc_new _ _
  have hwo : w2.heap.size < (w2.alloc (.cells #[.int .i64 4, .string ⟨#[]⟩, .string ⟨#[]⟩, .string ⟨#[]⟩, .string ⟨#[]⟩, .int .i64 0] 35)).heap.size := by simp
  obtain ⟨c0, c1, c2, c3, c4, c5⟩ := HDo.out.cells
  simp only at c0 c1 c2 c3 c4 c5
  have HV2 : Hid (r = if bracket t5 = true then (if hd.2 = true then (kindR 2, n, hd.1) else (kindR 4, n, sec)) else (kindR 4, n, sec)) := by
    unfold Hid
    rw [HV.out, if_neg h0, if_neg (by rw [hnt]; decide)]
    by_cases hb : bracket t5 = true
    · rw [if_pos hb, if_pos hb]
    · rw [if_neg hb, if_neg hb]
      rcases hbp with h | h
      · exact absurd h hb
      · rw [if_neg (by rw [h]; decide)]
  clear HV h0 HD2 HR2 HX2
  subst hnt
  go_wp2_with fail
  refine (KN.out _).mono ?_
  rintro e w3 ⟨rfl, hb4⟩
  have hb5 := hbo.trans (hb4.mono hbo.size)
  have HD3 := Lib.hid (HDo.out.over hb4 (by omega))
  have HR3 := Lib.hid (HRo.out.over hb4 (by omega))
  have HX3 := Lib.hid (HXo.out.over hb4 HXo.out.lt)
  have HO3 := Lib.hid (HOo.out.over hb4 hwo)
  have hw3 : w2.heap.size < w3.heap.size := Nat.lt_of_lt_of_le hwo hb4.size
  clear KN c0 c1 c2 c3 c4 c5 HDo HRo HXo HOo hwo hbo hb4 hb3
  have h5i : (0 : Int) < (t5.size : Int) := by omega
  obtain ⟨c0, c1, c2, c3, c4, c5⟩ := HD3.out.cells
  simp only at c0 c1 c2 c3 c4 c5
  obtain ⟨o0, o1, o2, o3, o4, o5⟩ := HO3.out.cells
  simp only [kindR] at o0 o1 o2 o3 o4 o5
  by_cases h91 : t5[0] = 91
  · have e91 : ((t5[0].toNat : Int) == 91) = true := byte_same _ 91 h91
    have hbr : bracket t5 = true := by unfold bracket; rw [dif_pos h5]; simp [h91]
    rw [if_pos hbr] at HV2
    have KH2 := Lib.hid (KH.out (by omega))
    obtain ⟨hname, hok⟩ := hd
    simp only at KH2 HV2
    clear KH KP h91 hbr hbp
    go_wp2_with fail
    refine (KH2.out _).mono ?_
    rintro e w4 ⟨rfl, hb6⟩
    have hb7 := hb5.trans (hb6.mono hb5.size)
    have HR4 := Lib.hid (HR3.out.over hb6 (by omega))
    have HX4 := Lib.hid (HX3.out.over hb6 HX3.out.lt)
    have HO4 := Lib.hid (HO3.out.over hb6 hw3)
    clear KH2 c0 c1 c2 c3 c4 c5 o0 o1 o2 o3 o4 o5 HD3 HR3 HX3 HO3 hb5 hb6
    cases hok
    · have HF : Hid (r = (kindR 4, n, sec)) := by unfold Hid; rw [HV2.out, if_neg (by decide)]
      obtain ⟨o0, o1, o2, o3, o4, o5⟩ := HO4.out.cells
      simp only [kindR] at o0 o1 o2 o3 o4 o5
      clear HV2
      obtain ⟨z0, z1, z2, z3, z4, z5⟩ := HR4.out.cells
      simp only [noRec] at z0 z1 z2 z3 z4 z5
      have f0 := HR4.out.free 0
      have f1 := HR4.out.free 1
      have f2 := HR4.out.free 2
      have f3 := HR4.out.free 3
      have f4 := HR4.out.free 4
      have f5 := HR4.out.free 5
      have hP0 : ((((((w4.setCell ⟨w.heap.size + 1, 0, none⟩ (.int .i64 4)).setCell ⟨w.heap.size + 1, 1, none⟩ (.string ⟨#[]⟩)).setCell ⟨w.heap.size + 1, 2, none⟩ (.string ⟨#[]⟩)).setCell ⟨w.heap.size + 1, 3, none⟩ (.string ⟨#[]⟩)).setCell ⟨w.heap.size + 1, 4, none⟩ (.string ⟨#[]⟩)).setCell ⟨w.heap.size + 1, 5, none⟩ (.int .i64 0)).heap[w.heap.size + 1]? = some (.cells #[.int .i64 4, .string ⟨#[]⟩, .string ⟨#[]⟩, .string ⟨#[]⟩, .string ⟨#[]⟩, .int .i64 0] 35 (0, 0)) := HR4.out.put (kindR 4)
      have hX0 : ReadAt ((((((w4.setCell ⟨w.heap.size + 1, 0, none⟩ (.int .i64 4)).setCell ⟨w.heap.size + 1, 1, none⟩ (.string ⟨#[]⟩)).setCell ⟨w.heap.size + 1, 2, none⟩ (.string ⟨#[]⟩)).setCell ⟨w.heap.size + 1, 3, none⟩ (.string ⟨#[]⟩)).setCell ⟨w.heap.size + 1, 4, none⟩ (.string ⟨#[]⟩)).setCell ⟨w.heap.size + 1, 5, none⟩ (.int .i64 0)) b lv k sec ov := ((((((HX4.out.set (g := w.heap.size + 1) (j := 0) (by omega) (.int .i64 4)).set (g := w.heap.size + 1) (j := 1) (by omega) (.string ⟨#[]⟩)).set (g := w.heap.size + 1) (j := 2) (by omega) (.string ⟨#[]⟩)).set (g := w.heap.size + 1) (j := 3) (by omega) (.string ⟨#[]⟩)).set (g := w.heap.size + 1) (j := 4) (by omega) (.string ⟨#[]⟩)).set (g := w.heap.size + 1) (j := 5) (by omega) (.int .i64 0))
      have hB0 := ((((((hb7.setCell (p := ⟨w.heap.size + 1, 0, none⟩) (Nat.le_succ _) (.int .i64 4)).setCell (p := ⟨w.heap.size + 1, 1, none⟩) (Nat.le_succ _) (.string ⟨#[]⟩)).setCell (p := ⟨w.heap.size + 1, 2, none⟩) (Nat.le_succ _) (.string ⟨#[]⟩)).setCell (p := ⟨w.heap.size + 1, 3, none⟩) (Nat.le_succ _) (.string ⟨#[]⟩)).setCell (p := ⟨w.heap.size + 1, 4, none⟩) (Nat.le_succ _) (.string ⟨#[]⟩)).setCell (p := ⟨w.heap.size + 1, 5, none⟩) (Nat.le_succ _) (.int .i64 0))
      have hG0 : w.grownBy ((((((w4.setCell ⟨w.heap.size + 1, 0, none⟩ (.int .i64 4)).setCell ⟨w.heap.size + 1, 1, none⟩ (.string ⟨#[]⟩)).setCell ⟨w.heap.size + 1, 2, none⟩ (.string ⟨#[]⟩)).setCell ⟨w.heap.size + 1, 3, none⟩ (.string ⟨#[]⟩)).setCell ⟨w.heap.size + 1, 4, none⟩ (.string ⟨#[]⟩)).setCell ⟨w.heap.size + 1, 5, none⟩ (.int .i64 0)) (some b) := ⟨hB0.os, hB0.tape, hB0.output, hB0.size, fun j hj _ => hB0.block j hj⟩
      have HP := Lib.hid hP0
      have HXF : Hid (ReadAt ((((((w4.setCell ⟨w.heap.size + 1, 0, none⟩ (.int .i64 4)).setCell ⟨w.heap.size + 1, 1, none⟩ (.string ⟨#[]⟩)).setCell ⟨w.heap.size + 1, 2, none⟩ (.string ⟨#[]⟩)).setCell ⟨w.heap.size + 1, 3, none⟩ (.string ⟨#[]⟩)).setCell ⟨w.heap.size + 1, 4, none⟩ (.string ⟨#[]⟩)).setCell ⟨w.heap.size + 1, 5, none⟩ (.int .i64 0)) b lv k r.2.2 ov) := by unfold Hid; rw [HF.out]; exact hX0
      have HGF := Lib.hid hG0
      clear hP0 hX0 hG0 hB0
      go_wp2
      (try simp only [Exit.inBlock, Exit.then])
      refine bodyPost_ret (results_cell1 rfl _ _ (w.heap.size + 1) 35 _ (0, 0) _ rfl HP.out Tryz.underlying35 rfl (by kernel_rfl)) rfl ⟨?_, HXF.out, HGF.out⟩
      rw [HF.out]
      rfl
    · have HF : Hid (r = (kindR 2, n, hname)) := by unfold Hid; rw [HV2.out, if_pos rfl]
      obtain ⟨e0, e1, e2, e3⟩ := HX4.out.cells
      have ef := HX4.out.free 2
      clear HV2
      obtain ⟨z0, z1, z2, z3, z4, z5⟩ := HR4.out.cells
      simp only [noRec] at z0 z1 z2 z3 z4 z5
      have f0 := HR4.out.free 0
      have f1 := HR4.out.free 1
      have f2 := HR4.out.free 2
      have f3 := HR4.out.free 3
      have f4 := HR4.out.free 4
      have f5 := HR4.out.free 5
      have hP0 : (((((((w4.setCell ⟨b, 2, none⟩ (.string hname)).setCell ⟨w.heap.size + 1, 0, none⟩ (.int .i64 2)).setCell ⟨w.heap.size + 1, 1, none⟩ (.string ⟨#[]⟩)).setCell ⟨w.heap.size + 1, 2, none⟩ (.string ⟨#[]⟩)).setCell ⟨w.heap.size + 1, 3, none⟩ (.string ⟨#[]⟩)).setCell ⟨w.heap.size + 1, 4, none⟩ (.string ⟨#[]⟩)).setCell ⟨w.heap.size + 1, 5, none⟩ (.int .i64 0)).heap[w.heap.size + 1]? = some (.cells #[.int .i64 2, .string ⟨#[]⟩, .string ⟨#[]⟩, .string ⟨#[]⟩, .string ⟨#[]⟩, .int .i64 0] 35 (0, 0)) := (HR4.out.setS (g := b) (j := 2) (by omega) (.string hname)).put (kindR 2)
      have hX0 : ReadAt (((((((w4.setCell ⟨b, 2, none⟩ (.string hname)).setCell ⟨w.heap.size + 1, 0, none⟩ (.int .i64 2)).setCell ⟨w.heap.size + 1, 1, none⟩ (.string ⟨#[]⟩)).setCell ⟨w.heap.size + 1, 2, none⟩ (.string ⟨#[]⟩)).setCell ⟨w.heap.size + 1, 3, none⟩ (.string ⟨#[]⟩)).setCell ⟨w.heap.size + 1, 4, none⟩ (.string ⟨#[]⟩)).setCell ⟨w.heap.size + 1, 5, none⟩ (.int .i64 0)) b lv k hname ov := (((((((HX4.out.putSec hname).set (g := w.heap.size + 1) (j := 0) (by omega) (.int .i64 2)).set (g := w.heap.size + 1) (j := 1) (by omega) (.string ⟨#[]⟩)).set (g := w.heap.size + 1) (j := 2) (by omega) (.string ⟨#[]⟩)).set (g := w.heap.size + 1) (j := 3) (by omega) (.string ⟨#[]⟩)).set (g := w.heap.size + 1) (j := 4) (by omega) (.string ⟨#[]⟩)).set (g := w.heap.size + 1) (j := 5) (by omega) (.int .i64 0))
      have hG9 : w.grownBy (w4.setCell ⟨b, 2, none⟩ (.string hname)) (some b) := grown_step (row := some b) ⟨hb7.os, hb7.tape, hb7.output, hb7.size, fun j hj _ => hb7.block j hj⟩ (grown_set _ _ _ _)
      have hG0 : w.grownBy (((((((w4.setCell ⟨b, 2, none⟩ (.string hname)).setCell ⟨w.heap.size + 1, 0, none⟩ (.int .i64 2)).setCell ⟨w.heap.size + 1, 1, none⟩ (.string ⟨#[]⟩)).setCell ⟨w.heap.size + 1, 2, none⟩ (.string ⟨#[]⟩)).setCell ⟨w.heap.size + 1, 3, none⟩ (.string ⟨#[]⟩)).setCell ⟨w.heap.size + 1, 4, none⟩ (.string ⟨#[]⟩)).setCell ⟨w.heap.size + 1, 5, none⟩ (.int .i64 0)) (some b) := grown_then hG9 (((((((Below.refl w.heap.size _).setCell (p := ⟨w.heap.size + 1, 0, none⟩) (Nat.le_succ _) (.int .i64 2)).setCell (p := ⟨w.heap.size + 1, 1, none⟩) (Nat.le_succ _) (.string ⟨#[]⟩)).setCell (p := ⟨w.heap.size + 1, 2, none⟩) (Nat.le_succ _) (.string ⟨#[]⟩)).setCell (p := ⟨w.heap.size + 1, 3, none⟩) (Nat.le_succ _) (.string ⟨#[]⟩)).setCell (p := ⟨w.heap.size + 1, 4, none⟩) (Nat.le_succ _) (.string ⟨#[]⟩)).setCell (p := ⟨w.heap.size + 1, 5, none⟩) (Nat.le_succ _) (.int .i64 0))
      have HP := Lib.hid hP0
      have HXF : Hid (ReadAt (((((((w4.setCell ⟨b, 2, none⟩ (.string hname)).setCell ⟨w.heap.size + 1, 0, none⟩ (.int .i64 2)).setCell ⟨w.heap.size + 1, 1, none⟩ (.string ⟨#[]⟩)).setCell ⟨w.heap.size + 1, 2, none⟩ (.string ⟨#[]⟩)).setCell ⟨w.heap.size + 1, 3, none⟩ (.string ⟨#[]⟩)).setCell ⟨w.heap.size + 1, 4, none⟩ (.string ⟨#[]⟩)).setCell ⟨w.heap.size + 1, 5, none⟩ (.int .i64 0)) b lv k r.2.2 ov) := by unfold Hid; rw [HF.out]; exact hX0
      have HGF := Lib.hid hG0
      clear hP0 hX0 hG0 hG9
      go_wp2
      (try simp only [Exit.inBlock, Exit.then])
      refine bodyPost_ret (results_cell1 rfl _ _ (w.heap.size + 1) 35 _ (0, 0) _ rfl HP.out Tryz.underlying35 rfl (by kernel_rfl)) rfl ⟨?_, HXF.out, HGF.out⟩
      rw [HF.out]
      rfl
  · have e91 : ((t5[0].toNat : Int) == 91) = false := byte_differ _ 91 h91
    have hbr : ¬ bracket t5 = true := by unfold bracket; rw [dif_pos h5]; simpa using h91
    rw [if_neg hbr] at HV2
    replace hbp : pd.2.2 = false := by rcases hbp with h | h; exact absurd h hbr; exact h
    obtain ⟨⟨p0, p1, p2, p3, p4, p5⟩, pq, pok⟩ := pd
    simp only at hbp
    subst hbp
    unfold recV at KP
    simp only at KP HV2 hpv
    clear KH h91 hbr
    go_wp2_with fail
    refine (KP.out _).mono ?_
    rintro e w4 ⟨rfl, hb6⟩
    have hb7 := hb5.trans (hb6.mono hb5.size)
    have HR4 := Lib.hid (HR3.out.over hb6 (by omega))
    have HX4 := Lib.hid (HX3.out.over hb6 HX3.out.lt)
    have HO4 := Lib.hid (HO3.out.over hb6 hw3)
    have hw4 : w2.heap.size < w4.heap.size := Nat.lt_of_lt_of_le hw3 hb6.size
    clear KP c0 c1 c2 c3 c4 c5 o0 o1 o2 o3 o4 o5 HD3 HR3 HX3 HO3 hb5 hb6
    have q1 : w.heap.size + 1 < w4.heap.size := by omega
    have q2 : w.heap.size + 1 ≠ w4.heap.size := by omega
    have q3 : w4.heap.size ≠ w.heap.size + 1 := by omega
    have q4 : w2.heap.size ≠ w4.heap.size := by omega
    have q5 : w4.heap.size ≠ w2.heap.size := by omega
    have q6 : w2.heap.size ≠ w.heap.size + 1 := by omega
    have q7 : w.heap.size + 1 ≠ w2.heap.size := by omega
    have HF : Hid (r = (kindR 4, n, sec)) := HV2.out
    obtain ⟨o0, o1, o2, o3, o4, o5⟩ := HO4.out.cells
    simp only [kindR] at o0 o1 o2 o3 o4 o5
    clear HV2 hpv
    obtain ⟨z0, z1, z2, z3, z4, z5⟩ := HR4.out.cells
    simp only [noRec] at z0 z1 z2 z3 z4 z5
    have f0 := HR4.out.free 0
    have f1 := HR4.out.free 1
    have f2 := HR4.out.free 2
    have f3 := HR4.out.free 3
    have f4 := HR4.out.free 4
    have f5 := HR4.out.free 5
    have hP0 : ((((((w4.setCell ⟨w.heap.size + 1, 0, none⟩ (.int .i64 4)).setCell ⟨w.heap.size + 1, 1, none⟩ (.string ⟨#[]⟩)).setCell ⟨w.heap.size + 1, 2, none⟩ (.string ⟨#[]⟩)).setCell ⟨w.heap.size + 1, 3, none⟩ (.string ⟨#[]⟩)).setCell ⟨w.heap.size + 1, 4, none⟩ (.string ⟨#[]⟩)).setCell ⟨w.heap.size + 1, 5, none⟩ (.int .i64 0)).heap[w.heap.size + 1]? = some (.cells #[.int .i64 4, .string ⟨#[]⟩, .string ⟨#[]⟩, .string ⟨#[]⟩, .string ⟨#[]⟩, .int .i64 0] 35 (0, 0)) := HR4.out.put (kindR 4)
    have hX0 : ReadAt ((((((w4.setCell ⟨w.heap.size + 1, 0, none⟩ (.int .i64 4)).setCell ⟨w.heap.size + 1, 1, none⟩ (.string ⟨#[]⟩)).setCell ⟨w.heap.size + 1, 2, none⟩ (.string ⟨#[]⟩)).setCell ⟨w.heap.size + 1, 3, none⟩ (.string ⟨#[]⟩)).setCell ⟨w.heap.size + 1, 4, none⟩ (.string ⟨#[]⟩)).setCell ⟨w.heap.size + 1, 5, none⟩ (.int .i64 0)) b lv k sec ov := ((((((HX4.out.set (g := w.heap.size + 1) (j := 0) (by omega) (.int .i64 4)).set (g := w.heap.size + 1) (j := 1) (by omega) (.string ⟨#[]⟩)).set (g := w.heap.size + 1) (j := 2) (by omega) (.string ⟨#[]⟩)).set (g := w.heap.size + 1) (j := 3) (by omega) (.string ⟨#[]⟩)).set (g := w.heap.size + 1) (j := 4) (by omega) (.string ⟨#[]⟩)).set (g := w.heap.size + 1) (j := 5) (by omega) (.int .i64 0))
    have hB0 := ((((((hb7.setCell (p := ⟨w.heap.size + 1, 0, none⟩) (Nat.le_succ _) (.int .i64 4)).setCell (p := ⟨w.heap.size + 1, 1, none⟩) (Nat.le_succ _) (.string ⟨#[]⟩)).setCell (p := ⟨w.heap.size + 1, 2, none⟩) (Nat.le_succ _) (.string ⟨#[]⟩)).setCell (p := ⟨w.heap.size + 1, 3, none⟩) (Nat.le_succ _) (.string ⟨#[]⟩)).setCell (p := ⟨w.heap.size + 1, 4, none⟩) (Nat.le_succ _) (.string ⟨#[]⟩)).setCell (p := ⟨w.heap.size + 1, 5, none⟩) (Nat.le_succ _) (.int .i64 0))
    have hG0 : w.grownBy ((((((w4.setCell ⟨w.heap.size + 1, 0, none⟩ (.int .i64 4)).setCell ⟨w.heap.size + 1, 1, none⟩ (.string ⟨#[]⟩)).setCell ⟨w.heap.size + 1, 2, none⟩ (.string ⟨#[]⟩)).setCell ⟨w.heap.size + 1, 3, none⟩ (.string ⟨#[]⟩)).setCell ⟨w.heap.size + 1, 4, none⟩ (.string ⟨#[]⟩)).setCell ⟨w.heap.size + 1, 5, none⟩ (.int .i64 0)) (some b) := ⟨hB0.os, hB0.tape, hB0.output, hB0.size, fun j hj _ => hB0.block j hj⟩
    have hsz0 : w.heap.size + 1 < ((((((w4.setCell ⟨w.heap.size + 1, 0, none⟩ (.int .i64 4)).setCell ⟨w.heap.size + 1, 1, none⟩ (.string ⟨#[]⟩)).setCell ⟨w.heap.size + 1, 2, none⟩ (.string ⟨#[]⟩)).setCell ⟨w.heap.size + 1, 3, none⟩ (.string ⟨#[]⟩)).setCell ⟨w.heap.size + 1, 4, none⟩ (.string ⟨#[]⟩)).setCell ⟨w.heap.size + 1, 5, none⟩ (.int .i64 0)).heap.size := (Array.getElem?_eq_some_iff.1 hP0).1
    have hP1 : (((((((w4.setCell ⟨w.heap.size + 1, 0, none⟩ (.int .i64 4)).setCell ⟨w.heap.size + 1, 1, none⟩ (.string ⟨#[]⟩)).setCell ⟨w.heap.size + 1, 2, none⟩ (.string ⟨#[]⟩)).setCell ⟨w.heap.size + 1, 3, none⟩ (.string ⟨#[]⟩)).setCell ⟨w.heap.size + 1, 4, none⟩ (.string ⟨#[]⟩)).setCell ⟨w.heap.size + 1, 5, none⟩ (.int .i64 0)).alloc (.cells #[.int .i64 p0, .string p1, .string p2, .string p3, .string p4, .int .i64 p5] 35)).heap[w.heap.size + 1]? = some (.cells #[.int .i64 4, .string ⟨#[]⟩, .string ⟨#[]⟩, .string ⟨#[]⟩, .string ⟨#[]⟩, .int .i64 0] 35 (0, 0)) := (Below.heap_alloc _ _ _ hsz0).trans hP0
    have hX1 := hX0.over ((Below.refl ((((((w4.setCell ⟨w.heap.size + 1, 0, none⟩ (.int .i64 4)).setCell ⟨w.heap.size + 1, 1, none⟩ (.string ⟨#[]⟩)).setCell ⟨w.heap.size + 1, 2, none⟩ (.string ⟨#[]⟩)).setCell ⟨w.heap.size + 1, 3, none⟩ (.string ⟨#[]⟩)).setCell ⟨w.heap.size + 1, 4, none⟩ (.string ⟨#[]⟩)).setCell ⟨w.heap.size + 1, 5, none⟩ (.int .i64 0)).heap.size ((((((w4.setCell ⟨w.heap.size + 1, 0, none⟩ (.int .i64 4)).setCell ⟨w.heap.size + 1, 1, none⟩ (.string ⟨#[]⟩)).setCell ⟨w.heap.size + 1, 2, none⟩ (.string ⟨#[]⟩)).setCell ⟨w.heap.size + 1, 3, none⟩ (.string ⟨#[]⟩)).setCell ⟨w.heap.size + 1, 4, none⟩ (.string ⟨#[]⟩)).setCell ⟨w.heap.size + 1, 5, none⟩ (.int .i64 0))).alloc (Nat.le_refl _) (.cells #[.int .i64 p0, .string p1, .string p2, .string p3, .string p4, .int .i64 p5] 35)) hX0.lt
    have hG1 : w.grownBy (((((((w4.setCell ⟨w.heap.size + 1, 0, none⟩ (.int .i64 4)).setCell ⟨w.heap.size + 1, 1, none⟩ (.string ⟨#[]⟩)).setCell ⟨w.heap.size + 1, 2, none⟩ (.string ⟨#[]⟩)).setCell ⟨w.heap.size + 1, 3, none⟩ (.string ⟨#[]⟩)).setCell ⟨w.heap.size + 1, 4, none⟩ (.string ⟨#[]⟩)).setCell ⟨w.heap.size + 1, 5, none⟩ (.int .i64 0)).alloc (.cells #[.int .i64 p0, .string p1, .string p2, .string p3, .string p4, .int .i64 p5] 35)) (some b) := grown_then hG0 ((Below.refl w.heap.size _).alloc (by omega) _)
    have HP := Lib.hid hP1
    have HXF : Hid (ReadAt (((((((w4.setCell ⟨w.heap.size + 1, 0, none⟩ (.int .i64 4)).setCell ⟨w.heap.size + 1, 1, none⟩ (.string ⟨#[]⟩)).setCell ⟨w.heap.size + 1, 2, none⟩ (.string ⟨#[]⟩)).setCell ⟨w.heap.size + 1, 3, none⟩ (.string ⟨#[]⟩)).setCell ⟨w.heap.size + 1, 4, none⟩ (.string ⟨#[]⟩)).setCell ⟨w.heap.size + 1, 5, none⟩ (.int .i64 0)).alloc (.cells #[.int .i64 p0, .string p1, .string p2, .string p3, .string p4, .int .i64 p5] 35)) b lv k r.2.2 ov) := by unfold Hid; rw [HF.out]; exact hX1
    have HGF := Lib.hid hG1
    clear hP0 hX0 hG0 hP1 hX1 hG1 hB0 hsz0
    go_wp2
    (try simp only [Exit.inBlock, Exit.then])
    refine bodyPost_ret (results_cell1 rfl _ _ (w.heap.size + 1) 35 _ (0, 0) _ rfl HP.out Tryz.underlying35 rfl (by kernel_rfl)) rfl ⟨?_, HXF.out, HGF.out⟩
    rw [HF.out]
    rfl

end Go.Proofs.YtkhkpjnpjgnckaaGreatDoor
