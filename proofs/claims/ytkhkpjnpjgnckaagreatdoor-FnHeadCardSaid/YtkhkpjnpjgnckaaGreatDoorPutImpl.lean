/- Whether a line says just one thing: the model's contracts of l06Is and IniHead; ParseIni of a wrong Dialect. -/
import Derived.Test.YtkhkpjnpjgnckaaGreatDoorProg
import Derived.Test.YtkhkpjnpjgnckaaGreatDoorPlain
import Derived.Test.YtkhkpjnpjgnckaaGreatDoorLines
import Derived.Test.YtkhkpjnpjgnckaaGreatDoorSplitSpec
import Derived.Test.YtkhkpjnpjgnckaaGreatDoorRows0
import Derived.Test.YtkhkpjnpjgnckaaGreatDoorDialectRows
import Derived.Test.YtkhkpjnpjgnckaaGreatDoorRecRows
import Derived.Test.YtkhkpjnpjgnckaaGreatDoorRecArg
import Derived.Test.YtkhkpjnpjgnckaaGreatDoorRecEq
import Derived.Test.YtkhkpjnpjgnckaaGreatDoorHeadSpec
import Derived.Test.YtkhkpjnpjgnckaaGreatDoorQuotSpec
import Derived.Test.YtkhkpjnpjgnckaaGreatDoorTakeImpl
import Derived.Test.YtkhkpjnpjgnckaaGreatDoorOneEasy
import Derived.Test.YtkhkpjnpjgnckaaGreatDoorAddSpec
import Derived.WalkKit
import Derived.WalkLawsBesides
import Derived.OwnWalk
import Derived.BigQuiet
import Derived.Deep.QuietTactic
import Derived.Lib.QuietBelow
import Derived.Laws.IdiomStrings
import Derived.Lib.Hide
import Derived.IntWalk
import Derived.Outline
import Derived.Test.YtkhkpjnpjgnckaaGreatDoorDialImpl
import Derived.Deep.RegionHeld3
import Derived.Laws.EntriesVeiled
set_option maxRecDepth 100000
namespace Go.Proofs.YtkhkpjnpjgnckaaGreatDoor
open Go.RowKit Go.Sort
set_option linter.unusedVariables false

theorem RowsIs.toNew {w w' : World} {v : Value} {g : Nat} {l : List RecD} (h : RowsIs recS w' v g 0 l) (hg : w.heap.size ≤ g) (hb : Below w.heap.size w w') : NewRows recS w l (.returned v) w' := ⟨v, g, rfl, h, hg, hb⟩

set_option maxHeartbeats 1600000 in
theorem parse_bad5 (d : DialectD) (s : ByteArray) (w : World) (hok : dialOk d = false) (hs : s.size ≤ 6000) (h1 : d.notes.size ≤ 1048576) (h2 : d.seps.size ≤ 1048576) :
    Calls Tryz.prog 51 #[.string s, dialectV d] w (NewRows recS w []) := by
  have KD := Lib.hid (fun w => dialectOk_spec d w h1 h2)
  rw [hok] at KD
  have KS := Lib.hid (fun w => splitLines_spec s w (by omega))
  have HN := Lib.hid (dialAt_new w d)
  have hb0 := (Below.refl w.heap.size w).alloc (Nat.le_refl _) (.cells #[.string d.notes, .string d.seps, .bool d.inl, .bool d.quo, .bool d.esc, .int .i64 d.join] 25)
  have hw0 : w.heap.size < (w.alloc (.cells #[.string d.notes, .string d.seps, .bool d.inl, .bool d.quo, .bool d.esc, .int .i64 d.join] 25)).heap.size := by simp
  obtain ⟨d0, d1, d2, d3, d4, d5⟩ := d
  unfold dialectV at *
  simp only at KD HN hb0 hw0
  clear hok h1 h2
  go_enter Tryz.func51, Tryz.ntmps51
  go_wp2_with fail
  generalize w.alloc (.cells #[.string d0, .string d1, .bool d2, .bool d3, .bool d4, .int .i64 d5] 25) = W0 at *
  refine (KS.out _).mono ?_
  rintro e W1 ⟨lv, rfl, hown, hb1⟩
  obtain ⟨la, lc, rfl⟩ := own_form hown
  have HD1 := Lib.hid (HN.out.over hb1 hw0)
  have hB1 := hb0.trans (hb1.mono hb0.size)
  have hw1 := Nat.lt_of_lt_of_le hw0 hb1.size
  generalize (linesOf s).length = ln at *
  clear hb1 hb0 HN hw0 KS hown
  obtain ⟨c0, c1, c2, c3, c4, c5⟩ := HD1.out.cells
  simp only at c0 c1 c2 c3 c4 c5
  have hbx := ((Below.refl W1.heap.size W1).alloc (Nat.le_refl _) (.cells #[] 35)).alloc (by simp) (.cells #[.slice la ln lc, .int .i64 0, .string ⟨#[]⟩, .slice (some ⟨W1.heap.size, 0, none⟩) 0 0] 81)
  have HX : Hid (ReadAt ((W1.alloc (.cells #[] 35)).alloc (.cells #[.slice la ln lc, .int .i64 0, .string ⟨#[]⟩, .slice (some ⟨W1.heap.size, 0, none⟩) 0 0] 81)) (W1.heap.size + 1) (.slice la ln lc) 0 ⟨#[]⟩ (.slice (some ⟨W1.heap.size, 0, none⟩) 0 0)) := by
    have := heap_alloc_new (W1.alloc (.cells #[] 35)) (.cells #[.slice la ln lc, .int .i64 0, .string ⟨#[]⟩, .slice (some ⟨W1.heap.size, 0, none⟩) 0 0] 81)
    rw [World.size_alloc] at this
    exact this
  have hB2 := hB1.trans (hbx.mono (Nat.le_of_lt hw1))
  have hsx : W1.heap.size + 1 < ((W1.alloc (.cells #[] 35)).alloc (.cells #[.slice la ln lc, .int .i64 0, .string ⟨#[]⟩, .slice (some ⟨W1.heap.size, 0, none⟩) 0 0] 81)).heap.size := by simp
  go_wp2_with fail
  generalize ((W1.alloc (.cells #[] 35)).alloc (.cells #[.slice la ln lc, .int .i64 0, .string ⟨#[]⟩, .slice (some ⟨W1.heap.size, 0, none⟩) 0 0] 81)) = Wx at *
  refine (KD.out _).mono ?_
  rintro e W2 ⟨rfl, hbd⟩
  replace HX := Lib.hid (HX.out.over hbd hsx)
  replace hB2 := hB2.trans (hbd.mono hB2.size)
  replace hsx := Nat.lt_of_lt_of_le hsx hbd.size
  clear hbd KD hbx hB1 c0 c1 c2 c3 c4 c5
  obtain ⟨e0, e1, e2, e3⟩ := HX.out.cells
  go_wp2
  go_ret
  exact RowsIs.toNew (RowsIs.nil _ _ rfl) (Nat.le_refl _) hB2

set_option maxHeartbeats 1600000 in
theorem is5_spec (d : DialectD) (line : ByteArray) (x : RecD) (m : List RecD) (w : World) (hl : line.size ≤ 10000)
    (KP : ∀ w, Calls Tryz.prog 51 #[.string (line ++ ⟨#[10]⟩), dialectV d] w (NewRows recS w m)) (hm : m.length ≤ 1000) :
    Calls Tryz.prog 24 #[.string line, recV x, dialectV d] w fun e w' => e = .returned (.bool (decide (m = [⟨x.kind, line ++ ⟨#[10]⟩, x.sect, x.key, x.value, 1⟩]))) ∧ Below w.heap.size w w' := by
  have KP := Lib.hid KP
  obtain ⟨d0, d1, d2, d3, d4, d5⟩ := d
  obtain ⟨x0, x1, x2, x3, x4, x5⟩ := x
  unfold dialectV at *
  unfold recV
  simp only at KP ⊢
  generalize hq : decide (m = [(⟨x0, line ++ ⟨#[10]⟩, x2, x3, x4, 1⟩ : RecD)]) = r at *
  have HQ := Lib.hid hq
  clear hq
  have hb0 := ((Below.refl w.heap.size w).alloc (Nat.le_refl _) (.cells #[.int .i64 x0, .string x1, .string x2, .string x3, .string x4, .int .i64 x5] 35)).alloc (by simp) (.cells #[.string d0, .string d1, .bool d2, .bool d3, .bool d4, .int .i64 d5] 25)
  have HA : Hid (RecAt ((w.alloc (.cells #[.int .i64 x0, .string x1, .string x2, .string x3, .string x4, .int .i64 x5] 35)).alloc (.cells #[.string d0, .string d1, .bool d2, .bool d3, .bool d4, .int .i64 d5] 25)) w.heap.size ⟨x0, x1, x2, x3, x4, x5⟩) :=
    (recAt_new w ⟨x0, x1, x2, x3, x4, x5⟩).over ((Below.refl _ _).alloc (Nat.le_refl _) _) (by simp)
  have hs0 : w.heap.size + 1 < ((w.alloc (.cells #[.int .i64 x0, .string x1, .string x2, .string x3, .string x4, .int .i64 x5] 35)).alloc (.cells #[.string d0, .string d1, .bool d2, .bool d3, .bool d4, .int .i64 d5] 25)).heap.size := by simp
  go_enter Tryz.func24, Tryz.ntmps24
  go_wp2_with fail
  generalize ((w.alloc (.cells #[.int .i64 x0, .string x1, .string x2, .string x3, .string x4, .int .i64 x5] 35)).alloc (.cells #[.string d0, .string d1, .bool d2, .bool d3, .bool d4, .int .i64 d5] 25)) = W0 at *
  refine (KP.out _).mono ?_
  rintro e W1 ⟨v, g, rfl, hR, hg, hb1⟩
  have hA1 := HA.out.over hb1 (by omega)
  have hB1 := hb0.trans (hb1.mono hb0.size)
  obtain ⟨a, cap, rfl, ha⟩ := hR.form
  have n1 : w.heap.size ≠ g := by omega
  have n2 : g ≠ w.heap.size := by omega
  have hR1 := hR.toRowsRd.kept (w' := (W1.setCell ⟨w.heap.size, 1, none⟩ (.string (line ++ ⟨#[10]⟩))).setCell ⟨w.heap.size, 5, none⟩ (.int .i64 1)) (fun _ => (Below.heap_setCell _ _ _ g n2).trans (Below.heap_setCell _ _ _ g n2))
  have hA2 := (hA1.putRaw (line ++ ⟨#[10]⟩)).putLine 1
  have hB2 := (hB1.setCell (p := ⟨w.heap.size, 1, none⟩) (Nat.le_refl _) (.string (line ++ ⟨#[10]⟩))).setCell (p := ⟨w.heap.size, 5, none⟩) (Nat.le_refl _) (.int .i64 1)
  have f1 := hA1.free 1
  have f5 := hA1.free 5
  obtain ⟨a0, a1, a2, a3, a4, a5⟩ := hA1.cells
  simp only at a0 a1 a2 a3 a4 a5 hA2
  have HR1 := Lib.hid hR1
  have HA2 := Lib.hid hA2
  have HM := Lib.hid hm
  clear hR hA1 hB1 hb1 hb0 HA hs0 KP hR1 hA2 hm
  go_wp2_with fail
  clear a0 a1 a2 a3 a4 a5 f1 f5
  generalize (W1.setCell ⟨w.heap.size, 1, none⟩ (.string (line ++ ⟨#[10]⟩))).setCell ⟨w.heap.size, 5, none⟩ (.int .i64 1) = W2 at *
  generalize line ++ ⟨#[10]⟩ = raw at *
  by_cases h1 : m.length = 1
  · obtain ⟨y, rfl⟩ : ∃ y, m = [y] := by
      cases m with
      | nil => simp at h1
      | cons y t => cases t with
        | nil => exact ⟨y, rfl⟩
        | cons _ _ => simp at h1
    obtain rfl := ha (by simp)
    have hq : decide (y = ⟨x0, raw, x2, x3, x4, 1⟩) = r := by rw [← HQ.out]; simp
    have q0 := rec_c0 HR1.out 0 (by simp)
    have q1 := rec_c1 HR1.out 0 (by simp)
    have q2 := rec_c2 HR1.out 0 (by simp)
    have q3 := rec_c3 HR1.out 0 (by simp)
    have q4 := rec_c4 HR1.out 0 (by simp)
    have q5 := rec_c5 HR1.out 0 (by simp)
    have he := eql_rec y ⟨x0, raw, x2, x3, x4, 1⟩
    obtain ⟨y0, y1, y2, y3, y4, y5⟩ := y
    simp only [List.getElem_cons_zero, Nat.zero_mul, Nat.zero_add] at q0 q1 q2 q3 q4 q5
    simp only [recV] at he
    have hlen : (([⟨y0, y1, y2, y3, y4, y5⟩] : List RecD).length : Int) = 1 := rfl
    rw [hq] at he
    clear hq HQ
    obtain ⟨a0, a1, a2, a3, a4, a5⟩ := HA2.out.cells
    simp only at a0 a1 a2 a3 a4 a5
    have z0 := cell_regrown q0
    have z1 := cell_regrown q1
    have z2 := cell_regrown q2
    have z3 := cell_regrown q3
    have z4 := cell_regrown q4
    have z5 := cell_regrown q5
    have y0' := cell_regrown a0
    have y1' := cell_regrown a1
    have y2' := cell_regrown a2
    have y3' := cell_regrown a3
    have y4' := cell_regrown a4
    have y5' := cell_regrown a5
    refine wp_region_quiet_below (by kernel_rfl) (by kernel_rfl) ?_
    repeat (go_big_quiet_step (fail))
    refine wpQuiet_nil ?_
    intro _ hw'
    obtain ⟨⟨dq, osq⟩, hw''⟩ := hw'
    subst hw''
    have hb9 := hB2.trans ((below_regrown W2 dq osq).mono hB2.size)
    go_wp2
    go_ret
    exact ⟨rfl, hb9⟩
  · obtain rfl : r = false := by
      rw [← HQ.out, decide_eq_false_iff_not]
      intro e
      rw [e] at h1
      exact h1 rfl
    have hne : ((m.length : Int) == 1) = false := by rw [beq_eq_false_iff_ne]; omega
    clear HQ h1
    refine wp_region_quiet_below (by kernel_rfl) (by kernel_rfl) ?_
    repeat (go_big_quiet_step (fail))
    refine wpQuiet_nil ?_
    intro _ hw'
    obtain ⟨⟨dq, osq⟩, hw''⟩ := hw'
    subst hw''
    have hb9 := hB2.trans ((below_regrown W2 dq osq).mono hB2.size)
    go_wp2
    go_ret
    exact ⟨rfl, hb9⟩

/-- what a header's line is -/
def headT (s : ByteArray) : ByteArray := ⟨#[91]⟩ ++ s ++ ⟨#[93]⟩
def headW (s : ByteArray) : RecD := ⟨2, headT s ++ ⟨#[10]⟩, s, ⟨#[]⟩, ⟨#[]⟩, 1⟩
/-- what IniHead answers where a file of that line is read as m -/
def headA (s : ByteArray) (m : List RecD) : ByteArray × Bool := if m = [headW s] then (headT s, true) else (⟨#[]⟩, false)
set_option maxHeartbeats 1600000 in
theorem iniHead_spec (d : DialectD) (s : ByteArray) (m : List RecD) (w : World) (hl : s.size ≤ 5000)
    (KP : ∀ w, Calls Tryz.prog 51 #[.string (headT s ++ ⟨#[10]⟩), dialectV d] w (NewRows recS w m)) (hm : m.length ≤ 1000) :
    Calls Tryz.prog 9 #[.string s, dialectV d] w fun e w' => e = .returned (.tuple #[.string (headA s m).1, .bool (headA s m).2]) ∧ Below w.heap.size w w' := by
  have hz : (headT s).size ≤ 10000 := by unfold headT; rw [ByteArray.size_append, ByteArray.size_append]; show 1 + s.size + 1 ≤ _; omega
  have K := Lib.hid (fun w => is5_spec d (headT s) ⟨2, ⟨#[]⟩, s, ⟨#[]⟩, ⟨#[]⟩, 0⟩ m w hz KP hm)
  have hv : headA s m = if decide (m = [(⟨2, headT s ++ ⟨#[10]⟩, s, ⟨#[]⟩, ⟨#[]⟩, 1⟩ : RecD)]) = true then (headT s, true) else (⟨#[]⟩, false) := by
    unfold headA headW
    by_cases h : m = [(⟨2, headT s ++ ⟨#[10]⟩, s, ⟨#[]⟩, ⟨#[]⟩, 1⟩ : RecD)]
    · rw [if_pos h, if_pos (by simpa using h)]
    · rw [if_neg h, if_neg (by simpa using h)]
  have HV := Lib.hid hv
  have HT : Hid ((⟨#[91]⟩ : ByteArray) ++ s ++ ⟨#[93]⟩ = headT s) := rfl
  clear hv KP
  generalize decide (m = [(⟨2, headT s ++ ⟨#[10]⟩, s, ⟨#[]⟩, ⟨#[]⟩, 1⟩ : RecD)]) = q at *
  obtain ⟨d0, d1, d2, d3, d4, d5⟩ := d
  unfold dialectV recV at *
  simp only at K ⊢
  have hb0 := (Below.refl w.heap.size w).alloc (Nat.le_refl _) (.cells #[.string d0, .string d1, .bool d2, .bool d3, .bool d4, .int .i64 d5] 25)
  go_enter Tryz.func9, Tryz.ntmps9
  go_wp2_with fail
  rw [HT.out]
  refine (K.out _).mono ?_
  rintro e w1 ⟨rfl, hb1⟩
  have hb2 := hb0.trans (hb1.mono hb0.size)
  clear hb0 hb1 K HT
  generalize headT s = t at *
  cases q
  · have HR : Hid (headA s m = (⟨#[]⟩, false)) := by unfold Hid; rw [HV.out, if_neg (by decide)]
    go_wp2
    go_ret2
    exact ⟨by rw [HR.out]; rfl, hb2⟩
  · have HR : Hid (headA s m = (t, true)) := by unfold Hid; rw [HV.out, if_pos rfl]
    go_wp2
    go_ret2
    exact ⟨by rw [HR.out]; rfl, hb2⟩

end Go.Proofs.YtkhkpjnpjgnckaaGreatDoor

/- Whether a line is read as one record alone: the program's contracts of reads and IniHead; ParseIni of a wrong Dialect. -/
set_option maxRecDepth 100000
namespace Go.Proofs.YtkhkpjnpjgnckaaGreatDoor
open Go.RowKit Go.Sort
set_option linter.unusedVariables false

set_option maxHeartbeats 1600000 in
theorem parse_badI (d : DialectD) (s : ByteArray) (w : World) (hok : dialOk d = false) (h1 : d.notes.size ≤ 1048576) (h2 : d.seps.size ≤ 1048576) :
    Calls Tryz.prog 12 #[.string s, dialectV d] w (NewRows recS w []) := by
  have KD := Lib.hid (fun w => dialectOk_impl d w h1 h2)
  rw [hok] at KD
  have hb0 := (Below.refl w.heap.size w).alloc (Nat.le_refl _) (.cells #[.string d.notes, .string d.seps, .bool d.inl, .bool d.quo, .bool d.esc, .int .i64 d.join] 25)
  obtain ⟨d0, d1, d2, d3, d4, d5⟩ := d
  unfold dialectV at *
  simp only at KD hb0
  clear hok h1 h2
  go_enter Tryz.func12, Tryz.ntmps12
  go_wp2_with fail
  refine (KD.out _).mono ?_
  rintro e W1 ⟨rfl, hb1⟩
  have hB1 := hb0.trans (hb1.mono hb0.size)
  clear hb1 hb0 KD
  go_wp2
  go_ret
  exact RowsIs.toNew (RowsIs.nil _ _ rfl) (Nat.le_refl _) hB1

/-- records that a call has made, in a list whose address is told -/
def Got5 (W : World) (m : List RecD) (e : Ending) (w' : World) : Prop := ∃ a cap g, e = .returned (.slice a m.length cap) ∧ RowsRd recS w' (.slice a m.length cap) g 0 m ∧ W.heap.size ≤ g ∧ Below W.heap.size W w'
theorem got5 {W0 W : World} {m : List RecD} {e : Ending} {w' : World} (h0 : Below W0.heap.size W0 W) (h : NewRows recS W m e w') : Got5 W0 m e w' := by
  obtain ⟨v, g, rfl, hR, hg, hb⟩ := h
  obtain ⟨a, cap, rfl, ha⟩ := hR.form
  exact ⟨a, cap, g, rfl, hR.toRowsRd, Nat.le_trans h0.size hg, h0.trans (hb.mono h0.size)⟩
theorem one_row {w : World} {g : Nat} {x : RecD} (h : RecAt w g x) : RowsRd recS w (.slice (some ⟨g, 0, none⟩) 1 1) g 0 [x] := by
  refine ⟨⟨some ⟨g, 0, none⟩, 1, rfl, fun _ => rfl⟩, ?_⟩
  intro i hi j u hu
  simp only [List.length_cons, List.length_nil] at hi
  obtain rfl : i = 0 := by omega
  obtain ⟨q0, q1, q2, q3, q4, q5⟩ := h.cells
  match j, hu with
  | 0, hu => simpa [recS, recCs] using q0.trans hu
  | 1, hu => simpa [recS, recCs] using q1.trans hu
  | 2, hu => simpa [recS, recCs] using q2.trans hu
  | 3, hu => simpa [recS, recCs] using q3.trans hu
  | 4, hu => simpa [recS, recCs] using q4.trans hu
  | 5, hu => simpa [recS, recCs] using q5.trans hu
  | j + 6, hu => simp [recS, recCs] at hu

set_option maxHeartbeats 3200000 in
theorem reads_impl (d : DialectD) (line : ByteArray) (x : RecD) (m : List RecD) (w : World) (hl : line.size ≤ 10000)
    (KP : ∀ w, Calls Tryz.prog 12 #[.string (line ++ ⟨#[10]⟩), dialectV d] w (NewRows recS w m)) (hm : m.length ≤ 1000) :
    Calls Tryz.prog 23 #[dialectV d, .string line, recV x] w fun e w' => e = .returned (.bool (decide (m = [⟨x.kind, line ++ ⟨#[10]⟩, x.sect, x.key, x.value, 1⟩]))) ∧ Below w.heap.size w w' := by
  have KP := Lib.hid KP
  obtain ⟨d0, d1, d2, d3, d4, d5⟩ := d
  obtain ⟨x0, x1, x2, x3, x4, x5⟩ := x
  unfold dialectV at *
  unfold recV
  simp only at KP ⊢
  generalize hq : decide (m = [(⟨x0, line ++ ⟨#[10]⟩, x2, x3, x4, 1⟩ : RecD)]) = q at *
  have HQ := Lib.hid hq
  clear hq
  have hb0 := ((Below.refl w.heap.size w).alloc (Nat.le_refl _) (.cells #[.string d0, .string d1, .bool d2, .bool d3, .bool d4, .int .i64 d5] 25)).alloc (by simp) (.cells #[.int .i64 x0, .string (line ++ ⟨#[10]⟩), .string x2, .string x3, .string x4, .int .i64 1] 35)
  have hA : RecAt ((w.alloc (.cells #[.string d0, .string d1, .bool d2, .bool d3, .bool d4, .int .i64 d5] 25)).alloc (.cells #[.int .i64 x0, .string (line ++ ⟨#[10]⟩), .string x2, .string x3, .string x4, .int .i64 1] 35)) (w.heap.size + 1) ⟨x0, line ++ ⟨#[10]⟩, x2, x3, x4, 1⟩ := by
    have := recAt_new (w.alloc (.cells #[.string d0, .string d1, .bool d2, .bool d3, .bool d4, .int .i64 d5] 25)) ⟨x0, line ++ ⟨#[10]⟩, x2, x3, x4, 1⟩
    rw [World.size_alloc] at this
    exact this
  have hD : DialAt ((w.alloc (.cells #[.string d0, .string d1, .bool d2, .bool d3, .bool d4, .int .i64 d5] 25)).alloc (.cells #[.int .i64 x0, .string (line ++ ⟨#[10]⟩), .string x2, .string x3, .string x4, .int .i64 1] 35)) w.heap.size ⟨d0, d1, d2, d3, d4, d5⟩ :=
    (dialAt_new w ⟨d0, d1, d2, d3, d4, d5⟩).over ((Below.refl _ _).alloc (Nat.le_refl _) _) (by simp)
  have hs0 : w.heap.size + 1 < ((w.alloc (.cells #[.string d0, .string d1, .bool d2, .bool d3, .bool d4, .int .i64 d5] 25)).alloc (.cells #[.int .i64 x0, .string (line ++ ⟨#[10]⟩), .string x2, .string x3, .string x4, .int .i64 1] 35)).heap.size := by simp
  go_enter Tryz.func23, Tryz.ntmps23
  go_wp2_with fail
  generalize ((w.alloc (.cells #[.string d0, .string d1, .bool d2, .bool d3, .bool d4, .int .i64 d5] 25)).alloc (.cells #[.int .i64 x0, .string (line ++ ⟨#[10]⟩), .string x2, .string x3, .string x4, .int .i64 1] 35)) = W at *
  generalize line ++ ⟨#[10]⟩ = raw at *
  have n1 : w.heap.size ≠ W.heap.size := by omega
  have n2 : W.heap.size ≠ w.heap.size := by omega
  have n3 : w.heap.size + 1 ≠ W.heap.size := by omega
  have n4 : W.heap.size ≠ w.heap.size + 1 := by omega
  have KB : Hid (Calls Tryz.prog 12 #[.string raw, .agg #[.string d0, .string d1, .bool d2, .bool d3, .bool d4, .int .i64 d5]] W.drew (Got5 W m)) := (KP.out _).mono (fun _ _ h => got5 (below_drewN (Below.refl _ _) 1) h)
  have KA : Hid (Calls Tryz.prog 12 #[.string raw, .agg #[.string d0, .string d1, .bool d2, .bool d3, .bool d4, .int .i64 d5]] (W.alloc (.cells #[.int .i64 x0, .string raw, .string x2, .string x3, .string x4, .int .i64 1] 35)).drew (Got5 (W.alloc (.cells #[.int .i64 x0, .string raw, .string x2, .string x3, .string x4, .int .i64 1] 35)) m)) := (KP.out _).mono (fun _ _ h => got5 (below_drewN (Below.refl _ _) 1) h)
  clear KP
  obtain ⟨c0, c1, c2, c3, c4, c5⟩ := hD.cells
  obtain ⟨a0, a1, a2, a3, a4, a5⟩ := hA.cells
  simp only at c0 c1 c2 c3 c4 c5 a0 a1 a2 a3 a4 a5
  go_region_held3 (fun w' => w'.cell? ⟨w.heap.size, 0, none⟩ = some (.string d0) ∧ w'.cell? ⟨w.heap.size, 1, none⟩ = some (.string d1) ∧ w'.cell? ⟨w.heap.size, 2, none⟩ = some (.bool d2) ∧ w'.cell? ⟨w.heap.size, 3, none⟩ = some (.bool d3) ∧ w'.cell? ⟨w.heap.size, 4, none⟩ = some (.bool d4) ∧ w'.cell? ⟨w.heap.size, 5, none⟩ = some (.int .i64 d5) ∧ w'.cell? ⟨w.heap.size + 1, 0, none⟩ = some (.int .i64 x0) ∧ w'.cell? ⟨w.heap.size + 1, 1, none⟩ = some (.string raw) ∧ w'.cell? ⟨w.heap.size + 1, 2, none⟩ = some (.string x2) ∧ w'.cell? ⟨w.heap.size + 1, 3, none⟩ = some (.string x3) ∧ w'.cell? ⟨w.heap.size + 1, 4, none⟩ = some (.string x4) ∧ w'.cell? ⟨w.heap.size + 1, 5, none⟩ = some (.int .i64 1))
    (first | go_keep | exact ⟨m0, m1, m2, m3, m4, m5, k0, k1, k2, k3, k4, k5⟩)
    (first
      | ((with_reducible refine KB.out.mono ?_); rintro e w2 ⟨a, cap, g, rfl, hR, hg, hb2⟩; have hD2 := hD.over hb2 (by omega); have hA2 := hA.over hb2 hs0; have hB2 := hb0.trans (hb2.mono (by omega)); have hsz2 := hb2.size; obtain ⟨m0, m1, m2, m3, m4, m5⟩ := hD2.cells; obtain ⟨k0, k1, k2, k3, k4, k5⟩ := hA2.cells; simp only at m0 m1 m2 m3 m4 m5 k0 k1 k2 k3 k4 k5; have n5 : w.heap.size ≠ w2.heap.size := (by omega); have n6 : w2.heap.size ≠ w.heap.size := (by omega); have n7 : w.heap.size + 1 ≠ w2.heap.size := (by omega); have n8 : w2.heap.size ≠ w.heap.size + 1 := (by omega); have KE : Hid (Calls Tryz.prog 50 #[.slice a m.length cap, .slice (some ⟨w2.heap.size, 0, none⟩) 1 1] (w2.alloc (.cells #[.int .i64 x0, .string raw, .string x2, .string x3, .string x4, .int .i64 1] 35)) fun e w' => e = .returned (.bool q) ∧ Below w2.heap.size w2 w') := (by refine (equalRecs (w2.alloc (.cells #[.int .i64 x0, .string raw, .string x2, .string x3, .string x4, .int .i64 1] 35)) _ _ g 0 w2.heap.size 0 m [⟨x0, raw, x2, x3, x4, 1⟩] (hR.over ((Below.refl _ _).alloc (Nat.le_refl _) _)) (one_row (recAt_new w2 ⟨x0, raw, x2, x3, x4, 1⟩)) (by omega) (by simp)).mono ?_; rintro e w' ⟨rfl, n, rfl⟩; exact ⟨by rw [← HQ.out], below_drewN ((Below.refl _ _).alloc (Nat.le_refl _) _) n⟩))
      | ((with_reducible refine KA.out.mono ?_); rintro e w2 ⟨a, cap, g, rfl, hR, hg, hb2⟩; have hD2 := (hD.over ((Below.refl W.heap.size W).alloc (Nat.le_refl _) (.cells #[.int .i64 x0, .string raw, .string x2, .string x3, .string x4, .int .i64 1] 35)) (by omega)).over hb2 (by rw [World.size_alloc]; omega); have hA2 := (hA.over ((Below.refl W.heap.size W).alloc (Nat.le_refl _) (.cells #[.int .i64 x0, .string raw, .string x2, .string x3, .string x4, .int .i64 1] 35)) hs0).over hb2 (by rw [World.size_alloc]; omega); have hB2 := (hb0.trans (((Below.refl W.heap.size W).alloc (Nat.le_refl _) (.cells #[.int .i64 x0, .string raw, .string x2, .string x3, .string x4, .int .i64 1] 35)).mono (by omega))).trans (hb2.mono (by rw [World.size_alloc]; omega)); have hsz2 := (by have hz := hb2.size; rwa [World.size_alloc] at hz : W.heap.size + 1 ≤ w2.heap.size); have hN2 := (recAt_new W ⟨x0, raw, x2, x3, x4, 1⟩).over hb2 (by rw [World.size_alloc]; omega); obtain ⟨m0, m1, m2, m3, m4, m5⟩ := hD2.cells; obtain ⟨k0, k1, k2, k3, k4, k5⟩ := hA2.cells; simp only at m0 m1 m2 m3 m4 m5 k0 k1 k2 k3 k4 k5; have KE : Hid (Calls Tryz.prog 50 #[.slice a m.length cap, .slice (some ⟨W.heap.size, 0, none⟩) 1 1] w2 fun e w' => e = .returned (.bool q) ∧ Below w2.heap.size w2 w') := (by refine (equalRecs w2 _ _ g 0 W.heap.size 0 m [⟨x0, raw, x2, x3, x4, 1⟩] hR (one_row hN2) (by omega) (by simp)).mono ?_; rintro e w' ⟨rfl, n, rfl⟩; exact ⟨by rw [← HQ.out], below_drewN (Below.refl _ _) n⟩))
      | ((with_reducible refine KE.out.mono ?_); rintro e w3 ⟨rfl, hb3⟩; have hB3 := hB2.trans (hb3.mono (by omega)); obtain ⟨m0, m1, m2, m3, m4, m5⟩ := (hD2.over hb3 (by omega)).cells; obtain ⟨k0, k1, k2, k3, k4, k5⟩ := (hA2.over hb3 (by omega)).cells; simp only at m0 m1 m2 m3 m4 m5 k0 k1 k2 k3 k4 k5))
  all_goals
    go_wp2
    go_ret
    exact ⟨rfl, hB3⟩

end Go.Proofs.YtkhkpjnpjgnckaaGreatDoor

/- A header and a simple pair, written: the program's IniHead, and IniPair where its first way serves. -/
set_option maxRecDepth 100000
namespace Go.Proofs.YtkhkpjnpjgnckaaGreatDoor
open Go.RowKit
set_option linter.unusedVariables false

set_option maxHeartbeats 1600000 in
theorem iniHead_impl (d : DialectD) (s : ByteArray) (m : List RecD) (w : World) (hl : s.size ≤ 5000)
    (KP : ∀ w, Calls Tryz.prog 12 #[.string (headT s ++ ⟨#[10]⟩), dialectV d] w (NewRows recS w m)) (hm : m.length ≤ 1000) :
    Calls Tryz.prog 8 #[.string s, dialectV d] w fun e w' => e = .returned (.tuple #[.string (headA s m).1, .bool (headA s m).2]) ∧ Below w.heap.size w w' := by
  have hz : (headT s).size ≤ 10000 := by unfold headT; rw [ByteArray.size_append, ByteArray.size_append]; show 1 + s.size + 1 ≤ _; omega
  have K := Lib.hid (fun w => reads_impl d (headT s) ⟨2, ⟨#[]⟩, s, ⟨#[]⟩, ⟨#[]⟩, 0⟩ m w hz KP hm)
  have hv : headA s m = if decide (m = [(⟨2, headT s ++ ⟨#[10]⟩, s, ⟨#[]⟩, ⟨#[]⟩, 1⟩ : RecD)]) = true then (headT s, true) else (⟨#[]⟩, false) := by
    unfold headA headW
    by_cases h : m = [(⟨2, headT s ++ ⟨#[10]⟩, s, ⟨#[]⟩, ⟨#[]⟩, 1⟩ : RecD)]
    · rw [if_pos h, if_pos (by simpa using h)]
    · rw [if_neg h, if_neg (by simpa using h)]
  have HV := Lib.hid hv
  have HT : Hid ((⟨#[91]⟩ : ByteArray) ++ s ++ ⟨#[93]⟩ = headT s) := rfl
  clear hv KP
  generalize decide (m = [(⟨2, headT s ++ ⟨#[10]⟩, s, ⟨#[]⟩, ⟨#[]⟩, 1⟩ : RecD)]) = q at *
  have HD := Lib.hid (dialAt_new w d)
  obtain ⟨d0, d1, d2, d3, d4, d5⟩ := d
  unfold dialectV recV at *
  simp only at K HD ⊢
  have hb0 := (Below.refl w.heap.size w).alloc (Nat.le_refl _) (.cells #[.string d0, .string d1, .bool d2, .bool d3, .bool d4, .int .i64 d5] 25)
  go_enter Tryz.func8, Tryz.ntmps8
  go_wp2_with fail
  rw [HT.out]
  refine (K.out _).mono ?_
  rintro e w1 ⟨rfl, hb1⟩
  have hb2 := hb0.trans (hb1.mono hb0.size)
  clear hb0 hb1 K HT HD
  generalize headT s = t at *
  cases q
  · have HR : Hid (headA s m = (⟨#[]⟩, false)) := by unfold Hid; rw [HV.out, if_neg (by decide)]
    go_wp2
    go_ret2
    exact ⟨by rw [HR.out]; rfl, hb2⟩
  · have HR : Hid (headA s m = (t, true)) := by unfold Hid; rw [HV.out, if_pos rfl]
    go_wp2
    go_ret2
    exact ⟨by rw [HR.out]; rfl, hb2⟩

theorem unchanged_impl (d : DialectD) (s : ByteArray) (w : World) :
    Calls Tryz.prog 28 #[.string s, dialectV d] w fun e w' => e = .returned (.string s) ∧ Below w.heap.size w w' := by
  obtain ⟨d0, d1, d2, d3, d4, d5⟩ := d
  unfold dialectV
  simp only
  have hb0 := (Below.refl w.heap.size w).alloc (Nat.le_refl _) (.cells #[.string d0, .string d1, .bool d2, .bool d3, .bool d4, .int .i64 d5] 25)
  go_enter Tryz.func28, Tryz.ntmps28
  go_wp2
  go_ret
  exact ⟨rfl, hb0⟩

abbrev keyB : ByteArray := ⟨#[107, 101, 121]⟩
abbrev valueB : ByteArray := ⟨#[118, 97, 108, 117, 101]⟩
/-- the line of the simple pair, by the separators -/
def pairT (s : ByteArray) : ByteArray := keyB ++ ⟨#[32]⟩ ++ s.extract 0 1 ++ ⟨#[32]⟩ ++ valueB
def pairW (s : ByteArray) : RecD := ⟨3, pairT s ++ ⟨#[10]⟩, ⟨#[]⟩, keyB, valueB, 1⟩
set_option maxHeartbeats 3200000 in
theorem iniPair_one (d : DialectD) (w : World) (hok : dialOk d = true)
    (KP : ∀ w, Calls Tryz.prog 12 #[.string (pairT d.seps ++ ⟨#[10]⟩), dialectV d] w (NewRows recS w [pairW d.seps])) :
    Calls Tryz.prog 11 #[.string keyB, .string valueB, dialectV d] w fun e w' => e = .returned (.tuple #[.string (pairT d.seps), .bool true]) ∧ Below w.heap.size w w' := by
  have hds := dialOk_size hok
  have KD := Lib.hid (fun w => dialectOk_impl d w (by omega) (by omega))
  rw [hok] at KD
  have hz : (pairT d.seps).size ≤ 10000 := by
    unfold pairT
    rw [ByteArray.size_append, ByteArray.size_append, ByteArray.size_append, ByteArray.size_append, ByteArray.size_extract, show keyB.size = 3 from rfl, show valueB.size = 5 from rfl, show (⟨#[32]⟩ : ByteArray).size = 1 from rfl]
    omega
  have KR := Lib.hid (fun w => reads_impl d (pairT d.seps) ⟨3, ⟨#[]⟩, ⟨#[]⟩, keyB, valueB, 0⟩ [pairW d.seps] w hz KP (by simp))
  have ht : decide ([pairW d.seps] = [(⟨3, pairT d.seps ++ ⟨#[10]⟩, ⟨#[]⟩, keyB, valueB, 1⟩ : RecD)]) = true := by simp [pairW]
  rw [ht] at KR
  have KU := Lib.hid (fun w => unchanged_impl d valueB w)
  have HT : Hid (keyB ++ (⟨#[32]⟩ : ByteArray) ++ d.seps.extract 0 1 ++ ⟨#[32]⟩ ++ valueB = pairT d.seps) := rfl
  have HN := Lib.hid (dialAt_new w d)
  have hb0 := (Below.refl w.heap.size w).alloc (Nat.le_refl _) (.cells #[.string d.notes, .string d.seps, .bool d.inl, .bool d.quo, .bool d.esc, .int .i64 d.join] 25)
  have hw0 : w.heap.size < (w.alloc (.cells #[.string d.notes, .string d.seps, .bool d.inl, .bool d.quo, .bool d.esc, .int .i64 d.join] 25)).heap.size := by simp
  clear KP ht hok hz
  obtain ⟨d0, d1, d2, d3, d4, d5⟩ := d
  unfold dialectV recV at *
  simp only at KD KR KU HT HN hb0 hw0 hds ⊢
  have hse1 : (1 : Int) ≤ (d1.size : Int) := by omega
  obtain ⟨v1, v2⟩ := text_some valueB (by decide)
  go_enter Tryz.func11, Tryz.ntmps11
  go_wp2_with fail
  generalize w.alloc (.cells #[.string d0, .string d1, .bool d2, .bool d3, .bool d4, .int .i64 d5] 25) = W0 at *
  refine (KD.out _).mono ?_
  rintro e W1 ⟨rfl, hb1⟩
  have HD1 := Lib.hid (HN.out.over hb1 hw0)
  have hB1 := hb0.trans (hb1.mono hb0.size)
  have hw1 := Nat.lt_of_lt_of_le hw0 hb1.size
  clear hb1 hb0 HN hw0 KD
  obtain ⟨c0, c1, c2, c3, c4, c5⟩ := HD1.out.cells
  simp only at c0 c1 c2 c3 c4 c5
  have hba := ((Below.refl W1.heap.size W1).alloc (Nat.le_refl _) (.cells #[.int .i64 3, .string ⟨#[]⟩, .string ⟨#[]⟩, .string keyB, .string valueB, .int .i64 0] 35)).alloc (by simp) (.cells #[.func (Fn.func 28) #[] #[], .func (Fn.func 29) #[] #[], .func (Fn.func 30) #[] #[], .func (Fn.func 31) #[] #[], .func (Fn.func 32) #[] #[]] 53)
  have HD3 := Lib.hid (HD1.out.over hba hw1)
  have HR3 : Hid (RecAt ((W1.alloc (.cells #[.int .i64 3, .string ⟨#[]⟩, .string ⟨#[]⟩, .string keyB, .string valueB, .int .i64 0] 35)).alloc (.cells #[.func (Fn.func 28) #[] #[], .func (Fn.func 29) #[] #[], .func (Fn.func 30) #[] #[], .func (Fn.func 31) #[] #[], .func (Fn.func 32) #[] #[]] 53)) W1.heap.size ⟨3, ⟨#[]⟩, ⟨#[]⟩, keyB, valueB, 0⟩) := (recAt_new W1 ⟨3, ⟨#[]⟩, ⟨#[]⟩, keyB, valueB, 0⟩).over ((Below.refl _ _).alloc (Nat.le_refl _) _) (by simp)
  have hB3 := hB1.trans (hba.mono (Nat.le_of_lt hw1))
  have hs3 : W1.heap.size + 1 < ((W1.alloc (.cells #[.int .i64 3, .string ⟨#[]⟩, .string ⟨#[]⟩, .string keyB, .string valueB, .int .i64 0] 35)).alloc (.cells #[.func (Fn.func 28) #[] #[], .func (Fn.func 29) #[] #[], .func (Fn.func 30) #[] #[], .func (Fn.func 31) #[] #[], .func (Fn.func 32) #[] #[]] 53)).heap.size := by simp
  clear hba hB1 HD1
  go_wp2_with fail
  clear c0 c1 c2 c3 c4 c5
  generalize (W1.alloc (.cells #[.int .i64 3, .string ⟨#[]⟩, .string ⟨#[]⟩, .string keyB, .string valueB, .int .i64 0] 35)).alloc (.cells #[.func (Fn.func 28) #[] #[], .func (Fn.func 29) #[] #[], .func (Fn.func 30) #[] #[], .func (Fn.func 31) #[] #[], .func (Fn.func 32) #[] #[]] 53) = W3 at *
  have hix : ∀ w, (Instr.index 53 (.agg #[.func (Fn.func 28) #[] #[], .func (Fn.func 29) #[] #[], .func (Fn.func 30) #[] #[], .func (Fn.func 31) #[] #[], .func (Fn.func 32) #[] #[]]) (.int .i64 0)).run Tryz.prog w = .ok (.func (Fn.func 28) #[] #[]) w := fun w => by kernel_rfl
  go_loopw [37] (fun i wr => i = .int .i64 0 ∧ W3 = wr) (fun _ _ => 0)
  case atStart => exact ⟨rfl, rfl⟩
  case round =>
    obtain ⟨rfl, rfl⟩ := hrel
    obtain ⟨c0, c1, c2, c3, c4, c5⟩ := HD3.out.cells
    simp only at c0 c1 c2 c3 c4 c5
    go_wp2_with fail
    refine (KU.out _).mono ?_
    rintro e w4 ⟨rfl, hb4⟩
    have HD4 := Lib.hid (HD3.out.over hb4 (by omega))
    have HR4 := Lib.hid (HR3.out.over hb4 (by omega))
    have hB4 := hB3.trans (hb4.mono hB3.size)
    clear c0 c1 c2 c3 c4 c5 hb4 hB3 HD3 HR3 KU
    obtain ⟨c0, c1, c2, c3, c4, c5⟩ := HD4.out.cells
    obtain ⟨a0, a1, a2, a3, a4, a5⟩ := HR4.out.cells
    simp only at c0 c1 c2 c3 c4 c5 a0 a1 a2 a3 a4 a5
    go_wp2_with fail
    rw [HT.out]
    refine (KR.out _).mono ?_
    rintro e w5 ⟨rfl, hb5⟩
    have hB5 := hB4.trans (hb5.mono hB4.size)
    clear c0 c1 c2 c3 c4 c5 a0 a1 a2 a3 a4 a5 hb5 hB4 HD4 HR4 KR HT
    go_wp2
    go_ret2
    exact ⟨rfl, hB5⟩

end Go.Proofs.YtkhkpjnpjgnckaaGreatDoor
