/- A bare value: the program's contract of Bare. -/
import Derived.Test.YtkhkpjnpjgnckaaGreatDoorProg
import Derived.Test.YtkhkpjnpjgnckaaGreatDoorPlain
import Derived.Test.YtkhkpjnpjgnckaaGreatDoorDialectRows
import Derived.Test.YtkhkpjnpjgnckaaGreatDoorQuotSpec
import Derived.Test.YtkhkpjnpjgnckaaGreatDoorUnescTop
import Derived.Test.YtkhkpjnpjgnckaaGreatDoorBareImpl
import Derived.WalkKit
import Derived.WalkLawsBesides
import Derived.BigQuiet
import Derived.Deep.QuietTactic
import Derived.Lib.QuietBelow
import Derived.Laws.IdiomStrings
import Derived.Lib.Hide
import Derived.IntWalk
set_option maxRecDepth 100000
namespace Go.Proofs.YtkhkpjnpjgnckaaGreatDoor
open Go.RowKit Go.Sort
set_option linter.unusedVariables false

set_option maxHeartbeats 3200000 in
theorem bare_impl (d : DialectD) (s : ByteArray) (w : World) (hs : s.size ≤ 1048576) :
    Calls Tryz.prog 160 #[.string s, dialectV d] w fun e w' => e = .returned (.tuple #[.string (bareT d s).1, .bool (bareT d s).2]) ∧ Below w.heap.size w w' := by
  have HA : Hid (d.inl = false → bareT d s = unT d.esc (trim5 d.esc s)) := by
    intro h
    unfold bareT cut5
    rw [h]
    simp only [Bool.false_eq_true, if_false]
    rw [extract_all]
  have HB : Hid (d.inl = true → bareT d s = unT d.esc (trim5 d.esc (ahead5 d s))) := by
    intro h
    unfold bareT cut5 ahead5
    rw [h]
    simp only [if_true]
  have K0 := Lib.hid (fun w => beforeNote_impl d s w hs)
  have hz : Hid ((ahead5 d s).size ≤ 1048576) := by unfold Hid ahead5; rw [ByteArray.size_extract]; omega
  have HN := Lib.hid (dialAt_new w d)
  have KT := Lib.hid (fun (t : ByteArray) (w : World) (h : t.size ≤ 1048576) => trim_implD d t w h)
  have KU := Lib.hid (fun (t : ByteArray) (w : World) (h : t.size ≤ 1048576) => unescape_impl d t w h)
  obtain ⟨d0, d1, d2, d3, d4, d5⟩ := d
  unfold dialectV at *
  simp only at K0 HN HA HB KT KU ⊢
  generalize ahead5 ⟨d0, d1, d2, d3, d4, d5⟩ s = ah at *
  generalize bareT ⟨d0, d1, d2, d3, d4, d5⟩ s = r at *
  have hb0 := (Below.refl w.heap.size w).alloc (Nat.le_refl _) (.cells #[.string d0, .string d1, .bool d2, .bool d3, .bool d4, .int .i64 d5] 25)
  have hw0 : w.heap.size < (w.alloc (.cells #[.string d0, .string d1, .bool d2, .bool d3, .bool d4, .int .i64 d5] 25)).heap.size := by simp
  cases d2
  · have HTT : Hid (r = unT d4 (trim5 d4 s)) := HA.out rfl
    clear HA HB K0 hz
    have HSZ : Hid ((trim5 d4 s).size ≤ 1048576) := Nat.le_trans (trim5_size d4 s) hs
    go_enter Tryz.func160, Tryz.ntmps160
    go_wp2_with fail
    generalize w.alloc (.cells #[.string d0, .string d1, .bool false, .bool d3, .bool d4, .int .i64 d5] 25) = wr at *
    have KA : Hid (∀ q os, Calls Tryz.prog 118 #[.agg #[.string d0, .string d1, .bool false, .bool d3, .bool d4, .int .i64 d5], .string s] (grow (redrawn wr q) os) fun e w' => e = .returned (.string (trim5 d4 s)) ∧ ∃ p : Regrown, w' = grow (redrawn wr p.d) p.os) := by
      intro q os
      exact Calls.regrown_of (KT.out s _ hs)
    have KB : Hid (∀ q os, Calls Tryz.prog 173 #[.string (trim5 d4 s), .agg #[.string d0, .string d1, .bool false, .bool d3, .bool d4, .int .i64 d5]] (grow (redrawn wr q) os) fun e w' => e = .returned (.tuple #[.string (unT d4 (trim5 d4 s)).1, .bool (unT d4 (trim5 d4 s)).2]) ∧ ∃ p : Regrown, w' = grow (redrawn wr p.d) p.os) := by
      intro q os
      exact Calls.regrown_of (KU.out (trim5 d4 s) _ HSZ.out)
    obtain ⟨c0, c1, c2, c3, c4, c5⟩ := HN.out.cells
    simp only at c0 c1 c2 c3 c4 c5
    have x0 := cell_regrown c0
    have x1 := cell_regrown c1
    have x2 := cell_regrown c2
    have x3 := cell_regrown c3
    have x4 := cell_regrown c4
    have x5 := cell_regrown c5
    clear c0 c1 c2 c3 c4 c5 KT KU
    generalize trim5 d4 s = tm at *
    generalize unT d4 tm = ut at *
    obtain ⟨ua, ub⟩ := ut
    simp only at KB
    refine wp_region_quiet_below (by kernel_rfl) (by kernel_rfl) ?_
    repeat (go_big_quiet_step (first | with_reducible exact KA.out _ _ | with_reducible exact KB.out _ _))
    refine wpQuiet_nil ?_
    intro _ hw'
    obtain ⟨⟨dq9, osq9⟩, hw''⟩ := hw'
    subst hw''
    have hb9 := hb0.trans ((below_regrown wr dq9 osq9).mono hb0.size)
    clear KA KB
    go_wp2
    go_ret2
    exact ⟨by rw [HTT.out]; rfl, hb9⟩
  · have HTT : Hid (r = unT d4 (trim5 d4 ah)) := HB.out rfl
    have hza := hz.out
    clear HA HB hz
    have HSZ : Hid ((trim5 d4 ah).size ≤ 1048576) := Nat.le_trans (trim5_size d4 ah) hza
    go_enter Tryz.func160, Tryz.ntmps160
    go_wp2_with fail
    refine (K0.out _).mono ?_
    rintro e wr ⟨rfl, hb1⟩
    have hD := HN.out.over hb1 hw0
    have hB1 := hb0.trans (hb1.mono hb0.size)
    clear hb0 hb1 HN hw0 K0
    have KA : Hid (∀ q os, Calls Tryz.prog 118 #[.agg #[.string d0, .string d1, .bool true, .bool d3, .bool d4, .int .i64 d5], .string ah] (grow (redrawn wr q) os) fun e w' => e = .returned (.string (trim5 d4 ah)) ∧ ∃ p : Regrown, w' = grow (redrawn wr p.d) p.os) := by
      intro q os
      exact Calls.regrown_of (KT.out ah _ hza)
    have KB : Hid (∀ q os, Calls Tryz.prog 173 #[.string (trim5 d4 ah), .agg #[.string d0, .string d1, .bool true, .bool d3, .bool d4, .int .i64 d5]] (grow (redrawn wr q) os) fun e w' => e = .returned (.tuple #[.string (unT d4 (trim5 d4 ah)).1, .bool (unT d4 (trim5 d4 ah)).2]) ∧ ∃ p : Regrown, w' = grow (redrawn wr p.d) p.os) := by
      intro q os
      exact Calls.regrown_of (KU.out (trim5 d4 ah) _ HSZ.out)
    obtain ⟨c0, c1, c2, c3, c4, c5⟩ := hD.cells
    simp only at c0 c1 c2 c3 c4 c5
    have x0 := cell_regrown c0
    have x1 := cell_regrown c1
    have x2 := cell_regrown c2
    have x3 := cell_regrown c3
    have x4 := cell_regrown c4
    have x5 := cell_regrown c5
    clear c0 c1 c2 c3 c4 c5 KT KU hD
    generalize trim5 d4 ah = tm at *
    generalize unT d4 tm = ut at *
    obtain ⟨ua, ub⟩ := ut
    simp only at KB
    go_wp2_with fail
    refine wp_region_quiet_below (by kernel_rfl) (by kernel_rfl) ?_
    repeat (go_big_quiet_step (first | with_reducible exact KA.out _ _ | with_reducible exact KB.out _ _))
    refine wpQuiet_nil ?_
    intro _ hw'
    obtain ⟨⟨dq9, osq9⟩, hw''⟩ := hw'
    subst hw''
    have hb9 := hB1.trans ((below_regrown wr dq9 osq9).mono hB1.size)
    clear KA KB
    go_wp2
    go_ret2
    exact ⟨by rw [HTT.out]; rfl, hb9⟩

end Go.Proofs.YtkhkpjnpjgnckaaGreatDoor
