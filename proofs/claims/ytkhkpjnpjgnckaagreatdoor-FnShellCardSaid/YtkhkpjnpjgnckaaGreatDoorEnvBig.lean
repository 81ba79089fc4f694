/- Environment files of any length that a line for a shell may have: ParseEnv, the model's and the program's. -/
import Derived.Test.YtkhkpjnpjgnckaaGreatDoorProg
import Derived.Test.YtkhkpjnpjgnckaaGreatDoorPlain
import Derived.Test.YtkhkpjnpjgnckaaGreatDoorRows0
import Derived.Test.YtkhkpjnpjgnckaaGreatDoorRecRows
import Derived.Test.YtkhkpjnpjgnckaaGreatDoorRecArg
import Derived.Test.YtkhkpjnpjgnckaaGreatDoorEnvOne
import Derived.Test.YtkhkpjnpjgnckaaGreatDoorLines
import Derived.Test.YtkhkpjnpjgnckaaGreatDoorSplitSpec
import Derived.Test.YtkhkpjnpjgnckaaGreatDoorJoin
import Derived.Test.YtkhkpjnpjgnckaaGreatDoorRecRaw
import Derived.Test.YtkhkpjnpjgnckaaGreatDoorEnvRecs
import Derived.Test.YtkhkpjnpjgnckaaGreatDoorEnvSpec
import Derived.Test.YtkhkpjnpjgnckaaGreatDoorSplitBig
import Derived.Test.YtkhkpjnpjgnckaaGreatDoorEnvParse
import Derived.WalkKit
import Derived.WalkLawsBesides
import Derived.OwnWalk
import Derived.BigQuiet
import Derived.Deep.QuietTactic
import Derived.Deep.RegionHeld3
import Derived.Lib.QuietBelow
import Derived.Laws.IdiomStrings
import Derived.Lib.Hide
import Derived.IntWalk
import Derived.Outline
set_option maxRecDepth 100000
namespace Go.Proofs.YtkhkpjnpjgnckaaGreatDoor
open Go.RowKit Go.Sort
set_option linter.unusedVariables false

theorem envModel_longB (s : ByteArray) (w : World) (hs : s.size ≤ 16777216) (h0 : 6000 < s.size) (hne : linesOf s ≠ []) :
    Calls Tryz.prog 39 #[.string s] w (NewRows recS w []) := by
  have KS := Lib.hid (splitLines_big s w hs)
  generalize linesOf s = l at *
  have hll := List.length_pos_iff.2 hne
  have hkz : 0 < l.length := hll
  have hsz : ¬ (s.size : Int) ≤ 6000 := by omega
  have hszd : decide ((s.size : Int) ≤ 6000) = false := decide_eq_false hsz
  clear hne hll
  go_enter Tryz.func39, Tryz.ntmps39
  go_wp2_with fail
  refine KS.out.mono ?_
  rintro e W1 ⟨lv, rfl, hown, hb1⟩
  obtain ⟨ga, cap, rfl⟩ := own_formA hown
  clear KS hown
  have hbx := ((Below.refl W1.heap.size W1).alloc (Nat.le_refl _) (.cells #[] 35)).alloc (by simp) (.cells #[.slice ga l.length cap, .int .i64 0, .string ⟨#[]⟩, .slice (some ⟨W1.heap.size, 0, none⟩) 0 0] 81)
  have HX : Hid (ReadAt ((W1.alloc (.cells #[] 35)).alloc (.cells #[.slice ga l.length cap, .int .i64 0, .string ⟨#[]⟩, .slice (some ⟨W1.heap.size, 0, none⟩) 0 0] 81)) (W1.heap.size + 1) (.slice ga l.length cap) 0 ⟨#[]⟩ (.slice (some ⟨W1.heap.size, 0, none⟩) 0 0)) := by
    have := heap_alloc_new (W1.alloc (.cells #[] 35)) (.cells #[.slice ga l.length cap, .int .i64 0, .string ⟨#[]⟩, .slice (some ⟨W1.heap.size, 0, none⟩) 0 0] 81)
    rw [World.size_alloc] at this
    exact this
  have hB2 := hb1.trans (hbx.mono hb1.size)
  have hwB : w.heap.size ≤ W1.heap.size := hb1.size
  have hsx : W1.heap.size + 1 < ((W1.alloc (.cells #[] 35)).alloc (.cells #[.slice ga l.length cap, .int .i64 0, .string ⟨#[]⟩, .slice (some ⟨W1.heap.size, 0, none⟩) 0 0] 81)).heap.size := by simp
  go_wp2_with fail
  clear hbx hb1
  generalize ((W1.alloc (.cells #[] 35)).alloc (.cells #[.slice ga l.length cap, .int .i64 0, .string ⟨#[]⟩, .slice (some ⟨W1.heap.size, 0, none⟩) 0 0] 81)) = Wx at *
  go_loopw [4] (fun _ wr => Wx = wr) (fun _ _ => 0)
  case atStart => rfl
  case round =>
    obtain rfl := hrel
    obtain ⟨e0, e1, e2, e3⟩ := HX.out.cells
    have y0 := cell_regrown e0
    have y1 := cell_regrown e1
    clear e0 e1 e2 e3
    go_wp2_with fail
    refine wp_region_quiet_below (by kernel_rfl) (by kernel_rfl) ?_
    repeat (go_big_quiet_step (fail))
    refine wpQuiet_nil ?_
    intro _ hw'
    obtain ⟨⟨dq, osq⟩, hw''⟩ := hw'
    subst hw''
    have hbq := below_regrown Wx dq osq
    have hX := HX.out.over hbq hsx
    have hb := hB2.trans (hbq.mono hB2.size)
    clear y0 y1 hbq HX hB2
    generalize grow (redrawn Wx dq) osq = w2 at *
    obtain ⟨e0, e1, e2, e3⟩ := hX.cells
    clear hX e0 e1 e2
    go_wp2
    go_ret
    exact ⟨_, W1.heap.size, rfl, RowsIs.nil _ _ rfl, hwB, hb⟩
theorem linesOf_noneB (s : ByteArray) (h : linesOf s = []) : s.size = 0 := by
  have := linesOf_join s
  rw [h] at this
  rw [Lib.size_eq, ← this]
  rfl
/-- the model's ParseEnv -/
theorem parseEnv_specB (s : ByteArray) (w : World) (hs : s.size ≤ 16777216) :
    Calls Tryz.prog 39 #[.string s] w (NewRows recS w (propsL s)) := by
  by_cases h6 : s.size ≤ 6000
  · exact parseEnv_spec s w (by omega)
  · have hp : propsL s = [] := by unfold propsL; rw [if_neg h6]
    rw [hp]
    exact envModel_longB s w hs (by omega) (fun h => by have := linesOf_noneB s h; omega)
/-- the program's -/
theorem parseEnv_anyB (s : ByteArray) (w : World) (hs : s.size ≤ 16777216) :
    Calls Tryz.prog 16 #[.string s] w (NewRows recS w (propsL s)) := by
  by_cases h : s.size ≤ 6000
  · exact parseEnv_any s w (by omega)
  · have HP : Hid (propsL s = []) := by unfold Hid propsL; rw [if_neg h]
    have hsz : (6000 : Int) < (s.size : Int) := by omega
    go_enter Tryz.func16, Tryz.ntmps16
    go_wp2
    go_ret
    exact ⟨_, w.heap.size, rfl, by rw [HP.out]; exact RowsIs.nil none 0 rfl, Nat.le_refl _, Below.refl _ _⟩

end Go.Proofs.YtkhkpjnpjgnckaaGreatDoor
