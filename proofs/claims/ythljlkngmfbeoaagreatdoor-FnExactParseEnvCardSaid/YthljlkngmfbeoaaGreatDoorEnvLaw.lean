/- The walk of the exact law of ParseEnv. -/
import Derived.Test.YthljlkngmfbeoaaGreatDoorProg
import Derived.Test.YthljlkngmfbeoaaGreatDoorPlain
import Derived.Test.YthljlkngmfbeoaaGreatDoorKit
import Derived.Test.YthljlkngmfbeoaaGreatDoorRows0
import Derived.Test.YthljlkngmfbeoaaGreatDoorRecRows
import Derived.Test.YthljlkngmfbeoaaGreatDoorRecArg
import Derived.Test.YthljlkngmfbeoaaGreatDoorRecKit
import Derived.Test.YthljlkngmfbeoaaGreatDoorEnvRecs
import Derived.Test.YthljlkngmfbeoaaGreatDoorEnvSpec
import Derived.Test.YthljlkngmfbeoaaGreatDoorEnvParse
import Derived.WalkKit
import Derived.WalkLawsBesides
import Derived.Lib.Hide
import Derived.IntWalk
namespace Go.Proofs.YthljlkngmfbeoaaGreatDoor
open Go.RowKit
set_option linter.unusedVariables false

set_option maxRecDepth 100000 in
set_option maxHeartbeats 3200000 in
theorem fnExactParseEnv_walk (a0 : ByteArray) (w0 : a0.size ≤ maxLen) (w : World) :
    Calls Tryz.prog 4 #[.string a0] w fun e w' => e = .returned (.bool true) ∧ Below w.heap.size w w' := by
  by_cases h0 : a0.size ≤ 1048576
  · have hL : Hid ((propsL a0).length ≤ 100000000) := Nat.le_trans (propsL_len a0) (by decide)
    have K1 := Lib.hid (fun w => parseEnv_spec a0 w h0)
    have K2 := Lib.hid (fun w => parseEnv_any a0 w h0)
    generalize propsL a0 = r at *
    obtain ⟨q, hqq⟩ : ∃ q : Int, ((1 + r.length * 6 : Nat) : Int) = q := ⟨_, rfl⟩
    have hq0 : decide (q < 0) = false := by simp; omega
    have hq1 : (q != q) = false := by simp
    have HQ := Lib.hid hqq
    clear hqq
    go_enter Tryz.func4, Tryz.ntmps4
    go_wp2_with fail
    refine (K1.out _).mono ?_
    rintro e w1 ⟨v0, g0, rfl, hT1, hg0, hb1⟩
    go_wp2_with fail
    refine (K2.out _).mono ?_
    rintro e w2 ⟨vg, gg, rfl, hG2, hgg, hb2⟩
    have hT2 := hT1.over hb2
    have hne : r ≠ [] → g0 ≠ gg := fun h => by have := hT1.lt h; omega
    have hB2 := hb1.trans (hb2.mono hb1.size)
    have hwg : w.heap.size ≤ gg := by have := hb1.size; omega
    clear hT1 hb1 hb2 hg0 hgg
    go_wp2_with fail
    refine (kit_eq_recs w2 vg v0 gg g0 r hG2 hT2 hL.out).mono ?_
    rintro e w3 ⟨rfl, hb3⟩
    have hT3 := hT2.over hb3
    have hG3 := hG2.over hb3
    have hB3 := hB2.trans (hb3.mono hB2.size)
    clear hT2 hG2 hb3 hB2
    go_wp2_with fail
    refine (kit_mark_recs w3 vg gg r hG3 hL.out).mono ?_
    rintro e w4 ⟨rfl, hG4, ht4⟩
    rw [HQ.out]
    have hT4 := hT3.kept (fun hl => ht4.block (hT3.lt hl) (fun _ => hne hl))
    have hB4 := hB3.trans (ht4.below hB3.size (fun _ => hwg))
    clear hT3 hG3 ht4 hB3
    go_wp2_with fail
    refine (kit_held_recs w4 vg gg r.length hG4 hL.out).mono ?_
    rintro e w5 ⟨rfl, hb5⟩
    rw [HQ.out]
    have hT5 := hT4.over hb5
    have hG5 := hG4.over hb5
    have hB5 := hB4.trans (hb5.mono hB4.size)
    clear hT4 hG4 hb5 hB4
    go_wp2_with fail
    refine (K2.out _).mono ?_
    rintro e w6 ⟨vh, gh, rfl, hH6, hgh, hb6⟩
    have hT6 := hT5.over hb6
    have hG6 := hG5.over hb6
    have hB6 := hB5.trans (hb6.mono hB5.size)
    clear hT5 hG5 hb6 hB5 hgh
    go_wp2_with fail
    refine (kit_eq_recs w6 vh v0 gh g0 r hH6 hT6 hL.out).mono ?_
    rintro e w7 ⟨rfl, hb7⟩
    have hG7 := hG6.over hb7
    have hB7 := hB6.trans (hb7.mono hB6.size)
    clear hT6 hG6 hH6 hb7 hB6
    go_wp2_with fail
    refine (kit_held_recs w7 vg gg r.length hG7 hL.out).mono ?_
    rintro e w8 ⟨rfl, hb8⟩
    rw [HQ.out]
    have hB8 := hB7.trans (hb8.mono hB7.size)
    clear hG7 hb8 hB7
    go_wp2
    go_ret
    exact ⟨rfl, hB8⟩
  · go_enter Tryz.func4, Tryz.ntmps4
    go_wp2
    go_ret
    exact ⟨rfl, Below.refl _ _⟩

end Go.Proofs.YthljlkngmfbeoaaGreatDoor
