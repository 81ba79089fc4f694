/- A record seen by its kind: the contracts of entryOf and isPairOf. -/
import Derived.Test.YtkhkpjnpjgnckaaGreatDoorProg
import Derived.Test.YtkhkpjnpjgnckaaGreatDoorPlain
import Derived.Test.YtkhkpjnpjgnckaaGreatDoorRecRows
import Derived.WalkKit
import Derived.WalkLawsBesides
import Derived.Lib.Hide
import Derived.IntWalk
namespace Go.Proofs.YtkhkpjnpjgnckaaGreatDoor
open Go.RowKit
set_option linter.unusedVariables false

/-- what entryOf makes of a record -/
def entV (x : RecD) : Value :=
  if x.kind = 2 then .iface 121 (.agg #[.string x.raw, .string x.sect])
  else if x.kind = 3 then .iface 123 (.agg #[.string x.raw, .string x.sect, .string x.key])
  else if x.kind = 4 then .iface 125 (.agg #[.string x.raw, .int .i64 x.line])
  else .iface 119 (.agg #[.string x.raw])

set_option maxHeartbeats 800000 in
theorem entry_any (x : RecD) (w : World) :
    Calls Tryz.prog 72 #[recV x] w fun e w' => e = .returned (entV x) ∧ Below w.heap.size w w' := by
  obtain ⟨a0, a1, a2, a3, a4, a5⟩ := x
  unfold recV entV
  simp only
  have hb := ((Below.refl w.heap.size w).alloc (Nat.le_refl _) (.cells #[.int .i64 a0, .string a1, .string a2, .string a3, .string a4, .int .i64 a5] 35)).alloc (by simp) (.cells #[.string a1] 119)
  by_cases h2 : a0 = 2
  · rw [if_pos h2]
    have e2 : (a0 == 2) = true := by simp [h2]
    clear h2
    go_enter Tryz.func72, Tryz.ntmps72
    go_wp2
    go_ret
    exact ⟨rfl, hb⟩
  · rw [if_neg h2]
    have e2 : (a0 == 2) = false := by simp [h2]
    clear h2
    by_cases h3 : a0 = 3
    · rw [if_pos h3]
      have e3 : (a0 == 3) = true := by simp [h3]
      clear h3
      go_enter Tryz.func72, Tryz.ntmps72
      go_wp2
      go_ret
      exact ⟨rfl, hb⟩
    · rw [if_neg h3]
      have e3 : (a0 == 3) = false := by simp [h3]
      clear h3
      by_cases h4 : a0 = 4
      · rw [if_pos h4]
        have e4 : (a0 == 4) = true := by simp [h4]
        clear h4
        go_enter Tryz.func72, Tryz.ntmps72
        go_wp2
        go_ret
        exact ⟨rfl, hb⟩
      · rw [if_neg h4]
        have e4 : (a0 == 4) = false := by simp [h4]
        clear h4
        go_enter Tryz.func72, Tryz.ntmps72
        go_wp2
        go_ret
        exact ⟨rfl, hb⟩

theorem is_odd (v : Value) (w : World) : (Instr.typeAssert (.iface 125 v) 90 125 true).run Tryz.prog w = .ok (.tuple #[v, .bool true]) w := by kernel_rfl
theorem assert_odd (x : RecD) (h : x.kind ≠ 4) (w : World) : (Instr.typeAssert (entV x) 90 125 true).run Tryz.prog w = .ok (.tuple #[.agg #[.string ByteArray.empty, .int .i64 0], .bool false]) w := by
  unfold entV
  rw [if_neg h]
  split
  · kernel_rfl
  · split
    · kernel_rfl
    · kernel_rfl
theorem is_head (v : Value) (w : World) : (Instr.typeAssert (.iface 121 v) 90 121 true).run Tryz.prog w = .ok (.tuple #[v, .bool true]) w := by kernel_rfl
theorem assert_head (x : RecD) (h : x.kind ≠ 2) (w : World) : (Instr.typeAssert (entV x) 90 121 true).run Tryz.prog w = .ok (.tuple #[.agg #[.string ByteArray.empty, .string ByteArray.empty], .bool false]) w := by
  unfold entV
  rw [if_neg h]
  split
  · kernel_rfl
  · split
    · kernel_rfl
    · kernel_rfl
theorem is_pair (v : Value) (w : World) : (Instr.typeAssert (.iface 123 v) 90 123 true).run Tryz.prog w = .ok (.tuple #[v, .bool true]) w := by kernel_rfl
theorem assert_pair (x : RecD) (h : x.kind ≠ 3) (w : World) : (Instr.typeAssert (entV x) 90 123 true).run Tryz.prog w = .ok (.tuple #[.agg #[.string ByteArray.empty, .string ByteArray.empty, .string ByteArray.empty], .bool false]) w := by
  unfold entV
  rw [if_neg h]
  split
  · kernel_rfl
  · split
    · kernel_rfl
    · kernel_rfl

end Go.Proofs.YtkhkpjnpjgnckaaGreatDoor
