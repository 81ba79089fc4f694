/- Lists of Dialect that come in: their copy, their size. -/
import Derived.Test.YtkhkpjnpjgnckaaProg
import Derived.Test.YtkhkpjnpjgnckaaPlain
import Derived.Test.YtkhkpjnpjgnckaaTexts
import Derived.Test.YtkhkpjnpjgnckaaMarks
import Derived.Test.YtkhkpjnpjgnckaaRows0
import Derived.Test.YtkhkpjnpjgnckaaDialectRows
import Derived.WalkKit
import Derived.WalkLawsBesides
import Derived.OwnWalk
import Derived.BigQuiet
import Derived.Deep.QuietTactic
import Derived.Lib.QuietBelow
import Derived.Laws.IdiomStrings
import Derived.Lib.Hide
import Derived.IntWalk
set_option maxRecDepth 100000
namespace Go.Proofs.Ytkhkpjnpjgnckaa
open Go.RowKit Go.Sort
set_option linter.unusedVariables false

def noDialect : DialectD := ⟨ByteArray.empty, ByteArray.empty, false, false, false, 0⟩
theorem info_dialect : (Try.prog.info? 26).map (fun i => (i.zero, i.size, i.bytes)) = some (some (dialectV noDialect), 6, 48) := by kernel_rfl
theorem made_dialect (k : Nat) : (madeCells (Value.cells (dialectV noDialect)) (k * 6)).toList = rowCells dialectS (List.replicate k noDialect) := made_rows dialectS (dialectV noDialect) noDialect rfl k

theorem toDialect_any (x : DialectD) (w : World) :
    Calls Try.prog 7 #[dialectV x] w fun e w' => e = .returned (dialectV x) ∧ Below w.heap.size w w' := by
  obtain ⟨a0, a1, a2, a3, a4, a5⟩ := x
  unfold dialectV
  simp only
  have hb := (((Below.refl w.heap.size w).alloc (Nat.le_refl _) (.cells #[.string a0, .string a1, .bool a2, .bool a3, .bool a4, .int .i64 a5] 23)).alloc (by simp) (.cells #[.string a0, .string a1, .bool a2, .bool a3, .bool a4, .int .i64 a5] 26)).alloc (by simp; omega) (.cells #[.string a0, .string a1, .bool a2, .bool a3, .bool a4, .int .i64 a5] 26)
  go_enter Try.func7, Try.ntmps7
  go_wp2
  (try simp only [Exit.inBlock, Exit.then])
  refine bodyPost_ret (v := .agg #[.string a0, .string a1, .bool a2, .bool a3, .bool a4, .int .i64 a5]) ?_ rfl ⟨rfl, hb⟩
  refine results_cell_row rfl _ _ (w.heap.size + 1) 26 #[.string a0, .string a1, .bool a2, .bool a3, .bool a4, .int .i64 a5] (0, 0) _ rfl ?_ Try.underlying26 rfl (by kernel_rfl)
  rw [Below.heap_alloc _ _ _ (by simp), show w.heap.size + 1 = (w.alloc (.cells #[.string a0, .string a1, .bool a2, .bool a3, .bool a4, .int .i64 a5] 23)).heap.size by simp]
  exact heap_alloc_new _ _

/-! how large they are -/
def sizeDialect (x : DialectD) : Nat := x.notes.size + x.seps.size
def costDialect (l : List DialectD) : Nat := l.length + (l.map sizeDialect).sum
theorem costDialect_nil : costDialect [] = 0 := rfl
theorem costDialect_take_succ (l : List DialectD) (k : Nat) (h : k < l.length) : costDialect (l.take (k + 1)) = costDialect (l.take k) + 1 + sizeDialect l[k] := by
  rw [List.take_succ_eq_append_getElem h]
  simp only [costDialect, List.length_append, List.map_append, List.sum_append, List.map_cons, List.map_nil, List.sum_cons, List.sum_nil, List.length_cons, List.length_nil]
  omega
theorem costDialect_take (l : List DialectD) (k : Nat) (h : k ≤ l.length) : costDialect (l.take k) + (l.length - k) ≤ costDialect l := by
  have h1 : costDialect l = costDialect (l.take k) + costDialect (l.drop k) := by
    conv => lhs; rw [← List.take_append_drop k l]
    simp only [costDialect, List.length_append, List.map_append, List.sum_append]
    omega
  have h2 : l.length - k ≤ costDialect (l.drop k) := by unfold costDialect; rw [List.length_drop]; omega
  omega
theorem costDialect_at (l : List DialectD) (k : Nat) (h : k < l.length) : sizeDialect l[k] + l.length ≤ costDialect l := by
  have h1 := costDialect_take_succ l k h
  have h2 := costDialect_take l (k + 1) h
  have h3 : k ≤ costDialect (l.take k) := by unfold costDialect; rw [List.length_take]; omega
  omega
/-- its texts are no longer than a text may be -/
def fitsDialect (x : DialectD) : Prop := x.notes.size ≤ maxLen ∧ x.seps.size ≤ maxLen ∧ (-9223372036854775808 ≤ x.join ∧ x.join ≤ 9223372036854775807)

set_option maxHeartbeats 800000 in
theorem szDialect_any (x : DialectD) (z : Int) (w : World) (h0 : 0 ≤ z) (h1 : z ≤ 1048576) (hx : fitsDialect x) :
    Calls Try.prog 5 #[dialectV x, .int .i64 z] w fun e w' => e = .returned (.int .i64 (if z < (sizeDialect x : Int) then -1 else z - (sizeDialect x : Int))) ∧ Below w.heap.size w w' := by
  obtain ⟨a0, a1, a2, a3, a4, a5⟩ := x
  unfold fitsDialect at hx
  unfold dialectV sizeDialect
  simp only at hx ⊢
  obtain ⟨hx0, hx1, hx5⟩ := hx
  unfold maxLen at hx0 hx1
  have hb := (Below.refl w.heap.size w).alloc (Nat.le_refl _) (.cells #[.string a0, .string a1, .bool a2, .bool a3, .bool a4, .int .i64 a5] 23)
  by_cases q0 : z - a0.size < 0
  · rw [if_pos (by omega)]
    go_enter Try.func5, Try.ntmps5
    go_wp2
    go_ret
    exact ⟨rfl, hb⟩
  · skip
    by_cases q1 : z - a0.size - a1.size < 0
    · rw [if_pos (by omega)]
      go_enter Try.func5, Try.ntmps5
      go_wp2
      go_ret
      exact ⟨rfl, hb⟩
    · skip
      rw [if_neg (by omega)]
      go_enter Try.func5, Try.ntmps5
      go_wp2
      go_ret
      exact ⟨by go_num, hb⟩
/-- what is left of a bound behind a list: -1 where it is too large -/
def SzDialect (c : Nat) (left : Int) (z : Int) : Prop := (z = -1 ∧ left < (c : Int)) ∨ (0 ≤ z ∧ z + (c : Int) = left)

end Go.Proofs.Ytkhkpjnpjgnckaa
