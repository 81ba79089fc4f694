/- A list of Dialect that comes in as an argument. -/
import Derived.Test.YtkhkpjnpjgnckaaProg
import Derived.Test.YtkhkpjnpjgnckaaRows0
import Derived.Test.YtkhkpjnpjgnckaaRowsIn
import Derived.Test.YtkhkpjnpjgnckaaDialectRows
import Derived.Test.YtkhkpjnpjgnckaaDialectArg
import Derived.WalkKit
import Derived.ProofKit
import Derived.OpenShut
import Derived.ShutString
import Derived.Below
namespace Go.Proofs.Ytkhkpjnpjgnckaa
open Go.ChangeShapes Go.WideShapes Go.ChangeAt Go.RowKit
set_option linter.unusedVariables false

set_option maxRecDepth 100000 in
theorem dialect_cells {H : Type} {enc : TypeId × Value → H} {W : World} (n : Nat) (cs : List Value) (x : DataW H × List MemPlace) (h : DataW.trod enc Try.prog W 0 (fun _ => true) true n 23 cs = some x) (hl : cs.length = 6) : ∃ y : DialectD, cs = dialectCs y ∧ fitsDialect y := by
  obtain ⟨u0, hu0⟩ := cells_of_length hl 0 (by decide)
  obtain ⟨_, _, r0⟩ := field_of Try.underlying23 h 0 _ rfl (by kernel_rfl) rfl u0 hu0
  obtain ⟨a0, rfl, b0⟩ := field_string Try.underlying9 r0
  obtain ⟨u1, hu1⟩ := cells_of_length hl 1 (by decide)
  obtain ⟨_, _, r1⟩ := field_of Try.underlying23 h 1 _ rfl (by kernel_rfl) rfl u1 hu1
  obtain ⟨a1, rfl, b1⟩ := field_string Try.underlying9 r1
  obtain ⟨u2, hu2⟩ := cells_of_length hl 2 (by decide)
  obtain ⟨_, _, r2⟩ := field_of Try.underlying23 h 2 _ rfl (by kernel_rfl) rfl u2 hu2
  obtain ⟨a2, rfl⟩ := field_bool Try.underlying4 r2
  obtain ⟨u3, hu3⟩ := cells_of_length hl 3 (by decide)
  obtain ⟨_, _, r3⟩ := field_of Try.underlying23 h 3 _ rfl (by kernel_rfl) rfl u3 hu3
  obtain ⟨a3, rfl⟩ := field_bool Try.underlying4 r3
  obtain ⟨u4, hu4⟩ := cells_of_length hl 4 (by decide)
  obtain ⟨_, _, r4⟩ := field_of Try.underlying23 h 4 _ rfl (by kernel_rfl) rfl u4 hu4
  obtain ⟨a4, rfl⟩ := field_bool Try.underlying4 r4
  obtain ⟨u5, hu5⟩ := cells_of_length hl 5 (by decide)
  obtain ⟨_, _, r5⟩ := field_of Try.underlying23 h 5 _ rfl (by kernel_rfl) rfl u5 hu5
  obtain ⟨a5, rfl, b5⟩ := field_int Try.underlying3 r5
  refine ⟨⟨a0, a1, a2, a3, a4, a5⟩, ?_, ⟨b0, b1, b5⟩⟩
  apply List.ext_getElem?
  intro j
  rcases (show j = 0 ∨ j = 1 ∨ j = 2 ∨ j = 3 ∨ j = 4 ∨ j = 5 ∨ 6 ≤ j by omega) with rfl | rfl | rfl | rfl | rfl | rfl | hj
  · exact hu0
  · exact hu1
  · exact hu2
  · exact hu3
  · exact hu4
  · exact hu5
  · rw [List.getElem?_eq_none (by omega), List.getElem?_eq_none (by simp [dialectCs]; omega)]

set_option maxRecDepth 100000 in
theorem dialect_arg1 {H : Type} {enc : TypeId × Value → H} {W : World} {base : Nat} {v : Value} {d : DataW H} {ps : List MemPlace} (hv : Value.okWide Try.prog W .any base 23 v)
    (h : DataW.Trod enc Try.prog W 0 (fun _ => true) true 23 v d ps) : ∃ y : DialectD, v = dialectV y ∧ fitsDialect y := by
  obtain ⟨cs, rfl, hsz⟩ := okWide_struct Try.underlying23 hv
  obtain ⟨fuel, hf⟩ := h
  have hl : (Value.cells (.agg cs)).toList.length = 6 := by
    have : Try.prog.cellsOf 23 = 6 := by kernel_rfl
    simp [Value.cells, hsz, this]
  obtain ⟨y, hy, hfit⟩ := dialect_cells fuel _ _ hf hl
  refine ⟨y, ?_, hfit⟩
  unfold dialectV
  congr 1
  apply Array.toList_inj.1
  exact hy


end Go.Proofs.Ytkhkpjnpjgnckaa
