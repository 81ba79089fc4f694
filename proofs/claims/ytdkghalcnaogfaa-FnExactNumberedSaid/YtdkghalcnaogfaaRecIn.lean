/- A list of Rec that comes in as an argument. -/
import Derived.Test.YtdkghalcnaogfaaProg
import Derived.Test.YtdkghalcnaogfaaRows0
import Derived.Test.YtdkghalcnaogfaaRowsIn
import Derived.Test.YtdkghalcnaogfaaRecRows
import Derived.Test.YtdkghalcnaogfaaRecArg
import Derived.WalkKit
import Derived.ProofKit
import Derived.OpenShut
import Derived.ShutString
import Derived.Below
namespace Go.Proofs.Ytdkghalcnaogfaa
open Go.ChangeShapes Go.WideShapes Go.ChangeAt Go.RowKit
set_option linter.unusedVariables false

theorem rec_cells {H : Type} {enc : TypeId × Value → H} {W : World} (n : Nat) (cs : List Value) (x : DataW H × List MemPlace) (h : DataW.trod enc Try.prog W 0 (fun _ => true) true n 76 cs = some x) (hl : cs.length = 6) : ∃ y : RecD, cs = recCs y ∧ fitsRec y := by
  obtain ⟨u0, hu0⟩ := cells_of_length hl 0 (by decide)
  obtain ⟨_, _, r0⟩ := field_of Try.underlying76 h 0 _ rfl (by kernel_rfl) rfl u0 hu0
  obtain ⟨a0, rfl, b0⟩ := field_int Try.underlying3 r0
  obtain ⟨u1, hu1⟩ := cells_of_length hl 1 (by decide)
  obtain ⟨_, _, r1⟩ := field_of Try.underlying76 h 1 _ rfl (by kernel_rfl) rfl u1 hu1
  obtain ⟨a1, rfl, b1⟩ := field_string Try.underlying9 r1
  obtain ⟨u2, hu2⟩ := cells_of_length hl 2 (by decide)
  obtain ⟨_, _, r2⟩ := field_of Try.underlying76 h 2 _ rfl (by kernel_rfl) rfl u2 hu2
  obtain ⟨a2, rfl, b2⟩ := field_string Try.underlying9 r2
  obtain ⟨u3, hu3⟩ := cells_of_length hl 3 (by decide)
  obtain ⟨_, _, r3⟩ := field_of Try.underlying76 h 3 _ rfl (by kernel_rfl) rfl u3 hu3
  obtain ⟨a3, rfl, b3⟩ := field_string Try.underlying9 r3
  obtain ⟨u4, hu4⟩ := cells_of_length hl 4 (by decide)
  obtain ⟨_, _, r4⟩ := field_of Try.underlying76 h 4 _ rfl (by kernel_rfl) rfl u4 hu4
  obtain ⟨a4, rfl, b4⟩ := field_string Try.underlying9 r4
  obtain ⟨u5, hu5⟩ := cells_of_length hl 5 (by decide)
  obtain ⟨_, _, r5⟩ := field_of Try.underlying76 h 5 _ rfl (by kernel_rfl) rfl u5 hu5
  obtain ⟨a5, rfl, b5⟩ := field_int Try.underlying3 r5
  refine ⟨⟨a0, a1, a2, a3, a4, a5⟩, ?_, ⟨b0, b1, b2, b3, b4, b5⟩⟩
  apply List.ext_getElem?
  intro j
  rcases (show j = 0 ∨ j = 1 ∨ j = 2 ∨ j = 3 ∨ j = 4 ∨ j = 5 ∨ 6 ≤ j by omega) with rfl | rfl | rfl | rfl | rfl | rfl | hj
  · exact hu0
  · exact hu1
  · exact hu2
  · exact hu3
  · exact hu4
  · exact hu5
  · rw [List.getElem?_eq_none (by omega), List.getElem?_eq_none (by simp [recCs]; omega)]

theorem recs_arg {H : Type} {enc : TypeId × Value → H} {W : World} {base : Nat} {v : Value} {d : DataW H} {ps : List MemPlace} (hv : Value.okWide Try.prog W .any base 39 v)
    (h : DataW.Trod enc Try.prog W 0 (fun _ => true) true 39 v d ps) :
    ∃ (g o : Nat) (l : List RecD), RowsRd recS W v g o l ∧ l.length ≤ maxLen ∧ ∀ i (h : i < l.length), fitsRec l[i] :=
  rows_arg recS fitsRec Try.underlying39 (by kernel_rfl) (fun n cs x h hl => rec_cells n cs x h hl) hv h

end Go.Proofs.Ytdkghalcnaogfaa
