/- Settings for a shell: the program's EnvEscape. -/
import Derived.Test.YtkhkpjnpjgnckaaProg
import Derived.Test.YtkhkpjnpjgnckaaPlain
import Derived.Test.YtkhkpjnpjgnckaaCut
import Derived.Test.YtkhkpjnpjgnckaaEscList
import Derived.Test.YtkhkpjnpjgnckaaEscMarks
import Derived.Test.YtkhkpjnpjgnckaaEnvEscPure
import Derived.WalkKit
import Derived.WalkLawsBesides
import Derived.Laws.IdiomStrings
import Derived.Lib.Hide
import Derived.IntWalk
set_option maxRecDepth 100000
namespace Go.Proofs.Ytkhkpjnpjgnckaa
open Go.RowKit Go.Sort
set_option linter.unusedVariables false

theorem escC_shell (c : UInt8) : escC ⟨#[36]⟩ c = escVC c := by
  unfold escC escVC
  have e : (c == 92 || c == 34 || hasB ⟨#[36]⟩ c) = true ↔ (c = 92 ∨ c = 34 ∨ c = 36) := by
    have h : hasB ⟨#[36]⟩ c = (c == 36) := by
      show ([36] : List UInt8).contains c = (c == 36)
      rw [List.contains_cons]
      exact Bool.or_false _
    rw [h]
    simp only [Bool.or_eq_true, beq_iff_eq]
    constructor
    · rintro ((h | h) | h)
      · exact .inl h
      · exact .inr (.inl h)
      · exact .inr (.inr h)
    · rintro (h | h | h)
      · exact .inl (.inl h)
      · exact .inl (.inr h)
      · exact .inr h
  simp only [e]
theorem escL_shell (l : List UInt8) : escL ⟨#[36]⟩ l = escVL l := by
  unfold escL escVL
  congr 1
  funext c
  exact escC_shell c
set_option maxHeartbeats 1600000 in
theorem envEscape_impl2 (s : ByteArray) (w : World) (hs : s.size ≤ 1048576) :
    Calls Try.prog 10 #[.string s] w fun e w' => e = .returned (.string (escVT s)) ∧ Below w.heap.size w w' := by
  have KM := Lib.hid (fun w => escapeMarks_impl ⟨#[36]⟩ s w hs)
  have HV : (⟨(escL ⟨#[36]⟩ s.data.toList).toArray⟩ : ByteArray) = escVT s := by rw [escL_shell]; rfl
  rw [HV] at KM
  generalize escVT s = r at *
  clear HV
  go_enter Try.func10, Try.ntmps10
  go_wp2_with fail
  refine (KM.out _).mono ?_
  rintro e w1 ⟨rfl, hb1⟩
  clear KM
  go_wp2
  go_ret
  exact ⟨rfl, hb1⟩

end Go.Proofs.Ytkhkpjnpjgnckaa
