/- The program's Trim. -/
import Derived.Shelf.Strings.SlTrimAscii
import Derived.Test.YtkhkpjnpjgnckaaGreatDoorProg
import Derived.Test.YtkhkpjnpjgnckaaGreatDoorPlain
import Derived.Test.YtkhkpjnpjgnckaaGreatDoorTrim
import Derived.Test.YtkhkpjnpjgnckaaGreatDoorEnvLay
import Derived.Test.YtkhkpjnpjgnckaaGreatDoorEnvOne
import Derived.WalkKit
import Derived.WalkLawsBesides
import Derived.Lib.Hide
import Derived.IntWalk
namespace Go.Proofs.YtkhkpjnpjgnckaaGreatDoor
open Go.RowKit
set_option linter.unusedVariables false

theorem ascii_twoE : ∀ (j : Nat) b, (⟨#[32, 9]⟩ : ByteArray).data.toList[j]? = some b → b.toNat < 128 := by
  intro j b h
  have : b ∈ ([32, 9] : List UInt8) := List.mem_of_getElem? h
  simp only [List.mem_cons, List.not_mem_nil, or_false] at this
  rcases this with rfl | rfl <;> decide
theorem trimE_impl (s : ByteArray) (w : World) (hs : s.size ≤ 100000000) :
    Calls Tryz.prog 67 #[.string s] w fun e w' => e = .returned (.string (trimE s)) ∧ Below w.heap.size w w' := by
  go_enter Tryz.func67, Tryz.ntmps67
  go_wp2_with fail
  refine (Any.strings_Trim_laid lays160 (by kernel_rfl) s ⟨#[32, 9]⟩ w (by omega) (by decide) ascii_twoE).mono ?_
  rintro e w2 ⟨rfl, hb⟩
  rw [show Lib.trimS s.data.toList (⟨#[32, 9]⟩ : ByteArray).data.toList = trimL s.data.toList from rfl]
  go_wp2
  go_ret
  exact ⟨rfl, hb⟩

end Go.Proofs.YtkhkpjnpjgnckaaGreatDoor
