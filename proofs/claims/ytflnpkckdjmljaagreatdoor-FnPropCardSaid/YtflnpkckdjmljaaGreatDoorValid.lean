/- The library's contract of utf8.ValidString at this program, in plain words. -/
import Derived.Test.YtflnpkckdjmljaaGreatDoorProg
import Derived.Test.YtflnpkckdjmljaaGreatDoorRunePure
import Derived.Test.YtflnpkckdjmljaaGreatDoorDecodePure
import Derived.Shelf.Unicode.ValidAny
import Derived.Lib.LaidU8T
import Derived.Below
namespace Go.Proofs.YtflnpkckdjmljaaGreatDoor
open Go.Shelf
def lays196_ren : Go.Shelf.Ren := ⟨fun | 196 => 71 | 259 => 88 | n => n, fun | 9 => 9 | 4 => 4 | 3 => 3 | 5 => 5 | 12 => 12 | 119 => 107 | 0 => 0 | 46 => 104 | 139 => 110 | 138 => 109 | 53 => 122 | n => n, fun | 3 => 0 | 4 => 1 | n => n⟩
theorem lays196 : Go.Proofs.Lays.n196 Tryz.prog lays196_ren := {
  mixed := by kernel_rfl
  f196 := Tryz.func71.trans (congrArg some (by kernel_rfl))
  f259 := Tryz.func88.trans (congrArg some (by kernel_rfl))
  t0 := Tryz.underlying0
  a0 := Tryz.isAgg0
  z0 := Tryz.sizeOf0
  v0 := Tryz.zeroValue0
  t3 := Tryz.underlying3
  a3 := Tryz.isAgg3
  z3 := Tryz.sizeOf3
  v3 := Tryz.zeroValue3
  t4 := Tryz.underlying4
  a4 := Tryz.isAgg4
  z4 := Tryz.sizeOf4
  v4 := Tryz.zeroValue4
  t5 := Tryz.underlying5
  a5 := Tryz.isAgg5
  z5 := Tryz.sizeOf5
  v5 := Tryz.zeroValue5
  t9 := Tryz.underlying9
  a9 := Tryz.isAgg9
  z9 := Tryz.sizeOf9
  v9 := Tryz.zeroValue9
  t12 := Tryz.underlying12
  a12 := Tryz.isAgg12
  z12 := Tryz.sizeOf12
  v12 := Tryz.zeroValue12
  t46 := Tryz.underlying104
  a46 := Tryz.isAgg104
  z46 := Tryz.sizeOf104
  v46 := Tryz.zeroValue104
  t53 := Tryz.underlying122
  a53 := Tryz.isAgg122
  z53 := Tryz.sizeOf122
  v53 := Tryz.zeroValue122
  t119 := Tryz.underlying107
  a119 := Tryz.isAgg107
  z119 := Tryz.sizeOf107
  t138 := Tryz.underlying109
  a138 := Tryz.isAgg109
  z138 := Tryz.sizeOf109
  v138 := Tryz.zeroValue109
  t139 := Tryz.underlying110
  a139 := Tryz.isAgg110
  z139 := Tryz.sizeOf110
  v139 := Tryz.zeroValue110
  g3 := by kernel_rfl
  g4 := by kernel_rfl }
/-- the library's two tables hold what its text lays -/
abbrev TabsV (w : World) : Prop := Lib.Utf8Tabs 0 1 w
open Go.RowKit in
theorem tabs_over {w w' : World} (h : TabsV w) (hb : Below w.heap.size w w') : TabsV w' := Utf8Tabs_below h hb
open Go.RowKit in
theorem valid_lib (s : ByteArray) (w : World) (hs : s.size ≤ 9223372036854775807) (hT : TabsV w) :
    Calls Tryz.prog 71 #[.string s] w fun e w' => e = .returned (.bool (signsL s.data.toList).isSome) ∧ Below w.heap.size w w' := by
  rw [← valid_signs]
  exact Any.utf8_ValidString lays196 s w hs hT
end Go.Proofs.YtflnpkckdjmljaaGreatDoor
