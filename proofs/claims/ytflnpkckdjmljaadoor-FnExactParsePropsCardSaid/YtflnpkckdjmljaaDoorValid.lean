/- The library's contract of utf8.ValidString at this program, in plain words. -/
import Derived.Test.YtflnpkckdjmljaaDoorProg
import Derived.Test.YtflnpkckdjmljaaDoorRunePure
import Derived.Test.YtflnpkckdjmljaaDoorDecodePure
import Derived.Shelf.Unicode.ValidAny
import Derived.Lib.LaidU8T
import Derived.Below
namespace Go.Proofs.YtflnpkckdjmljaaDoor
open Go.Shelf
def lays196_ren : Go.Shelf.Ren := ⟨fun | 196 => 80 | 259 => 98 | n => n, fun | 9 => 9 | 4 => 4 | 3 => 3 | 5 => 5 | 12 => 12 | 119 => 127 | 0 => 0 | 46 => 94 | 139 => 130 | 138 => 129 | 53 => 136 | n => n, fun | 3 => 0 | 4 => 1 | n => n⟩
theorem lays196 : Go.Proofs.Lays.n196 Tryd.prog lays196_ren := {
  mixed := by kernel_rfl
  f196 := Tryd.func80.trans (congrArg some (by kernel_rfl))
  f259 := Tryd.func98.trans (congrArg some (by kernel_rfl))
  t0 := Tryd.underlying0
  a0 := Tryd.isAgg0
  z0 := Tryd.sizeOf0
  v0 := Tryd.zeroValue0
  t3 := Tryd.underlying3
  a3 := Tryd.isAgg3
  z3 := Tryd.sizeOf3
  v3 := Tryd.zeroValue3
  t4 := Tryd.underlying4
  a4 := Tryd.isAgg4
  z4 := Tryd.sizeOf4
  v4 := Tryd.zeroValue4
  t5 := Tryd.underlying5
  a5 := Tryd.isAgg5
  z5 := Tryd.sizeOf5
  v5 := Tryd.zeroValue5
  t9 := Tryd.underlying9
  a9 := Tryd.isAgg9
  z9 := Tryd.sizeOf9
  v9 := Tryd.zeroValue9
  t12 := Tryd.underlying12
  a12 := Tryd.isAgg12
  z12 := Tryd.sizeOf12
  v12 := Tryd.zeroValue12
  t46 := Tryd.underlying94
  a46 := Tryd.isAgg94
  z46 := Tryd.sizeOf94
  v46 := Tryd.zeroValue94
  t53 := Tryd.underlying136
  a53 := Tryd.isAgg136
  z53 := Tryd.sizeOf136
  v53 := Tryd.zeroValue136
  t119 := Tryd.underlying127
  a119 := Tryd.isAgg127
  z119 := Tryd.sizeOf127
  t138 := Tryd.underlying129
  a138 := Tryd.isAgg129
  z138 := Tryd.sizeOf129
  v138 := Tryd.zeroValue129
  t139 := Tryd.underlying130
  a139 := Tryd.isAgg130
  z139 := Tryd.sizeOf130
  v139 := Tryd.zeroValue130
  g3 := by kernel_rfl
  g4 := by kernel_rfl }
/-- the library's two tables hold what its text lays -/
abbrev TabsV (w : World) : Prop := Lib.Utf8Tabs 0 1 w
open Go.RowKit in
theorem tabs_over {w w' : World} (h : TabsV w) (hb : Below w.heap.size w w') : TabsV w' := Utf8Tabs_below h hb
open Go.RowKit in
theorem valid_lib (s : ByteArray) (w : World) (hs : s.size ≤ 9223372036854775807) (hT : TabsV w) :
    Calls Tryd.prog 80 #[.string s] w fun e w' => e = .returned (.bool (signsL s.data.toList).isSome) ∧ Below w.heap.size w w' := by
  rw [← valid_signs]
  exact Any.utf8_ValidString lays196 s w hs hT
end Go.Proofs.YtflnpkckdjmljaaDoor
