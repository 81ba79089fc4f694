/- The walk of the exact law of DecText. -/
import Derived.Test.YtkhcdopnohbieaaDoorProg
import Derived.Test.YtkhcdopnohbieaaDoorLib
import Derived.Test.YtkhcdopnohbieaaDoorPlain
import Derived.Test.YtkhcdopnohbieaaDoorDec
import Derived.WalkKit
import Derived.WalkLawsBesides
import Derived.Lib.Hide
import Derived.Lib.LaidTab
import Derived.IntWalk
namespace Go.Proofs.YtkhcdopnohbieaaDoor
open Go.RowKit Go.Sort
set_option linter.unusedVariables false

theorem below_grow (w : World) (k : Nat) (os : Array Obj) : Below w.heap.size w (grow (w.drewN k) os) :=
  ⟨rfl, rfl, rfl, by simp [grow], fun i hi => by simp [grow, Array.getElem?_append, hi]⟩

theorem dec_impl (n : Int) (w : World) (h0 : -9223372036854775808 ≤ n) (h1 : n ≤ 9223372036854775807) (htab : Lib.TabIs Tryd.prog w "internal/strconv.uint64pow10" .u64 Lib.pow10Tab) :
    Calls Tryd.prog 10 #[.int .i64 n] w fun e w' => e = .returned (.string ⟨(Lib.itoa n).toArray⟩) ∧ Below w.heap.size w w' := by
  have HT := Lib.hid htab
  clear htab
  go_enter Tryd.func10, Tryd.ntmps10
  go_wp2_with fail
  refine (Tryd.strconv_Itoa n h0 h1 w HT.out).mono ?_
  rintro e w2 ⟨rfl, k, os, rfl⟩
  have hb := below_grow w k os
  generalize grow (w.drewN k) os = w3 at *
  go_wp2
  go_ret
  exact ⟨rfl, hb⟩

theorem fnExactDecText_walk (a0 : Int) (w0 : (Lit.int .i64 a0).wf = true) (w : World) (htab : Lib.TabIs Tryd.prog w "internal/strconv.uint64pow10" .u64 Lib.pow10Tab) :
    Calls Tryd.prog 5 #[.int .i64 a0] w fun e w' => e = .returned (.bool true) ∧ Below w.heap.size w w' := by
  have hx : -9223372036854775808 ≤ a0 ∧ a0 ≤ 9223372036854775807 := by simpa [Lit.wf, IntKind.min, IntKind.max, IntKind.signed, IntKind.bits] using w0
  have HT := Lib.hid htab
  obtain ⟨hx0, hx1⟩ := hx
  clear w0 htab
  go_enter Tryd.func5, Tryd.ntmps5
  go_wp2_with fail
  refine (dec_spec a0 _ hx0 hx1).mono ?_
  rintro e w2 ⟨rfl, rfl⟩
  go_wp2_with fail
  refine (dec_impl a0 _ hx0 hx1 HT.out).mono ?_
  rintro e w3 ⟨rfl, hb⟩
  generalize Lib.itoa a0 = v
  go_wp2
  all_goals first | (exfalso; simp_all; done) | (go_ret; exact ⟨rfl, hb⟩)

end Go.Proofs.YtkhcdopnohbieaaDoor
