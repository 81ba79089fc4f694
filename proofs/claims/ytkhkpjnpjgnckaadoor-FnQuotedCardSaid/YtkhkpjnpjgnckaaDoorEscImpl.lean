/- Escapes put: the program's contract of Escape. -/
import Derived.Test.YtkhkpjnpjgnckaaDoorProg
import Derived.Test.YtkhkpjnpjgnckaaDoorPlain
import Derived.Test.YtkhkpjnpjgnckaaDoorDialectRows
import Derived.Test.YtkhkpjnpjgnckaaDoorEscList
import Derived.Test.YtkhkpjnpjgnckaaDoorEscSpec
import Derived.Test.YtkhkpjnpjgnckaaDoorEscMarks
import Derived.WalkKit
import Derived.WalkLawsBesides
import Derived.Laws.IdiomStrings
import Derived.Lib.Hide
import Derived.IntWalk
set_option maxRecDepth 100000
namespace Go.Proofs.YtkhkpjnpjgnckaaDoor
open Go.RowKit Go.Sort
set_option linter.unusedVariables false

set_option maxHeartbeats 1600000 in
theorem escape_impl (d : DialectD) (s : ByteArray) (w : World) (hs : s.size ≤ 1048576) :
    Calls Tryd.prog 15 #[.string s, dialectV d] w fun e w' => e = .returned (.string (escT d s)) ∧ Below w.heap.size w w' := by
  have KM := Lib.hid (fun w => escapeMarks_impl d.notes s w hs)
  have HV : Hid (escT d s = if d.esc then ⟨(escL d.notes s.data.toList).toArray⟩ else s) := rfl
  generalize escT d s = r at *
  generalize (⟨(escL d.notes s.data.toList).toArray⟩ : ByteArray) = m at *
  have hb0 := (Below.refl w.heap.size w).alloc (Nat.le_refl _) (.cells #[.string d.notes, .string d.seps, .bool d.inl, .bool d.quo, .bool d.esc, .int .i64 d.join] 25)
  obtain ⟨d0, d1, d2, d3, d4, d5⟩ := d
  unfold dialectV at *
  simp only at KM HV hb0 ⊢
  cases d4
  · have HR : Hid (r = s) := HV.out
    clear KM HV
    go_enter Tryd.func15, Tryd.ntmps15
    go_wp2
    go_ret
    exact ⟨by rw [HR.out]; rfl, hb0⟩
  · have HR : Hid (r = m) := HV.out
    clear HV
    go_enter Tryd.func15, Tryd.ntmps15
    go_wp2_with fail
    refine (KM.out _).mono ?_
    rintro e w1 ⟨rfl, hb1⟩
    have hb2 := hb0.trans (hb1.mono hb0.size)
    clear hb0 hb1 KM
    go_wp2
    go_ret
    exact ⟨by rw [HR.out]; rfl, hb2⟩

end Go.Proofs.YtkhkpjnpjgnckaaDoor
