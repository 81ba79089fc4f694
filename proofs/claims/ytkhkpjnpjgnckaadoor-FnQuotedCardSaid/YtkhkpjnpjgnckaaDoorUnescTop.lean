/- Escapes taken back: the program's Unescape, which recovers. -/
import Derived.Test.YtkhkpjnpjgnckaaDoorProg
import Derived.Test.YtkhkpjnpjgnckaaDoorPlain
import Derived.Test.YtkhkpjnpjgnckaaDoorDialectRows
import Derived.Test.YtkhkpjnpjgnckaaDoorUnescSpec
import Derived.Test.YtkhkpjnpjgnckaaDoorUnescImpl
import Derived.Test.YtkhkpjnpjgnckaaDoorUnescRun
import Derived.WalkKit
import Derived.WalkLawsBesides
import Derived.Tactics
import Derived.Tactics2
import Derived.Defers
import Derived.Recover
import Derived.Lib.Hide
import Derived.IntWalk
set_option maxRecDepth 100000
namespace Go.Proofs.YtkhkpjnpjgnckaaDoor
open Go.RowKit
set_option linter.unusedVariables false

theorem unCatch_panicking (u : TypeId) (pv : Value) (older : List PanicEntry) (w : World) :
    CallsD Tryd.prog 33 #[] (.panicking ({ v := .iface u pv, recovered := false } :: older)) w fun e u' w' =>
      e = .returned (.tuple #[]) ∧ u' = .panicking ({ v := .iface u pv, recovered := true } :: older) ∧ w' = w := by
  refine callsD_of_wpS Tryd.func33 rfl fun c₀ cs hu => ?_
  apply wpS_region
  simp [wpOpsS, go_sem, recoverD, hu, Tryd.ntmps33, Exit.thenS, bodyPostS, results, Tryd.results33]
theorem unCatch_idle (w : World) :
    CallsD Tryd.prog 33 #[] .returning w fun e u' w' => e = .returned (.tuple #[]) ∧ u' = .returning ∧ w' = w := by
  refine callsD_of_wpS Tryd.func33 rfl fun c₀ cs hu => ?_
  apply wpS_region
  simp [wpOpsS, go_sem, recoverD, hu, Tryd.ntmps33, Exit.thenS, bodyPostS, results, Tryd.results33]
  cases c₀
  simp_all

set_option maxRecDepth 100000 in
set_option maxHeartbeats 3200000 in
theorem unescape_impl (d : DialectD) (s : ByteArray) (w : World) (hs : s.size ≤ 1048576) :
    Calls Tryd.prog 12 #[.string s, dialectV d] w fun e w' => e = .returned (.tuple #[.string (unT d.esc s).1, .bool (unT d.esc s).2]) ∧ Below w.heap.size w w' := by
  have K := Lib.hid (fun w => replaceEscapes_impl s w hs)
  obtain ⟨d0, d1, d2, d3, d4, d5⟩ := d
  unfold dialectV
  simp only
  have hb0 := (Below.refl w.heap.size w).alloc (Nat.le_refl _) (.cells #[.string d0, .string d1, .bool d2, .bool d3, .bool d4, .int .i64 d5] 25)
  have hmf : ∀ (fn : Fn) (first cap : Array Value) (w : World), (Instr.makeFunc fn first cap).run Tryd.prog w = .ok (.func fn first cap) w := fun _ _ _ _ => rfl
  cases d4
  · rw [unT_off]
    clear K
    go_enter_defers Tryd.func12, Tryd.ntmps12
    go_wp2
    simp [bodyPostD, Leaves, settle, results, Tryd.results12, go_sem]
    exact hb0
  · go_enter_defers Tryd.func12, Tryd.ntmps12
    go_wp2_with fail
    refine (K.out _).mono ?_
    rintro e w1 ⟨hE, hb1⟩
    have hb2 := hb0.trans (hb1.mono hb0.size)
    rcases hE with ⟨l, hl, rfl⟩ | ⟨hn, v, rfl⟩
    · have HU := Lib.hid (unT_good hl)
      clear hl K hb0 hb1
      go_wp2
      refine leaves_cons (f := 33) (args := #[]) (by simp) (by simp [go_sem]) ?_
      refine (unCatch_idle _).mono ?_
      rintro e u' w'' ⟨rfl, rfl, rfl⟩
      dsimp only
      rw [HU.out]
      simp [Leaves, settle, results, Tryd.results12, go_sem]
      exact hb2
    · have HU := Lib.hid (unT_bad hn)
      clear hn K hb0 hb1
      go_wp2
      refine leaves_cons (f := 33) (args := #[]) (by simp) (by simp [go_sem]) ?_
      refine (unCatch_panicking _ _ _ _).mono ?_
      rintro e u' w'' ⟨rfl, rfl, rfl⟩
      dsimp only
      rw [HU.out]
      simp [Leaves, settle, results, Tryd.results12, go_sem]
      exact hb2

end Go.Proofs.YtkhkpjnpjgnckaaDoor
