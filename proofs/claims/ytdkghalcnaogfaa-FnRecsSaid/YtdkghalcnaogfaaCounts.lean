/- Maps of counts: a map from texts to numbers in a block of the call's own. -/
import Derived.Test.YtdkghalcnaogfaaProg
import Derived.Test.YtdkghalcnaogfaaPlain
import Derived.WalkKit
import Derived.WalkLawsBesides
import Derived.Maps.Own
import Derived.Maps.OwnOps
import Derived.Maps.Views
import Derived.Maps.OwnSet
import Derived.WalkArith
import Derived.Lib.Hide
namespace Go.Proofs.Ytdkghalcnaogfaa
open Go.RowKit Go.Maps Go.WideMaps
set_option linter.unusedVariables false

/-! counts in a map -/
theorem keyedS : Keyed Try.prog 9 := string_keyed Try.underlying9
theorem zeroI (w : World) : (zeroValue 3).run Try.prog w = .ok (.int .i64 0) w := by kernel_rfl
/-- a map in block B that tells c for every text -/
def CountsAt (w : World) (B n : Nat) (c : ByteArray → Nat) : Prop :=
  ∃ D : DataW Unit, w.ownsMap Try.prog 9 (plainElem Try.prog 3) B n D ∧ ∀ e : ByteArray, D.atKey (.string e.data.toList) (.lit (.int .i64 0)) = .lit (.int .i64 ((c e : Nat) : Int))
theorem CountsAt.kept {w w' : World} {B n : Nat} {c : ByteArray → Nat} {row : Option Nat} (h : CountsAt w B n c) (hg : w.grownBy w' row) (hne : some B ≠ row) : CountsAt w' B n c := by
  obtain ⟨D, h1, h2⟩ := h
  exact ⟨D, h1.kept hg hne, h2⟩
theorem CountsAt.alloc {w : World} {B n : Nat} {c : ByteArray → Nat} (h : CountsAt w B n c) (o : Obj) : CountsAt (w.alloc o) B n c := by
  obtain ⟨D, h1, h2⟩ := h
  exact ⟨D, h1.alloc o, h2⟩
theorem CountsAt.drewN {w : World} {B n : Nat} {c : ByteArray → Nat} (h : CountsAt w B n c) (k : Nat) : CountsAt (w.drewN k) B n c := by
  obtain ⟨D, h1, h2⟩ := h
  exact ⟨D, h1.kept (row := none) ⟨rfl, rfl, rfl, Nat.le_refl _, fun _ _ _ => rfl⟩ (by simp), h2⟩
theorem CountsAt.look {w : World} {B n : Nat} {c : ByteArray → Nat} (h : CountsAt w B n c) (x : ByteArray) (hx : x.size ≤ maxLen) :
    (Instr.lookup 67 (.map (some B)) (.string x) false).run Try.prog w = .ok (.int .i64 ((c x : Nat) : Int)) w := by
  obtain ⟨D, h1, h2⟩ := h
  obtain ⟨v, hrun, hat, _⟩ := h1.lookup_int keyedS Try.underlying67 Try.underlying3 (zeroI _) (keyOf_string_mk Try.underlying9 hx)
  rw [h2] at hat
  injection hat with hat
  injection hat with _ hat
  rw [hrun, hat]
theorem counts_start (w : World) : CountsAt (w.alloc (.map #[] 0)) w.heap.size 0 (fun _ => 0) := by
  refine ⟨.map [], World.ownsMap_made _ _ _ _, fun e => ?_⟩
  exact Go.WideAt.atKey_none _ (fun p hp => by cases hp)
theorem counts_put {w : World} {B n : Nat} {D : DataW Unit} {c : ByteArray → Nat} {x : ByteArray} (h1 : w.ownsMap Try.prog 9 (plainElem Try.prog 3) B (n + 1) (D.put (.string x.data.toList) (.lit (.int .i64 ((c x : Nat) + 1 : Int)))))
    (hm : IsMap D) (h2 : ∀ e : ByteArray, D.atKey (.string e.data.toList) (.lit (.int .i64 0)) = .lit (.int .i64 ((c e : Nat) : Int))) : CountsAt w B (n + 1) (fun e => c e + (if x = e then 1 else 0)) := by
  refine ⟨_, h1, fun e => ?_⟩
  by_cases he : x = e
  · subst he
    rw [atKey_put_same (k := .string x.data.toList) hm (show WideAt.IsKeyLit (.string x.data.toList) from trivial)]
    simp
  · rw [atKey_put_other (fun e2 => he (ByteArray.ext (Array.toList_inj.1 (by injection e2 with e3; exact e3.symm)))), h2]
    simp [he]

theorem CountsAt.over {w w' : World} {B n : Nat} {c : ByteArray → Nat} (h : CountsAt w B n c) (hb : Below w.heap.size w w') : CountsAt w' B n c :=
  h.kept (row := none) ⟨hb.os, hb.tape, hb.output, hb.size, fun k hk _ => hb.block k hk⟩ (by simp)

end Go.Proofs.Ytdkghalcnaogfaa
