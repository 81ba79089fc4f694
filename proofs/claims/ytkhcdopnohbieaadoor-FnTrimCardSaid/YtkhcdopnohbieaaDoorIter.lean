/- The iterator over the parts of a text, and the two functions that gather them. -/
import Derived.Test.YtkhcdopnohbieaaDoorProg
import Derived.Test.YtkhcdopnohbieaaDoorPlain
import Derived.Test.YtkhcdopnohbieaaDoorCut
import Derived.Test.YtkhcdopnohbieaaDoorTexts
import Derived.Test.YtkhcdopnohbieaaDoorSplit
import Derived.RangeFuncBox
import Derived.RangeFuncNested
import Derived.RangeFuncBound
import Derived.RangeFuncCalls
import Derived.RangeFuncLeaves
import Derived.Shelf.Abstract
import Derived.Shelf.RegionOpen
import Derived.WalkKit
import Derived.OwnWalkIn
import Derived.TacticsInMore
import Derived.LoopNIn
import Derived.LoopIn
import Derived.Maps.AppendAt
import Derived.BigQuiet
import Derived.Deep.QuietTactic
import Derived.Lib.QuietBelow
import Derived.Lib.Hide
namespace Go.Proofs.YtkhcdopnohbieaaDoor
open Go.RowKit Go.Shelf Go.Sort
set_option linter.unusedVariables false
attribute [local go_sem] Oper.semAt_some

/-- what a round of the loop leaves as it was: all blocks below n₀ but the one of the list's variable -/
def KeepAll (n₀ L : Nat) (W W' : World) : Prop := W.heap.size ≤ W'.heap.size ∧ ∀ k, k < n₀ → k ≠ L → W'.heap[k]? = W.heap[k]?
theorem KeepAll.t {n₀ L : Nat} {A B C : World} (h : KeepAll n₀ L A B) (k : KeepAll n₀ L B C) : KeepAll n₀ L A C :=
  ⟨Nat.le_trans h.1 k.1, fun i h1 h2 => (k.2 i h1 h2).trans (h.2 i h1 h2)⟩
theorem KeepAll.b {n₀ L : Nat} {w : World} (hn : n₀ ≤ w.heap.size) (W : World) (l : Nat) (o o' : Obj) (hl : w.heap.size ≤ l) (h : W.heap[l]? = some o) (_ : o.isCells = false) (_ : o.isWalk = false) : KeepAll n₀ L W (W.putObj l o') := by
  have hg := grownBy_putObj' W l o'
  exact ⟨hg.size, fun k hk _ => hg.block k (by have := (Array.getElem?_eq_some_iff.1 h).1; omega) (by intro e; cases e; omega)⟩
theorem KeepAll.boxed {n₀ L B t : Nat} {W W' : World} {v : Value} (h : KeepAll n₀ L W W') (hb : Boxed W B t v) (h1 : B < n₀) (h2 : B ≠ L) : Boxed W' B t v := (h.2 B h1 h2).trans hb

/-- a text is gathered -/
theorem gathered {W w1 : World} {n₀ L : Nat} {t e : TypeId} {v v' : Value} {k m : Nat} {xs ys : List Value} {tmp : Obj}
    (hv : Boxed W L t v) (hL : L < n₀) (hrow : W.ownsRow n₀ e 1 v k xs) (hn₀ : n₀ ≤ W.heap.size)
    (hown' : w1.ownsRow n₀ e 1 v' m ys) (hgrow : (W.alloc tmp).grownBy w1 v.ownBlock) :
    Boxed w1 L t v ∧ Boxed (w1.setCell ⟨L, 0, none⟩ v') L t v' ∧ (w1.setCell ⟨L, 0, none⟩ v').ownsRow n₀ e 1 v' m ys ∧ KeepsOthers W (w1.setCell ⟨L, 0, none⟩ v') ∧ KeepAll n₀ L W (w1.setCell ⟨L, 0, none⟩ v') ∧
      ∀ B, B ≤ L → Below B W (w1.setCell ⟨L, 0, none⟩ v') := by
  have hob := own_block hrow
  have hv1 : Boxed w1 L t v := (hv.alloc tmp).kept hgrow (by intro e'; have := hob L e'.symm; omega)
  refine ⟨hv1, hv1.set v', ownsRow_setCell_below hown' (a := ⟨L, 0, none⟩) hL v', ?_, ?_, ?_⟩
  · refine ((KeepsOthers.alloc W tmp).trans (KeepsOthers.of_grownBy hgrow fun j o ej hj => ?_)).trans (KeepsOthers.setCell _ _ _)
    rcases (hrow.alloc tmp).2 with ⟨rfl, _⟩ | ⟨g, cap, cur, rfl, _, hgb, _⟩
    · simp [Value.ownBlock] at ej
    · obtain rfl : g = j := by simpa [Value.ownBlock] using ej
      rw [hgb] at hj; cases hj; rfl
  · refine ⟨Nat.le_trans (Nat.le_trans (by simp) hgrow.size) (by simp), fun j hj hne => ?_⟩
    rw [Below.heap_setCell _ _ _ _ (show j ≠ L from hne), hgrow.block j (by simp; omega) (by intro e'; have := hob j e'.symm; omega)]
    exact Below.heap_alloc _ _ _ (by omega)
  · intro B hB
    exact (((Below.refl B W).alloc (by omega) tmp).grown hgrow (by simp; omega) (fun j ej => by have := hob j ej; omega)).setCell (p := ⟨L, 0, none⟩) hB v'

theorem own_mono {w : World} {base base' e size n : Nat} {v : Value} {xs : List Value} (h : w.ownsRow base e size v n xs) (hb : base' ≤ base) : w.ownsRow base' e size v n xs := by
  refine ⟨h.1, ?_⟩
  rcases h.2 with h | ⟨g, cap, cur, h1, h2, h3⟩
  · exact .inl h
  · exact .inr ⟨g, cap, cur, h1, by omega, h3⟩

theorem cutsTo_mono (s : ByteArray) (p : UInt8 → Bool) (k m : Nat) : (cutsTo s p k).1.length ≤ (cutsTo s p (k + m)).1.length := by
  induction m with
  | zero => exact Nat.le_refl _
  | succ m ih =>
    rw [← Nat.add_assoc]
    refine Nat.le_trans ih ?_
    simp only [cutsTo]
    split
    · split
      · simp
      · exact Nat.le_refl _
    · exact Nat.le_refl _
theorem cutsTo_few (s : ByteArray) (p : UInt8 → Bool) (k : Nat) (hk : k ≤ s.size) : (cutsTo s p k).1.length < (partsOf s p).length := by
  have := cutsTo_mono s p k (s.size - k)
  rw [Nat.add_sub_cancel' hk] at this
  simp [partsOf]
  omega

theorem parts_in (s : ByteArray) (f : Nat) (cap : Array Value) (w : World) :
    Calls Tryd.prog 34 #[.string s, .func (.func f) #[] cap] w fun e w' => e = .returned (.func (.func 52) #[] #[.pointer (some ⟨w.heap.size, 0, none⟩), .pointer (some ⟨w.heap.size + 1, 0, none⟩)]) ∧ w' = (w.alloc (.cells #[.string s] 9)).alloc (.cells #[.func (.func f) #[] cap] 56) := by
  go_enter Tryd.func34, Tryd.ntmps34
  go_wp2
  go_ret
  exact ⟨rfl, rfl⟩

end Go.Proofs.YtkhcdopnohbieaaDoor
