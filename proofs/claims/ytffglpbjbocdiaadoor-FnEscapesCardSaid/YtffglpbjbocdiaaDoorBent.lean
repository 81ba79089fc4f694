/- The contract of l01Bent: some text. -/
import Derived.Test.YtffglpbjbocdiaaDoorProg
import Derived.Test.YtffglpbjbocdiaaDoorPlain
import Derived.Test.YtffglpbjbocdiaaDoorDraw
import Derived.Test.YtffglpbjbocdiaaDoorDrawNum
import Derived.WalkKit
import Derived.WalkLawsBesides
import Derived.BigQuiet
import Derived.Deep.QuietTactic
import Derived.Deep.RegionWith
import Derived.Lib.Hide
import Derived.IntWalk
namespace Go.Proofs.YtffglpbjbocdiaaDoor
open Go.RowKit
set_option linter.unusedVariables false

def DrewT (m : Nat) (w : World) (B b : Nat) (a : Option Addr) (len cap : Nat) (e : Ending) (w' : World) : Prop :=
  ∃ s : ByteArray, s.size ≤ m ∧ e = .returned (.string s) ∧ CurAt w' B b a len cap ∧ w.grownBy w' (some b)

set_option maxHeartbeats 1600000 in
theorem bent_draw (w : World) (B b : Nat) (a : Option Addr) (len cap : Nat) (s : ByteArray) (hlen : len ≤ 1048576) (hs : s.size ≤ 1048576) (hC : CurAt w B b a len cap) :
    Calls Tryd.prog 45 #[.pointer (some ⟨b, 0, none⟩), .string s] w (DrewT (s.size + 2) w B b a len cap) := by
  go_enter Tryd.func45, Tryd.ntmps45
  go_wp2_with fail
  refine (below_draw w B b a len cap _ (by omega) hC (by omega) (by omega)).mono ?_
  rintro e w1 ⟨x, hx0, hx1, rfl, hC1, hg1⟩
  obtain ⟨i, rfl⟩ := Int.eq_ofNat_of_zero_le hx0
  have hi : i ≤ s.size := by omega
  clear hx0 hx1 hC
  go_wp2_with fail
  refine (below_draw w1 B b a len cap 10 (by omega) hC1 (by decide) (by decide)).mono ?_
  rintro e w2 ⟨y, hy0, hy1, rfl, hC2, hg2⟩
  replace hg2 := grownBy_step hg1 hg2
  clear hC1 hg1
  have hlt2 := hC2.lt
  by_cases y0 : y = 0
  · have hb0 : (y == 0) = true := by rw [y0]; rfl
    clear y0
    go_wp2
    go_ret
    exact ⟨_, by simp; omega, rfl, hC2, hg2⟩
  · have hb0 : (y == 0) = false := beq_eq_false_iff_ne.2 y0
    by_cases y1 : y = 1
    · have hb1 : (y == 1) = true := by rw [y1]; rfl
      clear y0 y1
      go_wp2_with fail
      go_region_with (go_at_call 39; refine (pick_draw _ B b a len cap w2.heap.size 12 12 1 (by omega) (hC2.alloc _).drew (by decide) (by decide) (by omega) (by simp) (texts_drew (by refine texts_alloc w2 _ _ _ _ ?_; decide +kernel))).mono ?_; rintro e w3 ⟨t, ht, rfl, hC3, hg3⟩)
      go_wp2
      go_ret
      refine ⟨_, ?_, rfl, hC3, grownBy_step (grownBy_new hg2 _) (grownBy_step (grownBy_drewN (World.grownBy.refl _ _) 1) hg3)⟩
      simp [ByteArray.size_append, ByteArray.size_extract]
      omega
    · have hb1 : (y == 1) = false := beq_eq_false_iff_ne.2 y1
      by_cases y2 : y = 2
      · have hb2 : (y == 2) = true := by rw [y2]; rfl
        clear y0 y1 y2
        by_cases hil : i < s.size
        · have hsum : (i : Int) + 1 ≤ (s.size : Int) := by omega
          have hsum0 : 0 ≤ (i : Int) + 1 := by omega
          have hwr : IntKind.i64.wrap ((i : Int) + 1) = (i : Int) + 1 := IntWalk.i64_in _ (by omega)
          have htn : ((i : Int) + 1).toNat = i + 1 := by omega
          go_wp2_with fail
          go_region_with (go_at_call 39; refine (pick_draw _ B b a len cap w2.heap.size 6 6 1 (by omega) (hC2.alloc _).drew (by decide) (by decide) (by omega) (by simp) (texts_drew (by refine texts_alloc w2 _ _ _ _ ?_; decide +kernel))).mono ?_; rintro e w3 ⟨t, ht, rfl, hC3, hg3⟩)
          go_wp2
          go_ret
          refine ⟨_, ?_, rfl, hC3, grownBy_step (grownBy_new hg2 _) (grownBy_step (grownBy_drewN (World.grownBy.refl _ _) 1) hg3)⟩
          simp [ByteArray.size_append, ByteArray.size_extract]
          omega
        · go_wp2
          go_ret
          exact ⟨s, by omega, rfl, hC2, hg2⟩
      · have hb2 : (y == 2) = false := beq_eq_false_iff_ne.2 y2
        clear y0 y1 y2
        go_wp2
        go_ret
        exact ⟨s, by omega, rfl, hC2, hg2⟩

end Go.Proofs.YtffglpbjbocdiaaDoor
