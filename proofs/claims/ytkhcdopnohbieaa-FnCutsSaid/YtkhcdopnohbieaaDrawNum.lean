/- Contracts of the draws of numbers' texts: that they answer some text. -/
import Derived.Test.YtkhcdopnohbieaaProg
import Derived.Test.YtkhcdopnohbieaaPlain
import Derived.Test.YtkhcdopnohbieaaHex
import Derived.Test.YtkhcdopnohbieaaDec
import Derived.Test.YtkhcdopnohbieaaDraw
import Derived.WalkKit
import Derived.WalkLawsBesides
import Derived.BigQuiet
import Derived.Deep.QuietTactic
import Derived.Deep.RegionWith
import Derived.Lib.Hide
import Derived.IntWalk
namespace Go.Proofs.Ytkhcdopnohbieaa
open Go.RowKit
set_option linter.unusedVariables false

def isText (m : Nat) (v : Value) : Bool := match v with | .string s => decide (s.size ≤ m) | _ => false
theorem texts_alloc (w : World) (cs : List Value) (t B m : Nat) (h : cs.all (isText m) = true) : TextsAt (w.alloc (.cells cs.toArray t)) w.heap.size cs.length B m := by
  intro i hi
  rw [List.all_eq_true] at h
  have h1 := h cs[i] (List.getElem_mem hi)
  have h2 : (w.alloc (.cells cs.toArray t)).cell? ⟨w.heap.size, i, none⟩ = some cs[i] := by
    simp [hi]
  rw [h2]
  generalize cs[i] = v at *
  unfold isText at h1
  split at h1
  · exact ⟨_, rfl, by simpa using h1⟩
  · cases h1

theorem texts_drew {w : World} {g n B m : Nat} (h : TextsAt w g n B m) : TextsAt w.drew g n B m := fun i hi => h i hi
theorem texts_drewN {w : World} {g n B m : Nat} (h : TextsAt w g n B m) (k : Nat) : TextsAt (w.drewN k) g n B m := fun i hi => h i hi
theorem CurAt.drew {w : World} {B b : Nat} {a : Option Addr} {len cap : Nat} (h : CurAt w B b a len cap) : CurAt w.drew B b a len cap := h.drawn 1

/-- some text; nothing old has turned -/
def SomeText (m : Nat) (w : World) (e : Ending) (w' : World) : Prop := ∃ s : ByteArray, s.size ≤ m ∧ e = .returned (.string s) ∧ Below w.heap.size w w'

theorem itoa_len (n : Int) (h0 : -9223372036854775808 ≤ n) (h1 : n ≤ 9223372036854775807) : (⟨(Lib.itoa n).toArray⟩ : ByteArray).size ≤ 21 := by
  have := Lib.itoa_length_le n h0 h1
  show (Lib.itoa n).toArray.size ≤ 21
  simpa using this

set_option maxHeartbeats 800000 in
theorem drawReadInt (w : World) (a : Option Addr) (len cap : Nat) (hlen : len ≤ 1048576) (hB : BytesIn w a len) (hlow : ∀ x, a = some x → len ≠ 0 → x.block < w.heap.size) :
    Calls Try.prog 24 #[.slice a len cap] w (SomeText 21 w) := by
  go_enter Try.func24, Try.ntmps24
  go_wp2_with fail
  refine (new_draw w a len cap hlen hB hlow).mono ?_
  rintro e w1 ⟨rfl, hC1, hb1⟩
  clear hB hlow
  go_wp2_with fail
  refine (once_draw w1 w.heap.size w.heap.size a len cap 2 (by omega) hC1 (by decide) (by decide)).mono ?_
  rintro e w2 ⟨x, rfl, hC2, hg2⟩
  have hb2 := hb1.trans (grownBy_below hg2 (Nat.le_refl _) hb1.size)
  clear hC1 hg2 hb1
  have hlt2 := hC2.lt
  cases x
  · go_wp2_with fail
    refine (below_draw w2 w.heap.size w.heap.size a len cap 100000 (by omega) hC2 (by decide) (by decide)).mono ?_
    rintro e w3 ⟨y, hy0, hy1, rfl, hC3, hg3⟩
    have hb3 := hb2.trans (grownBy_below hg3 (Nat.le_refl _) (by omega))
    clear hC2 hg3 hb2 hlt2 hC3
    go_wp2_with fail
    refine (dec_spec _ _ (by omega) (by omega)).mono ?_
    rintro e w4 ⟨rfl, rfl⟩
    have hL := itoa_len (y - 50000) (by omega) (by omega)
    go_wp2
    go_ret
    exact ⟨_, hL, rfl, hb3⟩
  · go_wp2_with fail
    refine (pick_draw _ w.heap.size w.heap.size a len cap w2.heap.size 10 10 21 (by omega) (hC2.alloc _) (by decide) (by decide) (by omega) (by simp) (by refine texts_alloc w2 _ _ _ _ ?_; decide +kernel)).mono ?_
    rintro e w3 ⟨s, hs, rfl, hC3, hg3⟩
    have hb3 := (hb2.alloc (by omega) _).trans (grownBy_below hg3 (Nat.le_refl _) (by simp; omega))
    clear hC2 hg3 hb2 hlt2 hC3
    go_wp2
    go_ret
    exact ⟨s, hs, rfl, hb3⟩

end Go.Proofs.Ytkhcdopnohbieaa
