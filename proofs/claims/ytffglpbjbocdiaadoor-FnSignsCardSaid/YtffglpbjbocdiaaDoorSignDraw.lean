/- The draws of code points, of texts of them and of escapes: that they answer, within which bounds. -/
import Derived.Test.YtffglpbjbocdiaaDoorProg
import Derived.Test.YtffglpbjbocdiaaDoorPlain
import Derived.Test.YtffglpbjbocdiaaDoorDraw
import Derived.Test.YtffglpbjbocdiaaDoorDrawNum
import Derived.Test.YtffglpbjbocdiaaDoorBent
import Derived.Test.YtffglpbjbocdiaaDoorRunePure
import Derived.Test.YtffglpbjbocdiaaDoorRuneText
import Derived.Test.YtffglpbjbocdiaaDoorInts
import Derived.Test.YtffglpbjbocdiaaDoorTextOf
import Derived.Test.YtffglpbjbocdiaaDoorNextSpec
import Derived.Test.YtffglpbjbocdiaaDoorValid
import Derived.Test.YtffglpbjbocdiaaDoorSigns
import Derived.Test.YtffglpbjbocdiaaDoorPutEsc
import Derived.WalkKit
import Derived.WalkLawsBesides
import Derived.OwnWalk
import Derived.Laws.OwnMore
import Derived.Lib.Hide
import Derived.IntWalk
namespace Go.Proofs.YtffglpbjbocdiaaDoor
open Go.RowKit
set_option linter.unusedVariables false

def isI64 (v : Value) : Bool := match v with | .int .i64 x => decide (-9223372036854775808 ≤ x) && decide (x ≤ 9223372036854775807) | _ => false
theorem ints_alloc (w : World) (cs : List Value) (t : Nat) (h : cs.all isI64 = true) : IntsAt (w.alloc (.cells cs.toArray t)) w.heap.size cs.length := by
  intro i hi
  rw [List.all_eq_true] at h
  have h1 := h cs[i] (List.getElem_mem hi)
  have h2 : (w.alloc (.cells cs.toArray t)).cell? ⟨w.heap.size, i, none⟩ = some cs[i] := by
    simp [hi]
  rw [h2]
  generalize cs[i] = v at *
  unfold isI64 at h1
  split at h1
  · rw [Bool.and_eq_true, decide_eq_true_eq, decide_eq_true_eq] at h1
    exact ⟨_, h1.1, h1.2, rfl⟩
  · cases h1
/-- what is made above turns nothing else -/
theorem grown_over {w w1 w2 : World} {b : Nat} (h : w.grownBy w1 (some b)) (hb : Below w1.heap.size w1 w2) : w.grownBy w2 (some b) :=
  ⟨hb.os.trans h.os, hb.tape.trans h.tape, hb.output.trans h.output, Nat.le_trans h.size hb.size, fun k hk hne => (hb.block k (Nat.lt_of_lt_of_le hk h.size)).trans (h.block k hk hne)⟩
/-- a cursor over what turns other blocks above it -/
theorem CurAt.turned {w w' : World} {B b : Nat} {a : Option Addr} {len cap : Nat} {row : Option Nat} (h : CurAt w B b a len cap) (hg : w.grownBy w' row) (hr : ∀ k, row = some k → b < k) : CurAt w' B b a len cap := by
  obtain ⟨i, x, hC⟩ := h
  exact ⟨i, x, hC.kept (fun k hk => hg.block k (Nat.lt_of_le_of_lt hk hC.lt) (fun e => by have := hr k e.symm; omega)) hg.size⟩

theorem one_draw (w : World) (B b : Nat) (a : Option Addr) (len cap : Nat) (hlen : len ≤ 9223372036854775807) (hC : CurAt w B b a len cap) :
    Calls Tryd.prog 31 #[.pointer (some ⟨b, 0, none⟩)] w (Drew (-9223372036854775808) 9223372036854775807 w B b a len cap) := by
  have hlt := hC.lt
  go_enter Tryd.func31, Tryd.ntmps31
  go_wp2_with fail
  refine (pickInt_draw _ B b a len cap w.heap.size 16 16 hlen (hC.alloc _) (by decide) (by decide) (by omega) (by simp) (by refine ints_alloc w _ _ ?_; decide +kernel)).mono ?_
  rintro e w1 ⟨x, hx0, hx1, rfl, hC1, hg1⟩
  have hg2 := grownBy_step (grownBy_new (World.grownBy.refl w (some b)) _) hg1
  clear hC hg1
  go_wp2
  go_ret
  exact ⟨x, hx0, hx1, rfl, hC1, hg2⟩

set_option maxRecDepth 100000 in
set_option maxHeartbeats 1600000 in
theorem text3_draw (w : World) (B b : Nat) (a : Option Addr) (len cap : Nat) (hlen : len ≤ 9223372036854775807) (hC : CurAt w B b a len cap) :
    Calls Tryd.prog 38 #[.pointer (some ⟨b, 0, none⟩)] w (DrewS 20 w B b a len cap) := by
  go_enter Tryd.func38, Tryd.ntmps38
  go_wp2_with fail
  refine (below_draw w B b a len cap 6 hlen hC (by decide) (by decide)).mono ?_
  rintro e w1 ⟨x, hx0, hx1, rfl, hC1, hg1⟩
  obtain ⟨n, rfl⟩ := Int.eq_ofNat_of_zero_le hx0
  clear hC
  go_wp2
  go_loopw [3, 5] (fun s q wr => ∃ (k : Nat) (t : ByteArray), k ≤ n ∧ q = .int .i64 k ∧ s = .string t ∧ t.size ≤ 4 * k ∧ Hid (CurAt wr B b a len cap) ∧ Hid (w.grownBy wr (some b))) (fun _ q _ => n - (intOf q).toNat)
  case atStart => exact ⟨0, ⟨#[]⟩, Nat.zero_le _, rfl, rfl, Nat.le_refl _, hC1, hg1⟩
  case round =>
    obtain ⟨k, t, hk, rfl, rfl, ht, hC, hg⟩ := hrel
    clear hC1 hg1
    by_cases hkn : k < n
    · have K := Lib.hid (one_draw wr B b a len cap hlen hC.out)
      clear hC
      go_wp2_with fail
      refine K.out.mono ?_
      rintro e w3 ⟨y, hy0, hy1, rfl, hC3, hg3⟩
      have hg4 : Hid (w.grownBy w3 (some b)) := grownBy_step hg.out hg3
      have HC3 := Lib.hid hC3
      have hl4 := signT_len y
      have hsz := toList_size (signT y)
      clear K hg hg3 hC3
      go_wp2_with fail
      refine (signText_spec y w3).mono ?_
      rintro e w4 ⟨rfl, hb4⟩
      have HC4 := Lib.hid (HC3.out.kept hb4)
      have hg5 := Lib.hid (grown_over hg4.out hb4)
      clear HC3 hg4 hb4
      generalize (⟨(signT y).toArray⟩ : ByteArray) = z at *
      go_wp2
      go_roundw
      case rel => exact ⟨k + 1, t ++ z, by omega, by go_num, rfl, by rw [ByteArray.size_append]; omega, HC4, hg5⟩
      case measure => simp [intOf]; omega
    · obtain rfl : k = n := by omega
      go_wp2
      go_ret
      exact ⟨t, by omega, rfl, hC.out, hg.out⟩

/-- some number; nothing old has turned -/
def SomeInt (w : World) (e : Ending) (w' : World) : Prop := ∃ x : Int, -9223372036854775808 ≤ x ∧ x ≤ 9223372036854775807 ∧ e = .returned (.int .i64 x) ∧ Below w.heap.size w w'

set_option maxHeartbeats 800000 in
theorem drawSignText (w : World) (a : Option Addr) (len cap : Nat) (hlen : len ≤ 1048576) (hB : BytesIn w a len) (hlow : ∀ x, a = some x → len ≠ 0 → x.block < w.heap.size) :
    Calls Tryd.prog 23 #[.slice a len cap] w (SomeInt w) := by
  go_enter Tryd.func23, Tryd.ntmps23
  go_wp2_with fail
  refine (new_draw w a len cap hlen hB hlow).mono ?_
  rintro e w1 ⟨rfl, hC1, hb1⟩
  clear hB hlow
  go_wp2_with fail
  refine (once_draw w1 w.heap.size w.heap.size a len cap 3 (by omega) hC1 (by decide) (by decide)).mono ?_
  rintro e w2 ⟨x, rfl, hC2, hg2⟩
  have hb2 := hb1.trans (grownBy_below hg2 (Nat.le_refl _) hb1.size)
  clear hC1 hg2 hb1
  have hlt2 := hC2.lt
  cases x
  · go_wp2_with fail
    refine (one_draw w2 w.heap.size w.heap.size a len cap (by omega) hC2).mono ?_
    rintro e w3 ⟨y, hy0, hy1, rfl, hC3, hg3⟩
    have hb3 := hb2.trans (grownBy_below hg3 (Nat.le_refl _) (by omega))
    clear hC2 hg3 hb2 hlt2 hC3
    go_wp2
    go_ret
    exact ⟨y, hy0, hy1, rfl, hb3⟩
  · go_wp2_with fail
    refine (pickInt_draw _ w.heap.size w.heap.size a len cap w2.heap.size 5 5 (by omega) (hC2.alloc _) (by decide) (by decide) (by omega) (by simp) (by refine ints_alloc w2 _ _ ?_; decide +kernel)).mono ?_
    rintro e w3 ⟨y, hy0, hy1, rfl, hC3, hg3⟩
    have hb3 := (hb2.alloc (by omega) _).trans (grownBy_below hg3 (Nat.le_refl _) (by simp; omega))
    clear hC2 hg3 hb2 hlt2 hC3
    go_wp2
    go_ret
    exact ⟨y, hy0, hy1, rfl, hb3⟩

set_option maxHeartbeats 1600000 in
theorem drawSigns (w : World) (a : Option Addr) (len cap : Nat) (hlen : len ≤ 1048576) (hB : BytesIn w a len) (hlow : ∀ x, a = some x → len ≠ 0 → x.block < w.heap.size) :
    Calls Tryd.prog 13 #[.slice a len cap] w (SomeText 44 w) := by
  go_enter Tryd.func13, Tryd.ntmps13
  go_wp2_with fail
  refine (new_draw w a len cap hlen hB hlow).mono ?_
  rintro e w1 ⟨rfl, hC1, hb1⟩
  clear hB hlow
  go_wp2_with fail
  refine (once_draw w1 w.heap.size w.heap.size a len cap 3 (by omega) hC1 (by decide) (by decide)).mono ?_
  rintro e w2 ⟨x, rfl, hC2, hg2⟩
  have hb2 := hb1.trans (grownBy_below hg2 (Nat.le_refl _) hb1.size)
  clear hC1 hg2 hb1
  have hlt2 := hC2.lt
  cases x
  · go_wp2_with fail
    refine (text3_draw w2 w.heap.size w.heap.size a len cap (by omega) hC2).mono ?_
    rintro e w3 ⟨s, hs, rfl, hC3, hg3⟩
    have hb3 := hb2.trans (grownBy_below hg3 (Nat.le_refl _) (by omega))
    clear hC2 hg3 hb2 hlt2 hC3
    go_wp2
    go_ret
    exact ⟨s, by omega, rfl, hb3⟩
  · go_wp2_with fail
    refine (text3_draw w2 w.heap.size w.heap.size a len cap (by omega) hC2).mono ?_
    rintro e w3 ⟨s, hs, rfl, hC3, hg3⟩
    have hb3 := hb2.trans (grownBy_below hg3 (Nat.le_refl _) (by omega))
    clear hC2 hg3 hb2 hlt2
    have hlt3 := hC3.lt
    go_wp2_with fail
    refine (pick_draw _ w.heap.size w.heap.size a len cap w3.heap.size 7 7 4 (by omega) (hC3.alloc _) (by decide) (by decide) (by omega) (by simp) (by refine texts_alloc w3 _ _ _ _ ?_; decide +kernel)).mono ?_
    rintro e w4 ⟨t, ht, rfl, hC4, hg4⟩
    have hb4 := (hb3.alloc (by omega) _).trans (grownBy_below hg4 (Nat.le_refl _) (by simp; omega))
    clear hC3 hg4 hb3 hlt3
    have hlt4 := hC4.lt
    go_wp2_with fail
    refine (text3_draw w4 w.heap.size w.heap.size a len cap (by omega) hC4).mono ?_
    rintro e w5 ⟨u, hu, rfl, hC5, hg5⟩
    have hb5 := hb4.trans (grownBy_below hg5 (Nat.le_refl _) (by omega))
    clear hC4 hg5 hb4 hlt4 hC5
    go_wp2
    go_ret
    exact ⟨_, by simp [ByteArray.size_append]; omega, rfl, hb5⟩

set_option maxHeartbeats 800000 in
theorem drawPutEscapes (w : World) (a : Option Addr) (len cap : Nat) (hlen : len ≤ 1048576) (hB : BytesIn w a len) (hlow : ∀ x, a = some x → len ≠ 0 → x.block < w.heap.size) :
    Calls Tryd.prog 17 #[.slice a len cap] w (SomeText 21 w) := by
  go_enter Tryd.func17, Tryd.ntmps17
  go_wp2_with fail
  refine (new_draw w a len cap hlen hB hlow).mono ?_
  rintro e w1 ⟨rfl, hC1, hb1⟩
  clear hB hlow
  go_wp2_with fail
  refine (once_draw w1 w.heap.size w.heap.size a len cap 8 (by omega) hC1 (by decide) (by decide)).mono ?_
  rintro e w2 ⟨x, rfl, hC2, hg2⟩
  have hb2 := hb1.trans (grownBy_below hg2 (Nat.le_refl _) hb1.size)
  clear hC1 hg2 hb1
  have hlt2 := hC2.lt
  cases x
  · go_wp2_with fail
    refine (text3_draw w2 w.heap.size w.heap.size a len cap (by omega) hC2).mono ?_
    rintro e w3 ⟨s, hs, rfl, hC3, hg3⟩
    have hb3 := hb2.trans (grownBy_below hg3 (Nat.le_refl _) (by omega))
    clear hC2 hg3 hb2 hlt2 hC3
    go_wp2
    go_ret
    exact ⟨s, by omega, rfl, hb3⟩
  · go_wp2_with fail
    refine (text3_draw w2 w.heap.size w.heap.size a len cap (by omega) hC2).mono ?_
    rintro e w3 ⟨s, hs, rfl, hC3, hg3⟩
    have hb3 := hb2.trans (grownBy_below hg3 (Nat.le_refl _) (by omega))
    clear hC2 hg3 hb2 hlt2 hC3
    go_wp2
    go_ret
    exact ⟨_, by rw [ByteArray.size_append]; show s.size + 1 ≤ 21; omega, rfl, hb3⟩

/-- some list of numbers of the call's own -/
def SomeInts (w : World) (e : Ending) (w' : World) : Prop := ∃ v g l, l.length ≤ 6 ∧ e = .returned v ∧ IntsIs w' v g 0 l ∧ w.heap.size ≤ g ∧ Below w.heap.size w w'

set_option maxRecDepth 100000 in
set_option maxHeartbeats 1600000 in
theorem drawTextOf (w : World) (a : Option Addr) (len cap : Nat) (hlen : len ≤ 1048576) (hB : BytesIn w a len) (hlow : ∀ x, a = some x → len ≠ 0 → x.block < w.heap.size) :
    Calls Tryd.prog 10 #[.slice a len cap] w (SomeInts w) := by
  obtain ⟨i0, hi, hz0, hz1, hz2⟩ := info_parts info_int
  go_enter Tryd.func10, Tryd.ntmps10
  go_wp2_with fail
  refine (new_draw w a len cap hlen hB hlow).mono ?_
  rintro e w1 ⟨rfl, hC1, hb1⟩
  clear hB hlow
  have hlt1 := hC1.lt
  have hb2 := hb1.alloc (by omega) (.cells #[] 3)
  have hC2 := hC1.alloc (.cells #[] 3)
  have hown0 : (w1.alloc (.cells #[] 3)).ownsRow (w.heap.size + 1) 3 1 (.slice (some ⟨w1.heap.size, 0, none⟩) 0 0) 0 (intCells []) := World.ownsRow_lit w1 #[] 0 (show w.heap.size + 1 ≤ w1.heap.size by omega) (Nat.zero_le _) rfl
  clear hC1 hb1
  go_wp2_with fail
  refine (below_draw _ w.heap.size w.heap.size a len cap 6 (by omega) hC2 (by decide) (by decide)).mono ?_
  rintro e w3 ⟨x, hx0, hx1, rfl, hC3, hg3⟩
  obtain ⟨n, rfl⟩ := Int.eq_ofNat_of_zero_le hx0
  have hb3 := hb2.trans (grownBy_below hg3 (Nat.le_refl _) (by simp; omega))
  have hown3 := hown0.kept hg3 (.inr (by simp [Value.ownBlock]; omega))
  clear hC2 hb2 hg3 hown0
  go_wp2
  go_loopw [4, 6] (fun v q wr => ∃ (k : Nat) (l : List Int), k ≤ n ∧ q = .int .i64 k ∧ l.length = k ∧ Hid (wr.ownsRow (w.heap.size + 1) 3 1 v l.length (intCells l)) ∧ Hid (CurAt wr w.heap.size w.heap.size a len cap) ∧ Hid (Below w.heap.size w wr)) (fun _ q _ => n - (intOf q).toNat)
  case atStart => exact ⟨0, [], Nat.zero_le _, rfl, rfl, hown3, hC3, hb3⟩
  case round =>
    obtain ⟨k, l, hk, rfl, hlk, hown, hC, hb⟩ := hrel
    clear hown3 hC3 hb3
    by_cases hkn : k < n
    · have K := Lib.hid (one_draw wr w.heap.size w.heap.size a len cap (by omega) hC.out)
      clear hC
      go_wp2_with fail
      refine K.out.mono ?_
      rintro e w4 ⟨y, hy0, hy1, rfl, hC4, hg4⟩
      have hown4 := hown.out.kept hg4 (.inr (fun e => by have := own_blockI hown.out _ e; omega))
      have hb4 := hb.out.trans (grownBy_below hg4 (Nat.le_refl _) hb.out.size)
      have hlt4 := hC4.lt
      have hb5 := hb4.alloc (by omega) (.cells #[.int .i64 y] 3)
      have HC4 := Lib.hid hC4
      have HB5 := Lib.hid hb5
      clear K hown hb hg4 hC4 hb4 hb5
      go_wp2_with (at_builtin; refine wpList_append_own _ rfl _ _ 24 rfl (w.heap.size + 1) 3 i0 (.int .i64 0) 1 8 Tryd.underlying24 hi hz0 hz1 hz2 rfl (by decide) _ _ _ rfl (hown4.alloc _) ⟨w4.heap.size, 0, none⟩ 1 1 [.int .i64 y] rfl rfl (cell_one_newI _ _ _) (by simp [Value.oneCell']) (by unfold maxLen; omega) (by omega) (by simp; omega) ?_; intro v' w5 hown5 hgrow _)
      have hbl := own_blockI hown4
      have hb6 := Lib.hid (HB5.out.grown hgrow (by simp; omega) (fun k hk => by have := hbl k hk; omega))
      have hC6 := Lib.hid ((HC4.out.alloc (.cells #[.int .i64 y] 3)).turned hgrow (fun k hk => by have := hbl k hk; omega))
      have hown6 : Hid (w5.ownsRow (w.heap.size + 1) 3 1 v' (l ++ [y]).length (intCells (l ++ [y]))) := by
        unfold Hid
        rw [intCells_append, List.length_append]
        exact hown5
      clear hown4 hown5 hgrow hbl HB5 HC4
      go_wp2
      go_roundw
      case rel => exact ⟨k + 1, l ++ [y], by omega, by go_num, by simp; omega, hown6, hC6, hb6⟩
      case measure => simp [intOf]; omega
    · obtain rfl : k = n := by omega
      have K := Lib.hid (once_draw wr w.heap.size w.heap.size a len cap 6 (by omega) hC.out (by decide) (by decide))
      clear hC
      go_wp2_with fail
      refine K.out.mono ?_
      rintro e w4 ⟨o, rfl, hC4, hg4⟩
      have hown4 := hown.out.kept hg4 (.inr (fun e => by have := own_blockI hown.out _ e; omega))
      have hb4 := hb.out.trans (grownBy_below hg4 (Nat.le_refl _) hb.out.size)
      have hlt4 := hC4.lt
      clear K hown hb hg4
      cases o
      · obtain ⟨g, hI, hg⟩ := intsIs_of_owns hown4 rfl (by omega)
        have HI := Lib.hid hI
        have HB := Lib.hid hb4
        clear hown4 hI hb4 hC4
        go_wp2
        go_ret
        exact ⟨_, g, l, by omega, rfl, HI.out, by omega, HB.out⟩
      · have K2 := Lib.hid (pickInt_draw (w4.alloc (.cells #[.int .i64 (-1), .int .i64 55296, .int .i64 1114112] 3)) w.heap.size w.heap.size a len cap w4.heap.size 3 3 (by omega) (hC4.alloc _) (by decide) (by decide) (by omega) (by simp) (by refine ints_alloc w4 _ _ ?_; decide +kernel))
        have hownA := hown4.alloc (.cells #[.int .i64 (-1), .int .i64 55296, .int .i64 1114112] 3)
        have hbA := hb4.alloc (by omega) (.cells #[.int .i64 (-1), .int .i64 55296, .int .i64 1114112] 3)
        have HOWN := Lib.hid hownA
        have HBA := Lib.hid hbA
        clear hC4 hown4 hb4 hownA hbA
        go_wp2_with fail
        refine K2.out.mono ?_
        rintro e w6 ⟨y, hy0, hy1, rfl, hC6, hg6⟩
        have hown6 := HOWN.out.kept hg6 (.inr (fun e => by have := own_blockI HOWN.out _ e; omega))
        have hb6 := HBA.out.trans (grownBy_below hg6 (Nat.le_refl _) (by simp; omega))
        have hlt6 := hC6.lt
        have hb7 := Lib.hid (hb6.alloc (by omega) (.cells #[.int .i64 y] 3))
        clear K2 HOWN HBA hg6 hC6 hb6
        go_wp2_with (at_builtin; refine wpList_append_own _ rfl _ _ 24 rfl (w.heap.size + 1) 3 i0 (.int .i64 0) 1 8 Tryd.underlying24 hi hz0 hz1 hz2 rfl (by decide) _ _ _ rfl (hown6.alloc _) ⟨w6.heap.size, 0, none⟩ 1 1 [.int .i64 y] rfl rfl (cell_one_newI _ _ _) (by simp [Value.oneCell']) (by unfold maxLen; omega) (by omega) (by simp; omega) ?_; intro v' w7 hown7 hgrow _)
        have hbl := own_blockI hown6
        have hb8 := Lib.hid (hb7.out.grown hgrow (by simp; omega) (fun k hk => by have := hbl k hk; omega))
        obtain ⟨g, hI, hg⟩ := intsIs_of_owns (l := l ++ [y]) (t := 3) (by rw [intCells_append]; exact hown7) (by simp) (by have := hgrow.size; simp at this; omega)
        have HI := Lib.hid hI
        clear hown6 hown7 hgrow hbl hb7 hI
        go_wp2
        go_ret
        exact ⟨_, g, l ++ [y], by simp; omega, rfl, HI.out, by omega, hb8.out⟩

theorem putT_len (l : List UInt8) : (putT l).length ≤ 12 * l.length := by
  unfold putT
  have h1 := putI_len (signsI l)
  have h2 := signsI_few l
  omega

set_option maxHeartbeats 1600000 in
theorem drawGetEscapes (w : World) (a : Option Addr) (len cap : Nat) (hlen : len ≤ 1048576) (hB : BytesIn w a len) (hlow : ∀ x, a = some x → len ≠ 0 → x.block < w.heap.size) :
    Calls Tryd.prog 20 #[.slice a len cap] w (SomeText 300 w) := by
  go_enter Tryd.func20, Tryd.ntmps20
  go_wp2_with fail
  refine (new_draw w a len cap hlen hB hlow).mono ?_
  rintro e w1 ⟨rfl, hC1, hb1⟩
  clear hB hlow
  go_wp2_with fail
  refine (once_draw w1 w.heap.size w.heap.size a len cap 3 (by omega) hC1 (by decide) (by decide)).mono ?_
  rintro e w2 ⟨x, rfl, hC2, hg2⟩
  have hb2 := hb1.trans (grownBy_below hg2 (Nat.le_refl _) hb1.size)
  clear hC1 hg2 hb1
  have hlt2 := hC2.lt
  cases x
  · go_wp2_with fail
    refine (text3_draw w2 w.heap.size w.heap.size a len cap (by omega) hC2).mono ?_
    rintro e w3 ⟨s, hs, rfl, hC3, hg3⟩
    have hb3 := hb2.trans (grownBy_below hg3 (Nat.le_refl _) (by omega))
    clear hC2 hg3 hb2 hlt2
    have hL : (⟨(putT s.data.toList).toArray⟩ : ByteArray).size ≤ 240 := by
      rw [toList_size]
      have := putT_len s.data.toList
      rw [← Lib.size_eq] at this
      omega
    have K := Lib.hid (put_spec s (by omega) w3)
    generalize putT s.data.toList = hx at *
    go_wp2_with fail
    refine K.out.mono ?_
    rintro e w4 ⟨rfl, hb4⟩
    have hC4 := hC3.kept hb4
    have hlt4 := hC4.lt
    have hb4' := hb3.trans (hb4.mono hb3.size)
    clear K hC3 hb4 hb3
    go_wp2_with fail
    refine (bent_draw w4 w.heap.size w.heap.size a len cap _ hlen (by omega) hC4).mono ?_
    rintro e w5 ⟨t, ht, rfl, hC5, hg5⟩
    have hb5 := hb4'.trans (grownBy_below hg5 (Nat.le_refl _) (by omega))
    clear hC4 hC5 hg5 hb4'
    go_wp2
    go_ret
    exact ⟨_, by omega, rfl, hb5⟩
  · go_wp2_with fail
    refine (pick_draw _ w.heap.size w.heap.size a len cap w2.heap.size 11 11 21 (by omega) (hC2.alloc _) (by decide) (by decide) (by omega) (by simp) (by refine texts_alloc w2 _ _ _ _ ?_; decide +kernel)).mono ?_
    rintro e w3 ⟨s, hs, rfl, hC3, hg3⟩
    have hb3 := (hb2.alloc (by omega) _).trans (grownBy_below hg3 (Nat.le_refl _) (by simp; omega))
    clear hC2 hg3 hb2 hlt2 hC3
    go_wp2
    go_ret
    exact ⟨s, by omega, rfl, hb3⟩

end Go.Proofs.YtffglpbjbocdiaaDoor
