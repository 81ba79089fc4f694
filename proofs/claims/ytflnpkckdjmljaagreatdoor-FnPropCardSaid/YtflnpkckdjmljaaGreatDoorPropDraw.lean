/- The contract of l01Bent: some text. -/
import Derived.Test.YtflnpkckdjmljaaGreatDoorProg
import Derived.Test.YtflnpkckdjmljaaGreatDoorPlain
import Derived.Test.YtflnpkckdjmljaaGreatDoorDraw
import Derived.Test.YtflnpkckdjmljaaGreatDoorDrawNum
import Derived.WalkKit
import Derived.WalkLawsBesides
import Derived.BigQuiet
import Derived.Deep.QuietTactic
import Derived.Deep.RegionWith
import Derived.Lib.Hide
import Derived.IntWalk
import Derived.Test.YtflnpkckdjmljaaGreatDoorRunePure
import Derived.Test.YtflnpkckdjmljaaGreatDoorRuneText
import Derived.Test.YtflnpkckdjmljaaGreatDoorInts
import Derived.Test.YtflnpkckdjmljaaGreatDoorTextOf
import Derived.Test.YtflnpkckdjmljaaGreatDoorNextSpec
import Derived.Test.YtflnpkckdjmljaaGreatDoorValid
import Derived.Test.YtflnpkckdjmljaaGreatDoorSigns
import Derived.Test.YtflnpkckdjmljaaGreatDoorPutEsc
import Derived.OwnWalk
import Derived.Laws.OwnMore
import Derived.Below
import Derived.RangeFuncBox
import Derived.Maps.AppendAt
import Derived.Laws.IdiomStrings
import Derived.Test.YtflnpkckdjmljaaGreatDoorPropPair
namespace Go.Proofs.YtflnpkckdjmljaaGreatDoor
open Go.RowKit
set_option linter.unusedVariables false

def DrewBT (m : Nat) (w : World) (B b : Nat) (a : Option Addr) (len cap : Nat) (e : Ending) (w' : World) : Prop :=
  ∃ s : ByteArray, s.size ≤ m ∧ e = .returned (.string s) ∧ CurAt w' B b a len cap ∧ w.grownBy w' (some b)

set_option maxHeartbeats 1600000 in
theorem bent_draw (w : World) (B b : Nat) (a : Option Addr) (len cap : Nat) (s : ByteArray) (hlen : len ≤ 1048576) (hs : s.size ≤ 1048576) (hC : CurAt w B b a len cap) :
    Calls Tryz.prog 31 #[.pointer (some ⟨b, 0, none⟩), .string s] w (DrewBT (s.size + 2) w B b a len cap) := by
  go_enter Tryz.func31, Tryz.ntmps31
  go_wp2_with fail
  refine (below_draw w B b a len cap _ (by omega) hC (by omega) (by omega)).mono ?_
  rintro e w1 ⟨x, hx0, hx1, rfl, hC1, hg1⟩
  obtain ⟨i, rfl⟩ := Int.eq_ofNat_of_zero_le hx0
  have hi : i ≤ s.size := by omega
  clear hx0 hx1 hC
  go_wp2_with fail
  refine (below_draw w1 B b a len cap 10 (by omega) hC1 (by decide) (by decide)).mono ?_
  rintro e w2 ⟨y, hy0, hy1, rfl, hC2, hg2⟩
  replace hg2 := grownBy_step hg1 hg2
  clear hC1 hg1
  have hlt2 := hC2.lt
  by_cases y0 : y = 0
  · have hb0 : (y == 0) = true := by rw [y0]; rfl
    clear y0
    go_wp2
    go_ret
    exact ⟨_, by simp; omega, rfl, hC2, hg2⟩
  · have hb0 : (y == 0) = false := beq_eq_false_iff_ne.2 y0
    by_cases y1 : y = 1
    · have hb1 : (y == 1) = true := by rw [y1]; rfl
      clear y0 y1
      go_wp2_with fail
      go_region_with (go_at_call 30; refine (pick_draw _ B b a len cap w2.heap.size 12 12 1 (by omega) (hC2.alloc _).drew (by decide) (by decide) (by omega) (by simp) (texts_drew (by refine texts_alloc w2 _ _ _ _ ?_; decide +kernel))).mono ?_; rintro e w3 ⟨t, ht, rfl, hC3, hg3⟩)
      go_wp2
      go_ret
      refine ⟨_, ?_, rfl, hC3, grownBy_step (grownBy_new hg2 _) (grownBy_step (grownBy_drewN (World.grownBy.refl _ _) 1) hg3)⟩
      simp [ByteArray.size_append, ByteArray.size_extract]
      omega
    · have hb1 : (y == 1) = false := beq_eq_false_iff_ne.2 y1
      by_cases y2 : y = 2
      · have hb2 : (y == 2) = true := by rw [y2]; rfl
        clear y0 y1 y2
        by_cases hil : i < s.size
        · have hsum : (i : Int) + 1 ≤ (s.size : Int) := by omega
          have hsum0 : 0 ≤ (i : Int) + 1 := by omega
          have hwr : IntKind.i64.wrap ((i : Int) + 1) = (i : Int) + 1 := IntWalk.i64_in _ (by omega)
          have htn : ((i : Int) + 1).toNat = i + 1 := by omega
          go_wp2_with fail
          go_region_with (go_at_call 30; refine (pick_draw _ B b a len cap w2.heap.size 6 6 1 (by omega) (hC2.alloc _).drew (by decide) (by decide) (by omega) (by simp) (texts_drew (by refine texts_alloc w2 _ _ _ _ ?_; decide +kernel))).mono ?_; rintro e w3 ⟨t, ht, rfl, hC3, hg3⟩)
          go_wp2
          go_ret
          refine ⟨_, ?_, rfl, hC3, grownBy_step (grownBy_new hg2 _) (grownBy_step (grownBy_drewN (World.grownBy.refl _ _) 1) hg3)⟩
          simp [ByteArray.size_append, ByteArray.size_extract]
          omega
        · go_wp2
          go_ret
          exact ⟨s, by omega, rfl, hC2, hg2⟩
      · have hb2 : (y == 2) = false := beq_eq_false_iff_ne.2 y2
        clear y0 y1 y2
        go_wp2
        go_ret
        exact ⟨s, by omega, rfl, hC2, hg2⟩

end Go.Proofs.YtflnpkckdjmljaaGreatDoor

/- The draws of code points, of texts of them and of escapes: that they answer, within which bounds. -/
namespace Go.Proofs.YtflnpkckdjmljaaGreatDoor
open Go.RowKit
set_option linter.unusedVariables false

def isI64 (v : Value) : Bool := match v with | .int .i64 x => decide (-9223372036854775808 ≤ x) && decide (x ≤ 9223372036854775807) | _ => false
theorem ints_alloc (w : World) (cs : List Value) (t : Nat) (h : cs.all isI64 = true) : IntsAt (w.alloc (.cells cs.toArray t)) w.heap.size cs.length := by
  intro i hi
  rw [List.all_eq_true] at h
  have h1 := h cs[i] (List.getElem_mem hi)
  have h2 : (w.alloc (.cells cs.toArray t)).cell? ⟨w.heap.size, i, none⟩ = some cs[i] := by
    simp [hi]
  rw [h2]
  generalize cs[i] = v at *
  unfold isI64 at h1
  split at h1
  · rw [Bool.and_eq_true, decide_eq_true_eq, decide_eq_true_eq] at h1
    exact ⟨_, h1.1, h1.2, rfl⟩
  · cases h1
/-- what is made above turns nothing else -/
theorem grown_over {w w1 w2 : World} {b : Nat} (h : w.grownBy w1 (some b)) (hb : Below w1.heap.size w1 w2) : w.grownBy w2 (some b) :=
  ⟨hb.os.trans h.os, hb.tape.trans h.tape, hb.output.trans h.output, Nat.le_trans h.size hb.size, fun k hk hne => (hb.block k (Nat.lt_of_lt_of_le hk h.size)).trans (h.block k hk hne)⟩
/-- a cursor over what turns other blocks above it -/
theorem CurAt.turned {w w' : World} {B b : Nat} {a : Option Addr} {len cap : Nat} {row : Option Nat} (h : CurAt w B b a len cap) (hg : w.grownBy w' row) (hr : ∀ k, row = some k → b < k) : CurAt w' B b a len cap := by
  obtain ⟨i, x, hC⟩ := h
  exact ⟨i, x, hC.kept (fun k hk => hg.block k (Nat.lt_of_le_of_lt hk hC.lt) (fun e => by have := hr k e.symm; omega)) hg.size⟩

theorem one_draw (w : World) (B b : Nat) (a : Option Addr) (len cap : Nat) (hlen : len ≤ 9223372036854775807) (hC : CurAt w B b a len cap) :
    Calls Tryz.prog 50 #[.pointer (some ⟨b, 0, none⟩)] w (Drew (-9223372036854775808) 9223372036854775807 w B b a len cap) := by
  have hlt := hC.lt
  go_enter Tryz.func50, Tryz.ntmps50
  go_wp2_with fail
  refine (pickInt_draw _ B b a len cap w.heap.size 16 16 hlen (hC.alloc _) (by decide) (by decide) (by omega) (by simp) (by refine ints_alloc w _ _ ?_; decide +kernel)).mono ?_
  rintro e w1 ⟨x, hx0, hx1, rfl, hC1, hg1⟩
  have hg2 := grownBy_step (grownBy_new (World.grownBy.refl w (some b)) _) hg1
  clear hC hg1
  go_wp2
  go_ret
  exact ⟨x, hx0, hx1, rfl, hC1, hg2⟩

set_option maxRecDepth 100000 in
set_option maxHeartbeats 1600000 in
theorem text3_draw (w : World) (B b : Nat) (a : Option Addr) (len cap : Nat) (hlen : len ≤ 9223372036854775807) (hC : CurAt w B b a len cap) :
    Calls Tryz.prog 32 #[.pointer (some ⟨b, 0, none⟩)] w (DrewS 20 w B b a len cap) := by
  go_enter Tryz.func32, Tryz.ntmps32
  go_wp2_with fail
  refine (below_draw w B b a len cap 6 hlen hC (by decide) (by decide)).mono ?_
  rintro e w1 ⟨x, hx0, hx1, rfl, hC1, hg1⟩
  obtain ⟨n, rfl⟩ := Int.eq_ofNat_of_zero_le hx0
  clear hC
  go_wp2
  go_loopw [3, 5] (fun s q wr => ∃ (k : Nat) (t : ByteArray), k ≤ n ∧ q = .int .i64 k ∧ s = .string t ∧ t.size ≤ 4 * k ∧ Hid (CurAt wr B b a len cap) ∧ Hid (w.grownBy wr (some b))) (fun _ q _ => n - (intOf q).toNat)
  case atStart => exact ⟨0, ⟨#[]⟩, Nat.zero_le _, rfl, rfl, Nat.le_refl _, hC1, hg1⟩
  case round =>
    obtain ⟨k, t, hk, rfl, rfl, ht, hC, hg⟩ := hrel
    clear hC1 hg1
    by_cases hkn : k < n
    · have K := Lib.hid (one_draw wr B b a len cap hlen hC.out)
      clear hC
      go_wp2_with fail
      refine K.out.mono ?_
      rintro e w3 ⟨y, hy0, hy1, rfl, hC3, hg3⟩
      have hg4 : Hid (w.grownBy w3 (some b)) := grownBy_step hg.out hg3
      have HC3 := Lib.hid hC3
      have hl4 := signT_len y
      have hsz := toList_size (signT y)
      clear K hg hg3 hC3
      go_wp2_with fail
      refine (signText_spec y w3).mono ?_
      rintro e w4 ⟨rfl, hb4⟩
      have HC4 := Lib.hid (HC3.out.kept hb4)
      have hg5 := Lib.hid (grown_over hg4.out hb4)
      clear HC3 hg4 hb4
      generalize (⟨(signT y).toArray⟩ : ByteArray) = z at *
      go_wp2
      go_roundw
      case rel => exact ⟨k + 1, t ++ z, by omega, by go_num, rfl, by rw [ByteArray.size_append]; omega, HC4, hg5⟩
      case measure => simp [intOf]; omega
    · obtain rfl : k = n := by omega
      go_wp2
      go_ret
      exact ⟨t, by omega, rfl, hC.out, hg.out⟩

/-- some number; nothing old has turned -/
def SomeInt (w : World) (e : Ending) (w' : World) : Prop := ∃ x : Int, -9223372036854775808 ≤ x ∧ x ≤ 9223372036854775807 ∧ e = .returned (.int .i64 x) ∧ Below w.heap.size w w'

/-- some list of numbers of the call's own -/
def SomeInts (w : World) (e : Ending) (w' : World) : Prop := ∃ v g l, l.length ≤ 6 ∧ e = .returned v ∧ IntsIs w' v g 0 l ∧ w.heap.size ≤ g ∧ Below w.heap.size w w'

theorem putT_len (l : List UInt8) : (putT l).length ≤ 12 * l.length := by
  unfold putT
  have h1 := putI_len (signsI l)
  have h2 := signsI_few l
  omega

end Go.Proofs.YtflnpkckdjmljaaGreatDoor

/- The draws as functions: what is drawn follows from the bytes that came in and from where the cursor stands. -/
namespace Go.Proofs.YtflnpkckdjmljaaGreatDoor
open Go.RowKit
set_option linter.unusedVariables false

/-- the byte at i of what came in -/
def rd (w : World) (a : Option Addr) (len i : Nat) : Int := if i < len then (match a with | some x => intOf ((w.cell? ⟨x.block, x.off + i, none⟩).getD undef) | none => 0) else 0
theorem rd_kept {w w' : World} {a : Option Addr} {len : Nat} (hk : ∀ x, a = some x → len ≠ 0 → w'.heap[x.block]? = w.heap[x.block]?) : rd w' a len = rd w a len := by
  funext i
  unfold rd
  split
  · cases a with
    | none => rfl
    | some x =>
      have h := World.cell?_of_block (w := w) (w' := w') (a := ⟨x.block, x.off + i, none⟩) (hk x rfl (by omega))
      simp only [h]
  · rfl

def CurF (w : World) (B b : Nat) (a : Option Addr) (len cap : Nat) (r : Nat → Int) (i h : Int) : Prop := Cur w B b a len cap i h ∧ rd w a len = r
theorem CurF.lt {w : World} {B b : Nat} {a : Option Addr} {len cap : Nat} {r : Nat → Int} {i h : Int} (hC : CurF w B b a len cap r i h) : b < w.heap.size := hC.1.lt
theorem CurF.at_ {w : World} {B b : Nat} {a : Option Addr} {len cap : Nat} {r : Nat → Int} {i h : Int} (hC : CurF w B b a len cap r i h) : CurAt w B b a len cap := ⟨i, h, hC.1⟩
theorem CurF.kept {w w' : World} {B b : Nat} {a : Option Addr} {len cap : Nat} {r : Nat → Int} {i h : Int} (hC : CurF w B b a len cap r i h) (hk : ∀ k, k ≤ b → w'.heap[k]? = w.heap[k]?) (hs : w.heap.size ≤ w'.heap.size) : CurF w' B b a len cap r i h :=
  ⟨hC.1.kept hk hs, (rd_kept (fun x hx h0 => hk _ (by have := hC.1.low x hx h0; have := hC.1.le; omega))).trans hC.2⟩
theorem CurF.alloc {w : World} {B b : Nat} {a : Option Addr} {len cap : Nat} {r : Nat → Int} {i h : Int} (hC : CurF w B b a len cap r i h) (o : Obj) : CurF (w.alloc o) B b a len cap r i h :=
  hC.kept (fun k hk => Below.heap_alloc _ _ _ (Nat.lt_of_le_of_lt hk hC.1.lt)) (by simp)
theorem CurF.drawn {w : World} {B b : Nat} {a : Option Addr} {len cap : Nat} {r : Nat → Int} {i h : Int} (hC : CurF w B b a len cap r i h) (n : Nat) : CurF (w.drewN n) B b a len cap r i h :=
  hC.kept (fun _ _ => rfl) (Nat.le_refl _)
theorem CurF.setH {w : World} {B b : Nat} {a : Option Addr} {len cap : Nat} {r : Nat → Int} {i h : Int} (hC : CurF w B b a len cap r i h) (h2 : Int) : CurF (w.setCell ⟨b, 2, none⟩ (.int .i64 h2)) B b a len cap r i h2 :=
  ⟨hC.1.setH h2, (rd_kept (fun x hx h0 => Below.heap_setCell _ _ _ _ (by have := hC.1.low x hx h0; have := hC.1.le; show x.block ≠ b; omega))).trans hC.2⟩
theorem CurF.setI {w : World} {B b : Nat} {a : Option Addr} {len cap : Nat} {r : Nat → Int} {i h : Int} (hC : CurF w B b a len cap r i h) (i2 : Int) (h0 : 0 ≤ i2) (h1 : i2 ≤ 9223372036854775807) : CurF (w.setCell ⟨b, 1, none⟩ (.int .i64 i2)) B b a len cap r i2 h :=
  ⟨hC.1.setI i2 h0 h1, (rd_kept (fun x hx h0 => Below.heap_setCell _ _ _ _ (by have := hC.1.low x hx h0; have := hC.1.le; show x.block ≠ b; omega))).trans hC.2⟩

/-- the next mixed number, what it shows, and what is drawn -/
def nextH (h : Int) : Int := wrap64 (wrap64 (h * 6364136223846793005) + 1442695040888963407)
def showH (h : Int) : Int := bits BinOp.and IntKind.i64 (bits BinOp.xor IntKind.i64 (h / 8589934592) (h / 35184372088832)) 255
def byteX (r : Nat → Int) (len : Nat) (i h : Int) : Int := if i < (len : Int) then bits BinOp.and IntKind.i64 (showH (nextH h) + r i.toNat) 255 else showH (nextH h)
def nextI (len : Nat) (i : Int) : Int := if i < (len : Int) then i + 1 else i
theorem byteX_bound (r : Nat → Int) (len : Nat) (i h : Int) : 0 ≤ byteX r len i h ∧ byteX r len i h ≤ 255 := by
  unfold byteX showH
  split
  · exact and_bound _ 255 (by decide)
  · exact and_bound _ 255 (by decide)

def DrewF (x : Int) (w : World) (B b : Nat) (a : Option Addr) (len cap : Nat) (r : Nat → Int) (i h : Int) (e : Ending) (w' : World) : Prop :=
  e = .returned (.int .i64 x) ∧ CurF w' B b a len cap r (nextI len i) (nextH h) ∧ w.grownBy w' (some b)

set_option maxHeartbeats 800000 in
theorem byte_fn (w : World) (B b : Nat) (a : Option Addr) (len cap : Nat) (r : Nat → Int) (i h : Int) (hlen : len ≤ 9223372036854775807) (hC : CurF w B b a len cap r i h) :
    Calls Tryz.prog 64 #[.pointer (some ⟨b, 0, none⟩)] w (DrewF (byteX r len i h) w B b a len cap r i h) := by
  have c2 := hC.1.c2
  have f2 := hC.1.f2
  have HX : Hid (byteX r len i h = if i < (len : Int) then bits BinOp.and IntKind.i64 (showH (nextH h) + r i.toNat) 255 else showH (nextH h)) := rfl
  generalize byteX r len i h = X at *
  have HH : Hid (nextH h = wrap64 (wrap64 (h * 6364136223846793005) + 1442695040888963407)) := rfl
  generalize hq : nextH h = H at *
  have HQ := Lib.hid hq
  clear hq
  go_enter Tryz.func64, Tryz.ntmps64
  go_wp2_with fail
  clear c2 f2
  rw [← HH.out]
  generalize wrap64 (h * 6364136223846793005) = h1
  have hC1 := hC.setH H
  have hg1 := grownBy_set w b 2 (.int .i64 H)
  clear hC HH
  generalize w.setCell ⟨b, 2, none⟩ (.int .i64 H) = w1 at *
  have c2 := hC1.1.c2
  go_quiet (fail)
  have hx := and_bound (bits BinOp.xor IntKind.i64 (H / 8589934592) (H / 35184372088832)) 255 (by decide)
  simp only [Int.cast_ofNat_Int] at hx
  have HS : Hid (showH H = bits BinOp.and IntKind.i64 (bits BinOp.xor IntKind.i64 (H / 8589934592) (H / 35184372088832)) 255) := rfl
  generalize showH H = S at *
  generalize hxe : bits BinOp.and IntKind.i64 (bits BinOp.xor IntKind.i64 (H / 8589934592) (H / 35184372088832)) 255 = x at *
  have HS2 : Hid (S = x) := HS.out
  clear hxe HS
  generalize bits BinOp.xor IntKind.i64 (H / 8589934592) (H / 35184372088832) = xx at *
  generalize H / 8589934592 = xa at *
  generalize H / 35184372088832 = xb at *
  obtain ⟨hx0, hx1⟩ := hx
  have c1 := hC1.1.c1
  have c0 := hC1.1.c0
  have hi0 := hC1.1.i0
  by_cases hlt : i < (len : Int)
  · obtain ⟨k, rfl⟩ := Int.eq_ofNat_of_zero_le hi0
    rcases hC1.1.bytes with h0 | ⟨blk, off, rfl, hby⟩
    · omega
    obtain ⟨y, hy0, hy1, hcy⟩ := hby k (by omega)
    have hkl : k < len := by omega
    have HR : Hid (r k = y) := by
      unfold Hid
      rw [← hC1.2]
      unfold rd
      rw [if_pos hkl]
      show intOf ((w1.cell? ⟨blk, off + k, none⟩).getD undef) = y
      rw [hcy]; rfl
    have HX2 : Hid (X = bits BinOp.and IntKind.i64 (x + y) 255) := by
      unfold Hid
      rw [HX.out, if_pos hlt, HS2.out, Int.toNat_natCast, HR.out]
    have HI : Hid (nextI len (k : Int) = (k : Int) + 1) := by unfold Hid nextI; rw [if_pos hlt]
    clear hby HX HS2 HR
    go_wp2_with fail
    go_quiet (fail)
    go_wp2_with fail
    go_quiet (fail)
    have hz := and_bound (x + y) 255 (by decide)
    simp only [Int.cast_ofNat_Int] at hz
    rw [← HX2.out] at hz ⊢
    clear HX2
    obtain ⟨hz0, hz1⟩ := hz
    have f1 := hC1.1.f1
    have hC2 := hC1.setI ((k : Int) + 1) (by omega) (by omega)
    have hg2 := grownBy_step hg1 (grownBy_set w1 b 1 (.int .i64 ((k : Int) + 1)))
    clear c0 c2 hcy
    go_wp2
    go_ret
    refine ⟨rfl, ?_, ?_⟩
    · rw [HQ.out, HI.out]; exact hC2.drawn _
    · exact grownBy_drewN hg2 _
  · have HX2 : Hid (X = x) := by
      unfold Hid
      rw [HX.out, if_neg hlt, HS2.out]
    have HI : Hid (nextI len i = i) := by unfold Hid nextI; rw [if_neg hlt]
    clear HX HS2
    go_wp2_with fail
    go_quiet (fail)
    go_wp2
    go_ret
    refine ⟨by rw [HX2.out]; rfl, ?_, grownBy_drewN (grownBy_drewN hg1 _) _⟩
    rw [HQ.out, HI.out]
    exact (hC1.drawn _).drawn _

set_option maxHeartbeats 800000 in
theorem below_fn (w : World) (B b : Nat) (a : Option Addr) (len cap : Nat) (r : Nat → Int) (i h : Int) (n : Int) (hlen : len ≤ 9223372036854775807) (hC : CurF w B b a len cap r i h) (hn : 1 ≤ n) (hn2 : n ≤ 256) :
    Calls Tryz.prog 40 #[.pointer (some ⟨b, 0, none⟩), .int .i64 n] w (DrewF (byteX r len i h % n) w B b a len cap r i h) := by
  obtain ⟨hx0, hx1⟩ := byteX_bound r len i h
  have K := Lib.hid (byte_fn w B b a len cap r i h hlen hC)
  clear hC
  generalize byteX r len i h = x at *
  go_enter Tryz.func40, Tryz.ntmps40
  go_wp2_with fail
  refine K.out.mono ?_
  rintro e w1 ⟨rfl, hC1, hg1⟩
  clear K
  have hm0 : 0 ≤ x % n := Int.emod_nonneg _ (by omega)
  have hm1 : x % n < n := Int.emod_lt_of_pos _ (by omega)
  have hne : ¬ n = 0 := by omega
  go_wp2
  go_ret
  exact ⟨rfl, hC1, hg1⟩

/-- a literal list of texts -/
def LitAt (w : World) (g : Nat) (ts : List ByteArray) : Prop := ∀ k (h : k < ts.length), w.cell? ⟨g, k, none⟩ = some (.string ts[k])
theorem lit_new (w : World) (ts : List ByteArray) (t : Nat) : LitAt (w.alloc (.cells (ts.map Value.string).toArray t)) w.heap.size ts := by
  intro k hk
  simp [hk]
def pickT (ts : List ByteArray) (x : Int) : ByteArray := ts.getD (x % (ts.length : Int)).toNat ⟨#[]⟩
def DrewT (s : ByteArray) (w : World) (B b : Nat) (a : Option Addr) (len cap : Nat) (r : Nat → Int) (i h : Int) (e : Ending) (w' : World) : Prop :=
  e = .returned (.string s) ∧ CurF w' B b a len cap r (nextI len i) (nextH h) ∧ w.grownBy w' (some b)
theorem pick_fn (w : World) (B b : Nat) (a : Option Addr) (len cap : Nat) (r : Nat → Int) (i h : Int) (g n c : Nat) (ts : List ByteArray) (hlen : len ≤ 9223372036854775807) (hC : CurF w B b a len cap r i h) (hn : 1 ≤ n) (hn2 : n ≤ 256) (hts : ts.length = n) (hg : g ≠ b) (hgs : g < w.heap.size) (hT : LitAt w g ts) :
    Calls Tryz.prog 30 #[.pointer (some ⟨b, 0, none⟩), .slice (some ⟨g, 0, none⟩) n c] w (DrewT (pickT ts (byteX r len i h)) w B b a len cap r i h) := by
  subst hts
  have K := Lib.hid (below_fn w B b a len cap r i h (ts.length : Int) hlen hC (by omega) (by omega))
  clear hC
  unfold pickT
  have hx0 : 0 ≤ byteX r len i h % (ts.length : Int) := Int.emod_nonneg _ (by omega)
  have hx1 : byteX r len i h % (ts.length : Int) < (ts.length : Int) := Int.emod_lt_of_pos _ (by omega)
  generalize byteX r len i h % (ts.length : Int) = x at *
  obtain ⟨k, rfl⟩ := Int.eq_ofNat_of_zero_le hx0
  have hk : k < ts.length := by omega
  have hs := hT k hk
  have hgd : Hid (ts.getD (k : Int).toNat ⟨#[]⟩ = ts[k]) := by
    unfold Hid
    rw [Int.toNat_natCast, List.getD_eq_getElem?_getD, List.getElem?_eq_getElem hk]; rfl
  generalize ts[k] = s at *
  clear hT
  go_enter Tryz.func30, Tryz.ntmps30
  go_wp2_with fail
  refine K.out.mono ?_
  rintro e w1 ⟨rfl, hC1, hg1⟩
  have hs1 : w1.cell? ⟨g, k, none⟩ = some (.string s) := (World.cell?_of_block (a := ⟨g, k, none⟩) (hg1.block g hgs (by intro e; cases e; exact hg rfl))).trans hs
  clear hs K
  go_wp2
  go_ret
  exact ⟨by rw [hgd.out]; rfl, hC1, hg1⟩

/-- where a cursor begins -/
def hashTo (r : Nat → Int) (len : Nat) : Nat → Int
  | 0 => 727727 + (len : Int)
  | k + 1 => bits BinOp.and IntKind.i64 (wrap64 (wrap64 (wrap64 (hashTo r len k * 131) + r k) + 7)) 1073741823
def NewF (r : Nat → Int) (w : World) (a : Option Addr) (len cap : Nat) (e : Ending) (w' : World) : Prop :=
  e = .returned (.pointer (some ⟨w.heap.size, 0, none⟩)) ∧ CurF w' w.heap.size w.heap.size a len cap r 0 (hashTo r len (min len 4000)) ∧ Below w.heap.size w w'

set_option maxHeartbeats 800000 in
theorem new_fn (w : World) (a : Option Addr) (len cap : Nat) (hlen : len ≤ 1048576) (hB : BytesIn w a len) (hlow : ∀ x, a = some x → len ≠ 0 → x.block < w.heap.size) :
    Calls Tryz.prog 19 #[.slice a len cap] w (NewF (rd w a len) w a len cap) := by
  have fin : ∀ h : Int, h = hashTo (rd w a len) len (min len 4000) → NewF (rd w a len) w a len cap (.returned (.pointer (some ⟨w.heap.size, 0, none⟩))) (w.alloc (.cells #[.slice a len cap, .int .i64 0, .int .i64 h] 71)) := by
    intro h hh
    subst hh
    refine ⟨rfl, ⟨⟨by simp, Nat.le_refl _, by simp, by simp, by simp, by simp, by simp, by decide, by decide, ?_, hlow⟩, ?_⟩, (Below.refl _ _).alloc (Nat.le_refl _) _⟩
    · exact bytesIn_kept (b := 0) hB (fun x hx h0 => Below.heap_alloc _ _ _ (hlow x hx h0))
    · exact rd_kept (fun x hx h0 => Below.heap_alloc _ _ _ (hlow x hx h0))
  have FIN := Lib.hid fin
  clear fin
  have HZ : Hid (hashTo (rd w a len) len 0 = 727727 + (len : Int)) := rfl
  go_enter Tryz.func19, Tryz.ntmps19
  go_wp2
  go_loop [3, 4] (fun x i => ∃ (k : Nat) (h : Int), k ≤ len ∧ (k : Int) ≤ 4000 ∧ i = .int .i64 k ∧ x = .int .i64 h ∧ Hid (h = hashTo (rd w a len) len k)) (fun _ i => len - (intOf i).toNat)
  case atStart => exact ⟨0, _, Nat.zero_le _, by decide, rfl, rfl, by unfold Hid; rw [HZ.out]⟩
  case round =>
    obtain ⟨k, h, hk, hk4, rfl, rfl, hh⟩ := hrel
    by_cases hlt : k < len ∧ (k : Int) < 4000
    · obtain ⟨hl1, hl2⟩ := hlt
      rcases hB with h0 | ⟨blk, off, rfl, hby⟩
      · omega
      obtain ⟨y, hy0, hy1, hcy⟩ := hby k hl1
      have HR : Hid (rd w (some ⟨blk, off, none⟩) len k = y) := by
        unfold Hid rd
        rw [if_pos hl1]
        show intOf ((w.cell? ⟨blk, off + k, none⟩).getD undef) = y
        rw [hcy]; rfl
      have HN : Hid (hashTo (rd w (some ⟨blk, off, none⟩) len) len (k + 1) = bits BinOp.and IntKind.i64 (wrap64 (wrap64 (wrap64 (h * 131) + y) + 7)) 1073741823) := by
        unfold Hid
        show bits BinOp.and IntKind.i64 (wrap64 (wrap64 (wrap64 (hashTo _ len k * 131) + rd w (some ⟨blk, off, none⟩) len k) + 7)) 1073741823 = _
        rw [HR.out, hh.out]
      clear hby hlow hh HR
      go_wp2
      go_round
      case rel => exact ⟨k + 1, _, by omega, by omega, by go_num, rfl, by unfold Hid; rw [HN.out]⟩
      case measure => simp [intOf]; omega
    · have hkm : k = min len 4000 := by omega
      have FN := Lib.hid (FIN.out h (by rw [hh.out, hkm]))
      clear FIN hB hlow hh hkm
      by_cases hl1 : k < len
      · have hl2 : decide ((k : Int) < 4000) = false := by rw [decide_eq_false_iff_not]; omega
        clear hlt
        go_wp2
        go_ret
        exact FN.out
      · clear hlt
        go_wp2
        go_ret
        exact FN.out

end Go.Proofs.YtflnpkckdjmljaaGreatDoor

/- The mixed numbers of a cursor come by every number: so what waits for some of them ends. -/
namespace Go.Proofs.YtflnpkckdjmljaaGreatDoor
open Go.RowKit
set_option linter.unusedVariables false

def lin (x : Int) : Int := x * 6364136223846793005 + 1442695040888963407
def linN : Nat → Int → Int
  | 0, x => x
  | n + 1, x => linN n (lin x)
theorem linN_add (m n : Nat) (x : Int) : linN (m + n) x = linN n (linN m x) := by
  induction m generalizing x with
  | zero => simp [linN]
  | succ m ih => rw [Nat.succ_add]; exact ih (lin x)
theorem linN_two (k : Nat) : ∃ A C t u q : Int, (∀ x, linN (2 ^ k) x = A * x + C) ∧ A = 4 * t + 1 ∧ A - 1 = 2 ^ (k + 1) * u ∧ C = 2 ^ k * (2 * q + 1) := by
  induction k with
  | zero => exact ⟨6364136223846793005, 1442695040888963407, 1591034055961698251, 3182068111923396502, 721347520444481703, fun x => by simp only [Nat.pow_zero, linN, lin]; omega, by decide, by decide, by decide⟩
  | succ k ih =>
    obtain ⟨A, C, t, u, q, h1, h2, h3, h4⟩ := ih
    refine ⟨A * A, A * C + C, 4 * (t * t) + 2 * t, u * (2 * t + 1), q * (2 * t + 1) + t, fun x => ?_, ?_, ?_, ?_⟩
    · rw [Nat.pow_succ, Nat.mul_two, linN_add, h1, h1, Int.mul_add, Int.mul_assoc, Int.add_assoc]
    · subst h2
      simp only [Int.mul_add, Int.add_mul, Int.mul_one, Int.one_mul]
      have : 4 * t * (4 * t) = 4 * (4 * (t * t)) := by rw [Int.mul_assoc, Int.mul_left_comm t 4 t]
      rw [this]
      omega
    · have e1 : A * A - 1 = (A - 1) * (A + 1) := by rw [Int.sub_mul, Int.mul_add, Int.one_mul, Int.mul_one]; omega
      rw [e1, h3, h2, Int.pow_succ 2 (k + 1)]
      rw [show (4 * t + 1 + 1 : Int) = 2 * (2 * t + 1) by omega, Int.mul_assoc, Int.mul_assoc]
      congr 1
      rw [Int.mul_left_comm]
    · have e1 : A * C + C = (A + 1) * C := by rw [Int.add_mul, Int.one_mul]
      rw [e1, h4, h2, Int.pow_succ, show (4 * t + 1 + 1 : Int) = 2 * (2 * t + 1) by omega]
      have e2 : (2 * (q * (2 * t + 1) + t) + 1 : Int) = (2 * t + 1) * (2 * q + 1) := by
        simp only [Int.mul_add, Int.add_mul, Int.mul_one, Int.one_mul]
        have e3 : 2 * t * (2 * q) = 2 * (q * (2 * t)) := by rw [Int.mul_comm (2 * t) (2 * q), Int.mul_assoc]
        rw [e3]
        omega
      rw [e2, Int.mul_assoc 2 (2 * t + 1), ← Int.mul_assoc (2 * t + 1), Int.mul_comm (2 * t + 1) (2 ^ k), Int.mul_assoc (2 ^ k), Int.mul_left_comm 2 (2 ^ k), ← Int.mul_assoc (2 ^ k) 2]
theorem lin_reach (k : Nat) : ∀ x y : Int, ∃ n, n < 2 ^ k ∧ ∃ d, linN n x - y = 2 ^ k * d := by
  induction k with
  | zero => exact fun x y => ⟨0, by decide, x - y, by simp [linN]⟩
  | succ k ih =>
    intro x y
    obtain ⟨n, hn, d, hd⟩ := ih x y
    obtain ⟨A, C, t, u, q, h1, h2, h3, h4⟩ := linN_two k
    have hp : 2 ^ (k + 1) = 2 ^ k + 2 ^ k := by rw [Nat.pow_succ]; omega
    rcases Int.emod_two_eq d with h | h
    · obtain ⟨f, rfl⟩ : ∃ f, d = 2 * f := ⟨d / 2, by omega⟩
      exact ⟨n, by omega, f, by rw [hd, Int.pow_succ, Int.mul_assoc]⟩
    · obtain ⟨f, rfl⟩ : ∃ f, d = 2 * f + 1 := ⟨d / 2, by omega⟩
      refine ⟨n + 2 ^ k, by omega, u * linN n x + (f + q + 1), ?_⟩
      rw [linN_add, h1]
      generalize linN n x = z at *
      have e1 : A * z = z + 2 ^ (k + 1) * u * z := by rw [← h3, Int.sub_mul]; omega
      rw [e1, h4, Int.pow_succ]
      have e3 : (2 ^ k * 2 * (u * z + (f + q + 1)) : Int) = 2 ^ k * 2 * u * z + 2 ^ k * 2 * (f + q + 1) := by rw [Int.mul_add, ← Int.mul_assoc]
      rw [e3]
      have e2 : (2 ^ k * 2 * (f + q + 1) : Int) = 2 ^ k * (2 * f + 1) + 2 ^ k * (2 * q + 1) := by
        rw [← Int.mul_add, Int.mul_assoc]; congr 1; omega
      rw [e2]
      omega

def itH : Nat → Int → Int
  | 0, h => h
  | n + 1, h => itH n (nextH h)
theorem itH_add (m n : Nat) (h : Int) : itH (m + n) h = itH n (itH m h) := by
  induction m generalizing h with
  | zero => simp [itH]
  | succ m ih => rw [Nat.succ_add]; exact ih (nextH h)
theorem nextH_mod (h : Int) : nextH h % 18446744073709551616 = lin h % 18446744073709551616 := by unfold nextH lin wrap64; omega
theorem nextH_in (h : Int) : -9223372036854775808 ≤ nextH h ∧ nextH h ≤ 9223372036854775807 := by unfold nextH wrap64; omega
theorem lin_mod {a b : Int} (h : a % 18446744073709551616 = b % 18446744073709551616) : lin a % 18446744073709551616 = lin b % 18446744073709551616 := by unfold lin; omega
theorem linN_mod (n : Nat) {a b : Int} (h : a % 18446744073709551616 = b % 18446744073709551616) : linN n a % 18446744073709551616 = linN n b % 18446744073709551616 := by
  induction n generalizing a b with
  | zero => exact h
  | succ n ih => exact ih (lin_mod h)
theorem itH_mod (n : Nat) (h : Int) : itH n h % 18446744073709551616 = linN n h % 18446744073709551616 := by
  induction n generalizing h with
  | zero => rfl
  | succ n ih => exact (ih (nextH h)).trans (linN_mod n (nextH_mod h))
theorem itH_in (n : Nat) (h : Int) (h0 : -9223372036854775808 ≤ h ∧ h ≤ 9223372036854775807) : -9223372036854775808 ≤ itH n h ∧ itH n h ≤ 9223372036854775807 := by
  induction n generalizing h with
  | zero => exact h0
  | succ n ih => exact ih (nextH h) (nextH_in h)
theorem reach (h : Int) : ∃ n, n ≤ 18446744073709551616 ∧ itH n h = 8 := by
  obtain ⟨n, hn, d, hd⟩ := lin_reach 64 (nextH h) 8
  have hn' : n < 18446744073709551616 := hn
  refine ⟨n + 1, by omega, ?_⟩
  show itH n (nextH h) = 8
  have h1 := itH_mod n (nextH h)
  have h2 := itH_in n (nextH h) (nextH_in h)
  have h3 : linN n (nextH h) - 8 = 18446744073709551616 * d := hd
  generalize linN n (nextH h) = y at *
  generalize itH n (nextH h) = x at *
  omega

theorem least (P : Nat → Prop) (h : ∃ n, P n) : ∃ n, P n ∧ ∀ m, m < n → ¬ P m := by
  obtain ⟨n, hn⟩ := h
  induction n using Nat.strongRecOn with
  | _ n ih =>
    by_cases h : ∃ m, m < n ∧ P m
    · obtain ⟨m, hm, hp⟩ := h
      exact ih m hm hp
    · exact ⟨n, hn, fun m hm hp => h ⟨m, hm, hp⟩⟩
noncomputable def rank (h : Int) : Nat := Classical.choose (least (fun n => itH n h = 8) (by obtain ⟨n, _, hn⟩ := reach h; exact ⟨n, hn⟩))
theorem rank_hit (h : Int) : itH (rank h) h = 8 := (Classical.choose_spec (least (fun n => itH n h = 8) (by obtain ⟨n, _, hn⟩ := reach h; exact ⟨n, hn⟩))).1
theorem rank_le {h : Int} {n : Nat} (hn : itH n h = 8) : rank h ≤ n := by
  have := (Classical.choose_spec (least (fun n => itH n h = 8) (by obtain ⟨n, _, hn⟩ := reach h; exact ⟨n, hn⟩))).2
  rcases Nat.lt_or_ge n (rank h) with h1 | h1
  · exact absurd hn (this n h1)
  · exact h1
theorem rank_max (h : Int) : rank h ≤ 18446744073709551616 := by
  obtain ⟨n, h1, h2⟩ := reach h
  exact Nat.le_trans (rank_le h2) h1

/-- whatever is drawn here makes a text longer -/
def goodX (x : Int) : Prop := x % 5 ≠ 1 ∧ x % 5 ≠ 2
theorem good_8 : goodX (showH (nextH 8)) := by unfold goodX; decide +kernel
theorem good_9 : goodX (showH (nextH (nextH 8))) := by unfold goodX; decide +kernel
theorem good_10 : goodX (showH (nextH (nextH (nextH 8)))) := by unfold goodX; decide +kernel
open Classical in
noncomputable def mu (h : Int) : Nat := if h = nextH 8 ∨ h = nextH (nextH 8) then 0 else rank h
theorem mu_le_rank (h : Int) : mu h ≤ rank h := by unfold mu; split <;> omega
theorem mu_max (h : Int) : mu h ≤ 18446744073709551616 := Nat.le_trans (mu_le_rank h) (rank_max h)
theorem mu_step {h : Int} {j : Nat} (hb : ¬ goodX (showH (nextH h))) (h1 : 1 ≤ j) (h3 : j ≤ 3) : mu (itH j h) < mu h := by
  have n0 : h ≠ 8 := fun e => hb (e ▸ good_8)
  have n1 : h ≠ nextH 8 := fun e => hb (e ▸ good_9)
  have n2 : h ≠ nextH (nextH 8) := fun e => hb (e ▸ good_10)
  have e : mu h = rank h := by unfold mu; rw [if_neg (by rintro (h | h) <;> contradiction)]
  rw [e]
  have hr := rank_hit h
  have hpos : 1 ≤ rank h := by
    rcases Nat.eq_zero_or_pos (rank h) with h0 | h0
    · rw [h0] at hr; exact absurd hr n0
    · exact h0
  generalize rank h = m at *
  by_cases hjm : j ≤ m
  · have := rank_le (h := itH j h) (n := m - j) (by rw [← itH_add, show j + (m - j) = m by omega]; exact hr)
    have := mu_le_rank (itH j h)
    omega
  · have e2 : itH j h = itH (j - m) 8 := by rw [← hr, ← itH_add, show m + (j - m) = j by omega]
    have : j - m = 1 ∨ j - m = 2 := by omega
    have e3 : mu (itH j h) = 0 := by
      rw [e2]
      rcases this with h | h <;> rw [h]
      · unfold mu; rw [if_pos (.inl rfl)]
      · unfold mu; rw [if_pos (.inr rfl)]
    omega

/-- how long it may still take -/
noncomputable def still (len : Nat) (i h : Int) : Nat := (len - i.toNat) * 18446744073709551617 + mu h
theorem still_max (len : Nat) (i h : Int) : still len i h < (len + 1) * 18446744073709551617 := by
  have h1 := mu_max h
  have h2 : (len - i.toNat) * 18446744073709551617 ≤ len * 18446744073709551617 := Nat.mul_le_mul_right _ (by omega)
  unfold still
  omega
def itI (len : Nat) : Nat → Int → Int
  | 0, i => i
  | n + 1, i => itI len n (nextI len i)
theorem itI_le (len n : Nat) (i : Int) : i ≤ itI len n i := by
  induction n generalizing i with
  | zero => exact Int.le_refl _
  | succ n ih =>
    refine Int.le_trans ?_ (ih (nextI len i))
    unfold nextI; split <;> omega
theorem itI_end (len n : Nat) (i : Int) (h : ¬ i < (len : Int)) : itI len n i = i := by
  induction n with
  | zero => rfl
  | succ n ih =>
    show itI len n (nextI len i) = i
    have : nextI len i = i := by unfold nextI; rw [if_neg h]
    rw [this]; exact ih
theorem still_step (r : Nat → Int) (len : Nat) (i h : Int) (j : Nat) (h0 : 0 ≤ i) (hb : ¬ goodX (byteX r len i h)) (h1 : 1 ≤ j) (h3 : j ≤ 3) : still len (itI len j i) (itH j h) < still len i h := by
  unfold still
  by_cases hi : i < (len : Int)
  · obtain ⟨j, rfl⟩ : ∃ m, j = m + 1 := ⟨j - 1, by omega⟩
    have e := itI_le len j (nextI len i)
    have e1 : nextI len i = i + 1 := by unfold nextI; rw [if_pos hi]
    have e2 : i + 1 ≤ itI len (j + 1) i := by show i + 1 ≤ itI len j (nextI len i); omega
    have hm := mu_max (itH (j + 1) h)
    generalize itI len (j + 1) i = i' at *
    have : len - i'.toNat + 1 ≤ len - i.toNat := by omega
    have h4 : (len - i'.toNat + 1) * 18446744073709551617 ≤ (len - i.toNat) * 18446744073709551617 := Nat.mul_le_mul_right _ this
    rw [Nat.add_mul] at h4
    omega
  · rw [itI_end len j i hi]
    have : byteX r len i h = showH (nextH h) := by unfold byteX; rw [if_neg hi]
    rw [this] at hb
    have := mu_step hb h1 h3
    omega
/-- the same, with what is still to come -/
noncomputable def togo (n len l : Nat) (i h : Int) : Nat := (n - l) * ((len + 1) * 18446744073709551617) + still len i h
theorem togo_still (r : Nat → Int) (n len l : Nat) (i h : Int) (j : Nat) (h0 : 0 ≤ i) (hb : ¬ goodX (byteX r len i h)) (h1 : 1 ≤ j) (h3 : j ≤ 3) : togo n len l (itI len j i) (itH j h) < togo n len l i h := by
  unfold togo
  have := still_step r len i h j h0 hb h1 h3
  omega
theorem togo_grow (n len l l' : Nat) (i h i' h' : Int) (hl : l < n) (hll : l < l') : togo n len l' i' h' < togo n len l i h := by
  unfold togo
  have h1 := still_max len i' h'
  have h2 : n - l' + 1 ≤ n - l := by omega
  have h3 : (n - l' + 1) * ((len + 1) * 18446744073709551617) ≤ (n - l) * ((len + 1) * 18446744073709551617) := Nat.mul_le_mul_right _ h2
  rw [Nat.add_mul, Nat.one_mul] at h3
  generalize (len + 1) * 18446744073709551617 = K at *
  omega

end Go.Proofs.YtflnpkckdjmljaaGreatDoor

/- The text that is drawn of a given size. -/
namespace Go.Proofs.YtflnpkckdjmljaaGreatDoor
open Go.RowKit
set_option linter.unusedVariables false

def byteV (c : UInt8) : Value := .int .u8 (c.toNat : Int)
theorem info_byteT : (Tryz.prog.info? 5).map (fun i => (i.zero, i.size, i.bytes)) = some (some (.int .u8 0), 1, 1) := by kernel_rfl

/-- a row of bytes of the call's own, beside a cursor -/
structure TI (w : World) (B b : Nat) (a : Option Addr) (len cap : Nat) (r : Nat → Int) (l : List UInt8) (v : Value) (i h : Int) (wr : World) : Prop where
  own : wr.ownsRow w.heap.size 5 1 v l.length (l.map byteV)
  form : ∃ g c, v = .slice (some ⟨g, 0, none⟩) l.length c
  cur : CurF wr B b a len cap r i h
  grown : w.grownBy wr (some b)
  low : b < w.heap.size

theorem TI.draw {w : World} {B b : Nat} {a : Option Addr} {len cap : Nat} {r : Nat → Int} {l : List UInt8} {v : Value} {i h i' h' : Int} {wr w' : World} (H : TI w B b a len cap r l v i h wr) (hC : CurF w' B b a len cap r i' h') (hg : wr.grownBy w' (some b)) : TI w B b a len cap r l v i' h' w' :=
  ⟨H.own.kept hg (.inr (fun e => by have := (H.own.lt b e).1; have := H.low; omega)), H.form, hC, grownBy_step H.grown hg, H.low⟩
theorem TI.push {w : World} {B b : Nat} {a : Option Addr} {len cap : Nat} {r : Nat → Int} {l : List UInt8} {x : UInt8} {v v' : Value} {i h : Int} {wr w1 : World} {o : Obj} (H : TI w B b a len cap r l v i h wr)
    (hown : w1.ownsRow w.heap.size 5 1 v' (l.length + 1) (l.map byteV ++ [byteV x])) (hg : (wr.alloc o).grownBy w1 v.ownBlock) : TI w B b a len cap r (l ++ [x]) v' i h w1 := by
  have hsz := H.grown.size
  have keep : ∀ k, k < w.heap.size → w1.heap[k]? = wr.heap[k]? := fun k hk =>
    (hg.block k (by simp; omega) (fun e => by have := (H.own.lt k e.symm).1; omega)).trans (Below.heap_alloc _ _ _ (by omega))
  have hs2 : wr.heap.size ≤ w1.heap.size := Nat.le_trans (by simp) hg.size
  refine ⟨by simpa using hown, ?_, H.cur.kept (fun k hk => keep k (by have := H.low; omega)) hs2, ?_, H.low⟩
  · obtain ⟨g, c, e⟩ := ownsRow_succ hown
    exact ⟨g, c, by rw [e]; simp⟩
  · refine ⟨hg.os.trans H.grown.os, hg.tape.trans H.grown.tape, hg.output.trans H.grown.output, Nat.le_trans hsz hs2, fun k hk hne => (keep k hk).trans (H.grown.block k hk hne)⟩

noncomputable def cI (wr : World) (b : Nat) : Int := intOf ((wr.cell? ⟨b, 1, none⟩).getD undef)
noncomputable def cH (wr : World) (b : Nat) : Int := intOf ((wr.cell? ⟨b, 2, none⟩).getD undef)
def lenOf : Value → Nat | .slice _ n _ => n | _ => 0
theorem TI.see {w : World} {B b : Nat} {a : Option Addr} {len cap : Nat} {r : Nat → Int} {l : List UInt8} {v : Value} {i h : Int} {wr : World} (H : TI w B b a len cap r l v i h wr) : cI wr b = i ∧ cH wr b = h ∧ lenOf v = l.length ∧ 0 ≤ i := by
  obtain ⟨g, c, rfl⟩ := H.form
  refine ⟨?_, ?_, rfl, H.cur.1.i0⟩
  · unfold cI; rw [H.cur.1.c1]; rfl
  · unfold cH; rw [H.cur.1.c2]; rfl
theorem to_byte (x : Int) : ∃ c : UInt8, x % 256 = (c.toNat : Int) := by
  refine ⟨UInt8.ofNat (x % 256).toNat, ?_⟩
  rw [UInt8.toNat_ofNat']
  omega

def SomeT (n : Nat) (w : World) (B b : Nat) (a : Option Addr) (len cap : Nat) (r : Nat → Int) (e : Ending) (w' : World) : Prop :=
  ∃ (s : ByteArray) (i' h' : Int), s.size = n ∧ e = .returned (.string s) ∧ CurF w' B b a len cap r i' h' ∧ w.grownBy w' (some b)

theorem text_back {w : World} {B b : Nat} {a : Option Addr} {len cap : Nat} {r : Nat → Int} {l : List UInt8} {g c : Nat} {i h : Int} {wr : World} (H : TI w B b a len cap r l (.slice (some ⟨g, 0, none⟩) l.length c) i h wr) (n : Nat) (hn : n ≤ l.length) :
    (convert 22 9 (.slice (some ⟨g, 0, none⟩) n c)).run Tryz.prog wr = .ok (.string ⟨(l.take n).toArray⟩) wr := by
  have h := run_convert_bytes_back (P := Tryz.prog) wr 22 9 5 ⟨g, 0, none⟩ c (l.take n) Tryz.underlying22 Tryz.underlying5 Tryz.underlying9 (fun j hj => by
    have hj2 : j < n := by rw [List.length_take] at hj; omega
    have := H.own.cells (g := g) rfl j (byteV l[j]) (by simp [show j < l.length by omega])
    rw [this]
    simp [byteV])
  rw [List.length_take, Nat.min_eq_left hn] at h
  exact h

set_option maxRecDepth 100000 in
set_option maxHeartbeats 3200000 in
theorem text_draw (w : World) (B b : Nat) (a : Option Addr) (len cap : Nat) (r : Nat → Int) (i0 h0 : Int) (n : Nat) (hlen : len ≤ 1048576) (hC : CurF w B b a len cap r i0 h0) (hn : n ≤ 16) :
    Calls Tryz.prog 41 #[.pointer (some ⟨b, 0, none⟩), .int .i64 n] w (SomeT n w B b a len cap r) := by
  obtain ⟨ib, hi, hz0, hz1, hz2⟩ := info_parts info_byteT
  have hlt := hC.lt
  go_enter Tryz.func41, Tryz.ntmps41
  go_wp2
  go_loopw [5] (fun v wr => ∃ (l : List UInt8) (i h : Int), l.length ≤ 40 ∧ Hid (TI w B b a len cap r l v i h wr)) (fun v wr => togo n len (lenOf v) (cI wr b) (cH wr b))
  case atStart => exact ⟨[], i0, h0, by simp, ⟨World.ownsRow_lit w #[] 0 (Nat.le_refl _) (Nat.zero_le _) rfl, ⟨_, _, rfl⟩, hC.alloc _, World.grownBy_alloc w _ _, hlt⟩⟩
  case round =>
    obtain ⟨l, i, h, hl40, H⟩ := hrel
    obtain ⟨sI, sH, sL, hi0⟩ := H.out.see
    have SI := Lib.hid sI
    have SH := Lib.hid sH
    have SL := Lib.hid sL
    clear sI sH sL hC
    obtain ⟨g, c, rfl⟩ := H.out.form
    by_cases hln : l.length < n
    · go_wp2_with fail
      refine (below_fn _ B b a len cap r i h 5 (by omega) H.out.cur (by decide) (by decide)).mono ?_
      rintro e w1 ⟨rfl, hC1, hg1⟩
      have H1 := Lib.hid (H.out.draw hC1 hg1)
      clear H hC1 hg1
      have hx : byteX r len i h % 5 = 0 ∨ byteX r len i h % 5 = 1 ∨ byteX r len i h % 5 = 2 ∨ byteX r len i h % 5 = 3 ∨ byteX r len i h % 5 = 4 := by
        have hb0 := byteX_bound r len i h
        omega
      rcases hx with hx | hx | hx | hx | hx
      · rw [hx]
        clear hx
        have hb1 := byteX_bound r len (nextI len i) (nextH h)
        have K := Lib.hid (byte_fn w1 B b a len cap r (nextI len i) (nextH h) (by omega) H1.out.cur)
        generalize byteX r len (nextI len i) (nextH h) = y at *
        go_wp2_with fail
        refine K.out.mono ?_
        rintro e w2 ⟨rfl, hC2, hg2⟩
        have H2 := Lib.hid (H1.out.draw hC2 hg2)
        clear H1 hC2 hg2 K
        obtain ⟨x, hx⟩ := to_byte y
        have hy : y % 256 = y := by omega
        rw [hy] at hx
        subst hx
        go_wp2_with (at_builtin; refine wpList_append_own _ rfl _ _ 22 rfl w.heap.size 5 ib (.int .u8 0) 1 1 Tryz.underlying22 hi hz0 hz1 hz2 rfl (by decide) _ _ _ rfl (H2.out.own.alloc _) ⟨w2.heap.size, 0, none⟩ 1 1 [byteV x] rfl rfl (cell_one_new _ _ _) (by simp [Value.oneCell', byteV]) (by unfold maxLen; omega) (by omega) (by have := H2.out.grown.size; simp; omega) ?_; intro v' wn hown' hgrow _)
        have HN := Lib.hid (H2.out.push hown' hgrow)
        clear H2 hown' hgrow
        go_wp2
        go_roundw
        case rel => exact ⟨_, _, _, by simp; omega, HN⟩
        case measure =>
          obtain ⟨s1, s2, s3, s4⟩ := HN.out.see
          rw [s1, s2, s3, SI.out, SH.out, SL.out]
          exact togo_grow _ _ _ _ _ _ _ _ hln (by simp)
      · have hbad : ¬ goodX (byteX r len i h) := fun hg => hg.1 hx
        have HBAD := Lib.hid hbad
        rw [hx]
        clear hx hbad
        have hk0 : 0 ≤ byteX r len (nextI len i) (nextH h) % 9 := Int.emod_nonneg _ (by decide)
        have hk1 : byteX r len (nextI len i) (nextH h) % 9 < 9 := Int.emod_lt_of_pos _ (by decide)
        have K := Lib.hid (below_fn w1 B b a len cap r (nextI len i) (nextH h) 9 (by omega) H1.out.cur (by decide) (by decide))
        generalize byteX r len (nextI len i) (nextH h) % 9 = kk at *
        obtain ⟨k, rfl⟩ := Int.eq_ofNat_of_zero_le hk0
        have hm0 : 0 ≤ byteX r len (nextI len (nextI len i)) (nextH (nextH h)) % 4 := Int.emod_nonneg _ (by decide)
        have hm1 : byteX r len (nextI len (nextI len i)) (nextH (nextH h)) % 4 < 4 := Int.emod_lt_of_pos _ (by decide)
        go_wp2_with fail
        refine K.out.mono ?_
        rintro e w2 ⟨rfl, hC2, hg2⟩
        have H2 := Lib.hid (H1.out.draw hC2 hg2)
        clear H1 hC2 hg2 K
        have K := Lib.hid (below_fn w2 B b a len cap r (nextI len (nextI len i)) (nextH (nextH h)) 4 (by omega) H2.out.cur (by decide) (by decide))
        generalize byteX r len (nextI len (nextI len i)) (nextH (nextH h)) % 4 = y at *
        obtain ⟨x, hx⟩ := to_byte (97 + y)
        have hy : (97 + y) % 256 = 97 + y := by omega
        rw [hy] at hx
        obtain rfl : y = (x.toNat : Int) - 97 := by omega
        have hxx : 97 + ((x.toNat : Int) - 97) = (x.toNat : Int) := by omega
        clear hx hy
        go_wp2_with fail
        refine K.out.mono ?_
        rintro e w3 ⟨rfl, hC3, hg3⟩
        have H3 := Lib.hid (H2.out.draw hC3 hg3)
        clear H2 hC3 hg3 K
        go_wp2
        go_loopw [5, 8] (fun v q wq => ∃ (j : Nat) (m : List UInt8), j ≤ k ∧ q = .int .i64 j ∧ m.length = l.length + j ∧ Hid (TI w B b a len cap r m v (nextI len (nextI len (nextI len i))) (nextH (nextH (nextH h))) wq)) (fun _ q _ => k - (intOf q).toNat)
        case atStart => exact ⟨0, l, Nat.zero_le _, rfl, rfl, H3⟩
        case round =>
          obtain ⟨j, m, hj, rfl, hm, HM⟩ := hrel
          clear H3
          obtain ⟨g2, c2, rfl⟩ := HM.out.form
          by_cases hjk : j < k
          · go_wp2_with (at_builtin; refine wpList_append_own _ rfl _ _ 22 rfl w.heap.size 5 ib (.int .u8 0) 1 1 Tryz.underlying22 hi hz0 hz1 hz2 rfl (by decide) _ _ _ rfl (HM.out.own.alloc _) ⟨wr.heap.size, 0, none⟩ 1 1 [byteV x] rfl rfl (cell_one_new _ _ _) (by simp [Value.oneCell', byteV]) (by unfold maxLen; omega) (by omega) (by have := HM.out.grown.size; simp; omega) ?_; intro v' wn hown' hgrow _)
            have HN := Lib.hid (HM.out.push hown' hgrow)
            clear HM hown' hgrow
            go_wp2
            go_roundw
            case rel => exact ⟨j + 1, m ++ [x], by omega, by go_num, by simp; omega, HN⟩
            case measure => simp [intOf]; omega
          · obtain rfl : j = k := by omega
            go_wp2
            go_roundw
            case rel => exact ⟨m, _, _, by omega, HM⟩
            case measure =>
              obtain ⟨s1, s2, s3, s4⟩ := HM.out.see
              rw [s1, s2, s3, SI.out, SH.out, SL.out]
              by_cases hj0 : j = 0
              · rw [show m.length = l.length by omega]
                exact togo_still r n len l.length i h 3 hi0 HBAD.out (by decide) (by decide)
              · exact togo_grow _ _ _ _ _ _ _ _ hln (by omega)
      · have hbad : ¬ goodX (byteX r len i h) := fun hg => hg.2 hx
        have HBAD := Lib.hid hbad
        rw [hx]
        clear hx hbad
        rcases Nat.eq_zero_or_pos l.length with hl0 | hl0
        · obtain rfl : l = [] := List.eq_nil_of_length_eq_zero hl0
          clear hl0
          go_wp2
          go_roundw
          case rel => exact ⟨[], _, _, by simp, H1⟩
          case measure =>
            obtain ⟨s1, s2, s3, s4⟩ := H1.out.see
            rw [s1, s2, SI.out, SH.out]
            exact togo_still r n len _ i h 1 hi0 HBAD.out (by decide) (by decide)
        · have hz : decide ((0 : Int) < ((l.length : Nat) : Int)) = true := by rw [decide_eq_true_iff]; omega
          have hk0 : 0 ≤ byteX r len (nextI len i) (nextH h) % (l.length : Int) := Int.emod_nonneg _ (by omega)
          have hk1 : byteX r len (nextI len i) (nextH h) % (l.length : Int) < (l.length : Int) := Int.emod_lt_of_pos _ (by omega)
          have K := Lib.hid (below_fn w1 B b a len cap r (nextI len i) (nextH h) (l.length : Int) (by omega) H1.out.cur (by omega) (by omega))
          generalize byteX r len (nextI len i) (nextH h) % (l.length : Int) = ff at *
          obtain ⟨f, rfl⟩ := Int.eq_ofNat_of_zero_le hk0
          have hm0 : 0 ≤ byteX r len (nextI len (nextI len i)) (nextH (nextH h)) % 20 := Int.emod_nonneg _ (by decide)
          have hm1 : byteX r len (nextI len (nextI len i)) (nextH (nextH h)) % 20 < 20 := Int.emod_lt_of_pos _ (by decide)
          go_wp2_with fail
          refine K.out.mono ?_
          rintro e w2 ⟨rfl, hC2, hg2⟩
          have H2 := Lib.hid (H1.out.draw hC2 hg2)
          clear H1 hC2 hg2 K
          have K := Lib.hid (below_fn w2 B b a len cap r (nextI len (nextI len i)) (nextH (nextH h)) 20 (by omega) H2.out.cur (by decide) (by decide))
          generalize byteX r len (nextI len (nextI len i)) (nextH (nextH h)) % 20 = kk at *
          obtain ⟨k, rfl⟩ := Int.eq_ofNat_of_zero_le hm0
          go_wp2_with fail
          refine K.out.mono ?_
          rintro e w3 ⟨rfl, hC3, hg3⟩
          have H3 := Lib.hid (H2.out.draw hC3 hg3)
          clear H2 hC3 hg3 K
          clear hz
          go_wp2
          go_loopw [5, 11] (fun v q wq => ∃ (j : Nat) (m : List UInt8), j ≤ k ∧ q = .int .i64 j ∧ m.length = l.length + j ∧ Hid (TI w B b a len cap r m v (nextI len (nextI len (nextI len i))) (nextH (nextH (nextH h))) wq)) (fun _ q _ => k - (intOf q).toNat)
          case atStart => exact ⟨0, l, Nat.zero_le _, rfl, rfl, H3⟩
          case round =>
            obtain ⟨j, m, hj, rfl, hm, HM⟩ := hrel
            clear H3
            obtain ⟨g2, c2, rfl⟩ := HM.out.form
            by_cases hjk : j < k
            · skip
              have hfm : f + j < m.length := by omega
              have q1 : (f : Int) + (j : Int) < (m.length : Int) := by omega
              have hcell : wr.cell? ⟨g2, f + j, none⟩ = some (.int .u8 ((m[f + j].toNat : Nat) : Int)) := by
                have := HM.out.own.cellAt (f + j) (by omega)
                rw [this]
                simp [hfm, byteV]
              generalize m[f + j] = x at *
              go_wp2_with (at_builtin; refine wpList_append_own _ rfl _ _ 22 rfl w.heap.size 5 ib (.int .u8 0) 1 1 Tryz.underlying22 hi hz0 hz1 hz2 rfl (by decide) _ _ _ rfl (HM.out.own.alloc _) ⟨wr.heap.size, 0, none⟩ 1 1 [byteV x] rfl rfl (cell_one_new _ _ _) (by simp [Value.oneCell', byteV]) (by unfold maxLen; omega) (by omega) (by have := HM.out.grown.size; simp; omega) ?_; intro v' wn hown' hgrow _)
              have HN := Lib.hid (HM.out.push hown' hgrow)
              clear HM hown' hgrow hcell
              go_wp2
              go_roundw
              case rel => exact ⟨j + 1, m ++ [x], by omega, by go_num, by simp; omega, HN⟩
              case measure => simp [intOf]; omega
            · obtain rfl : j = k := by omega
              go_wp2
              go_roundw
              case rel => exact ⟨m, _, _, by omega, HM⟩
              case measure =>
                obtain ⟨s1, s2, s3, s4⟩ := HM.out.see
                rw [s1, s2, s3, SI.out, SH.out, SL.out]
                by_cases hj0 : j = 0
                · rw [show m.length = l.length by omega]
                  exact togo_still r n len l.length i h 3 hi0 HBAD.out (by decide) (by decide)
                · exact togo_grow _ _ _ _ _ _ _ _ hln (by omega)
      · rw [hx]
        clear hx
        have hb1 := byteX_bound r len (nextI len i) (nextH h)
        have K := Lib.hid (below_fn w1 B b a len cap r (nextI len i) (nextH h) 26 (by omega) H1.out.cur (by decide) (by decide))
        have hm0 : 0 ≤ byteX r len (nextI len i) (nextH h) % 26 := Int.emod_nonneg _ (by decide)
        have hm1 : byteX r len (nextI len i) (nextH h) % 26 < 26 := Int.emod_lt_of_pos _ (by decide)
        generalize byteX r len (nextI len i) (nextH h) % 26 = y at *
        obtain ⟨x, hx⟩ := to_byte (97 + y)
        have hy : (97 + y) % 256 = 97 + y := by omega
        rw [hy] at hx
        have HX := Lib.hid hx
        clear hx hy
        go_wp2_with fail
        refine K.out.mono ?_
        rintro e w2 ⟨rfl, hC2, hg2⟩
        have H2 := Lib.hid (H1.out.draw hC2 hg2)
        clear H1 hC2 hg2 K
        obtain rfl : y = (x.toNat : Int) - 97 := by have := HX.out; omega
        have hxx : 97 + ((x.toNat : Int) - 97) = (x.toNat : Int) := by omega
        clear HX
        go_wp2_with (at_builtin; refine wpList_append_own _ rfl _ _ 22 rfl w.heap.size 5 ib (.int .u8 0) 1 1 Tryz.underlying22 hi hz0 hz1 hz2 rfl (by decide) _ _ _ rfl (H2.out.own.alloc _) ⟨w2.heap.size, 0, none⟩ 1 1 [byteV x] rfl rfl (cell_one_new _ _ _) (by simp [Value.oneCell', byteV]) (by unfold maxLen; omega) (by omega) (by have := H2.out.grown.size; simp; omega) ?_; intro v' wn hown' hgrow _)
        have HN := Lib.hid (H2.out.push hown' hgrow)
        clear H2 hown' hgrow
        go_wp2
        go_roundw
        case rel => exact ⟨_, _, _, by simp; omega, HN⟩
        case measure =>
          obtain ⟨s1, s2, s3, s4⟩ := HN.out.see
          rw [s1, s2, s3, SI.out, SH.out, SL.out]
          exact togo_grow _ _ _ _ _ _ _ _ hln (by simp)
      · rw [hx]
        clear hx
        have hb1 := byteX_bound r len (nextI len i) (nextH h)
        have K := Lib.hid (below_fn w1 B b a len cap r (nextI len i) (nextH h) 26 (by omega) H1.out.cur (by decide) (by decide))
        have hm0 : 0 ≤ byteX r len (nextI len i) (nextH h) % 26 := Int.emod_nonneg _ (by decide)
        have hm1 : byteX r len (nextI len i) (nextH h) % 26 < 26 := Int.emod_lt_of_pos _ (by decide)
        generalize byteX r len (nextI len i) (nextH h) % 26 = y at *
        obtain ⟨x, hx⟩ := to_byte (97 + y)
        have hy : (97 + y) % 256 = 97 + y := by omega
        rw [hy] at hx
        have HX := Lib.hid hx
        clear hx hy
        go_wp2_with fail
        refine K.out.mono ?_
        rintro e w2 ⟨rfl, hC2, hg2⟩
        have H2 := Lib.hid (H1.out.draw hC2 hg2)
        clear H1 hC2 hg2 K
        obtain rfl : y = (x.toNat : Int) - 97 := by have := HX.out; omega
        have hxx : 97 + ((x.toNat : Int) - 97) = (x.toNat : Int) := by omega
        clear HX
        go_wp2_with (at_builtin; refine wpList_append_own _ rfl _ _ 22 rfl w.heap.size 5 ib (.int .u8 0) 1 1 Tryz.underlying22 hi hz0 hz1 hz2 rfl (by decide) _ _ _ rfl (H2.out.own.alloc _) ⟨w2.heap.size, 0, none⟩ 1 1 [byteV x] rfl rfl (cell_one_new _ _ _) (by simp [Value.oneCell', byteV]) (by unfold maxLen; omega) (by omega) (by have := H2.out.grown.size; simp; omega) ?_; intro v' wn hown' hgrow _)
        have HN := Lib.hid (H2.out.push hown' hgrow)
        clear H2 hown' hgrow
        go_wp2
        go_roundw
        case rel => exact ⟨_, _, _, by simp; omega, HN⟩
        case measure =>
          obtain ⟨s1, s2, s3, s4⟩ := HN.out.see
          rw [s1, s2, s3, SI.out, SH.out, SL.out]
          exact togo_grow _ _ _ _ _ _ _ _ hln (by simp)
    · have hnc : n ≤ c := by
        rcases H.out.own.2 with ⟨hv, _⟩ | ⟨g', cap', cur, hv, hb, hg, hnc, _⟩
        · cases hv
        · cases hv; omega
      have hcv := text_back H.out n (by omega)
      have hnn : (n : Int) ≤ (c : Int) := by omega
      have hsz : (⟨(l.take n).toArray⟩ : ByteArray).size = n := by
        rw [show (⟨(l.take n).toArray⟩ : ByteArray).size = (l.take n).length from rfl, List.length_take]; omega
      have HS := Lib.hid hsz
      clear hsz
      go_wp2
      go_ret
      exact ⟨_, i, h, HS.out, rfl, H.out.cur, H.out.grown⟩

end Go.Proofs.YtflnpkckdjmljaaGreatDoor

/- The draws of chapter 7: bounds alone. -/
set_option maxRecDepth 100000
namespace Go.Proofs.YtflnpkckdjmljaaGreatDoor
open Go.RowKit
set_option linter.unusedVariables false

theorem textF_draw (w : World) (B b : Nat) (a : Option Addr) (len cap : Nat) (n : Int) (h0 : 0 ≤ n) (h1 : n ≤ 16) (hlen : len ≤ 1048576) (hC : CurAt w B b a len cap) :
    Calls Tryz.prog 41 #[.pointer (some ⟨b, 0, none⟩), .int .i64 n] w (DrewS 16 w B b a len cap) := by
  obtain ⟨i, h, hC⟩ := hC
  obtain ⟨k, rfl⟩ := Int.eq_ofNat_of_zero_le h0
  refine (text_draw w B b a len cap (rd w a len) i h k hlen ⟨hC, rfl⟩ (by omega)).mono ?_
  rintro e w' ⟨s, i', h', hs, rfl, hC', hg⟩
  exact ⟨s, by omega, rfl, hC'.at_, hg⟩
set_option maxHeartbeats 1600000 in
theorem text7_draw (w : World) (B b : Nat) (a : Option Addr) (len cap : Nat) (hlen : len ≤ 1048576) (hC : CurAt w B b a len cap) :
    Calls Tryz.prog 20 #[.pointer (some ⟨b, 0, none⟩)] w (DrewS 20 w B b a len cap) := by
  go_enter Tryz.func20, Tryz.ntmps20
  go_wp2_with fail
  refine (below_draw w B b a len cap 3 (by omega) hC (by decide) (by decide)).mono ?_
  rintro e w1 ⟨x, hx0, hx1, rfl, hC1, hg1⟩
  clear hC
  have hlt1 := hC1.lt
  rcases (show x = 0 ∨ x = 1 ∨ x = 2 by omega) with rfl | rfl | rfl
  · go_wp2_with fail
    refine (pick_draw _ B b a len cap w1.heap.size 7 7 20 (by omega) (hC1.alloc _) (by decide) (by decide) (by omega) (by simp) (by refine texts_alloc w1 _ _ _ _ ?_; decide +kernel)).mono ?_
    rintro e w3 ⟨s, hs, rfl, hC3, hg3⟩
    have hg4 := grownBy_step (grownBy_new hg1 _) hg3
    clear hC1 hg1 hg3 hlt1
    go_wp2
    go_ret
    exact ⟨s, hs, rfl, hC3, hg4⟩
  · go_wp2_with fail
    refine (text3_draw w1 B b a len cap (by omega) hC1).mono ?_
    rintro e w3 ⟨s, hs, rfl, hC3, hg3⟩
    have hg4 := grownBy_step hg1 hg3
    clear hC1 hg1 hg3 hlt1
    go_wp2
    go_ret
    exact ⟨s, hs, rfl, hC3, hg4⟩
  · go_wp2_with fail
    refine (below_draw w1 B b a len cap 5 (by omega) hC1 (by decide) (by decide)).mono ?_
    rintro e w2 ⟨y, hy0, hy1, rfl, hC2, hg2⟩
    have hg3 := grownBy_step hg1 hg2
    clear hC1 hg1 hg2 hlt1
    go_wp2_with fail
    refine (textF_draw w2 B b a len cap y hy0 (by omega) hlen hC2).mono ?_
    rintro e w3 ⟨s, hs, rfl, hC3, hg4⟩
    have hg5 := grownBy_step hg3 hg4
    clear hC2 hg3 hg4
    go_wp2
    go_ret
    exact ⟨s, by omega, rfl, hC3, hg5⟩
/-- two texts; nothing old has turned -/
def SomeTwo (m : Nat) (w : World) (e : Ending) (w' : World) : Prop := ∃ s t : ByteArray, s.size ≤ m ∧ t.size ≤ m ∧ e = .returned (.tuple #[.string s, .string t]) ∧ Below w.heap.size w w'
set_option maxHeartbeats 800000 in
theorem drawPropPair (w : World) (a : Option Addr) (len cap : Nat) (hlen : len ≤ 1048576) (hB : BytesIn w a len) (hlow : ∀ x, a = some x → len ≠ 0 → x.block < w.heap.size) :
    Calls Tryz.prog 6 #[.slice a len cap] w (SomeTwo 20 w) := by
  go_enter Tryz.func6, Tryz.ntmps6
  go_wp2_with fail
  refine (new_draw w a len cap hlen hB hlow).mono ?_
  rintro e w1 ⟨rfl, hC1, hb1⟩
  clear hB hlow
  go_wp2_with fail
  refine (text7_draw w1 w.heap.size w.heap.size a len cap hlen hC1).mono ?_
  rintro e w2 ⟨s, hs, rfl, hC2, hg2⟩
  have hb2 := hb1.trans (grownBy_below hg2 (Nat.le_refl _) hb1.size)
  clear hC1 hg2 hb1
  go_wp2_with fail
  refine (text7_draw w2 w.heap.size w.heap.size a len cap hlen hC2).mono ?_
  rintro e w3 ⟨t, ht, rfl, hC3, hg3⟩
  have hb3 := hb2.trans (grownBy_below hg3 (Nat.le_refl _) hb2.size)
  clear hC2 hg3 hb2 hC3
  go_wp2
  go_ret2
  exact ⟨s, t, hs, ht, rfl, hb3⟩
set_option maxHeartbeats 800000 in
theorem drawPropValue (w : World) (a : Option Addr) (len cap : Nat) (hlen : len ≤ 1048576) (hB : BytesIn w a len) (hlow : ∀ x, a = some x → len ≠ 0 → x.block < w.heap.size) :
    Calls Tryz.prog 15 #[.slice a len cap] w (SomeText 20 w) := by
  go_enter Tryz.func15, Tryz.ntmps15
  go_wp2_with fail
  refine (new_draw w a len cap hlen hB hlow).mono ?_
  rintro e w1 ⟨rfl, hC1, hb1⟩
  clear hB hlow
  go_wp2_with fail
  refine (text7_draw w1 w.heap.size w.heap.size a len cap hlen hC1).mono ?_
  rintro e w2 ⟨s, hs, rfl, hC2, hg2⟩
  have hb2 := hb1.trans (grownBy_below hg2 (Nat.le_refl _) hb1.size)
  clear hC1 hg2 hb1 hC2
  go_wp2
  go_ret
  exact ⟨s, hs, rfl, hb2⟩
set_option maxHeartbeats 1600000 in
theorem drawPropText (w : World) (a : Option Addr) (len cap : Nat) (hlen : len ≤ 1048576) (hB : BytesIn w a len) (hlow : ∀ x, a = some x → len ≠ 0 → x.block < w.heap.size) :
    Calls Tryz.prog 12 #[.slice a len cap] w (SomeText 300 w) := by
  go_enter Tryz.func12, Tryz.ntmps12
  go_wp2_with fail
  refine (new_draw w a len cap hlen hB hlow).mono ?_
  rintro e w1 ⟨rfl, hC1, hb1⟩
  clear hB hlow
  go_wp2_with fail
  refine (once_draw w1 w.heap.size w.heap.size a len cap 3 (by omega) hC1 (by decide) (by decide)).mono ?_
  rintro e w2 ⟨x, rfl, hC2, hg2⟩
  have hb2 := hb1.trans (grownBy_below hg2 (Nat.le_refl _) hb1.size)
  clear hC1 hg2 hb1
  have hlt2 := hC2.lt
  cases x
  · go_wp2_with fail
    refine (text3_draw w2 w.heap.size w.heap.size a len cap (by omega) hC2).mono ?_
    rintro e w3 ⟨t, ht, rfl, hC3, hg3⟩
    have hb3 := hb2.trans (grownBy_below hg3 (Nat.le_refl _) hb2.size)
    clear hC2 hg3 hb2 hlt2
    go_wp2_with fail
    refine (propKey_spec t _ (by omega)).mono ?_
    rintro e w4 ⟨rfl, hb4⟩
    have hC4 := hC3.kept hb4
    have hb5 := hb3.trans (hb4.mono hb3.size)
    have hkz := propPutT_size true t
    generalize propPutT true t = y at *
    clear hC3 hb3 hb4
    go_wp2_with fail
    refine (bent_draw w4 w.heap.size w.heap.size a len cap y hlen (by omega) hC4).mono ?_
    rintro e w5 ⟨s, hs, rfl, hC5, hg5⟩
    have hb6 := hb5.trans (grownBy_below hg5 (Nat.le_refl _) hb5.size)
    clear hC4 hg5 hb5 hC5
    go_wp2
    go_ret
    exact ⟨s, by omega, rfl, hb6⟩
  · go_wp2_with fail
    refine (pick_draw _ w.heap.size w.heap.size a len cap w2.heap.size 9 9 21 (by omega) (hC2.alloc _) (by decide) (by decide) (by omega) (by simp) (by refine texts_alloc w2 _ _ _ _ ?_; decide +kernel)).mono ?_
    rintro e w3 ⟨s, hs, rfl, hC3, hg3⟩
    have hb3 := (hb2.alloc (by omega) _).trans (grownBy_below hg3 (Nat.le_refl _) (by simp; omega))
    clear hC2 hg3 hb2 hlt2 hC3
    go_wp2
    go_ret
    exact ⟨s, by omega, rfl, hb3⟩

end Go.Proofs.YtflnpkckdjmljaaGreatDoor
