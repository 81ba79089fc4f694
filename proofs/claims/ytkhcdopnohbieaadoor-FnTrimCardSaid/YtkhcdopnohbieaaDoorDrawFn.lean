/- The draws as functions: what is drawn follows from the bytes that came in and from where the cursor stands. -/
import Derived.Test.YtkhcdopnohbieaaDoorProg
import Derived.Test.YtkhcdopnohbieaaDoorDraw
import Derived.WalkKit
import Derived.WalkLawsBesides
import Derived.BigQuiet
import Derived.Deep.QuietTactic
import Derived.Lib.Hide
import Derived.IntWalk
import Derived.Below
namespace Go.Proofs.YtkhcdopnohbieaaDoor
open Go.RowKit
set_option linter.unusedVariables false

/-- the byte at i of what came in -/
def rd (w : World) (a : Option Addr) (len i : Nat) : Int := if i < len then (match a with | some x => intOf ((w.cell? ⟨x.block, x.off + i, none⟩).getD undef) | none => 0) else 0
theorem rd_kept {w w' : World} {a : Option Addr} {len : Nat} (hk : ∀ x, a = some x → len ≠ 0 → w'.heap[x.block]? = w.heap[x.block]?) : rd w' a len = rd w a len := by
  funext i
  unfold rd
  split
  · cases a with
    | none => rfl
    | some x =>
      have h := World.cell?_of_block (w := w) (w' := w') (a := ⟨x.block, x.off + i, none⟩) (hk x rfl (by omega))
      simp only [h]
  · rfl

def CurF (w : World) (B b : Nat) (a : Option Addr) (len cap : Nat) (r : Nat → Int) (i h : Int) : Prop := Cur w B b a len cap i h ∧ rd w a len = r
theorem CurF.lt {w : World} {B b : Nat} {a : Option Addr} {len cap : Nat} {r : Nat → Int} {i h : Int} (hC : CurF w B b a len cap r i h) : b < w.heap.size := hC.1.lt
theorem CurF.at_ {w : World} {B b : Nat} {a : Option Addr} {len cap : Nat} {r : Nat → Int} {i h : Int} (hC : CurF w B b a len cap r i h) : CurAt w B b a len cap := ⟨i, h, hC.1⟩
theorem CurF.kept {w w' : World} {B b : Nat} {a : Option Addr} {len cap : Nat} {r : Nat → Int} {i h : Int} (hC : CurF w B b a len cap r i h) (hk : ∀ k, k ≤ b → w'.heap[k]? = w.heap[k]?) (hs : w.heap.size ≤ w'.heap.size) : CurF w' B b a len cap r i h :=
  ⟨hC.1.kept hk hs, (rd_kept (fun x hx h0 => hk _ (by have := hC.1.low x hx h0; have := hC.1.le; omega))).trans hC.2⟩
theorem CurF.alloc {w : World} {B b : Nat} {a : Option Addr} {len cap : Nat} {r : Nat → Int} {i h : Int} (hC : CurF w B b a len cap r i h) (o : Obj) : CurF (w.alloc o) B b a len cap r i h :=
  hC.kept (fun k hk => Below.heap_alloc _ _ _ (Nat.lt_of_le_of_lt hk hC.1.lt)) (by simp)
theorem CurF.drawn {w : World} {B b : Nat} {a : Option Addr} {len cap : Nat} {r : Nat → Int} {i h : Int} (hC : CurF w B b a len cap r i h) (n : Nat) : CurF (w.drewN n) B b a len cap r i h :=
  hC.kept (fun _ _ => rfl) (Nat.le_refl _)
theorem CurF.setH {w : World} {B b : Nat} {a : Option Addr} {len cap : Nat} {r : Nat → Int} {i h : Int} (hC : CurF w B b a len cap r i h) (h2 : Int) : CurF (w.setCell ⟨b, 2, none⟩ (.int .i64 h2)) B b a len cap r i h2 :=
  ⟨hC.1.setH h2, (rd_kept (fun x hx h0 => Below.heap_setCell _ _ _ _ (by have := hC.1.low x hx h0; have := hC.1.le; show x.block ≠ b; omega))).trans hC.2⟩
theorem CurF.setI {w : World} {B b : Nat} {a : Option Addr} {len cap : Nat} {r : Nat → Int} {i h : Int} (hC : CurF w B b a len cap r i h) (i2 : Int) (h0 : 0 ≤ i2) (h1 : i2 ≤ 9223372036854775807) : CurF (w.setCell ⟨b, 1, none⟩ (.int .i64 i2)) B b a len cap r i2 h :=
  ⟨hC.1.setI i2 h0 h1, (rd_kept (fun x hx h0 => Below.heap_setCell _ _ _ _ (by have := hC.1.low x hx h0; have := hC.1.le; show x.block ≠ b; omega))).trans hC.2⟩

/-- the next mixed number, what it shows, and what is drawn -/
def nextH (h : Int) : Int := wrap64 (wrap64 (h * 6364136223846793005) + 1442695040888963407)
def showH (h : Int) : Int := bits BinOp.and IntKind.i64 (bits BinOp.xor IntKind.i64 (h / 8589934592) (h / 35184372088832)) 255
def byteX (r : Nat → Int) (len : Nat) (i h : Int) : Int := if i < (len : Int) then bits BinOp.and IntKind.i64 (showH (nextH h) + r i.toNat) 255 else showH (nextH h)
def nextI (len : Nat) (i : Int) : Int := if i < (len : Int) then i + 1 else i
theorem byteX_bound (r : Nat → Int) (len : Nat) (i h : Int) : 0 ≤ byteX r len i h ∧ byteX r len i h ≤ 255 := by
  unfold byteX showH
  split
  · exact and_bound _ 255 (by decide)
  · exact and_bound _ 255 (by decide)

def DrewF (x : Int) (w : World) (B b : Nat) (a : Option Addr) (len cap : Nat) (r : Nat → Int) (i h : Int) (e : Ending) (w' : World) : Prop :=
  e = .returned (.int .i64 x) ∧ CurF w' B b a len cap r (nextI len i) (nextH h) ∧ w.grownBy w' (some b)

set_option maxHeartbeats 800000 in
theorem byte_fn (w : World) (B b : Nat) (a : Option Addr) (len cap : Nat) (r : Nat → Int) (i h : Int) (hlen : len ≤ 9223372036854775807) (hC : CurF w B b a len cap r i h) :
    Calls Tryd.prog 40 #[.pointer (some ⟨b, 0, none⟩)] w (DrewF (byteX r len i h) w B b a len cap r i h) := by
  have c2 := hC.1.c2
  have f2 := hC.1.f2
  have HX : Hid (byteX r len i h = if i < (len : Int) then bits BinOp.and IntKind.i64 (showH (nextH h) + r i.toNat) 255 else showH (nextH h)) := rfl
  generalize byteX r len i h = X at *
  have HH : Hid (nextH h = wrap64 (wrap64 (h * 6364136223846793005) + 1442695040888963407)) := rfl
  generalize hq : nextH h = H at *
  have HQ := Lib.hid hq
  clear hq
  go_enter Tryd.func40, Tryd.ntmps40
  go_wp2_with fail
  clear c2 f2
  rw [← HH.out]
  generalize wrap64 (h * 6364136223846793005) = h1
  have hC1 := hC.setH H
  have hg1 := grownBy_set w b 2 (.int .i64 H)
  clear hC HH
  generalize w.setCell ⟨b, 2, none⟩ (.int .i64 H) = w1 at *
  have c2 := hC1.1.c2
  go_quiet (fail)
  have hx := and_bound (bits BinOp.xor IntKind.i64 (H / 8589934592) (H / 35184372088832)) 255 (by decide)
  simp only [Int.cast_ofNat_Int] at hx
  have HS : Hid (showH H = bits BinOp.and IntKind.i64 (bits BinOp.xor IntKind.i64 (H / 8589934592) (H / 35184372088832)) 255) := rfl
  generalize showH H = S at *
  generalize hxe : bits BinOp.and IntKind.i64 (bits BinOp.xor IntKind.i64 (H / 8589934592) (H / 35184372088832)) 255 = x at *
  have HS2 : Hid (S = x) := HS.out
  clear hxe HS
  generalize bits BinOp.xor IntKind.i64 (H / 8589934592) (H / 35184372088832) = xx at *
  generalize H / 8589934592 = xa at *
  generalize H / 35184372088832 = xb at *
  obtain ⟨hx0, hx1⟩ := hx
  have c1 := hC1.1.c1
  have c0 := hC1.1.c0
  have hi0 := hC1.1.i0
  by_cases hlt : i < (len : Int)
  · obtain ⟨k, rfl⟩ := Int.eq_ofNat_of_zero_le hi0
    rcases hC1.1.bytes with h0 | ⟨blk, off, rfl, hby⟩
    · omega
    obtain ⟨y, hy0, hy1, hcy⟩ := hby k (by omega)
    have hkl : k < len := by omega
    have HR : Hid (r k = y) := by
      unfold Hid
      rw [← hC1.2]
      unfold rd
      rw [if_pos hkl]
      show intOf ((w1.cell? ⟨blk, off + k, none⟩).getD undef) = y
      rw [hcy]; rfl
    have HX2 : Hid (X = bits BinOp.and IntKind.i64 (x + y) 255) := by
      unfold Hid
      rw [HX.out, if_pos hlt, HS2.out, Int.toNat_natCast, HR.out]
    have HI : Hid (nextI len (k : Int) = (k : Int) + 1) := by unfold Hid nextI; rw [if_pos hlt]
    clear hby HX HS2 HR
    go_wp2_with fail
    go_quiet (fail)
    go_wp2_with fail
    go_quiet (fail)
    have hz := and_bound (x + y) 255 (by decide)
    simp only [Int.cast_ofNat_Int] at hz
    rw [← HX2.out] at hz ⊢
    clear HX2
    obtain ⟨hz0, hz1⟩ := hz
    have f1 := hC1.1.f1
    have hC2 := hC1.setI ((k : Int) + 1) (by omega) (by omega)
    have hg2 := grownBy_step hg1 (grownBy_set w1 b 1 (.int .i64 ((k : Int) + 1)))
    clear c0 c2 hcy
    go_wp2
    go_ret
    refine ⟨rfl, ?_, ?_⟩
    · rw [HQ.out, HI.out]; exact hC2.drawn _
    · exact grownBy_drewN hg2 _
  · have HX2 : Hid (X = x) := by
      unfold Hid
      rw [HX.out, if_neg hlt, HS2.out]
    have HI : Hid (nextI len i = i) := by unfold Hid nextI; rw [if_neg hlt]
    clear HX HS2
    go_wp2_with fail
    go_quiet (fail)
    go_wp2
    go_ret
    refine ⟨by rw [HX2.out]; rfl, ?_, grownBy_drewN (grownBy_drewN hg1 _) _⟩
    rw [HQ.out, HI.out]
    exact (hC1.drawn _).drawn _

set_option maxHeartbeats 800000 in
theorem below_fn (w : World) (B b : Nat) (a : Option Addr) (len cap : Nat) (r : Nat → Int) (i h : Int) (n : Int) (hlen : len ≤ 9223372036854775807) (hC : CurF w B b a len cap r i h) (hn : 1 ≤ n) (hn2 : n ≤ 256) :
    Calls Tryd.prog 27 #[.pointer (some ⟨b, 0, none⟩), .int .i64 n] w (DrewF (byteX r len i h % n) w B b a len cap r i h) := by
  obtain ⟨hx0, hx1⟩ := byteX_bound r len i h
  have K := Lib.hid (byte_fn w B b a len cap r i h hlen hC)
  clear hC
  generalize byteX r len i h = x at *
  go_enter Tryd.func27, Tryd.ntmps27
  go_wp2_with fail
  refine K.out.mono ?_
  rintro e w1 ⟨rfl, hC1, hg1⟩
  clear K
  have hm0 : 0 ≤ x % n := Int.emod_nonneg _ (by omega)
  have hm1 : x % n < n := Int.emod_lt_of_pos _ (by omega)
  have hne : ¬ n = 0 := by omega
  go_wp2
  go_ret
  exact ⟨rfl, hC1, hg1⟩

/-- a literal list of texts -/
def LitAt (w : World) (g : Nat) (ts : List ByteArray) : Prop := ∀ k (h : k < ts.length), w.cell? ⟨g, k, none⟩ = some (.string ts[k])
theorem lit_new (w : World) (ts : List ByteArray) (t : Nat) : LitAt (w.alloc (.cells (ts.map Value.string).toArray t)) w.heap.size ts := by
  intro k hk
  simp [hk]
def pickT (ts : List ByteArray) (x : Int) : ByteArray := ts.getD (x % (ts.length : Int)).toNat ⟨#[]⟩
def DrewT (s : ByteArray) (w : World) (B b : Nat) (a : Option Addr) (len cap : Nat) (r : Nat → Int) (i h : Int) (e : Ending) (w' : World) : Prop :=
  e = .returned (.string s) ∧ CurF w' B b a len cap r (nextI len i) (nextH h) ∧ w.grownBy w' (some b)
theorem pick_fn (w : World) (B b : Nat) (a : Option Addr) (len cap : Nat) (r : Nat → Int) (i h : Int) (g n c : Nat) (ts : List ByteArray) (hlen : len ≤ 9223372036854775807) (hC : CurF w B b a len cap r i h) (hn : 1 ≤ n) (hn2 : n ≤ 256) (hts : ts.length = n) (hg : g ≠ b) (hgs : g < w.heap.size) (hT : LitAt w g ts) :
    Calls Tryd.prog 32 #[.pointer (some ⟨b, 0, none⟩), .slice (some ⟨g, 0, none⟩) n c] w (DrewT (pickT ts (byteX r len i h)) w B b a len cap r i h) := by
  subst hts
  have K := Lib.hid (below_fn w B b a len cap r i h (ts.length : Int) hlen hC (by omega) (by omega))
  clear hC
  unfold pickT
  have hx0 : 0 ≤ byteX r len i h % (ts.length : Int) := Int.emod_nonneg _ (by omega)
  have hx1 : byteX r len i h % (ts.length : Int) < (ts.length : Int) := Int.emod_lt_of_pos _ (by omega)
  generalize byteX r len i h % (ts.length : Int) = x at *
  obtain ⟨k, rfl⟩ := Int.eq_ofNat_of_zero_le hx0
  have hk : k < ts.length := by omega
  have hs := hT k hk
  have hgd : Hid (ts.getD (k : Int).toNat ⟨#[]⟩ = ts[k]) := by
    unfold Hid
    rw [Int.toNat_natCast, List.getD_eq_getElem?_getD, List.getElem?_eq_getElem hk]; rfl
  generalize ts[k] = s at *
  clear hT
  go_enter Tryd.func32, Tryd.ntmps32
  go_wp2_with fail
  refine K.out.mono ?_
  rintro e w1 ⟨rfl, hC1, hg1⟩
  have hs1 : w1.cell? ⟨g, k, none⟩ = some (.string s) := (World.cell?_of_block (a := ⟨g, k, none⟩) (hg1.block g hgs (by intro e; cases e; exact hg rfl))).trans hs
  clear hs K
  go_wp2
  go_ret
  exact ⟨by rw [hgd.out]; rfl, hC1, hg1⟩

/-- where a cursor begins -/
def hashTo (r : Nat → Int) (len : Nat) : Nat → Int
  | 0 => 727727 + (len : Int)
  | k + 1 => bits BinOp.and IntKind.i64 (wrap64 (wrap64 (wrap64 (hashTo r len k * 131) + r k) + 7)) 1073741823
def NewF (r : Nat → Int) (w : World) (a : Option Addr) (len cap : Nat) (e : Ending) (w' : World) : Prop :=
  e = .returned (.pointer (some ⟨w.heap.size, 0, none⟩)) ∧ CurF w' w.heap.size w.heap.size a len cap r 0 (hashTo r len (min len 4000)) ∧ Below w.heap.size w w'

set_option maxHeartbeats 800000 in
theorem new_fn (w : World) (a : Option Addr) (len cap : Nat) (hlen : len ≤ 1048576) (hB : BytesIn w a len) (hlow : ∀ x, a = some x → len ≠ 0 → x.block < w.heap.size) :
    Calls Tryd.prog 25 #[.slice a len cap] w (NewF (rd w a len) w a len cap) := by
  have fin : ∀ h : Int, h = hashTo (rd w a len) len (min len 4000) → NewF (rd w a len) w a len cap (.returned (.pointer (some ⟨w.heap.size, 0, none⟩))) (w.alloc (.cells #[.slice a len cap, .int .i64 0, .int .i64 h] 60)) := by
    intro h hh
    subst hh
    refine ⟨rfl, ⟨⟨by simp, Nat.le_refl _, by simp, by simp, by simp, by simp, by simp, by decide, by decide, ?_, hlow⟩, ?_⟩, (Below.refl _ _).alloc (Nat.le_refl _) _⟩
    · exact bytesIn_kept (b := 0) hB (fun x hx h0 => Below.heap_alloc _ _ _ (hlow x hx h0))
    · exact rd_kept (fun x hx h0 => Below.heap_alloc _ _ _ (hlow x hx h0))
  have FIN := Lib.hid fin
  clear fin
  have HZ : Hid (hashTo (rd w a len) len 0 = 727727 + (len : Int)) := rfl
  go_enter Tryd.func25, Tryd.ntmps25
  go_wp2
  go_loop [3, 4] (fun x i => ∃ (k : Nat) (h : Int), k ≤ len ∧ (k : Int) ≤ 4000 ∧ i = .int .i64 k ∧ x = .int .i64 h ∧ Hid (h = hashTo (rd w a len) len k)) (fun _ i => len - (intOf i).toNat)
  case atStart => exact ⟨0, _, Nat.zero_le _, by decide, rfl, rfl, by unfold Hid; rw [HZ.out]⟩
  case round =>
    obtain ⟨k, h, hk, hk4, rfl, rfl, hh⟩ := hrel
    by_cases hlt : k < len ∧ (k : Int) < 4000
    · obtain ⟨hl1, hl2⟩ := hlt
      rcases hB with h0 | ⟨blk, off, rfl, hby⟩
      · omega
      obtain ⟨y, hy0, hy1, hcy⟩ := hby k hl1
      have HR : Hid (rd w (some ⟨blk, off, none⟩) len k = y) := by
        unfold Hid rd
        rw [if_pos hl1]
        show intOf ((w.cell? ⟨blk, off + k, none⟩).getD undef) = y
        rw [hcy]; rfl
      have HN : Hid (hashTo (rd w (some ⟨blk, off, none⟩) len) len (k + 1) = bits BinOp.and IntKind.i64 (wrap64 (wrap64 (wrap64 (h * 131) + y) + 7)) 1073741823) := by
        unfold Hid
        show bits BinOp.and IntKind.i64 (wrap64 (wrap64 (wrap64 (hashTo _ len k * 131) + rd w (some ⟨blk, off, none⟩) len k) + 7)) 1073741823 = _
        rw [HR.out, hh.out]
      clear hby hlow hh HR
      go_wp2
      go_round
      case rel => exact ⟨k + 1, _, by omega, by omega, by go_num, rfl, by unfold Hid; rw [HN.out]⟩
      case measure => simp [intOf]; omega
    · have hkm : k = min len 4000 := by omega
      have FN := Lib.hid (FIN.out h (by rw [hh.out, hkm]))
      clear FIN hB hlow hh hkm
      by_cases hl1 : k < len
      · have hl2 : decide ((k : Int) < 4000) = false := by rw [decide_eq_false_iff_not]; omega
        clear hlt
        go_wp2
        go_ret
        exact FN.out
      · clear hlt
        go_wp2
        go_ret
        exact FN.out

end Go.Proofs.YtkhcdopnohbieaaDoor
