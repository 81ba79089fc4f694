/- Contracts of the functions by which inputs are drawn: that they answer, within which bounds, and what of the memory they turn. -/
import Derived.Test.YtkhkpjnpjgnckaaGreatDoorProg
import Derived.WalkKit
import Derived.WalkLawsBesides
import Derived.BigQuiet
import Derived.Deep.QuietTactic
import Derived.Lib.Hide
import Derived.IntWalk
import Derived.Below
namespace Go.Proofs.YtkhkpjnpjgnckaaGreatDoor
open Go.RowKit
set_option linter.unusedVariables false

theorem and_bound (x : Int) (m : Nat) (hm : m < 4611686018427387904) : 0 ≤ bits .and .i64 x m ∧ bits .and .i64 x m ≤ m := by
  have h : (BitVec.ofInt 64 x &&& BitVec.ofInt 64 (m : Int)).toNat ≤ m := by
    rw [BitVec.toNat_and]
    refine Nat.le_trans Nat.and_le_right ?_
    simp
    omega
  unfold bits
  generalize hq : (BitVec.ofInt IntKind.i64.bits x &&& BitVec.ofInt IntKind.i64.bits (m : Int)).toNat = q
  have hq' : q ≤ m := by rw [← hq]; exact h
  simp only [IntKind.wrap_i64]
  rw [hq]
  omega

/-- the bytes of a slice that came in lie where they lay -/
def BytesIn (w : World) (a : Option Addr) (len : Nat) : Prop :=
  len = 0 ∨ ∃ blk off, a = some ⟨blk, off, none⟩ ∧ ∀ i, i < len → ∃ x : Int, 0 ≤ x ∧ x ≤ 255 ∧ w.cell? ⟨blk, off + i, none⟩ = some (.int .u8 x)

/-- a cursor in block b over such a slice, whose bytes lie below block B -/
structure Cur (w : World) (B b : Nat) (a : Option Addr) (len cap : Nat) (i h : Int) : Prop where
  lt : b < w.heap.size
  le : B ≤ b
  c0 : w.cell? ⟨b, 0, none⟩ = some (.slice a len cap)
  c1 : w.cell? ⟨b, 1, none⟩ = some (.int .i64 i)
  c2 : w.cell? ⟨b, 2, none⟩ = some (.int .i64 h)
  f1 : w.frozen? ⟨b, 1, none⟩ = false
  f2 : w.frozen? ⟨b, 2, none⟩ = false
  i0 : 0 ≤ i
  i1 : i ≤ 9223372036854775807
  bytes : BytesIn w a len
  low : ∀ x, a = some x → len ≠ 0 → x.block < B

theorem grownBy_set (W : World) (b o : Nat) (v : Value) : W.grownBy (W.setCell ⟨b, o, none⟩ v) (some b) :=
  ⟨rfl, rfl, rfl, by simp, fun k _ hk => Below.heap_setCell _ _ _ k (fun e => hk (by rw [e]))⟩
theorem grownBy_step {a w w' : World} {row : Option Nat} (h : a.grownBy w row) (k : w.grownBy w' row) : a.grownBy w' row :=
  ⟨k.os.trans h.os, k.tape.trans h.tape, k.output.trans h.output, Nat.le_trans h.size k.size, fun i hi hne => (k.block i (Nat.lt_of_lt_of_le hi h.size) hne).trans (h.block i hi hne)⟩
theorem grownBy_drewN {a w : World} {row : Option Nat} (h : a.grownBy w row) (n : Nat) : a.grownBy (w.drewN n) row :=
  grownBy_step h ⟨rfl, rfl, rfl, Nat.le_refl _, fun _ _ _ => rfl⟩
theorem grownBy_new {a w : World} {row : Option Nat} (h : a.grownBy w row) (o : Obj) : a.grownBy (w.alloc o) row :=
  grownBy_step h (World.grownBy_alloc w o row)
theorem grownBy_below {B b : Nat} {w w' : World} (h : w.grownBy w' (some b)) (hb : B ≤ b) (hB : B ≤ w.heap.size) : Below B w w' :=
  ⟨h.os, h.tape, h.output, h.size, fun k hk => h.block k (by omega) (by intro e; cases e; omega)⟩

theorem bytesIn_kept {w w' : World} {a : Option Addr} {len b : Nat} (h : BytesIn w a len) (hk : ∀ x, a = some x → len ≠ 0 → w'.heap[x.block]? = w.heap[x.block]?) : BytesIn w' a len := by
  rcases h with h | ⟨blk, off, rfl, hc⟩
  · exact .inl h
  · by_cases h0 : len = 0
    · exact .inl h0
    · refine .inr ⟨blk, off, rfl, fun i hi => ?_⟩
      obtain ⟨x, h1, h2, h3⟩ := hc i hi
      exact ⟨x, h1, h2, (World.cell?_of_block (w := w) (w' := w') (a := ⟨blk, off + i, none⟩) (show w'.heap[blk]? = w.heap[blk]? from hk ⟨blk, off, none⟩ rfl h0)).trans h3⟩

theorem Cur.setH {w : World} {B b : Nat} {a : Option Addr} {len cap : Nat} {i h : Int} (hC : Cur w B b a len cap i h) (h2 : Int) : Cur (w.setCell ⟨b, 2, none⟩ (.int .i64 h2)) B b a len cap i h2 where
  lt := by simpa using hC.lt
  le := hC.le
  c0 := (World.cell?_setCell_other _ _ _ _ (by simp)).trans hC.c0
  c1 := (World.cell?_setCell_other _ _ _ _ (by simp)).trans hC.c1
  c2 := World.cell?_setCell_same _ _ _ hC.c2
  f1 := by rw [World.frozen?_setCell]; exact hC.f1
  f2 := by rw [World.frozen?_setCell]; exact hC.f2
  i0 := hC.i0
  i1 := hC.i1
  bytes := bytesIn_kept (b := b) hC.bytes (fun x hx h0 => Below.heap_setCell _ _ _ _ (by have := hC.low x hx h0; have := hC.le; show x.block ≠ b; omega))
  low := hC.low
theorem Cur.setI {w : World} {B b : Nat} {a : Option Addr} {len cap : Nat} {i h : Int} (hC : Cur w B b a len cap i h) (i2 : Int) (h0 : 0 ≤ i2) (h1 : i2 ≤ 9223372036854775807) : Cur (w.setCell ⟨b, 1, none⟩ (.int .i64 i2)) B b a len cap i2 h where
  lt := by simpa using hC.lt
  le := hC.le
  c0 := (World.cell?_setCell_other _ _ _ _ (by simp)).trans hC.c0
  c1 := World.cell?_setCell_same _ _ _ hC.c1
  c2 := (World.cell?_setCell_other _ _ _ _ (by simp)).trans hC.c2
  f1 := by rw [World.frozen?_setCell]; exact hC.f1
  f2 := by rw [World.frozen?_setCell]; exact hC.f2
  i0 := h0
  i1 := h1
  bytes := bytesIn_kept (b := b) hC.bytes (fun x hx h0 => Below.heap_setCell _ _ _ _ (by have := hC.low x hx h0; have := hC.le; show x.block ≠ b; omega))
  low := hC.low
theorem Cur.drawn {w : World} {B b : Nat} {a : Option Addr} {len cap : Nat} {i h : Int} (hC : Cur w B b a len cap i h) (n : Nat) : Cur (w.drewN n) B b a len cap i h :=
  ⟨hC.lt, hC.le, hC.c0, hC.c1, hC.c2, hC.f1, hC.f2, hC.i0, hC.i1, bytesIn_kept (b := b) hC.bytes (fun _ _ _ => rfl), hC.low⟩
/-- what turns other blocks alone leaves a cursor as it was -/
theorem Cur.kept {w w' : World} {B b : Nat} {a : Option Addr} {len cap : Nat} {i h : Int} (hC : Cur w B b a len cap i h) (hk : ∀ k, k ≤ b → w'.heap[k]? = w.heap[k]?) (hs : w.heap.size ≤ w'.heap.size) : Cur w' B b a len cap i h :=
  ⟨Nat.lt_of_lt_of_le hC.lt hs, hC.le, (World.cell?_of_block (hk b (Nat.le_refl _))).trans hC.c0, (World.cell?_of_block (hk b (Nat.le_refl _))).trans hC.c1, (World.cell?_of_block (hk b (Nat.le_refl _))).trans hC.c2,
    (World.frozen?_of_block (hk b (Nat.le_refl _))).trans hC.f1, (World.frozen?_of_block (hk b (Nat.le_refl _))).trans hC.f2, hC.i0, hC.i1,
    bytesIn_kept (b := b) hC.bytes (fun x hx h0 => hk _ (by have := hC.low x hx h0; have := hC.le; omega)), hC.low⟩

/-- a cursor, wherever it stands -/
def CurAt (w : World) (B b : Nat) (a : Option Addr) (len cap : Nat) : Prop := ∃ i h, Cur w B b a len cap i h

theorem CurAt.lt {w : World} {B b : Nat} {a : Option Addr} {len cap : Nat} (h : CurAt w B b a len cap) : b < w.heap.size := by
  obtain ⟨i, x, hC⟩ := h; exact hC.lt
theorem CurAt.alloc {w : World} {B b : Nat} {a : Option Addr} {len cap : Nat} (h : CurAt w B b a len cap) (o : Obj) : CurAt (w.alloc o) B b a len cap := by
  obtain ⟨i, x, hC⟩ := h
  exact ⟨i, x, hC.kept (fun k hk => Below.heap_alloc _ _ _ (Nat.lt_of_le_of_lt hk hC.lt)) (by simp)⟩
theorem CurAt.kept {w w' : World} {B b : Nat} {a : Option Addr} {len cap : Nat} (h : CurAt w B b a len cap) (hb : Below w.heap.size w w') : CurAt w' B b a len cap := by
  obtain ⟨i, x, hC⟩ := h
  exact ⟨i, x, hC.kept (fun k hk => hb.block k (Nat.lt_of_le_of_lt hk hC.lt)) hb.size⟩
theorem CurAt.drawn {w : World} {B b : Nat} {a : Option Addr} {len cap : Nat} (h : CurAt w B b a len cap) (n : Nat) : CurAt (w.drewN n) B b a len cap := by
  obtain ⟨i, x, hC⟩ := h
  exact ⟨i, x, hC.drawn n⟩

/-- the answer is a number within the bounds; the cursor stands; nothing but its block has turned -/
def Drew (lo hi : Int) (w : World) (B b : Nat) (a : Option Addr) (len cap : Nat) (e : Ending) (w' : World) : Prop :=
  ∃ x : Int, lo ≤ x ∧ x ≤ hi ∧ e = .returned (.int .i64 x) ∧ CurAt w' B b a len cap ∧ w.grownBy w' (some b)

set_option maxHeartbeats 800000 in
theorem byte_draw (w : World) (B b : Nat) (a : Option Addr) (len cap : Nat) (hlen : len ≤ 9223372036854775807) (hC : CurAt w B b a len cap) :
    Calls Tryz.prog 77 #[.pointer (some ⟨b, 0, none⟩)] w (Drew 0 255 w B b a len cap) := by
  obtain ⟨i, h, hC⟩ := hC
  have c2 := hC.c2
  have f2 := hC.f2
  go_enter Tryz.func77, Tryz.ntmps77
  go_wp2_with fail
  clear c2 f2
  generalize wrap64 (wrap64 (h * 6364136223846793005) + 1442695040888963407) = h2
  generalize wrap64 (h * 6364136223846793005) = h1
  have hC1 := hC.setH h2
  have hg1 := grownBy_set w b 2 (.int .i64 h2)
  clear hC
  generalize w.setCell ⟨b, 2, none⟩ (.int .i64 h2) = w1 at *
  have c2 := hC1.c2
  go_quiet (fail)
  have hx := and_bound (bits BinOp.xor IntKind.i64 (h2 / 8589934592) (h2 / 35184372088832)) 255 (by decide)
  simp only [Int.cast_ofNat_Int] at hx
  generalize bits BinOp.and IntKind.i64 (bits BinOp.xor IntKind.i64 (h2 / 8589934592) (h2 / 35184372088832)) 255 = x at *
  generalize bits BinOp.xor IntKind.i64 (h2 / 8589934592) (h2 / 35184372088832) = xx at *
  generalize h2 / 8589934592 = xa at *
  generalize h2 / 35184372088832 = xb at *
  obtain ⟨hx0, hx1⟩ := hx
  have c1 := hC1.c1
  have c0 := hC1.c0
  have hi0 := hC1.i0
  by_cases hlt : i < (len : Int)
  · obtain ⟨k, rfl⟩ := Int.eq_ofNat_of_zero_le hi0
    rcases hC1.bytes with h0 | ⟨blk, off, rfl, hby⟩
    · omega
    obtain ⟨y, hy0, hy1, hcy⟩ := hby k (by omega)
    have hkl : k < len := by omega
    clear hby
    go_wp2_with fail
    go_quiet (fail)
    go_wp2_with fail
    go_quiet (fail)
    have hz := and_bound (x + y) 255 (by decide)
    simp only [Int.cast_ofNat_Int] at hz
    generalize bits BinOp.and IntKind.i64 (x + y) 255 = z at *
    obtain ⟨hz0, hz1⟩ := hz
    have f1 := hC1.f1
    have hC2 := hC1.setI ((k : Int) + 1) (by omega) (by omega)
    have hg2 := grownBy_step hg1 (grownBy_set w1 b 1 (.int .i64 ((k : Int) + 1)))
    clear c0 c2 hcy
    go_wp2
    go_ret
    refine ⟨z, hz0, hz1, rfl, ⟨(k : Int) + 1, h2, ?_⟩, ?_⟩
    · exact hC2.drawn _
    · exact grownBy_drewN hg2 _
  · go_wp2_with fail
    go_quiet (fail)
    go_wp2
    go_ret
    exact ⟨x, hx0, hx1, rfl, ⟨_, _, (hC1.drawn _).drawn _⟩, grownBy_drewN (grownBy_drewN hg1 _) _⟩


set_option maxHeartbeats 800000 in
theorem below_draw (w : World) (B b : Nat) (a : Option Addr) (len cap : Nat) (n : Int) (hlen : len ≤ 9223372036854775807) (hC : CurAt w B b a len cap) (hn : 1 ≤ n) (hn2 : n ≤ 9223372036854775807) :
    Calls Tryz.prog 47 #[.pointer (some ⟨b, 0, none⟩), .int .i64 n] w (Drew 0 (n - 1) w B b a len cap) := by
  by_cases h256 : n ≤ 256
  · go_enter Tryz.func47, Tryz.ntmps47
    go_wp2_with fail
    refine (byte_draw _ B b a len cap hlen hC).mono ?_
    rintro e w1 ⟨x, hx0, hx1, rfl, hC1, hg1⟩
    have hm0 : 0 ≤ x % n := Int.emod_nonneg _ (by omega)
    have hm1 : x % n < n := Int.emod_lt_of_pos _ (by omega)
    have hne : ¬ n = 0 := by omega
    go_wp2
    go_ret
    exact ⟨x % n, hm0, by omega, rfl, hC1, hg1⟩
  · go_enter Tryz.func47, Tryz.ntmps47
    go_wp2_with fail
    refine (byte_draw _ B b a len cap hlen hC).mono ?_
    rintro e w1 ⟨x, hx0, hx1, rfl, hC1, hg1⟩
    clear hC
    go_wp2_with fail
    refine (byte_draw _ B b a len cap hlen hC1).mono ?_
    rintro e w2 ⟨y, hy0, hy1, rfl, hC2, hg2⟩
    replace hg2 := grownBy_step hg1 hg2
    clear hC1 hg1
    go_wp2_with fail
    refine (byte_draw _ B b a len cap hlen hC2).mono ?_
    rintro e w3 ⟨z, hz0, hz1, rfl, hC3, hg3⟩
    replace hg3 := grownBy_step hg2 hg3
    clear hC2 hg2
    go_wp2_with fail
    refine (byte_draw _ B b a len cap hlen hC3).mono ?_
    rintro e w4 ⟨v, hv0, hv1, rfl, hC4, hg4⟩
    replace hg4 := grownBy_step hg3 hg4
    clear hC3 hg3
    have hne : ¬ n = 0 := by omega
    have hm0 : 0 ≤ (x * 16777216 + y * 65536 + z * 256 + v) % n := Int.emod_nonneg _ (by omega)
    have hm1 : (x * 16777216 + y * 65536 + z * 256 + v) % n < n := Int.emod_lt_of_pos _ (by omega)
    go_wp2
    go_ret
    exact ⟨(x * 16777216 + y * 65536 + z * 256 + v) % n, hm0, by omega, rfl, hC4, hg4⟩

/-- nothing is drawn where n is not above 0 -/
theorem below_none (w : World) (b : Nat) (n : Int) (hn : n ≤ 0) :
    Calls Tryz.prog 47 #[.pointer (some ⟨b, 0, none⟩), .int .i64 n] w fun e w' => e = .returned (.int .i64 0) ∧ w = w' := by
  go_enter Tryz.func47, Tryz.ntmps47
  go_wp2
  go_ret
  exact ⟨rfl, rfl⟩

def DrewB (w : World) (B b : Nat) (a : Option Addr) (len cap : Nat) (e : Ending) (w' : World) : Prop :=
  ∃ x : Bool, e = .returned (.bool x) ∧ CurAt w' B b a len cap ∧ w.grownBy w' (some b)

theorem once_draw (w : World) (B b : Nat) (a : Option Addr) (len cap : Nat) (n : Int) (hlen : len ≤ 9223372036854775807) (hC : CurAt w B b a len cap) (hn : 1 ≤ n) (hn2 : n ≤ 9223372036854775807) :
    Calls Tryz.prog 78 #[.pointer (some ⟨b, 0, none⟩), .int .i64 n] w (DrewB w B b a len cap) := by
  go_enter Tryz.func78, Tryz.ntmps78
  go_wp2_with fail
  refine (below_draw _ B b a len cap n hlen hC hn hn2).mono ?_
  rintro e w1 ⟨x, hx0, hx1, rfl, hC1, hg1⟩
  go_wp2
  go_ret
  exact ⟨_, rfl, hC1, hg1⟩

/-- texts in a row of the call's own: a literal list -/
def TextsAt (w : World) (g n B : Nat) (m : Nat) : Prop := ∀ i, i < n → ∃ s : ByteArray, w.cell? ⟨g, i, none⟩ = some (.string s) ∧ s.size ≤ m
def DrewS (m : Nat) (w : World) (B b : Nat) (a : Option Addr) (len cap : Nat) (e : Ending) (w' : World) : Prop :=
  ∃ s : ByteArray, s.size ≤ m ∧ e = .returned (.string s) ∧ CurAt w' B b a len cap ∧ w.grownBy w' (some b)

theorem pick_draw (w : World) (B b : Nat) (a : Option Addr) (len cap : Nat) (g n c m : Nat) (hlen : len ≤ 9223372036854775807) (hC : CurAt w B b a len cap) (hn : 1 ≤ n) (hn2 : n ≤ 1000) (hg : g ≠ b) (hgs : g < w.heap.size) (hT : TextsAt w g n B m) :
    Calls Tryz.prog 21 #[.pointer (some ⟨b, 0, none⟩), .slice (some ⟨g, 0, none⟩) n c] w (DrewS m w B b a len cap) := by
  go_enter Tryz.func21, Tryz.ntmps21
  go_wp2_with fail
  refine (below_draw _ B b a len cap n hlen hC (by omega) (by omega)).mono ?_
  rintro e w1 ⟨x, hx0, hx1, rfl, hC1, hg1⟩
  obtain ⟨k, rfl⟩ := Int.eq_ofNat_of_zero_le hx0
  obtain ⟨s, hs, hm⟩ := hT k (by omega)
  have hk : (k : Int) < (n : Int) := by omega
  have hs1 : w1.cell? ⟨g, k, none⟩ = some (.string s) := (World.cell?_of_block (a := ⟨g, k, none⟩) (hg1.block g hgs (by intro e; cases e; exact hg rfl))).trans hs
  clear hs hT
  go_wp2
  go_ret
  exact ⟨s, hm, rfl, hC1, hg1⟩

def IntsAt (w : World) (g n : Nat) : Prop := ∀ i, i < n → ∃ x : Int, -9223372036854775808 ≤ x ∧ x ≤ 9223372036854775807 ∧ w.cell? ⟨g, i, none⟩ = some (.int .i64 x)
theorem pickInt_draw (w : World) (B b : Nat) (a : Option Addr) (len cap : Nat) (g n c : Nat) (hlen : len ≤ 9223372036854775807) (hC : CurAt w B b a len cap) (hn : 1 ≤ n) (hn2 : n ≤ 1000) (hg : g ≠ b) (hgs : g < w.heap.size) (hT : IntsAt w g n) :
    Calls Tryz.prog 49 #[.pointer (some ⟨b, 0, none⟩), .slice (some ⟨g, 0, none⟩) n c] w (Drew (-9223372036854775808) 9223372036854775807 w B b a len cap) := by
  go_enter Tryz.func49, Tryz.ntmps49
  go_wp2_with fail
  refine (below_draw _ B b a len cap n hlen hC (by omega) (by omega)).mono ?_
  rintro e w1 ⟨x, hx0, hx1, rfl, hC1, hg1⟩
  obtain ⟨k, rfl⟩ := Int.eq_ofNat_of_zero_le hx0
  obtain ⟨s, hm1, hm2, hs⟩ := hT k (by omega)
  have hk : (k : Int) < (n : Int) := by omega
  have hs1 : w1.cell? ⟨g, k, none⟩ = some (.int .i64 s) := (World.cell?_of_block (a := ⟨g, k, none⟩) (hg1.block g hgs (by intro e; cases e; exact hg rfl))).trans hs
  clear hs hT
  go_wp2
  go_ret
  exact ⟨s, hm1, hm2, rfl, hC1, hg1⟩

def NewCur (w : World) (a : Option Addr) (len cap : Nat) (e : Ending) (w' : World) : Prop :=
  e = .returned (.pointer (some ⟨w.heap.size, 0, none⟩)) ∧ CurAt w' w.heap.size w.heap.size a len cap ∧ Below w.heap.size w w'

set_option maxHeartbeats 800000 in
theorem new_draw (w : World) (a : Option Addr) (len cap : Nat) (hlen : len ≤ 1048576) (hB : BytesIn w a len) (hlow : ∀ x, a = some x → len ≠ 0 → x.block < w.heap.size) :
    Calls Tryz.prog 20 #[.slice a len cap] w (NewCur w a len cap) := by
  go_enter Tryz.func20, Tryz.ntmps20
  go_wp2
  go_loop [3, 4] (fun x i => ∃ (k : Nat) (h : Int), k ≤ len ∧ i = .int .i64 k ∧ x = .int .i64 h) (fun _ i => len - (intOf i).toNat)
  case atStart => exact ⟨0, _, Nat.zero_le _, rfl, rfl⟩
  case round =>
    obtain ⟨k, h, hk, rfl, rfl⟩ := hrel
    by_cases hlt : k < len ∧ (k : Int) < 4000
    · obtain ⟨hl1, hl2⟩ := hlt
      rcases hB with h0 | ⟨blk, off, rfl, hby⟩
      · omega
      obtain ⟨y, hy0, hy1, hcy⟩ := hby k hl1
      clear hby hlow
      go_wp2
      go_round
      case rel => exact ⟨k + 1, _, by omega, by go_num, rfl⟩
      case measure => simp [intOf]; omega
    · have fin : ∀ h : Int, NewCur w a len cap (.returned (.pointer (some ⟨w.heap.size, 0, none⟩))) (w.alloc (.cells #[.slice a len cap, .int .i64 0, .int .i64 h] 68)) := by
        intro h
        refine ⟨rfl, ⟨0, h, ?_⟩, (Below.refl _ _).alloc (Nat.le_refl _) _⟩
        refine ⟨by simp, Nat.le_refl _, by simp, by simp, by simp, by simp, by simp, by decide, by decide, ?_, hlow⟩
        exact bytesIn_kept (b := 0) hB (fun x hx h0 => Below.heap_alloc _ _ _ (hlow x hx h0))
      have FIN := Lib.hid (fin h)
      clear fin hB hlow
      by_cases hl1 : k < len
      · have hl2 : decide ((k : Int) < 4000) = false := by simp; omega
        clear hlt
        go_wp2
        go_ret
        exact FIN.out
      · clear hlt
        go_wp2
        go_ret
        exact FIN.out

/-- a slice of bytes that came in, as it was read -/
def RowU8 (w : World) (a : Option Addr) (len cap : Nat) (zs : List Int) : Prop :=
  (a = none ∧ len = 0 ∧ cap = 0 ∧ zs = []) ∨
  ∃ x, a = some x ∧ len ≤ cap ∧ cap ≤ maxLen ∧ zs.length = cap ∧ (∀ i, i < zs.length → w.cell? (x.add i) = some (.int .u8 (zs.getD i 0))) ∧ ∀ n ∈ zs, (Lit.int .u8 n).wf = true
theorem row_bytes {w : World} {a : Option Addr} {len cap : Nat} {zs : List Int} (h : RowU8 w a len cap zs) : BytesIn w a len ∧ ∀ x, a = some x → len ≠ 0 → x.block < w.heap.size := by
  rcases h with ⟨rfl, rfl, rfl, rfl⟩ | ⟨x, rfl, hl, hm, hz, hc, hw⟩
  · exact ⟨.inl rfl, fun x hx => by cases hx⟩
  · by_cases h0 : len = 0
    · exact ⟨.inl h0, fun _ _ h => absurd h0 h⟩
    · obtain ⟨b, off, spot⟩ := x
      have hc0 := hc 0 (by omega)
      have hspot : spot = none := by simpa [Addr.add] using World.cell?_spot hc0
      subst hspot
      refine ⟨.inr ⟨b, off, rfl, fun i hi => ?_⟩, fun x hx _ => ?_⟩
      · have hci := hc i (by omega)
        have hadd : (⟨b, off, none⟩ : Addr).add i = ⟨b, off + i, none⟩ := by unfold Addr.add; split <;> simp_all
        rw [hadd] at hci
        have hmem : zs.getD i 0 ∈ zs := by
          rw [List.getD_eq_getElem?_getD, List.getElem?_eq_getElem (by omega)]
          exact List.getElem_mem _
        have hwf := hw _ hmem
        have hbd : 0 ≤ zs.getD i 0 ∧ zs.getD i 0 ≤ 255 := by simpa [Lit.wf, IntKind.min, IntKind.max, IntKind.signed, IntKind.bits] using hwf
        exact ⟨_, hbd.1, hbd.2, hci⟩
      · cases hx
        have := World.block_lt_of_cell? _ _ hc0
        simpa [Addr.add] using this

theorem big_no (w : World) (a : Option Addr) (len cap : Nat) (h : len ≤ 1048576) :
    Calls Tryz.prog 6 #[.slice a len cap] w fun e w' => e = .returned (.bool false) ∧ w = w' := by
  have hd : Hid (decide ((1048576 : Int) < (len : Int)) = false) := by unfold Hid; simp; omega
  go_enter Tryz.func6, Tryz.ntmps6
  go_wp2
  go_ret
  exact ⟨by rw [← hd.out]; rfl, rfl⟩
theorem big_yes (w : World) (a : Option Addr) (len cap : Nat) (h : 1048576 < len) :
    Calls Tryz.prog 6 #[.slice a len cap] w fun e w' => e = .returned (.bool true) ∧ w = w' := by
  have hd : Hid (decide ((1048576 : Int) < (len : Int)) = true) := by unfold Hid; simp; omega
  go_enter Tryz.func6, Tryz.ntmps6
  go_wp2
  go_ret
  exact ⟨by rw [← hd.out]; rfl, rfl⟩

end Go.Proofs.YtkhkpjnpjgnckaaGreatDoor
