/- Contracts of the functions by which inputs are drawn: that they answer, within which bounds, and what of the memory they turn. -/
import Derived.Test.YtkhkpjnpjgnckaaProg
import Derived.WalkKit
import Derived.WalkLawsBesides
import Derived.BigQuiet
import Derived.Deep.QuietTactic
import Derived.Lib.Hide
import Derived.IntWalk
import Derived.Below
namespace Go.Proofs.Ytkhkpjnpjgnckaa
open Go.RowKit
set_option linter.unusedVariables false

theorem and_bound (x : Int) (m : Nat) (hm : m < 4611686018427387904) : 0 ≤ bits .and .i64 x m ∧ bits .and .i64 x m ≤ m := by
  have h : (BitVec.ofInt 64 x &&& BitVec.ofInt 64 (m : Int)).toNat ≤ m := by
    rw [BitVec.toNat_and]
    refine Nat.le_trans Nat.and_le_right ?_
    simp
    omega
  unfold bits
  generalize hq : (BitVec.ofInt IntKind.i64.bits x &&& BitVec.ofInt IntKind.i64.bits (m : Int)).toNat = q
  have hq' : q ≤ m := by rw [← hq]; exact h
  simp only [IntKind.wrap_i64]
  rw [hq]
  omega

/-- the bytes of a slice that came in lie where they lay -/
def BytesIn (w : World) (a : Option Addr) (len : Nat) : Prop :=
  len = 0 ∨ ∃ blk off, a = some ⟨blk, off, none⟩ ∧ ∀ i, i < len → ∃ x : Int, 0 ≤ x ∧ x ≤ 255 ∧ w.cell? ⟨blk, off + i, none⟩ = some (.int .u8 x)

/-- a cursor in block b over such a slice, whose bytes lie below block B -/
structure Cur (w : World) (B b : Nat) (a : Option Addr) (len cap : Nat) (i h : Int) : Prop where
  lt : b < w.heap.size
  le : B ≤ b
  c0 : w.cell? ⟨b, 0, none⟩ = some (.slice a len cap)
  c1 : w.cell? ⟨b, 1, none⟩ = some (.int .i64 i)
  c2 : w.cell? ⟨b, 2, none⟩ = some (.int .i64 h)
  f1 : w.frozen? ⟨b, 1, none⟩ = false
  f2 : w.frozen? ⟨b, 2, none⟩ = false
  i0 : 0 ≤ i
  i1 : i ≤ 9223372036854775807
  bytes : BytesIn w a len
  low : ∀ x, a = some x → len ≠ 0 → x.block < B

theorem grownBy_set (W : World) (b o : Nat) (v : Value) : W.grownBy (W.setCell ⟨b, o, none⟩ v) (some b) :=
  ⟨rfl, rfl, rfl, by simp, fun k _ hk => Below.heap_setCell _ _ _ k (fun e => hk (by rw [e]))⟩
theorem grownBy_step {a w w' : World} {row : Option Nat} (h : a.grownBy w row) (k : w.grownBy w' row) : a.grownBy w' row :=
  ⟨k.os.trans h.os, k.tape.trans h.tape, k.output.trans h.output, Nat.le_trans h.size k.size, fun i hi hne => (k.block i (Nat.lt_of_lt_of_le hi h.size) hne).trans (h.block i hi hne)⟩
theorem grownBy_drewN {a w : World} {row : Option Nat} (h : a.grownBy w row) (n : Nat) : a.grownBy (w.drewN n) row :=
  grownBy_step h ⟨rfl, rfl, rfl, Nat.le_refl _, fun _ _ _ => rfl⟩
theorem grownBy_new {a w : World} {row : Option Nat} (h : a.grownBy w row) (o : Obj) : a.grownBy (w.alloc o) row :=
  grownBy_step h (World.grownBy_alloc w o row)
theorem grownBy_below {B b : Nat} {w w' : World} (h : w.grownBy w' (some b)) (hb : B ≤ b) (hB : B ≤ w.heap.size) : Below B w w' :=
  ⟨h.os, h.tape, h.output, h.size, fun k hk => h.block k (by omega) (by intro e; cases e; omega)⟩

theorem bytesIn_kept {w w' : World} {a : Option Addr} {len b : Nat} (h : BytesIn w a len) (hk : ∀ x, a = some x → len ≠ 0 → w'.heap[x.block]? = w.heap[x.block]?) : BytesIn w' a len := by
  rcases h with h | ⟨blk, off, rfl, hc⟩
  · exact .inl h
  · by_cases h0 : len = 0
    · exact .inl h0
    · refine .inr ⟨blk, off, rfl, fun i hi => ?_⟩
      obtain ⟨x, h1, h2, h3⟩ := hc i hi
      exact ⟨x, h1, h2, (World.cell?_of_block (w := w) (w' := w') (a := ⟨blk, off + i, none⟩) (show w'.heap[blk]? = w.heap[blk]? from hk ⟨blk, off, none⟩ rfl h0)).trans h3⟩

theorem Cur.setH {w : World} {B b : Nat} {a : Option Addr} {len cap : Nat} {i h : Int} (hC : Cur w B b a len cap i h) (h2 : Int) : Cur (w.setCell ⟨b, 2, none⟩ (.int .i64 h2)) B b a len cap i h2 where
  lt := by simpa using hC.lt
  le := hC.le
  c0 := (World.cell?_setCell_other _ _ _ _ (by simp)).trans hC.c0
  c1 := (World.cell?_setCell_other _ _ _ _ (by simp)).trans hC.c1
  c2 := World.cell?_setCell_same _ _ _ hC.c2
  f1 := by rw [World.frozen?_setCell]; exact hC.f1
  f2 := by rw [World.frozen?_setCell]; exact hC.f2
  i0 := hC.i0
  i1 := hC.i1
  bytes := bytesIn_kept (b := b) hC.bytes (fun x hx h0 => Below.heap_setCell _ _ _ _ (by have := hC.low x hx h0; have := hC.le; show x.block ≠ b; omega))
  low := hC.low
theorem Cur.setI {w : World} {B b : Nat} {a : Option Addr} {len cap : Nat} {i h : Int} (hC : Cur w B b a len cap i h) (i2 : Int) (h0 : 0 ≤ i2) (h1 : i2 ≤ 9223372036854775807) : Cur (w.setCell ⟨b, 1, none⟩ (.int .i64 i2)) B b a len cap i2 h where
  lt := by simpa using hC.lt
  le := hC.le
  c0 := (World.cell?_setCell_other _ _ _ _ (by simp)).trans hC.c0
  c1 := World.cell?_setCell_same _ _ _ hC.c1
  c2 := (World.cell?_setCell_other _ _ _ _ (by simp)).trans hC.c2
  f1 := by rw [World.frozen?_setCell]; exact hC.f1
  f2 := by rw [World.frozen?_setCell]; exact hC.f2
  i0 := h0
  i1 := h1
  bytes := bytesIn_kept (b := b) hC.bytes (fun x hx h0 => Below.heap_setCell _ _ _ _ (by have := hC.low x hx h0; have := hC.le; show x.block ≠ b; omega))
  low := hC.low
theorem Cur.drawn {w : World} {B b : Nat} {a : Option Addr} {len cap : Nat} {i h : Int} (hC : Cur w B b a len cap i h) (n : Nat) : Cur (w.drewN n) B b a len cap i h :=
  ⟨hC.lt, hC.le, hC.c0, hC.c1, hC.c2, hC.f1, hC.f2, hC.i0, hC.i1, bytesIn_kept (b := b) hC.bytes (fun _ _ _ => rfl), hC.low⟩
/-- what turns other blocks alone leaves a cursor as it was -/
theorem Cur.kept {w w' : World} {B b : Nat} {a : Option Addr} {len cap : Nat} {i h : Int} (hC : Cur w B b a len cap i h) (hk : ∀ k, k ≤ b → w'.heap[k]? = w.heap[k]?) (hs : w.heap.size ≤ w'.heap.size) : Cur w' B b a len cap i h :=
  ⟨Nat.lt_of_lt_of_le hC.lt hs, hC.le, (World.cell?_of_block (hk b (Nat.le_refl _))).trans hC.c0, (World.cell?_of_block (hk b (Nat.le_refl _))).trans hC.c1, (World.cell?_of_block (hk b (Nat.le_refl _))).trans hC.c2,
    (World.frozen?_of_block (hk b (Nat.le_refl _))).trans hC.f1, (World.frozen?_of_block (hk b (Nat.le_refl _))).trans hC.f2, hC.i0, hC.i1,
    bytesIn_kept (b := b) hC.bytes (fun x hx h0 => hk _ (by have := hC.low x hx h0; have := hC.le; omega)), hC.low⟩

/-- a cursor, wherever it stands -/
def CurAt (w : World) (B b : Nat) (a : Option Addr) (len cap : Nat) : Prop := ∃ i h, Cur w B b a len cap i h

theorem CurAt.lt {w : World} {B b : Nat} {a : Option Addr} {len cap : Nat} (h : CurAt w B b a len cap) : b < w.heap.size := by
  obtain ⟨i, x, hC⟩ := h; exact hC.lt
theorem CurAt.alloc {w : World} {B b : Nat} {a : Option Addr} {len cap : Nat} (h : CurAt w B b a len cap) (o : Obj) : CurAt (w.alloc o) B b a len cap := by
  obtain ⟨i, x, hC⟩ := h
  exact ⟨i, x, hC.kept (fun k hk => Below.heap_alloc _ _ _ (Nat.lt_of_le_of_lt hk hC.lt)) (by simp)⟩
theorem CurAt.kept {w w' : World} {B b : Nat} {a : Option Addr} {len cap : Nat} (h : CurAt w B b a len cap) (hb : Below w.heap.size w w') : CurAt w' B b a len cap := by
  obtain ⟨i, x, hC⟩ := h
  exact ⟨i, x, hC.kept (fun k hk => hb.block k (Nat.lt_of_le_of_lt hk hC.lt)) hb.size⟩
theorem CurAt.drawn {w : World} {B b : Nat} {a : Option Addr} {len cap : Nat} (h : CurAt w B b a len cap) (n : Nat) : CurAt (w.drewN n) B b a len cap := by
  obtain ⟨i, x, hC⟩ := h
  exact ⟨i, x, hC.drawn n⟩

/-- the answer is a number within the bounds; the cursor stands; nothing but its block has turned -/
def Drew (lo hi : Int) (w : World) (B b : Nat) (a : Option Addr) (len cap : Nat) (e : Ending) (w' : World) : Prop :=
  ∃ x : Int, lo ≤ x ∧ x ≤ hi ∧ e = .returned (.int .i64 x) ∧ CurAt w' B b a len cap ∧ w.grownBy w' (some b)

def DrewB (w : World) (B b : Nat) (a : Option Addr) (len cap : Nat) (e : Ending) (w' : World) : Prop :=
  ∃ x : Bool, e = .returned (.bool x) ∧ CurAt w' B b a len cap ∧ w.grownBy w' (some b)

/-- texts in a row of the call's own: a literal list -/
def TextsAt (w : World) (g n B : Nat) (m : Nat) : Prop := ∀ i, i < n → ∃ s : ByteArray, w.cell? ⟨g, i, none⟩ = some (.string s) ∧ s.size ≤ m
def DrewS (m : Nat) (w : World) (B b : Nat) (a : Option Addr) (len cap : Nat) (e : Ending) (w' : World) : Prop :=
  ∃ s : ByteArray, s.size ≤ m ∧ e = .returned (.string s) ∧ CurAt w' B b a len cap ∧ w.grownBy w' (some b)

def IntsAt (w : World) (g n : Nat) : Prop := ∀ i, i < n → ∃ x : Int, -9223372036854775808 ≤ x ∧ x ≤ 9223372036854775807 ∧ w.cell? ⟨g, i, none⟩ = some (.int .i64 x)
def NewCur (w : World) (a : Option Addr) (len cap : Nat) (e : Ending) (w' : World) : Prop :=
  e = .returned (.pointer (some ⟨w.heap.size, 0, none⟩)) ∧ CurAt w' w.heap.size w.heap.size a len cap ∧ Below w.heap.size w w'

/-- a slice of bytes that came in, as it was read -/
def RowU8 (w : World) (a : Option Addr) (len cap : Nat) (zs : List Int) : Prop :=
  (a = none ∧ len = 0 ∧ cap = 0 ∧ zs = []) ∨
  ∃ x, a = some x ∧ len ≤ cap ∧ cap ≤ maxLen ∧ zs.length = cap ∧ (∀ i, i < zs.length → w.cell? (x.add i) = some (.int .u8 (zs.getD i 0))) ∧ ∀ n ∈ zs, (Lit.int .u8 n).wf = true
theorem row_bytes {w : World} {a : Option Addr} {len cap : Nat} {zs : List Int} (h : RowU8 w a len cap zs) : BytesIn w a len ∧ ∀ x, a = some x → len ≠ 0 → x.block < w.heap.size := by
  rcases h with ⟨rfl, rfl, rfl, rfl⟩ | ⟨x, rfl, hl, hm, hz, hc, hw⟩
  · exact ⟨.inl rfl, fun x hx => by cases hx⟩
  · by_cases h0 : len = 0
    · exact ⟨.inl h0, fun _ _ h => absurd h0 h⟩
    · obtain ⟨b, off, spot⟩ := x
      have hc0 := hc 0 (by omega)
      have hspot : spot = none := by simpa [Addr.add] using World.cell?_spot hc0
      subst hspot
      refine ⟨.inr ⟨b, off, rfl, fun i hi => ?_⟩, fun x hx _ => ?_⟩
      · have hci := hc i (by omega)
        have hadd : (⟨b, off, none⟩ : Addr).add i = ⟨b, off + i, none⟩ := by unfold Addr.add; split <;> simp_all
        rw [hadd] at hci
        have hmem : zs.getD i 0 ∈ zs := by
          rw [List.getD_eq_getElem?_getD, List.getElem?_eq_getElem (by omega)]
          exact List.getElem_mem _
        have hwf := hw _ hmem
        have hbd : 0 ≤ zs.getD i 0 ∧ zs.getD i 0 ≤ 255 := by simpa [Lit.wf, IntKind.min, IntKind.max, IntKind.signed, IntKind.bits] using hwf
        exact ⟨_, hbd.1, hbd.2, hci⟩
      · cases hx
        have := World.block_lt_of_cell? _ _ hc0
        simpa [Addr.add] using this

end Go.Proofs.Ytkhkpjnpjgnckaa
