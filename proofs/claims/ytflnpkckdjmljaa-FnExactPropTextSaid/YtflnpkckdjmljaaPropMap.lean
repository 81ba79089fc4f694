/- A map of bytes to functions, and the readers that the program keeps in one. -/
import Derived.Test.YtflnpkckdjmljaaProg
import Derived.Test.YtflnpkckdjmljaaPlain
import Derived.Maps.Own
import Derived.WalkKit
import Derived.WalkLawsBesides
import Derived.BigQuiet
import Derived.Deep.QuietTactic
import Derived.Lib.QuietBelow
import Derived.Lib.Hide
import Derived.IntWalk
set_option maxRecDepth 100000
namespace Go.Proofs.Ytflnpkckdjmljaa
open Go.RowKit Go.Sort
set_option linter.unusedVariables false

/-- a new key in a map that is laid out -/
theorem run_putM {T K E : TypeId} (hm : Try.prog.underlying T = some (.map K E)) (hk : Try.prog.underlying K = some (.int .u8)) {w : World} {b : Nat} {es : Array MapEntry} {clock : Nat} (hb : w.heap[b]? = some (.map es clock)) (c : Int) (v : Value) (hno : Instr.findNow (.int .u8) (.int .u8 c) es.toList 0 = some none) :
    (Instr.mapUpdate T (.map (some b)) (.int .u8 c) v).run Try.prog w = .ok () { w with heap := w.heap.setIfInBounds b (.map (es.push { key := .int .u8 c, val := v, born := clock }) (clock + 1)) } := by
  have hc : (Instr.checkKey false 10000 K (.int .u8 c)).run Try.prog w = .ok () w := MapKept.run_checkKey hk (show MapKept.IsKey (.int .u8) (.int .u8 c) from rfl) false 9999
  simp [Instr.mapUpdate, run_underlying hm, MapKept.run_getObj_map hb, hc, MapKept.run_findKey hk hno, MapKept.run_setObj_map _ hb, Result.andThen]
theorem wpList_putM (w : World) {ops : Array Oper} {rest : List Oper} {o : Oper} {a : Act} {Q : Exit → Act → World → Prop}
    (hg : o.guard = none) (m x v : Operand) (t : TypeId) (hop : o.op = Op.insert t m x v) {K E : TypeId} (hT : Try.prog.underlying t = some (.map K E)) (hK : Try.prog.underlying K = some (.int .u8))
    (b : Nat) (es : Array MapEntry) (clock : Nat) (c : Int) (val : Value) (hm : a.eval m = .map (some b)) (hx : a.eval x = .int .u8 c) (hv : a.eval v = val) (hb : w.heap[b]? = some (.map es clock)) (hno : Instr.findNow (.int .u8) (.int .u8 c) es.toList 0 = some none)
    (hW : ∀ w', w'.heap[b]? = some (.map (es.push { key := .int .u8 c, val := val, born := clock }) (clock + 1)) → w.grownBy w' (some b) → wpList Try.prog ops Q rest (a.put o.dst undef) w') :
    wpList Try.prog ops Q (o :: rest) a w := by
  refine wpList_plain hg fun K' hK' => ?_
  have hrun := run_putM hT hK hb c val hno
  have hs := MapKept.heap_set (o' := .map (es.push { key := .int .u8 c, val := val, born := clock }) (clock + 1)) hb
  unfold Oper.wp
  simp [execOp, hop, hm, hx, hv, hrun, Result.andThen]
  exact hK' _ _ (hW _ hs.1 ⟨rfl, rfl, rfl, by simp, fun k hk hne => hs.2 k (fun e => hne (by rw [e]))⟩)
theorem run_lookM {T K E : TypeId} (hm : Try.prog.underlying T = some (.map K E)) (hk : Try.prog.underlying K = some (.int .u8)) {w : World} {b : Nat} {es : Array MapEntry} {clock : Nat} (hb : w.heap[b]? = some (.map es clock)) (c : Int) {z : Value} (hz : (zeroValue E).run Try.prog w = .ok z w) {r : Option (Nat × Value)} (hf : Instr.findNow (.int .u8) (.int .u8 c) es.toList 0 = some r) :
    (Instr.lookup T (.map (some b)) (.int .u8 c) true).run Try.prog w = .ok (match r with | some (_, v) => .tuple #[v, .bool true] | none => .tuple #[z, .bool false]) w := by
  have hc : ∀ e, (Instr.checkKey e 10000 K (.int .u8 c)).run Try.prog w = .ok () w := fun e => MapKept.run_checkKey hk (show MapKept.IsKey (.int .u8) (.int .u8 c) from rfl) e 9999
  cases r with
  | none => simp [Instr.lookup, run_underlying hm, MapKept.run_getObj_map hb, hc, MapKept.run_findKey hk hf, hz, Result.andThen]
  | some q => obtain ⟨i, v⟩ := q; simp [Instr.lookup, run_underlying hm, MapKept.run_getObj_map hb, hc, MapKept.run_findKey hk hf, Result.andThen]

theorem slice_fromP (s : ByteArray) (k : Nat) (h : k ≤ s.size) (W : World) : (Instr.slice 9 (.string s) (some (.int .i64 (k : Int))) none none).run Try.prog W = .ok (.string (s.extract k s.size)) W := by
  rw [run_slice_string_from_if (h := Try.underlying9)]
  first
    | rw [if_pos (by omega), Int.toNat_natCast]
    | (simp; omega)
theorem drewP {w : World} : ∀ q, Below w.heap.size w (w.drewN q)
  | 0 => Below.refl _ _
  | q + 1 => by
    rw [show w.drewN (q + 1) = (w.drewN q).drew from rfl]
    exact (drewP q).drew
/-- the reader of one byte by another -/
theorem readAs1_any (s x : ByteArray) (b : Nat) (w : World) (h : w.cell? ⟨b, 0, none⟩ = some (.string x)) (h2 : (2 : Int) ≤ (s.size : Int)) :
    Calls Try.prog 21 #[.string s, .pointer (some ⟨b, 0, none⟩)] w fun e w' => e = .returned (.tuple #[.string x, .string (s.extract 2 s.size), .bool true]) ∧ Below w.heap.size w w' := by
  go_enter Try.func21, Try.ntmps21
  go_wp2_with fail
  go_quiet (fail)
  go_wp2
  go_ret3
  exact ⟨rfl, drewP _⟩
theorem readItself_any (s : ByteArray) (w : World) (h2 : (2 : Int) ≤ (s.size : Int)) :
    Calls Try.prog 12 #[.string s] w fun e w' => e = .returned (.tuple #[.string (s.extract 1 2), .string (s.extract 2 s.size), .bool true]) ∧ Below w.heap.size w w' := by
  go_enter Try.func12, Try.ntmps12
  go_wp2_with fail
  go_quiet (fail)
  go_wp2
  go_ret3
  exact ⟨rfl, drewP _⟩
/-- a reader that has been made -/
def ReaderAt (w : World) (x : ByteArray) (v : Value) : Prop := ∃ b, v = .func (Fn.func 21) #[] #[.pointer (some ⟨b, 0, none⟩)] ∧ b < w.heap.size ∧ w.cell? ⟨b, 0, none⟩ = some (.string x)
theorem ReaderAt.kept {w w' : World} {x : ByteArray} {v : Value} {row : Option Nat} (h : ReaderAt w x v) (hg : w.grownBy w' row) (hr : ∀ b, row = some b → ∃ es c, w.heap[b]? = some (.map es c)) : ReaderAt w' x v := by
  obtain ⟨b, rfl, hb, hc⟩ := h
  refine ⟨b, rfl, Nat.lt_of_lt_of_le hb hg.size, ?_⟩
  refine (World.cell?_of_block (a := ⟨b, 0, none⟩) (hg.block b hb ?_)).trans hc
  intro e
  obtain ⟨es, c, he⟩ := hr b e.symm
  unfold World.cell? at hc
  rw [he] at hc
  simp at hc
theorem ReaderAt.over {w w' : World} {x : ByteArray} {v : Value} (h : ReaderAt w x v) (hb : Below w.heap.size w w') : ReaderAt w' x v := by
  obtain ⟨b, rfl, h1, h2⟩ := h
  exact ⟨b, rfl, Nat.lt_of_lt_of_le h1 hb.size, (World.cell?_of_block (a := ⟨b, 0, none⟩) (hb.block b h1)).trans h2⟩
theorem readAs_any (x : ByteArray) (w : World) :
    Calls Try.prog 16 #[.string x] w fun e w' => ∃ v, e = .returned v ∧ ReaderAt w' x v ∧ Below w.heap.size w w' := by
  have hb0 := (Below.refl w.heap.size w).alloc (Nat.le_refl _) (.cells #[.string x] 9)
  have hc0 : ReaderAt (w.alloc (.cells #[.string x] 9)) x (.func (Fn.func 21) #[] #[.pointer (some ⟨w.heap.size, 0, none⟩)]) := ⟨_, rfl, by simp, by simp⟩
  go_enter Try.func16, Try.ntmps16
  go_wp2
  go_ret
  exact ⟨_, rfl, hc0, hb0⟩
/-- the map of readers -/
def ReadersAt (w : World) (v : Value) : Prop := ∃ m v0 v1 v2 v3, v = .map (some m) ∧ m < w.heap.size ∧
  w.heap[m]? = some (.map #[{ key := .int .u8 110, val := v0, born := 0 }, { key := .int .u8 116, val := v1, born := 1 }, { key := .int .u8 114, val := v2, born := 2 }, { key := .int .u8 102, val := v3, born := 3 }, { key := .int .u8 117, val := .func (Fn.func 17) #[] #[], born := 4 }] 5) ∧
  ReaderAt w ⟨#[10]⟩ v0 ∧ ReaderAt w ⟨#[9]⟩ v1 ∧ ReaderAt w ⟨#[13]⟩ v2 ∧ ReaderAt w ⟨#[12]⟩ v3
theorem ReadersAt.over {w w' : World} {v : Value} (h : ReadersAt w v) (hb : Below w.heap.size w w') : ReadersAt w' v := by
  obtain ⟨m, v0, v1, v2, v3, rfl, hm, h1, h2, h3, h4, h5⟩ := h
  exact ⟨m, v0, v1, v2, v3, rfl, Nat.lt_of_lt_of_le hm hb.size, (hb.block m hm).trans h1, h2.over hb, h3.over hb, h4.over hb, h5.over hb⟩

theorem mapU : Try.prog.underlying 29 = some (.map 5 42) := by kernel_rfl
theorem zeroP (w : World) : (zeroValue 42).run Try.prog w = .ok .nilFunc w := by kernel_rfl
theorem map_alloc {w : World} {b : Nat} {es : Array MapEntry} {c : Nat} (h : w.heap[b]? = some (.map es c)) {w' : World} (hb : Below w.heap.size w w') : w'.heap[b]? = some (.map es c) := (hb.block b (Array.getElem?_eq_some_iff.1 h).1).trans h

set_option maxHeartbeats 1600000 in
theorem propReaders_any (w : World) :
    Calls Try.prog 8 #[] w fun e w' => ∃ v, e = .returned v ∧ ReadersAt w' v ∧ Below w.heap.size w w' := by
  have hmm := @run_makeMap Try.prog
  have M0 := Lib.hid (heap_alloc_new w (.map #[] 0))
  have B0 := (Below.refl w.heap.size w).alloc (Nat.le_refl _) (.map #[] 0)
  go_enter Try.func8, Try.ntmps8
  go_wp2_with fail
  generalize w.alloc (.map #[] 0) = W0 at *
  refine (readAs_any ⟨#[10]⟩ W0).mono ?_
  rintro e w1 ⟨v0, rfl, R1, hb1⟩
  have M1 := map_alloc M0.out hb1
  have B1 := B0.trans (hb1.mono B0.size)
  go_wp2_with (refine wpList_putM _ rfl _ _ _ _ rfl mapU Try.underlying5 _ _ _ _ _ rfl rfl rfl M1 rfl ?_; intro w2 M2 g2)
  have P2 := R1.kept g2 (fun b e => by injection e with e; subst e; exact ⟨_, _, M1⟩)
  have B2 := B1.grown g2 B1.size (fun b e => by injection e with e; omega)
  clear M1 g2 R1 hb1 B1
  refine (readAs_any ⟨#[9]⟩ w2).mono ?_
  rintro e w3 ⟨v1, rfl, R3, hb3⟩
  have M3 := map_alloc M2 hb3
  have P3 := P2.over hb3
  have B3 := B2.trans (hb3.mono B2.size)
  clear M2 P2 B2 hb3
  go_wp2_with (refine wpList_putM _ rfl _ _ _ _ rfl mapU Try.underlying5 _ _ _ _ _ rfl rfl rfl M3 rfl ?_; intro w4 M4 g4)
  have Q4 := R3.kept g4 (fun b e => by injection e with e; subst e; exact ⟨_, _, M3⟩)
  have P4 := P3.kept g4 (fun b e => by injection e with e; subst e; exact ⟨_, _, M3⟩)
  have B4 := B3.grown g4 B3.size (fun b e => by injection e with e; omega)
  clear M3 g4 R3 P3 B3
  refine (readAs_any ⟨#[13]⟩ w4).mono ?_
  rintro e w5 ⟨v2, rfl, R5, hb5⟩
  have M5 := map_alloc M4 hb5
  have P5 := P4.over hb5
  have Q5 := Q4.over hb5
  have B5 := B4.trans (hb5.mono B4.size)
  clear M4 P4 Q4 B4 hb5
  go_wp2_with (refine wpList_putM _ rfl _ _ _ _ rfl mapU Try.underlying5 _ _ _ _ _ rfl rfl rfl M5 rfl ?_; intro w6 M6 g6)
  have S6 := R5.kept g6 (fun b e => by injection e with e; subst e; exact ⟨_, _, M5⟩)
  have Q6 := Q5.kept g6 (fun b e => by injection e with e; subst e; exact ⟨_, _, M5⟩)
  have P6 := P5.kept g6 (fun b e => by injection e with e; subst e; exact ⟨_, _, M5⟩)
  have B6 := B5.grown g6 B5.size (fun b e => by injection e with e; omega)
  clear M5 g6 R5 P5 Q5 B5
  refine (readAs_any ⟨#[12]⟩ w6).mono ?_
  rintro e w7 ⟨v3, rfl, R7, hb7⟩
  have M7 := map_alloc M6 hb7
  have P7 := P6.over hb7
  have Q7 := Q6.over hb7
  have S7 := S6.over hb7
  have B7 := B6.trans (hb7.mono B6.size)
  clear M6 P6 Q6 S6 B6 hb7
  go_wp2_with (first | (refine wpList_putM _ rfl _ _ _ _ rfl mapU Try.underlying5 _ _ _ _ _ rfl rfl rfl M7 rfl ?_; intro w8 M8 g8) | (refine wpList_putM _ rfl _ _ _ _ rfl mapU Try.underlying5 _ _ _ _ _ rfl rfl rfl M8 rfl ?_; intro w9 M9 g9))
  have P8 := P7.kept g8 (fun b e => by injection e with e; subst e; exact ⟨_, _, M7⟩)
  have Q8 := Q7.kept g8 (fun b e => by injection e with e; subst e; exact ⟨_, _, M7⟩)
  have S8 := S7.kept g8 (fun b e => by injection e with e; subst e; exact ⟨_, _, M7⟩)
  have T8 := R7.kept g8 (fun b e => by injection e with e; subst e; exact ⟨_, _, M7⟩)
  have B8 := B7.grown g8 B7.size (fun b e => by injection e with e; omega)
  have P9 := P8.kept g9 (fun b e => by injection e with e; subst e; exact ⟨_, _, M8⟩)
  have Q9 := Q8.kept g9 (fun b e => by injection e with e; subst e; exact ⟨_, _, M8⟩)
  have S9 := S8.kept g9 (fun b e => by injection e with e; subst e; exact ⟨_, _, M8⟩)
  have T9 := T8.kept g9 (fun b e => by injection e with e; subst e; exact ⟨_, _, M8⟩)
  have B9 := B8.grown g9 B8.size (fun b e => by injection e with e; omega)
  have hm9 : w.heap.size < w9.heap.size := (Array.getElem?_eq_some_iff.1 M9).1
  clear P7 Q7 S7 R7 P8 Q8 S8 T8 g8 g9 M7 M8 B7 B8
  go_ret
  exact ⟨_, rfl, ⟨_, v0, v1, v2, v3, rfl, hm9, M9, P9, Q9, S9, T9⟩, B9⟩

/-- what is read in it -/
theorem readers_look {w : World} {v : Value} (h : ReadersAt w v) (c : UInt8) (hc : c ≠ 110 ∧ c ≠ 116 ∧ c ≠ 114 ∧ c ≠ 102 ∧ c ≠ 117) :
    (Instr.lookup 29 v (.int .u8 c.toNat) true).run Try.prog w = .ok (.tuple #[.nilFunc, .bool false]) w := by
  obtain ⟨m, v0, v1, v2, v3, rfl, hm, h1, _⟩ := h
  have hne : ∀ d : UInt8, c ≠ d → ((c.toNat : Int) == (d.toNat : Int)) = false := fun d hd => by
    rw [beq_eq_false_iff_ne]; intro e; exact hd (UInt8.toNat_inj.1 (Int.ofNat_inj.1 e))
  have a1 := hne 110 hc.1
  have a2 := hne 116 hc.2.1
  have a3 := hne 114 hc.2.2.1
  have a4 := hne 102 hc.2.2.2.1
  have a5 := hne 117 hc.2.2.2.2
  refine run_lookM mapU Try.underlying5 h1 _ (zeroP w) (r := none) ?_
  simp only [Instr.findNow, Instr.sameNow, if_true]
  rw [show ((c.toNat : Int) == 110) = false from a1, show ((c.toNat : Int) == 116) = false from a2, show ((c.toNat : Int) == 114) = false from a3, show ((c.toNat : Int) == 102) = false from a4, show ((c.toNat : Int) == 117) = false from a5]
theorem readers_n {w : World} {v : Value} (h : ReadersAt w v) : ∃ f, (Instr.lookup 29 v (.int .u8 110) true).run Try.prog w = .ok (.tuple #[f, .bool true]) w ∧ ReaderAt w ⟨#[10]⟩ f := by
  obtain ⟨m, v0, v1, v2, v3, rfl, hm, h1, h2, _⟩ := h
  exact ⟨v0, run_lookM mapU Try.underlying5 h1 _ (zeroP w) (r := some (0, v0)) rfl, h2⟩
theorem readers_t {w : World} {v : Value} (h : ReadersAt w v) : ∃ f, (Instr.lookup 29 v (.int .u8 116) true).run Try.prog w = .ok (.tuple #[f, .bool true]) w ∧ ReaderAt w ⟨#[9]⟩ f := by
  obtain ⟨m, v0, v1, v2, v3, rfl, hm, h1, _, h2, _⟩ := h
  exact ⟨v1, run_lookM mapU Try.underlying5 h1 _ (zeroP w) (r := some (1, v1)) rfl, h2⟩
theorem readers_r {w : World} {v : Value} (h : ReadersAt w v) : ∃ f, (Instr.lookup 29 v (.int .u8 114) true).run Try.prog w = .ok (.tuple #[f, .bool true]) w ∧ ReaderAt w ⟨#[13]⟩ f := by
  obtain ⟨m, v0, v1, v2, v3, rfl, hm, h1, _, _, h2, _⟩ := h
  exact ⟨v2, run_lookM mapU Try.underlying5 h1 _ (zeroP w) (r := some (2, v2)) rfl, h2⟩
theorem readers_f {w : World} {v : Value} (h : ReadersAt w v) : ∃ f, (Instr.lookup 29 v (.int .u8 102) true).run Try.prog w = .ok (.tuple #[f, .bool true]) w ∧ ReaderAt w ⟨#[12]⟩ f := by
  obtain ⟨m, v0, v1, v2, v3, rfl, hm, h1, _, _, _, h2⟩ := h
  exact ⟨v3, run_lookM mapU Try.underlying5 h1 _ (zeroP w) (r := some (3, v3)) rfl, h2⟩
theorem readers_u {w : World} {v : Value} (h : ReadersAt w v) : (Instr.lookup 29 v (.int .u8 117) true).run Try.prog w = .ok (.tuple #[.func (Fn.func 17) #[] #[], .bool true]) w := by
  obtain ⟨m, v0, v1, v2, v3, rfl, hm, h1, _⟩ := h
  exact run_lookM mapU Try.underlying5 h1 _ (zeroP w) (r := some (4, .func (Fn.func 17) #[] #[])) rfl

end Go.Proofs.Ytflnpkckdjmljaa
