/- A map of bytes to functions, and the readers that the program keeps in one. -/
import Derived.Test.YtflnpkckdjmljaaDoorProg
import Derived.Test.YtflnpkckdjmljaaDoorPlain
import Derived.Maps.Own
import Derived.WalkKit
import Derived.WalkLawsBesides
import Derived.BigQuiet
import Derived.Deep.QuietTactic
import Derived.Lib.QuietBelow
import Derived.Lib.Hide
import Derived.IntWalk
import Derived.Test.YtflnpkckdjmljaaDoorHex
import Derived.Test.YtflnpkckdjmljaaDoorIndex
import Derived.Test.YtflnpkckdjmljaaDoorCut
import Derived.Test.YtflnpkckdjmljaaDoorRunePure
import Derived.Test.YtflnpkckdjmljaaDoorRuneText
import Derived.Test.YtflnpkckdjmljaaDoorNextSpec
import Derived.Test.YtflnpkckdjmljaaDoorInts
import Derived.Test.YtflnpkckdjmljaaDoorBuild
import Derived.Test.YtflnpkckdjmljaaDoorTextOf
import Derived.Test.YtflnpkckdjmljaaDoorPutEsc
import Derived.Test.YtflnpkckdjmljaaDoorGetPure
import Derived.Test.YtflnpkckdjmljaaDoorCutEsc
import Derived.Test.YtflnpkckdjmljaaDoorPropPure
import Derived.Test.YtflnpkckdjmljaaDoorPropSpec
import Derived.Test.YtflnpkckdjmljaaDoorPropWrite
import Derived.WalkMore
import Derived.OwnWalk
import Derived.Lib.AppendStr
import Derived.Laws.IdiomStrings
set_option maxRecDepth 100000
namespace Go.Proofs.YtflnpkckdjmljaaDoor
open Go.RowKit Go.Sort
set_option linter.unusedVariables false

/-- a new key in a map that is laid out -/
theorem run_putM {T K E : TypeId} (hm : Tryd.prog.underlying T = some (.map K E)) (hk : Tryd.prog.underlying K = some (.int .u8)) {w : World} {b : Nat} {es : Array MapEntry} {clock : Nat} (hb : w.heap[b]? = some (.map es clock)) (c : Int) (v : Value) (hno : Instr.findNow (.int .u8) (.int .u8 c) es.toList 0 = some none) :
    (Instr.mapUpdate T (.map (some b)) (.int .u8 c) v).run Tryd.prog w = .ok () { w with heap := w.heap.setIfInBounds b (.map (es.push { key := .int .u8 c, val := v, born := clock }) (clock + 1)) } := by
  have hc : (Instr.checkKey false 10000 K (.int .u8 c)).run Tryd.prog w = .ok () w := MapKept.run_checkKey hk (show MapKept.IsKey (.int .u8) (.int .u8 c) from rfl) false 9999
  simp [Instr.mapUpdate, run_underlying hm, MapKept.run_getObj_map hb, hc, MapKept.run_findKey hk hno, MapKept.run_setObj_map _ hb, Result.andThen]
theorem wpList_putM (w : World) {ops : Array Oper} {rest : List Oper} {o : Oper} {a : Act} {Q : Exit → Act → World → Prop}
    (hg : o.guard = none) (m x v : Operand) (t : TypeId) (hop : o.op = Op.insert t m x v) {K E : TypeId} (hT : Tryd.prog.underlying t = some (.map K E)) (hK : Tryd.prog.underlying K = some (.int .u8))
    (b : Nat) (es : Array MapEntry) (clock : Nat) (c : Int) (val : Value) (hm : a.eval m = .map (some b)) (hx : a.eval x = .int .u8 c) (hv : a.eval v = val) (hb : w.heap[b]? = some (.map es clock)) (hno : Instr.findNow (.int .u8) (.int .u8 c) es.toList 0 = some none)
    (hW : ∀ w', w'.heap[b]? = some (.map (es.push { key := .int .u8 c, val := val, born := clock }) (clock + 1)) → w.grownBy w' (some b) → wpList Tryd.prog ops Q rest (a.put o.dst undef) w') :
    wpList Tryd.prog ops Q (o :: rest) a w := by
  refine wpList_plain hg fun K' hK' => ?_
  have hrun := run_putM hT hK hb c val hno
  have hs := MapKept.heap_set (o' := .map (es.push { key := .int .u8 c, val := val, born := clock }) (clock + 1)) hb
  unfold Oper.wp
  simp [execOp, hop, hm, hx, hv, hrun, Result.andThen]
  exact hK' _ _ (hW _ hs.1 ⟨rfl, rfl, rfl, by simp, fun k hk hne => hs.2 k (fun e => hne (by rw [e]))⟩)
theorem run_lookM {T K E : TypeId} (hm : Tryd.prog.underlying T = some (.map K E)) (hk : Tryd.prog.underlying K = some (.int .u8)) {w : World} {b : Nat} {es : Array MapEntry} {clock : Nat} (hb : w.heap[b]? = some (.map es clock)) (c : Int) {z : Value} (hz : (zeroValue E).run Tryd.prog w = .ok z w) {r : Option (Nat × Value)} (hf : Instr.findNow (.int .u8) (.int .u8 c) es.toList 0 = some r) :
    (Instr.lookup T (.map (some b)) (.int .u8 c) true).run Tryd.prog w = .ok (match r with | some (_, v) => .tuple #[v, .bool true] | none => .tuple #[z, .bool false]) w := by
  have hc : ∀ e, (Instr.checkKey e 10000 K (.int .u8 c)).run Tryd.prog w = .ok () w := fun e => MapKept.run_checkKey hk (show MapKept.IsKey (.int .u8) (.int .u8 c) from rfl) e 9999
  cases r with
  | none => simp [Instr.lookup, run_underlying hm, MapKept.run_getObj_map hb, hc, MapKept.run_findKey hk hf, hz, Result.andThen]
  | some q => obtain ⟨i, v⟩ := q; simp [Instr.lookup, run_underlying hm, MapKept.run_getObj_map hb, hc, MapKept.run_findKey hk hf, Result.andThen]

theorem slice_fromP (s : ByteArray) (k : Nat) (h : k ≤ s.size) (W : World) : (Instr.slice 9 (.string s) (some (.int .i64 (k : Int))) none none).run Tryd.prog W = .ok (.string (s.extract k s.size)) W := by
  rw [run_slice_string_from_if (h := Tryd.underlying9)]
  first
    | rw [if_pos (by omega), Int.toNat_natCast]
    | (simp; omega)
theorem drewP {w : World} : ∀ q, Below w.heap.size w (w.drewN q)
  | 0 => Below.refl _ _
  | q + 1 => by
    rw [show w.drewN (q + 1) = (w.drewN q).drew from rfl]
    exact (drewP q).drew
/-- the reader of one byte by another -/
theorem readAs1_any (s x : ByteArray) (b : Nat) (w : World) (h : w.cell? ⟨b, 0, none⟩ = some (.string x)) (h2 : (2 : Int) ≤ (s.size : Int)) :
    Calls Tryd.prog 118 #[.string s, .pointer (some ⟨b, 0, none⟩)] w fun e w' => e = .returned (.tuple #[.string x, .string (s.extract 2 s.size), .bool true]) ∧ Below w.heap.size w w' := by
  go_enter Tryd.func118, Tryd.ntmps118
  go_wp2_with fail
  go_quiet (fail)
  go_wp2
  go_ret3
  exact ⟨rfl, drewP _⟩
theorem readItself_any (s : ByteArray) (w : World) (h2 : (2 : Int) ≤ (s.size : Int)) :
    Calls Tryd.prog 94 #[.string s] w fun e w' => e = .returned (.tuple #[.string (s.extract 1 2), .string (s.extract 2 s.size), .bool true]) ∧ Below w.heap.size w w' := by
  go_enter Tryd.func94, Tryd.ntmps94
  go_wp2_with fail
  go_quiet (fail)
  go_wp2
  go_ret3
  exact ⟨rfl, drewP _⟩
/-- a reader that has been made -/
def ReaderAt (w : World) (x : ByteArray) (v : Value) : Prop := ∃ b, v = .func (Fn.func 118) #[] #[.pointer (some ⟨b, 0, none⟩)] ∧ b < w.heap.size ∧ w.cell? ⟨b, 0, none⟩ = some (.string x)
theorem ReaderAt.kept {w w' : World} {x : ByteArray} {v : Value} {row : Option Nat} (h : ReaderAt w x v) (hg : w.grownBy w' row) (hr : ∀ b, row = some b → ∃ es c, w.heap[b]? = some (.map es c)) : ReaderAt w' x v := by
  obtain ⟨b, rfl, hb, hc⟩ := h
  refine ⟨b, rfl, Nat.lt_of_lt_of_le hb hg.size, ?_⟩
  refine (World.cell?_of_block (a := ⟨b, 0, none⟩) (hg.block b hb ?_)).trans hc
  intro e
  obtain ⟨es, c, he⟩ := hr b e.symm
  unfold World.cell? at hc
  rw [he] at hc
  simp at hc
theorem ReaderAt.over {w w' : World} {x : ByteArray} {v : Value} (h : ReaderAt w x v) (hb : Below w.heap.size w w') : ReaderAt w' x v := by
  obtain ⟨b, rfl, h1, h2⟩ := h
  exact ⟨b, rfl, Nat.lt_of_lt_of_le h1 hb.size, (World.cell?_of_block (a := ⟨b, 0, none⟩) (hb.block b h1)).trans h2⟩
theorem readAs_any (x : ByteArray) (w : World) :
    Calls Tryd.prog 110 #[.string x] w fun e w' => ∃ v, e = .returned v ∧ ReaderAt w' x v ∧ Below w.heap.size w w' := by
  have hb0 := (Below.refl w.heap.size w).alloc (Nat.le_refl _) (.cells #[.string x] 9)
  have hc0 : ReaderAt (w.alloc (.cells #[.string x] 9)) x (.func (Fn.func 118) #[] #[.pointer (some ⟨w.heap.size, 0, none⟩)]) := ⟨_, rfl, by simp, by simp⟩
  go_enter Tryd.func110, Tryd.ntmps110
  go_wp2
  go_ret
  exact ⟨_, rfl, hc0, hb0⟩
/-- the map of readers -/
def ReadersAt (w : World) (v : Value) : Prop := ∃ m v0 v1 v2 v3, v = .map (some m) ∧ m < w.heap.size ∧
  w.heap[m]? = some (.map #[{ key := .int .u8 110, val := v0, born := 0 }, { key := .int .u8 116, val := v1, born := 1 }, { key := .int .u8 114, val := v2, born := 2 }, { key := .int .u8 102, val := v3, born := 3 }, { key := .int .u8 117, val := .func (Fn.func 111) #[] #[], born := 4 }] 5) ∧
  ReaderAt w ⟨#[10]⟩ v0 ∧ ReaderAt w ⟨#[9]⟩ v1 ∧ ReaderAt w ⟨#[13]⟩ v2 ∧ ReaderAt w ⟨#[12]⟩ v3
theorem ReadersAt.over {w w' : World} {v : Value} (h : ReadersAt w v) (hb : Below w.heap.size w w') : ReadersAt w' v := by
  obtain ⟨m, v0, v1, v2, v3, rfl, hm, h1, h2, h3, h4, h5⟩ := h
  exact ⟨m, v0, v1, v2, v3, rfl, Nat.lt_of_lt_of_le hm hb.size, (hb.block m hm).trans h1, h2.over hb, h3.over hb, h4.over hb, h5.over hb⟩

theorem mapU : Tryd.prog.underlying 117 = some (.map 5 120) := by kernel_rfl
theorem zeroP (w : World) : (zeroValue 120).run Tryd.prog w = .ok .nilFunc w := by kernel_rfl
theorem map_alloc {w : World} {b : Nat} {es : Array MapEntry} {c : Nat} (h : w.heap[b]? = some (.map es c)) {w' : World} (hb : Below w.heap.size w w') : w'.heap[b]? = some (.map es c) := (hb.block b (Array.getElem?_eq_some_iff.1 h).1).trans h

set_option maxHeartbeats 1600000 in
theorem propReaders_any (w : World) :
    Calls Tryd.prog 93 #[] w fun e w' => ∃ v, e = .returned v ∧ ReadersAt w' v ∧ Below w.heap.size w w' := by
  have hmm := @run_makeMap Tryd.prog
  have M0 := Lib.hid (heap_alloc_new w (.map #[] 0))
  have B0 := (Below.refl w.heap.size w).alloc (Nat.le_refl _) (.map #[] 0)
  go_enter Tryd.func93, Tryd.ntmps93
  go_wp2_with fail
  generalize w.alloc (.map #[] 0) = W0 at *
  refine (readAs_any ⟨#[10]⟩ W0).mono ?_
  rintro e w1 ⟨v0, rfl, R1, hb1⟩
  have M1 := map_alloc M0.out hb1
  have B1 := B0.trans (hb1.mono B0.size)
  go_wp2_with (refine wpList_putM _ rfl _ _ _ _ rfl mapU Tryd.underlying5 _ _ _ _ _ rfl rfl rfl M1 rfl ?_; intro w2 M2 g2)
  have P2 := R1.kept g2 (fun b e => by injection e with e; subst e; exact ⟨_, _, M1⟩)
  have B2 := B1.grown g2 B1.size (fun b e => by injection e with e; omega)
  clear M1 g2 R1 hb1 B1
  refine (readAs_any ⟨#[9]⟩ w2).mono ?_
  rintro e w3 ⟨v1, rfl, R3, hb3⟩
  have M3 := map_alloc M2 hb3
  have P3 := P2.over hb3
  have B3 := B2.trans (hb3.mono B2.size)
  clear M2 P2 B2 hb3
  go_wp2_with (refine wpList_putM _ rfl _ _ _ _ rfl mapU Tryd.underlying5 _ _ _ _ _ rfl rfl rfl M3 rfl ?_; intro w4 M4 g4)
  have Q4 := R3.kept g4 (fun b e => by injection e with e; subst e; exact ⟨_, _, M3⟩)
  have P4 := P3.kept g4 (fun b e => by injection e with e; subst e; exact ⟨_, _, M3⟩)
  have B4 := B3.grown g4 B3.size (fun b e => by injection e with e; omega)
  clear M3 g4 R3 P3 B3
  refine (readAs_any ⟨#[13]⟩ w4).mono ?_
  rintro e w5 ⟨v2, rfl, R5, hb5⟩
  have M5 := map_alloc M4 hb5
  have P5 := P4.over hb5
  have Q5 := Q4.over hb5
  have B5 := B4.trans (hb5.mono B4.size)
  clear M4 P4 Q4 B4 hb5
  go_wp2_with (refine wpList_putM _ rfl _ _ _ _ rfl mapU Tryd.underlying5 _ _ _ _ _ rfl rfl rfl M5 rfl ?_; intro w6 M6 g6)
  have S6 := R5.kept g6 (fun b e => by injection e with e; subst e; exact ⟨_, _, M5⟩)
  have Q6 := Q5.kept g6 (fun b e => by injection e with e; subst e; exact ⟨_, _, M5⟩)
  have P6 := P5.kept g6 (fun b e => by injection e with e; subst e; exact ⟨_, _, M5⟩)
  have B6 := B5.grown g6 B5.size (fun b e => by injection e with e; omega)
  clear M5 g6 R5 P5 Q5 B5
  refine (readAs_any ⟨#[12]⟩ w6).mono ?_
  rintro e w7 ⟨v3, rfl, R7, hb7⟩
  have M7 := map_alloc M6 hb7
  have P7 := P6.over hb7
  have Q7 := Q6.over hb7
  have S7 := S6.over hb7
  have B7 := B6.trans (hb7.mono B6.size)
  clear M6 P6 Q6 S6 B6 hb7
  go_wp2_with (first | (refine wpList_putM _ rfl _ _ _ _ rfl mapU Tryd.underlying5 _ _ _ _ _ rfl rfl rfl M7 rfl ?_; intro w8 M8 g8) | (refine wpList_putM _ rfl _ _ _ _ rfl mapU Tryd.underlying5 _ _ _ _ _ rfl rfl rfl M8 rfl ?_; intro w9 M9 g9))
  have P8 := P7.kept g8 (fun b e => by injection e with e; subst e; exact ⟨_, _, M7⟩)
  have Q8 := Q7.kept g8 (fun b e => by injection e with e; subst e; exact ⟨_, _, M7⟩)
  have S8 := S7.kept g8 (fun b e => by injection e with e; subst e; exact ⟨_, _, M7⟩)
  have T8 := R7.kept g8 (fun b e => by injection e with e; subst e; exact ⟨_, _, M7⟩)
  have B8 := B7.grown g8 B7.size (fun b e => by injection e with e; omega)
  have P9 := P8.kept g9 (fun b e => by injection e with e; subst e; exact ⟨_, _, M8⟩)
  have Q9 := Q8.kept g9 (fun b e => by injection e with e; subst e; exact ⟨_, _, M8⟩)
  have S9 := S8.kept g9 (fun b e => by injection e with e; subst e; exact ⟨_, _, M8⟩)
  have T9 := T8.kept g9 (fun b e => by injection e with e; subst e; exact ⟨_, _, M8⟩)
  have B9 := B8.grown g9 B8.size (fun b e => by injection e with e; omega)
  have hm9 : w.heap.size < w9.heap.size := (Array.getElem?_eq_some_iff.1 M9).1
  clear P7 Q7 S7 R7 P8 Q8 S8 T8 g8 g9 M7 M8 B7 B8
  go_ret
  exact ⟨_, rfl, ⟨_, v0, v1, v2, v3, rfl, hm9, M9, P9, Q9, S9, T9⟩, B9⟩

/-- what is read in it -/
theorem readers_look {w : World} {v : Value} (h : ReadersAt w v) (c : UInt8) (hc : c ≠ 110 ∧ c ≠ 116 ∧ c ≠ 114 ∧ c ≠ 102 ∧ c ≠ 117) :
    (Instr.lookup 117 v (.int .u8 c.toNat) true).run Tryd.prog w = .ok (.tuple #[.nilFunc, .bool false]) w := by
  obtain ⟨m, v0, v1, v2, v3, rfl, hm, h1, _⟩ := h
  have hne : ∀ d : UInt8, c ≠ d → ((c.toNat : Int) == (d.toNat : Int)) = false := fun d hd => by
    rw [beq_eq_false_iff_ne]; intro e; exact hd (UInt8.toNat_inj.1 (Int.ofNat_inj.1 e))
  have a1 := hne 110 hc.1
  have a2 := hne 116 hc.2.1
  have a3 := hne 114 hc.2.2.1
  have a4 := hne 102 hc.2.2.2.1
  have a5 := hne 117 hc.2.2.2.2
  refine run_lookM mapU Tryd.underlying5 h1 _ (zeroP w) (r := none) ?_
  simp only [Instr.findNow, Instr.sameNow, if_true]
  rw [show ((c.toNat : Int) == 110) = false from a1, show ((c.toNat : Int) == 116) = false from a2, show ((c.toNat : Int) == 114) = false from a3, show ((c.toNat : Int) == 102) = false from a4, show ((c.toNat : Int) == 117) = false from a5]
theorem readers_n {w : World} {v : Value} (h : ReadersAt w v) : ∃ f, (Instr.lookup 117 v (.int .u8 110) true).run Tryd.prog w = .ok (.tuple #[f, .bool true]) w ∧ ReaderAt w ⟨#[10]⟩ f := by
  obtain ⟨m, v0, v1, v2, v3, rfl, hm, h1, h2, _⟩ := h
  exact ⟨v0, run_lookM mapU Tryd.underlying5 h1 _ (zeroP w) (r := some (0, v0)) rfl, h2⟩
theorem readers_t {w : World} {v : Value} (h : ReadersAt w v) : ∃ f, (Instr.lookup 117 v (.int .u8 116) true).run Tryd.prog w = .ok (.tuple #[f, .bool true]) w ∧ ReaderAt w ⟨#[9]⟩ f := by
  obtain ⟨m, v0, v1, v2, v3, rfl, hm, h1, _, h2, _⟩ := h
  exact ⟨v1, run_lookM mapU Tryd.underlying5 h1 _ (zeroP w) (r := some (1, v1)) rfl, h2⟩
theorem readers_r {w : World} {v : Value} (h : ReadersAt w v) : ∃ f, (Instr.lookup 117 v (.int .u8 114) true).run Tryd.prog w = .ok (.tuple #[f, .bool true]) w ∧ ReaderAt w ⟨#[13]⟩ f := by
  obtain ⟨m, v0, v1, v2, v3, rfl, hm, h1, _, _, h2, _⟩ := h
  exact ⟨v2, run_lookM mapU Tryd.underlying5 h1 _ (zeroP w) (r := some (2, v2)) rfl, h2⟩
theorem readers_f {w : World} {v : Value} (h : ReadersAt w v) : ∃ f, (Instr.lookup 117 v (.int .u8 102) true).run Tryd.prog w = .ok (.tuple #[f, .bool true]) w ∧ ReaderAt w ⟨#[12]⟩ f := by
  obtain ⟨m, v0, v1, v2, v3, rfl, hm, h1, _, _, _, h2⟩ := h
  exact ⟨v3, run_lookM mapU Tryd.underlying5 h1 _ (zeroP w) (r := some (3, v3)) rfl, h2⟩
theorem readers_u {w : World} {v : Value} (h : ReadersAt w v) : (Instr.lookup 117 v (.int .u8 117) true).run Tryd.prog w = .ok (.tuple #[.func (Fn.func 111) #[] #[], .bool true]) w := by
  obtain ⟨m, v0, v1, v2, v3, rfl, hm, h1, _⟩ := h
  exact run_lookM mapU Tryd.underlying5 h1 _ (zeroP w) (r := some (4, .func (Fn.func 111) #[] #[])) rfl

end Go.Proofs.YtflnpkckdjmljaaDoor

/- Texts of property files taken back: the program's PropText. -/
set_option maxRecDepth 100000
namespace Go.Proofs.YtflnpkckdjmljaaDoor
open Go.RowKit
set_option linter.unusedVariables false

/-- the escape of one sign, as the program's reader tells it -/
def unitsV (s : ByteArray) : Value := match escapeE s.data.toList with
  | none => .tuple #[.string ⟨#[]⟩, .string ⟨#[]⟩, .bool false]
  | some (r, n) => .tuple #[.string ⟨(signB r).toArray⟩, .string (s.extract n s.size), .bool true]
theorem unitsV_none {s : ByteArray} (h : escapeE s.data.toList = none) : unitsV s = .tuple #[.string ⟨#[]⟩, .string ⟨#[]⟩, .bool false] := by unfold unitsV; rw [h]
theorem unitsV_some {s : ByteArray} {r n : Nat} (h : escapeE s.data.toList = some (r, n)) (t : ByteArray) (ht : t.data.toList = s.data.toList.drop n) : unitsV s = .tuple #[.string ⟨(signB r).toArray⟩, .string t, .bool true] := by
  have e : t = s.extract n s.size := by
    apply ByteArray.ext
    apply Array.toList_inj.1
    rw [ht, extract_rest]
  rw [e]
  unfold unitsV
  rw [h]
theorem kind_1 {a : Nat} (h1 : a < 65536) (h : ¬ (55296 ≤ a ∧ a ≤ 56319)) (h2 : ¬ (56320 ≤ a ∧ a ≤ 57343)) : kindI a = 1 ∧ sgn (a : Int) = true := by
  have hs := sgn_true (r := (a : Int)) (by omega) (by omega)
  unfold kindI
  rw [if_neg (by omega), if_pos hs]
  exact ⟨rfl, hs⟩
theorem kind_2 {a : Nat} (h : 55296 ≤ a ∧ a ≤ 56319) : kindI a = 2 := by
  unfold kindI
  rw [if_neg (by omega), sgn_false (r := (a : Int)) (by omega), if_neg (by decide), if_pos (by omega)]
theorem kind_3 {a : Nat} (h : 56320 ≤ a ∧ a ≤ 57343) : kindI a = 3 := by
  unfold kindI
  rw [if_neg (by omega), sgn_false (r := (a : Int)) (by omega), if_neg (by decide), if_neg (by omega)]

set_option maxHeartbeats 1600000 in
theorem readUnits_any (s : ByteArray) (w : World) (hs : (s.size : Int) ≤ 1048576) (h0 : s.data.toList[0]? = some 92) (h1 : s.data.toList[1]? = some 117) :
    Calls Tryd.prog 111 #[.string s] w fun e w' => e = .returned (unitsV s) ∧ Below w.heap.size w w' := by
  have hl := Lib.size_eq s
  go_enter Tryd.func111, Tryd.ntmps111
  go_wp2_with fail
  refine (cutEscape_impl s hs _).mono ?_
  rintro e w1 ⟨u, k1, rest, rfl, hcut, hb1⟩
  rcases hcut with ⟨t, ht, _⟩ | ⟨_, hf, rfl, hr⟩ | ⟨_, a, hf, rfl, rfl, hr⟩
  · rw [ht] at h1
    simp at h1
  · have HV := Lib.hid (unitsV_none (escape_none_four hf))
    have hrz : rest.size ≤ s.size := by rw [Lib.size_eq, Lib.size_eq]; exact hr
    have hz2 : (rest.size : Int) ≤ 1048576 := by omega
    go_wp2_with fail
    refine (cutEscape_impl rest hz2 _).mono ?_
    rintro e w2 ⟨v, k2, rest2, rfl, hcut2, hb2⟩
    have hb3 := hb1.trans (hb2.mono hb1.size)
    clear hb1 hb2 hz2
    go_wp2
    go_ret3
    exact ⟨by rw [HV.out]; rfl, hb3⟩
  · have ha := four_lt hf
    have hrz : rest.size ≤ s.size := by rw [Lib.size_eq, Lib.size_eq, hr, List.length_drop]; omega
    by_cases g2 : 56320 ≤ a ∧ a ≤ 57343
    · have HV := Lib.hid (unitsV_none (escape_second hf g2))
      rw [kind_3 g2]
      clear g2 ha hf hr
      generalize (a : Int) = az at *
      have hz2 : (rest.size : Int) ≤ 1048576 := by omega
      go_wp2_with fail
      refine (cutEscape_impl rest hz2 _).mono ?_
      rintro e w2 ⟨v, k2, rest2, rfl, hcut2, hb2⟩
      have hb3 := hb1.trans (hb2.mono hb1.size)
      clear hb1 hb2 hz2
      go_wp2
      go_ret3
      exact ⟨by rw [HV.out]; rfl, hb3⟩
    · by_cases g1 : 55296 ≤ a ∧ a ≤ 56319
      · rw [kind_2 g1]
        have hz2 : (rest.size : Int) ≤ 1048576 := by omega
        go_wp2_with fail
        refine (cutEscape_impl rest hz2 _).mono ?_
        rintro e w2 ⟨v, k2, rest2, rfl, hcut2, hb2⟩
        have hb3 := hb1.trans (hb2.mono hb1.size)
        clear hb1 hb2 hz2
        rcases hcut2 with ⟨t, ht, rfl, rfl, hr2⟩ | ⟨_, hf2, rfl, _⟩ | ⟨_, b, hf2, rfl, rfl, hr2⟩
        · have hf2 : fourE (s.data.toList.drop 6) = none := by
            rw [← hr, ht]
            refine four_not _ ?_
            simp
          have HV := Lib.hid (unitsV_none (escape_first_none hf g1 hf2))
          clear g1 g2 ha hf hr
          generalize (a : Int) = az at *
          go_wp2
          go_ret3
          exact ⟨by rw [HV.out]; rfl, hb3⟩
        · rw [hr] at hf2
          have HV := Lib.hid (unitsV_none (escape_first_none hf g1 hf2))
          clear g1 g2 ha hf hr
          generalize (a : Int) = az at *
          go_wp2
          go_ret3
          exact ⟨by rw [HV.out]; rfl, hb3⟩
        · have hb4 := four_lt hf2
          rw [hr] at hf2
          by_cases g3 : 56320 ≤ b ∧ b ≤ 57343
          · have he := escape_two hf g1 hf2 g3
            have hsg := escape_sign he
            have hd : rest2.data.toList = s.data.toList.drop 12 := by rw [hr2, hr, List.drop_drop]
            have HV := Lib.hid (unitsV_some he rest2 hd)
            have KP := Lib.hid (fun w => pair_impl (a : Int) (b : Int) w (by omega) (by omega) (by omega) (by omega))
            have hcast : (65536 + 1024 * ((a : Int) - 55296) + ((b : Int) - 56320)) = ((65536 + 1024 * (a - 55296) + (b - 56320) : Nat) : Int) := by omega
            rw [hcast] at KP
            have hT := Lib.hid (signT_good (r := 65536 + 1024 * (a - 55296) + (b - 56320)) (by rw [sgn_nat]; exact hsg))
            rw [kind_3 g3]
            clear he hsg hd hcast g1 g2 g3 ha hf hr hf2 hr2
            generalize 65536 + 1024 * (a - 55296) + (b - 56320) = q at *
            generalize signB q = tx at *
            generalize (a : Int) = az at *
            generalize (b : Int) = bz at *
            generalize (q : Int) = qz at *
            go_wp2_with fail
            refine (KP.out _).mono ?_
            rintro e w3 ⟨rfl, rfl⟩
            go_wp2_with fail
            refine (signText_impl qz _).mono ?_
            rintro e w3 ⟨rfl, rfl⟩
            rw [hT.out]
            go_wp2
            go_ret3
            exact ⟨by rw [HV.out]; rfl, hb3⟩
          · have HV := Lib.hid (unitsV_none (escape_first_bad hf g1 hf2 g3))
            have hk : kindI (b : Int) = 1 ∨ kindI (b : Int) = 2 := by
              by_cases g4 : 55296 ≤ b ∧ b ≤ 56319
              · exact .inr (kind_2 g4)
              · exact .inl (kind_1 hb4 g4 g3).1
            clear g1 g2 g3 ha hf hr hf2 hr2
            generalize (a : Int) = az at *
            generalize (b : Int) = bz at *
            rcases hk with hk | hk
            · rw [hk]
              clear hk
              go_wp2
              go_ret3
              exact ⟨by rw [HV.out]; rfl, hb3⟩
            · rw [hk]
              clear hk
              go_wp2
              go_ret3
              exact ⟨by rw [HV.out]; rfl, hb3⟩
      · obtain ⟨hk, hsg⟩ := kind_1 ha g1 g2
        have HV := Lib.hid (unitsV_some (escape_one hf g2 g1) rest hr)
        have hT := Lib.hid (signT_good hsg)
        rw [hk]
        clear hk hsg g1 g2 ha hf hr
        generalize signB a = tx at *
        generalize (a : Int) = az at *
        go_wp2_with fail
        refine (signText_impl az _).mono ?_
        rintro e w3 ⟨rfl, rfl⟩
        rw [hT.out]
        go_wp2
        go_ret3
        exact ⟨by rw [HV.out]; rfl, hb1⟩

/-! the program's PropText -/
def bslP (s : ByteArray) : Nat := firstIn (hasB ⟨#[92]⟩) s
theorem hasB_92P (c : UInt8) : hasB ⟨#[92]⟩ c = (c == 92) := by
  unfold hasB
  show [92].contains c = _
  rw [List.contains_cons]
  simp
theorem bslP_le (s : ByteArray) : bslP s ≤ s.size := by
  unfold bslP firstIn
  rw [Lib.size_eq]
  exact List.findIdx_le_length
theorem bslP_none (s : ByteArray) : ∀ c ∈ s.data.toList.take (bslP s), c ≠ 92 := by
  intro c hc e
  subst e
  obtain ⟨j, hj, hj2⟩ := List.getElem_of_mem hc
  rw [List.length_take] at hj
  rw [List.getElem_take] at hj2
  have := List.not_of_lt_findIdx (p := hasB ⟨#[92]⟩) (xs := s.data.toList) (i := j) (by unfold bslP firstIn at hj; omega)
  rw [hj2, hasB_92P] at this
  simp at this
theorem bslP_at (s : ByteArray) (h : bslP s < s.size) : s.data.toList.drop (bslP s) = 92 :: s.data.toList.drop (bslP s + 1) := by
  have h2 : bslP s < s.data.toList.length := by rw [← Lib.size_eq]; exact h
  have := List.findIdx_getElem (p := hasB ⟨#[92]⟩) (xs := s.data.toList) (w := by unfold bslP firstIn at h2; exact h2)
  rw [hasB_92P] at this
  have e : s.data.toList[bslP s] = 92 := eq_of_beq this
  rw [List.drop_eq_getElem_cons h2, e]
def strLenP (v : Value) : Nat := match v with | .string z => z.size | _ => 0
theorem propB_n : propB 110 = 10 := rfl
theorem propB_t : propB 116 = 9 := rfl
theorem propB_r : propB 114 = 13 := rfl
theorem propB_f : propB 102 = 12 := rfl
theorem propB_other {e : UInt8} (h : e ≠ 110 ∧ e ≠ 116 ∧ e ≠ 114 ∧ e ≠ 102 ∧ e ≠ 117) : propB e = e := by
  unfold propB
  rw [if_neg h.1, if_neg h.2.1, if_neg h.2.2.1, if_neg h.2.2.2.1]
theorem text_emptyP (x : ByteArray) (h : x.size = 0) : (x.toList == []) = true ∧ x.toList.isEmpty = true := by
  have : x.toList = [] := by
    rw [Lib.toList_data]
    apply List.eq_nil_of_length_eq_zero
    rw [← Lib.size_eq]
    exact h
  rw [this]
  exact ⟨rfl, rfl⟩
theorem text_fullP (x : ByteArray) (h : 0 < x.size) : (x.toList == []) = false ∧ x.toList.isEmpty = false := by
  rw [Lib.toList_data]
  cases hl : x.data.toList with
  | nil =>
    have h2 := Lib.size_eq x
    rw [hl, List.length_nil] at h2
    omega
  | cons c t => exact ⟨rfl, rfl⟩

set_option maxHeartbeats 6400000 in
theorem propText_impl (s : ByteArray) (w : World) (hs : (s.size : Int) ≤ 1048576) :
    Calls Tryd.prog 73 #[.string s] w fun e w' => e = .returned (.tuple #[.string (propT s).1, .bool (propT s).2]) ∧ Below w.heap.size w w' := by
  have HL := Lib.hid (Lib.size_eq s)
  go_enter Tryd.func73, Tryd.ntmps73
  go_wp2_with fail
  refine (propReaders_any w).mono ?_
  rintro e W1 ⟨vm, rfl, hR1, hbw⟩
  have HR := Lib.hid hR1
  clear hR1
  have HB0 : Hid (BuiltF W1.heap.size W1.heap.size [] (W1.alloc (.cells #[.pointer none, .slice none 0 0] 73))) := Lib.IsBuilderF.of (Lib.fresh_isBuilder 73 5 W1)
  have hb0 : Below W1.heap.size W1 (W1.alloc (.cells #[.pointer none, .slice none 0 0] 73)) := (Below.refl _ _).alloc (Nat.le_refl _) _
  go_wp2
  go_loopw [0] (fun x wr => ∃ (st : ByteArray) (k : Nat) (acc : List UInt8), x = .string st ∧ k ≤ s.size ∧ acc.length ≤ k ∧ Hid (st.data.toList = s.data.toList.drop k) ∧ Hid (PropAt s.data.toList k acc) ∧ Hid (BuiltF W1.heap.size W1.heap.size acc wr) ∧ Below W1.heap.size W1 wr) (fun x _ => strLenP x)
  case atStart => exact ⟨s, 0, [], rfl, Nat.zero_le _, Nat.le_refl _, (by unfold Hid; rw [List.drop_zero]), propAt_zero _, HB0, hb0⟩
  case round =>
    obtain ⟨st, k, acc, rfl, hk, hak, hst, hat, hB, hb⟩ := hrel
    clear HB0 hb0
    have hstz : st.size + k = s.size := by
      have h1 := congrArg List.length hst.out
      rw [List.length_drop, ← Lib.size_eq, ← Lib.size_eq] at h1
      omega
    have hm := bslP_le st
    have KC := Lib.hid (cutAt_impl st ⟨#[92]⟩ wr (by omega) (by decide))
    have hat2 : PropAt s.data.toList (k + bslP st) (acc ++ st.data.toList.take (bslP st)) := by
      have := propAt_plains hat.out (bslP st) (by rw [← hst.out]; exact bslP_none st) (by rw [← hst.out, ← Lib.size_eq]; exact hm)
      rw [← hst.out] at this
      exact this
    clear hat
    by_cases hmz : bslP st < st.size
    · have HC : Hid (cutRes st (firstIn (hasB ⟨#[92]⟩) st) = .tuple #[.string (st.extract 0 (bslP st)), .string (st.extract (bslP st + 1) st.size), .bool true]) := by
        unfold Hid cutRes; exact if_pos hmz
      have h92 := bslP_at st hmz
      obtain ⟨p, hp⟩ : ∃ p, st.extract 0 (bslP st) = p := ⟨_, rfl⟩
      have hpl : p.data.toList = st.data.toList.take (bslP st) := by rw [← hp, extract_toList]; rfl
      have hps : p.size = bslP st := by rw [Lib.size_eq, hpl, List.length_take, ← Lib.size_eq]; omega
      obtain ⟨y, hy⟩ : ∃ y, st.extract (bslP st + 1) st.size = y := ⟨_, rfl⟩
      have hyl : y.data.toList = s.data.toList.drop (k + bslP st + 1) := by rw [← hy, extract_rest, hst.out, List.drop_drop, Nat.add_assoc]
      have hys : y.size + bslP st + 1 = st.size := by rw [Lib.size_eq, hyl, List.length_drop, ← Lib.size_eq]; omega
      rw [hp, hy] at HC
      rw [← hpl] at hat2
      obtain ⟨q, hq⟩ : ∃ q, st.extract (bslP st) st.size = q := ⟨_, rfl⟩
      have hql : q.data.toList = s.data.toList.drop (k + bslP st) := by rw [← hq, extract_rest, hst.out, List.drop_drop]
      have hqs : q.size + bslP st = st.size := by rw [Lib.size_eq, hql, List.length_drop, ← Lib.size_eq]; omega
      have hdr : s.data.toList.drop (k + bslP st) = (92 :: y.data.toList : List UInt8) := by
        rw [hyl, ← List.drop_drop, ← hst.out, h92, hst.out, List.drop_drop, Nat.add_assoc]
      have HQ := Lib.hid hq
      clear hp hpl hy hyl h92 hq
      have hpz : (p.size : Int) ≤ (st.size : Int) := by omega
      go_wp2_with fail
      refine KC.out.mono ?_
      rintro e1 w1 ⟨rfl, n1, rfl⟩
      rw [HC.out]
      have hbd : Below wr.heap.size wr (wr.drewN n1) := drewQ n1
      have HB1 := Lib.hid (built_over hB.out hbd)
      have hb1 := hb.trans (hbd.mono hb.size)
      generalize wr.drewN n1 = w1 at *
      clear hbd hB hb KC HC
      go_wp2_with fail
      refine (built_write W1.heap.size W1.heap.size acc p w1 HB1.out (by omega) hb1.size).mono ?_
      rintro e2 w2 ⟨rfl, hB2, hb2, _⟩
      have hb3 := hb1.trans hb2
      have HB3 := Lib.hid hB2
      clear hB2 hb2 hb1 HB1
      by_cases hy0 : 0 < y.size
      · obtain ⟨n1, n2⟩ := text_fullP y hy0
        have hy1 : (1 : Int) ≤ (y.size : Int) := by omega
        have hyc : y.data.toList = y[0] :: (y.data.toList.drop 1) := by
          have h9 : 0 < y.data.toList.length := by rw [← Lib.size_eq]; exact hy0
          have := List.drop_eq_getElem_cons h9
          rw [List.drop_zero] at this
          exact this
        have hd2 : s.data.toList.drop (k + bslP st) = (92 :: y[0] :: y.data.toList.drop 1 : List UInt8) := by rw [hdr, ← hyc]
        have HRW := Lib.hid (HR.out.over hb3)
        have hq2 : (2 : Int) ≤ (q.size : Int) := by omega
        have hap : (acc ++ p.data.toList).length ≤ k + bslP st := by rw [List.length_append, ← Lib.size_eq, hps]; omega
        have hrest2 : (q.extract 2 q.size).data.toList = s.data.toList.drop (k + bslP st + 2) := by rw [extract_rest, hql, List.drop_drop]
        have hr2s : (q.extract 2 q.size).size + 2 = q.size := by rw [ByteArray.size_extract]; omega
        by_cases e110 : y[0] = 110
        · obtain ⟨f, hlk, hrd⟩ := readers_n HRW.out
          have hlk2 : (Instr.lookup 117 vm (.int .u8 (y[0].toNat : Int)) true).run Tryd.prog w2 = .ok (.tuple #[f, .bool true]) w2 := by rw [e110]; exact hlk
          have hP0 := propAt_two hat2 hd2 (by rw [e110]; decide)
          rw [e110, propB_n] at hP0
          obtain ⟨d, hdd⟩ : ∃ d : ByteArray, d = ⟨#[10]⟩ := ⟨_, rfl⟩
          have hdl : d.data.toList = [10] := by rw [hdd]
          have hdz : d.size = 1 := by rw [hdd]; rfl
          rw [← hdl] at hP0
          rw [← hdd] at hrd
          obtain ⟨bb, rfl, hbl, hbc⟩ := hrd
          obtain ⟨rest, hrr⟩ : ∃ r, q.extract 2 q.size = r := ⟨_, rfl⟩
          obtain ⟨k2, hk2e⟩ : ∃ k2, k2 = k + bslP st + 2 := ⟨_, rfl⟩
          rw [hrr] at hrest2 hr2s
          rw [← hk2e] at hP0 hrest2
          have hP := Lib.hid hP0
          have hRL := Lib.hid hrest2
          have hk2 : k2 ≤ s.size := by omega
          have KR := Lib.hid (readAs1_any q d bb w2 hbc hq2)
          rw [hrr] at KR
          clear hP0 hrest2 hlk hdd hdl hd2 hdr hyc e110 hat2 hbc HRW
          go_wp2_with fail
          rw [HQ.out]
          refine KR.out.mono ?_
          rintro e3 w3 ⟨rfl, hb4⟩
          replace HB3 := Lib.hid (built_over HB3.out hb4)
          replace hb3 := hb3.trans (hb4.mono hb3.size)
          clear hb4 hlk2 KR
          -- the denoted text is written, and the rest goes on: d, rest, hP (PropAt behind it), hRL (the rest's bytes), n2
          go_wp2_with fail
          refine (built_write W1.heap.size W1.heap.size (acc ++ p.data.toList) d _ HB3.out (by omega) (by have := hb3.size; omega)).mono ?_
          rintro e4 w4 ⟨rfl, hB4, hb4, _⟩
          have hb5 := hb3.trans hb4
          have HB4 := Lib.hid hB4
          clear hB4 hb4 hb3 HB3
          go_wp2
          go_roundw
          case rel => exact ⟨rest, k2, acc ++ p.data.toList ++ d.data.toList, rfl, hk2, by rw [List.length_append, List.length_append, ← Lib.size_eq, ← Lib.size_eq]; omega, hRL, hP, HB4, hb5⟩
          case measure => simp [strLenP]; omega
        · skip
          by_cases e116 : y[0] = 116
          · obtain ⟨f, hlk, hrd⟩ := readers_t HRW.out
            have hlk2 : (Instr.lookup 117 vm (.int .u8 (y[0].toNat : Int)) true).run Tryd.prog w2 = .ok (.tuple #[f, .bool true]) w2 := by rw [e116]; exact hlk
            have hP0 := propAt_two hat2 hd2 (by rw [e116]; decide)
            rw [e116, propB_t] at hP0
            obtain ⟨d, hdd⟩ : ∃ d : ByteArray, d = ⟨#[9]⟩ := ⟨_, rfl⟩
            have hdl : d.data.toList = [9] := by rw [hdd]
            have hdz : d.size = 1 := by rw [hdd]; rfl
            rw [← hdl] at hP0
            rw [← hdd] at hrd
            obtain ⟨bb, rfl, hbl, hbc⟩ := hrd
            obtain ⟨rest, hrr⟩ : ∃ r, q.extract 2 q.size = r := ⟨_, rfl⟩
            obtain ⟨k2, hk2e⟩ : ∃ k2, k2 = k + bslP st + 2 := ⟨_, rfl⟩
            rw [hrr] at hrest2 hr2s
            rw [← hk2e] at hP0 hrest2
            have hP := Lib.hid hP0
            have hRL := Lib.hid hrest2
            have hk2 : k2 ≤ s.size := by omega
            have KR := Lib.hid (readAs1_any q d bb w2 hbc hq2)
            rw [hrr] at KR
            clear hP0 hrest2 hlk hdd hdl hd2 hdr hyc e116 hat2 hbc HRW
            go_wp2_with fail
            rw [HQ.out]
            refine KR.out.mono ?_
            rintro e3 w3 ⟨rfl, hb4⟩
            replace HB3 := Lib.hid (built_over HB3.out hb4)
            replace hb3 := hb3.trans (hb4.mono hb3.size)
            clear hb4 hlk2 KR
            -- the denoted text is written, and the rest goes on: d, rest, hP (PropAt behind it), hRL (the rest's bytes), n2
            go_wp2_with fail
            refine (built_write W1.heap.size W1.heap.size (acc ++ p.data.toList) d _ HB3.out (by omega) (by have := hb3.size; omega)).mono ?_
            rintro e4 w4 ⟨rfl, hB4, hb4, _⟩
            have hb5 := hb3.trans hb4
            have HB4 := Lib.hid hB4
            clear hB4 hb4 hb3 HB3
            go_wp2
            go_roundw
            case rel => exact ⟨rest, k2, acc ++ p.data.toList ++ d.data.toList, rfl, hk2, by rw [List.length_append, List.length_append, ← Lib.size_eq, ← Lib.size_eq]; omega, hRL, hP, HB4, hb5⟩
            case measure => simp [strLenP]; omega
          · skip
            by_cases e114 : y[0] = 114
            · obtain ⟨f, hlk, hrd⟩ := readers_r HRW.out
              have hlk2 : (Instr.lookup 117 vm (.int .u8 (y[0].toNat : Int)) true).run Tryd.prog w2 = .ok (.tuple #[f, .bool true]) w2 := by rw [e114]; exact hlk
              have hP0 := propAt_two hat2 hd2 (by rw [e114]; decide)
              rw [e114, propB_r] at hP0
              obtain ⟨d, hdd⟩ : ∃ d : ByteArray, d = ⟨#[13]⟩ := ⟨_, rfl⟩
              have hdl : d.data.toList = [13] := by rw [hdd]
              have hdz : d.size = 1 := by rw [hdd]; rfl
              rw [← hdl] at hP0
              rw [← hdd] at hrd
              obtain ⟨bb, rfl, hbl, hbc⟩ := hrd
              obtain ⟨rest, hrr⟩ : ∃ r, q.extract 2 q.size = r := ⟨_, rfl⟩
              obtain ⟨k2, hk2e⟩ : ∃ k2, k2 = k + bslP st + 2 := ⟨_, rfl⟩
              rw [hrr] at hrest2 hr2s
              rw [← hk2e] at hP0 hrest2
              have hP := Lib.hid hP0
              have hRL := Lib.hid hrest2
              have hk2 : k2 ≤ s.size := by omega
              have KR := Lib.hid (readAs1_any q d bb w2 hbc hq2)
              rw [hrr] at KR
              clear hP0 hrest2 hlk hdd hdl hd2 hdr hyc e114 hat2 hbc HRW
              go_wp2_with fail
              rw [HQ.out]
              refine KR.out.mono ?_
              rintro e3 w3 ⟨rfl, hb4⟩
              replace HB3 := Lib.hid (built_over HB3.out hb4)
              replace hb3 := hb3.trans (hb4.mono hb3.size)
              clear hb4 hlk2 KR
              -- the denoted text is written, and the rest goes on: d, rest, hP (PropAt behind it), hRL (the rest's bytes), n2
              go_wp2_with fail
              refine (built_write W1.heap.size W1.heap.size (acc ++ p.data.toList) d _ HB3.out (by omega) (by have := hb3.size; omega)).mono ?_
              rintro e4 w4 ⟨rfl, hB4, hb4, _⟩
              have hb5 := hb3.trans hb4
              have HB4 := Lib.hid hB4
              clear hB4 hb4 hb3 HB3
              go_wp2
              go_roundw
              case rel => exact ⟨rest, k2, acc ++ p.data.toList ++ d.data.toList, rfl, hk2, by rw [List.length_append, List.length_append, ← Lib.size_eq, ← Lib.size_eq]; omega, hRL, hP, HB4, hb5⟩
              case measure => simp [strLenP]; omega
            · skip
              by_cases e102 : y[0] = 102
              · obtain ⟨f, hlk, hrd⟩ := readers_f HRW.out
                have hlk2 : (Instr.lookup 117 vm (.int .u8 (y[0].toNat : Int)) true).run Tryd.prog w2 = .ok (.tuple #[f, .bool true]) w2 := by rw [e102]; exact hlk
                have hP0 := propAt_two hat2 hd2 (by rw [e102]; decide)
                rw [e102, propB_f] at hP0
                obtain ⟨d, hdd⟩ : ∃ d : ByteArray, d = ⟨#[12]⟩ := ⟨_, rfl⟩
                have hdl : d.data.toList = [12] := by rw [hdd]
                have hdz : d.size = 1 := by rw [hdd]; rfl
                rw [← hdl] at hP0
                rw [← hdd] at hrd
                obtain ⟨bb, rfl, hbl, hbc⟩ := hrd
                obtain ⟨rest, hrr⟩ : ∃ r, q.extract 2 q.size = r := ⟨_, rfl⟩
                obtain ⟨k2, hk2e⟩ : ∃ k2, k2 = k + bslP st + 2 := ⟨_, rfl⟩
                rw [hrr] at hrest2 hr2s
                rw [← hk2e] at hP0 hrest2
                have hP := Lib.hid hP0
                have hRL := Lib.hid hrest2
                have hk2 : k2 ≤ s.size := by omega
                have KR := Lib.hid (readAs1_any q d bb w2 hbc hq2)
                rw [hrr] at KR
                clear hP0 hrest2 hlk hdd hdl hd2 hdr hyc e102 hat2 hbc HRW
                go_wp2_with fail
                rw [HQ.out]
                refine KR.out.mono ?_
                rintro e3 w3 ⟨rfl, hb4⟩
                replace HB3 := Lib.hid (built_over HB3.out hb4)
                replace hb3 := hb3.trans (hb4.mono hb3.size)
                clear hb4 hlk2 KR
                -- the denoted text is written, and the rest goes on: d, rest, hP (PropAt behind it), hRL (the rest's bytes), n2
                go_wp2_with fail
                refine (built_write W1.heap.size W1.heap.size (acc ++ p.data.toList) d _ HB3.out (by omega) (by have := hb3.size; omega)).mono ?_
                rintro e4 w4 ⟨rfl, hB4, hb4, _⟩
                have hb5 := hb3.trans hb4
                have HB4 := Lib.hid hB4
                clear hB4 hb4 hb3 HB3
                go_wp2
                go_roundw
                case rel => exact ⟨rest, k2, acc ++ p.data.toList ++ d.data.toList, rfl, hk2, by rw [List.length_append, List.length_append, ← Lib.size_eq, ← Lib.size_eq]; omega, hRL, hP, HB4, hb5⟩
                case measure => simp [strLenP]; omega
              · skip
                by_cases e117 : y[0] = 117
                · have hlk := readers_u HRW.out
                  have hlk2 : (Instr.lookup 117 vm (.int .u8 (y[0].toNat : Int)) true).run Tryd.prog w2 = .ok (.tuple #[.func (Fn.func 111) #[] #[], .bool true]) w2 := by rw [e117]; exact hlk
                  rw [e117] at hd2
                  have KU := Lib.hid (readUnits_any q w2 (by omega) (by rw [hql, hd2]; rfl) (by rw [hql, hd2]; rfl))
                  cases he : escapeE (s.data.toList.drop (k + bslP st)) with
                  | none =>
                    have HV := Lib.hid (propT_bad (propAt_bad hat2 hd2 he))
                    rw [unitsV_none (by rw [hql]; exact he)] at KU
                    clear hd2 hdr hyc hat2 HRW e117 he hrest2 hr2s hlk
                    go_wp2_with fail
                    rw [HQ.out]
                    refine KU.out.mono ?_
                    rintro e3 w3 ⟨rfl, hb4⟩
                    have hb5 := hbw.trans ((hb3.trans (hb4.mono hb3.size)).mono hbw.size)
                    clear hb4 hlk2 KU
                    go_wp2
                    go_ret2
                    exact ⟨by rw [HV.out]; rfl, hb5⟩
                  | some rn =>
                    obtain ⟨r, n⟩ := rn
                    have hpos := escape_pos he
                    have hP0 := propAt_u hat2 hd2 he
                    obtain ⟨d, hdd⟩ : ∃ d : ByteArray, d = ⟨(signB r).toArray⟩ := ⟨_, rfl⟩
                    have hdl : d.data.toList = signB r := by rw [hdd]
                    have hdz : d.size ≤ 4 := by rw [Lib.size_eq, hdl]; exact (signB_pos r).2
                    have hn6 : 6 ≤ n := by rcases hpos.1 with h | h <;> omega
                    have hnl : n ≤ q.size := by rw [Lib.size_eq, hql]; exact hpos.2
                    rw [← hdl] at hP0
                    obtain ⟨rest, hrr⟩ : ∃ r, q.extract n q.size = r := ⟨_, rfl⟩
                    have hrl : rest.data.toList = s.data.toList.drop (k + bslP st + n) := by rw [← hrr, extract_rest, hql, List.drop_drop]
                    have hr3s : rest.size + n = q.size := by rw [← hrr, ByteArray.size_extract]; omega
                    rw [unitsV_some (by rw [hql]; exact he) rest (by rw [hrl, hql, List.drop_drop]), ← hdd] at KU
                    obtain ⟨k2, hk2e⟩ : ∃ k2, k2 = k + bslP st + n := ⟨_, rfl⟩
                    rw [← hk2e] at hP0 hrl
                    have hP := Lib.hid hP0
                    have hRL := Lib.hid hrl
                    have hk2 : k2 ≤ s.size := by omega
                    clear hP0 hrest2 hr2s hlk hdd hdl hd2 hdr hyc e117 hat2 HRW he hpos hrr hrl
                    go_wp2_with fail
                    rw [HQ.out]
                    refine KU.out.mono ?_
                    rintro e3 w3 ⟨rfl, hb4⟩
                    replace HB3 := Lib.hid (built_over HB3.out hb4)
                    replace hb3 := hb3.trans (hb4.mono hb3.size)
                    clear hb4 hlk2 KU
                    -- the denoted text is written, and the rest goes on: d, rest, hP (PropAt behind it), hRL (the rest's bytes), n2
                    go_wp2_with fail
                    refine (built_write W1.heap.size W1.heap.size (acc ++ p.data.toList) d _ HB3.out (by omega) (by have := hb3.size; omega)).mono ?_
                    rintro e4 w4 ⟨rfl, hB4, hb4, _⟩
                    have hb5 := hb3.trans hb4
                    have HB4 := Lib.hid hB4
                    clear hB4 hb4 hb3 HB3
                    go_wp2
                    go_roundw
                    case rel => exact ⟨rest, k2, acc ++ p.data.toList ++ d.data.toList, rfl, hk2, by rw [List.length_append, List.length_append, ← Lib.size_eq, ← Lib.size_eq]; omega, hRL, hP, HB4, hb5⟩
                    case measure => simp [strLenP]; omega
                · have hoth : y[0] ≠ 110 ∧ y[0] ≠ 116 ∧ y[0] ≠ 114 ∧ y[0] ≠ 102 ∧ y[0] ≠ 117 := ⟨e110, e116, e114, e102, e117⟩
                  have hlk2 := readers_look HRW.out y[0] hoth
                  have hP0 := propAt_two hat2 hd2 e117
                  rw [propB_other hoth] at hP0
                  obtain ⟨d, hdd⟩ : ∃ d : ByteArray, d = q.extract 1 2 := ⟨_, rfl⟩
                  have hdl : d.data.toList = [y[0]] := by
                    rw [hdd, extract_toList, hql, hd2]
                    rfl
                  have hdz : d.size = 1 := by rw [Lib.size_eq, hdl]; rfl
                  rw [← hdl] at hP0
                  obtain ⟨rest, hrr⟩ : ∃ r, q.extract 2 q.size = r := ⟨_, rfl⟩
                  obtain ⟨k2, hk2e⟩ : ∃ k2, k2 = k + bslP st + 2 := ⟨_, rfl⟩
                  rw [hrr] at hrest2 hr2s
                  rw [← hk2e] at hP0 hrest2
                  have hP := Lib.hid hP0
                  have hRL := Lib.hid hrest2
                  have hk2 : k2 ≤ s.size := by omega
                  have KR := Lib.hid (readItself_any q w2 hq2)
                  rw [hrr, ← hdd] at KR
                  clear hP0 hrest2 hdd hdl hd2 hdr hyc hat2 HRW e110 e116 e114 e102 e117 hoth hrr
                  go_wp2_with fail
                  rw [HQ.out]
                  refine KR.out.mono ?_
                  rintro e3 w3 ⟨rfl, hb4⟩
                  replace HB3 := Lib.hid (built_over HB3.out hb4)
                  replace hb3 := hb3.trans (hb4.mono hb3.size)
                  clear hb4 hlk2 KR
                  -- the denoted text is written, and the rest goes on: d, rest, hP (PropAt behind it), hRL (the rest's bytes), n2
                  go_wp2_with fail
                  refine (built_write W1.heap.size W1.heap.size (acc ++ p.data.toList) d _ HB3.out (by omega) (by have := hb3.size; omega)).mono ?_
                  rintro e4 w4 ⟨rfl, hB4, hb4, _⟩
                  have hb5 := hb3.trans hb4
                  have HB4 := Lib.hid hB4
                  clear hB4 hb4 hb3 HB3
                  go_wp2
                  go_roundw
                  case rel => exact ⟨rest, k2, acc ++ p.data.toList ++ d.data.toList, rfl, hk2, by rw [List.length_append, List.length_append, ← Lib.size_eq, ← Lib.size_eq]; omega, hRL, hP, HB4, hb5⟩
                  case measure => simp [strLenP]; omega
      · obtain ⟨n1, n2⟩ := text_emptyP y (by omega)
        have hyn : y.data.toList = [] := by apply List.eq_nil_of_length_eq_zero; rw [← Lib.size_eq]; omega
        rw [hyn] at hdr
        have HV := Lib.hid (propT_good (propAt_end (propAt_last hat2 hdr) (by rw [← Lib.size_eq]; omega)))
        clear hyn hdr hat2
        go_wp2_with fail
        refine (built_string W1.heap.size W1.heap.size _ w2 HB3.out hb3.size).mono ?_
        rintro e3 w3 ⟨rfl, _, hb4, _⟩
        have hb5 := hbw.trans ((hb3.trans hb4).mono hbw.size)
        clear hb4 hb3 HB3
        go_wp2
        go_ret2
        exact ⟨by rw [HV.out]; rfl, hb5⟩
    · have hms : bslP st = st.size := by omega
      have HC : Hid (cutRes st (firstIn (hasB ⟨#[92]⟩) st) = .tuple #[.string st, .string ⟨#[]⟩, .bool false]) := by
        unfold Hid cutRes; exact if_neg hmz
      have hall : st.data.toList.take (bslP st) = st.data.toList := by rw [hms]; exact Pl.take_all st
      rw [hall] at hat2
      have HV := Lib.hid (propT_good (propAt_end hat2 (by rw [← Lib.size_eq]; omega)))
      clear hat2 hall
      go_wp2_with fail
      refine KC.out.mono ?_
      rintro e1 w1 ⟨rfl, n1, rfl⟩
      rw [HC.out]
      have hbd : Below wr.heap.size wr (wr.drewN n1) := drewQ n1
      have HB1 := Lib.hid (built_over hB.out hbd)
      have hb1 := hb.trans (hbd.mono hb.size)
      generalize wr.drewN n1 = w1 at *
      clear hbd hB hb KC HC
      go_wp2_with fail
      refine (built_write W1.heap.size W1.heap.size acc st w1 HB1.out (by omega) hb1.size).mono ?_
      rintro e2 w2 ⟨rfl, hB2, hb2, _⟩
      have hb3 := hb1.trans hb2
      have HB3 := Lib.hid hB2
      clear hB2 hb2 hb1 HB1
      go_wp2_with fail
      refine (built_string W1.heap.size W1.heap.size _ w2 HB3.out hb3.size).mono ?_
      rintro e3 w3 ⟨rfl, _, hb4, _⟩
      have hb5 := hbw.trans ((hb3.trans hb4).mono hbw.size)
      clear hb4 hb3 HB3
      go_wp2
      go_ret2
      exact ⟨by rw [HV.out]; rfl, hb5⟩

end Go.Proofs.YtflnpkckdjmljaaDoor
