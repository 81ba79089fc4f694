/- A record put behind those that there are: the model's contract of l05Add in all its ways. -/
import Derived.Test.YtkhkpjnpjgnckaaGreatDoorProg
import Derived.Test.YtkhkpjnpjgnckaaGreatDoorPlain
import Derived.Test.YtkhkpjnpjgnckaaGreatDoorLines
import Derived.Test.YtkhkpjnpjgnckaaGreatDoorJoin
import Derived.Test.YtkhkpjnpjgnckaaGreatDoorRows0
import Derived.Test.YtkhkpjnpjgnckaaGreatDoorRecRows
import Derived.Test.YtkhkpjnpjgnckaaGreatDoorRecArg
import Derived.Test.YtkhkpjnpjgnckaaGreatDoorEnvOne
import Derived.WalkKit
import Derived.WalkLawsBesides
import Derived.OwnWalk
import Derived.BigQuiet
import Derived.Deep.QuietTactic
import Derived.Deep.RegionHeld3
import Derived.Deep.AppendLies
import Derived.Deep.RegionLaw
import Derived.Lib.QuietBelow
import Derived.Laws.IdiomStrings
import Derived.Lib.Hide
import Derived.IntWalk
import Derived.Outline
import Derived.Test.YtkhkpjnpjgnckaaGreatDoorSplitSpec
import Derived.Test.YtkhkpjnpjgnckaaGreatDoorRecRaw
import Derived.Test.YtkhkpjnpjgnckaaGreatDoorEnvRecs
set_option maxRecDepth 100000
namespace Go.Proofs.YtkhkpjnpjgnckaaGreatDoor
open Go.RowKit Go.Sort
set_option linter.unusedVariables false

def RecAt (w : World) (b : Nat) (x : RecD) : Prop := w.heap[b]? = some (.cells #[.int .i64 x.kind, .string x.raw, .string x.sect, .string x.key, .string x.value, .int .i64 x.line] 35 (0, 0))

theorem RecAt.over {w w' : World} {b B : Nat} {x : RecD} (h : RecAt w b x) (hb : Below B w w') (hB : b < B) : RecAt w' b x := by
  unfold RecAt at *
  rw [hb.block b hB]
  exact h

theorem RecAt.cells {w : World} {b : Nat} {x : RecD} (h : RecAt w b x) : w.cell? ⟨b, 0, none⟩ = some (.int .i64 x.kind) ∧ w.cell? ⟨b, 1, none⟩ = some (.string x.raw) ∧ w.cell? ⟨b, 2, none⟩ = some (.string x.sect) ∧ w.cell? ⟨b, 3, none⟩ = some (.string x.key) ∧ w.cell? ⟨b, 4, none⟩ = some (.string x.value) ∧ w.cell? ⟨b, 5, none⟩ = some (.int .i64 x.line) := by
  unfold RecAt at h
  refine ⟨?_, ?_, ?_, ?_, ?_, ?_⟩ <;> (rw [Lib.cell_of_heap h]; rfl)

theorem RecAt.free {w : World} {b : Nat} {x : RecD} (h : RecAt w b x) (j : Nat) : w.frozen? ⟨b, j, none⟩ = false := by
  unfold RecAt at h
  simp [World.frozen?, h]

theorem RecAt.put {w : World} {b : Nat} {x : RecD} (h : RecAt w b x) (y : RecD) :
    RecAt ((((((w.setCell ⟨b, 0, none⟩ (.int .i64 y.kind)).setCell ⟨b, 1, none⟩ (.string y.raw)).setCell ⟨b, 2, none⟩ (.string y.sect)).setCell ⟨b, 3, none⟩ (.string y.key)).setCell ⟨b, 4, none⟩ (.string y.value)).setCell ⟨b, 5, none⟩ (.int .i64 y.line)) b y := by
  unfold RecAt at *
  have h1 := set_cellR _ b 0 _ _ _ (.int .i64 y.kind) h
  have h2 := set_cellR _ b 1 _ _ _ (.string y.raw) h1
  have h3 := set_cellR _ b 2 _ _ _ (.string y.sect) h2
  have h4 := set_cellR _ b 3 _ _ _ (.string y.key) h3
  have h5 := set_cellR _ b 4 _ _ _ (.string y.value) h4
  have h6 := set_cellR _ b 5 _ _ _ (.int .i64 y.line) h5
  rw [h6]
  rfl

theorem recAt_new (w : World) (x : RecD) : RecAt (w.alloc (.cells #[.int .i64 x.kind, .string x.raw, .string x.sect, .string x.key, .string x.value, .int .i64 x.line] 35)) w.heap.size x := heap_alloc_new _ _

theorem costL_drop (l : List Ln) (k : Nat) : costL (l.drop k) ≤ costL l := by
  induction l generalizing k with
  | nil => simp
  | cons x l ih =>
    cases k with
    | zero => simp
    | succ k =>
      have := ih k
      simp only [List.drop_succ_cons, costL, List.length_cons, List.map_cons, List.sum_cons] at *
      omega

theorem costL_cut (l : List Ln) (k n : Nat) : costL ((l.drop k).take n) ≤ costL l := by
  by_cases h : n ≤ (l.drop k).length
  · have h1 := costL_take (l.drop k) n h
    have h2 := costL_drop l k
    omega
  · rw [List.take_of_length_le (by omega)]
    exact costL_drop l k

theorem lines_from {w : World} {g n cap : Nat} {l : List Ln} (h : LinesRd w (.slice (some ⟨g, 0, none⟩) l.length n) g 0 l) (k c : Nat) (hk : k + c ≤ l.length) : LinesRd w (.slice (some ⟨g, k * 2, none⟩) c cap) g (k * 2) ((l.drop k).take c) := by
  have hl : ((l.drop k).take c).length = c := by rw [List.length_take, List.length_drop]; omega
  refine ⟨⟨some ⟨g, k * 2, none⟩, cap, by rw [hl], fun _ => rfl⟩, fun i hi => ?_, fun i hi => ?_⟩
  · have := h.c0 (k + i) (by omega)
    rw [Nat.zero_add, Nat.add_mul] at this
    rw [this]
    simp
  · have := h.c1 (k + i) (by omega)
    rw [Nat.zero_add, Nat.add_mul] at this
    rw [this]
    simp

theorem RecAt.set {w : World} {b g j : Nat} {x : RecD} (h : RecAt w b x) (hne : b ≠ g) (v : Value) : RecAt (w.setCell ⟨g, j, none⟩ v) b x := by
  unfold RecAt at *
  rw [Below.heap_setCell _ _ _ b hne]
  exact h

theorem RecAt.putRaw {w : World} {b : Nat} {x : RecD} (h : RecAt w b x) (v : ByteArray) : RecAt (w.setCell ⟨b, 1, none⟩ (.string v)) b ⟨x.kind, v, x.sect, x.key, x.value, x.line⟩ := by
  unfold RecAt at *
  rw [set_cellR _ b 1 _ _ _ _ h]
  rfl

structure But (B b : Nat) (w w' : World) : Prop where
  os : w'.os = w.os
  tape : w'.tape = w.tape
  output : w'.output = w.output
  size : w.heap.size ≤ w'.heap.size
  block : ∀ k, k < B → k ≠ b → w'.heap[k]? = w.heap[k]?

theorem But.of {B b : Nat} {w w' : World} (h : Below B w w') : But B b w w' := ⟨h.os, h.tape, h.output, h.size, fun k hk _ => h.block k hk⟩

theorem But.trans {B b : Nat} {w w' w2 : World} (h : But B b w w') (k : But B b w' w2) : But B b w w2 := ⟨k.os.trans h.os, k.tape.trans h.tape, k.output.trans h.output, Nat.le_trans h.size k.size, fun i hi hn => (k.block i hi hn).trans (h.block i hi hn)⟩

theorem But.mono {B C b : Nat} {w w' : World} (h : But B b w w') (hc : C ≤ B) : But C b w w' := ⟨h.os, h.tape, h.output, h.size, fun k hk hn => h.block k (by omega) hn⟩

theorem But.put {B b : Nat} {w w' : World} (h : But B b w w') (g j : Nat) (hg : B ≤ g ∨ g = b) (v : Value) : But B b w (w'.setCell ⟨g, j, none⟩ v) :=
  h.trans ⟨rfl, rfl, rfl, by simp [World.setCell], fun k hk hn => Below.heap_setCell _ _ _ _ (by rcases hg with h | h <;> (simp only; omega))⟩

theorem But.below {B b : Nat} {w w' : World} (h : But B b w w') (hb : B ≤ b) : Below B w w' := ⟨h.os, h.tape, h.output, h.size, fun k hk => h.block k hk (by omega)⟩

def rawI (l : List Ln) (k c : Nat) : ByteArray := ⟨(joinB ((l.drop k).take c)).toArray⟩

def ReadAt (w : World) (b : Nat) (lv : Value) (k : Nat) (sec : ByteArray) (ov : Value) : Prop := w.heap[b]? = some (.cells #[lv, .int .i64 (k : Int), .string sec, ov] 81 (0, 0))

theorem ReadAt.over {w w' : World} {b B : Nat} {lv : Value} {k : Nat} {sec : ByteArray} {ov : Value} (h : ReadAt w b lv k sec ov) (hb : Below B w w') (hB : b < B) : ReadAt w' b lv k sec ov := by
  unfold ReadAt at *
  rw [hb.block b hB]
  exact h

theorem ReadAt.lt {w : World} {b : Nat} {lv : Value} {k : Nat} {sec : ByteArray} {ov : Value} (h : ReadAt w b lv k sec ov) : b < w.heap.size := (Array.getElem?_eq_some_iff.1 h).1

theorem ReadAt.cells {w : World} {b : Nat} {lv : Value} {k : Nat} {sec : ByteArray} {ov : Value} (h : ReadAt w b lv k sec ov) : w.cell? ⟨b, 0, none⟩ = some lv ∧ w.cell? ⟨b, 1, none⟩ = some (.int .i64 (k : Int)) ∧ w.cell? ⟨b, 2, none⟩ = some (.string sec) ∧ w.cell? ⟨b, 3, none⟩ = some ov := by
  unfold ReadAt at h
  refine ⟨?_, ?_, ?_, ?_⟩ <;> (rw [Lib.cell_of_heap h]; rfl)

theorem ReadAt.free {w : World} {b : Nat} {lv : Value} {k : Nat} {sec : ByteArray} {ov : Value} (h : ReadAt w b lv k sec ov) (j : Nat) : w.frozen? ⟨b, j, none⟩ = false := by
  unfold ReadAt at h
  simp [World.frozen?, h]

theorem ReadAt.set {w : World} {b g j : Nat} {lv : Value} {k : Nat} {sec : ByteArray} {ov : Value} (h : ReadAt w b lv k sec ov) (hne : g ≠ b) (v : Value) : ReadAt (w.setCell ⟨g, j, none⟩ v) b lv k sec ov := by
  unfold ReadAt at *
  rw [Below.heap_setCell _ _ _ b (fun e => hne e.symm)]
  exact h

theorem ReadAt.putSec {w : World} {b : Nat} {lv : Value} {k : Nat} {sec : ByteArray} {ov : Value} (h : ReadAt w b lv k sec ov) (v : ByteArray) : ReadAt (w.setCell ⟨b, 2, none⟩ (.string v)) b lv k v ov := by
  unfold ReadAt at *
  rw [set_cellR _ b 2 _ _ _ _ h]
  rfl

theorem info_recA : (Tryz.prog.info? 35).map (fun i => (i.zero, i.size, i.bytes)) = some (some (recV noRec), 6, 80) := by kernel_rfl

theorem ReadAt.putAt {w : World} {b : Nat} {lv : Value} {k : Nat} {sec : ByteArray} {ov : Value} (h : ReadAt w b lv k sec ov) (k2 : Nat) (z : Int) (hz : z = (k2 : Int)) : ReadAt (w.setCell ⟨b, 1, none⟩ (.int .i64 z)) b lv k2 sec ov := by
  subst hz
  unfold ReadAt at *
  rw [set_cellR _ b 1 _ _ _ _ h]
  rfl

theorem ReadAt.putOut {w : World} {b : Nat} {lv : Value} {k : Nat} {sec : ByteArray} {ov : Value} (h : ReadAt w b lv k sec ov) (v : Value) : ReadAt (w.setCell ⟨b, 3, none⟩ v) b lv k sec v := by
  unfold ReadAt at *
  rw [set_cellR _ b 3 _ _ _ _ h]
  rfl

theorem RecAt.putSect {w : World} {b : Nat} {x : RecD} (h : RecAt w b x) (v : ByteArray) : RecAt (w.setCell ⟨b, 2, none⟩ (.string v)) b ⟨x.kind, x.raw, v, x.key, x.value, x.line⟩ := by
  unfold RecAt at *
  rw [set_cellR _ b 2 _ _ _ _ h]
  rfl

theorem RecAt.putLine {w : World} {b : Nat} {x : RecD} (h : RecAt w b x) (z : Int) : RecAt (w.setCell ⟨b, 5, none⟩ (.int .i64 z)) b ⟨x.kind, x.raw, x.sect, x.key, x.value, z⟩ := by
  unfold RecAt at *
  rw [set_cellR _ b 5 _ _ _ _ h]
  rfl

theorem ReadAt.kept {w w' : World} {b : Nat} {lv : Value} {k : Nat} {sec : ByteArray} {ov : Value} (h : ReadAt w b lv k sec ov) (hk : w'.heap[b]? = w.heap[b]?) : ReadAt w' b lv k sec ov := by
  unfold ReadAt at *
  rw [hk]
  exact h

theorem RecAt.kept {w w' : World} {b : Nat} {x : RecD} (h : RecAt w b x) (hk : w'.heap[b]? = w.heap[b]?) : RecAt w' b x := by
  unfold RecAt at *
  rw [hk]
  exact h

theorem own_formA {w : World} {base e size n : Nat} {v : Value} {xs : List Value} (h : w.ownsRow base e size v n xs) : ∃ a cap, v = .slice a n cap := by
  rcases h.2 with ⟨rfl, h0⟩ | ⟨g, cap, cur, rfl, hb, hg, hnc, hcm, hcs, htake⟩
  · exact ⟨none, 0, by rw [h0]⟩
  · exact ⟨_, _, rfl⟩

theorem own_blockA {w : World} {base e size n : Nat} {v : Value} {xs : List Value} (h : w.ownsRow base e size v n xs) : ∀ j, v.ownBlock = some j → base ≤ j := by
  intro j hj
  rcases h.2 with ⟨rfl, h0⟩ | ⟨g, cap, cur, hv, hb, hg, hnc, hcm, hcs, htake⟩
  · cases hj
  · subst hv; simp only [Value.ownBlock] at hj; cases hj; exact hb

theorem own_ltA {w : World} {base e size n : Nat} {v : Value} {xs : List Value} (h : w.ownsRow base e size v n xs) : ∀ j, v.ownBlock = some j → j < w.heap.size := by
  intro j hj
  rcases h.2 with ⟨rfl, h0⟩ | ⟨g, cap, cur, hv, hb, hg, hnc, hcm, hcs, htake⟩
  · cases hj
  · subst hv; simp only [Value.ownBlock] at hj; cases hj; exact (Array.getElem?_eq_some_iff.1 hg).1

theorem own_belowA {w w' : World} {base e size n : Nat} {v : Value} {xs : List Value} (h : w.ownsRow base e size v n xs) (hb : Below w.heap.size w w') : w'.ownsRow base e size v n xs := by
  refine h.kept (row := none) ⟨hb.os, hb.tape, hb.output, hb.size, fun k hk _ => hb.block k hk⟩ ?_
  cases v.ownBlock with
  | none => exact .inl rfl
  | some _ => exact .inr (by simp)

theorem own_setA {w : World} {base e size n : Nat} {v : Value} {xs : List Value} (h : w.ownsRow base e size v n xs) {g : Nat} (j : Nat) (hg : ∀ i, v.ownBlock = some i → i ≠ g) (u : Value) : (w.setCell ⟨g, j, none⟩ u).ownsRow base e size v n xs := by
  refine h.kept (row := some g) ⟨rfl, rfl, rfl, by simp [World.setCell], fun k hk hn => Below.heap_setCell _ _ _ k (fun e => hn (by rw [e]))⟩ ?_
  cases hv : v.ownBlock with
  | none => exact .inl rfl
  | some i => exact .inr (by intro e; injection e with e; exact hg i hv e)

def Added (w : World) (b B : Nat) (lv : Value) (k : Nat) (sec : ByteArray) (out : List RecD) (w' : World) : Prop :=
  ∃ ov, ReadAt w' b lv k sec ov ∧ w'.ownsRow B 35 6 ov out.length (rowCells recS out) ∧ But B b w w' ∧ ∀ i, ov.ownBlock = some i → i ≠ b

set_option maxHeartbeats 3200000 in
theorem add_room (w : World) (b B k n : Nat) (sec : ByteArray) (g cap : Nat) (l : List Ln) (ov : Value) (out : List RecD) (x : RecD)
    (hX : ReadAt w b (.slice (some ⟨g, 0, none⟩) l.length cap) k sec ov) (hL : LinesRd w (.slice (some ⟨g, 0, none⟩) l.length cap) g 0 l) (hg : g ≠ b) (h1 : 1 ≤ n) (hk : k + n ≤ l.length) (hcap : l.length ≤ cap) (hc : costL l ≤ 1048576)
    (hO : w.ownsRow B 35 6 ov out.length (rowCells recS out)) (hn : ¬ (out.length = 199 ∧ k + n < l.length)) (hn2 : out.length ≤ 1000) (hro : ∀ i, ov.ownBlock = some i → i ≠ b) (hgB : g < B) (hB : B ≤ w.heap.size) :
    Calls Tryz.prog 61 #[.pointer (some ⟨b, 0, none⟩), recV x, .int .i64 (n : Int)] w fun e w' => e = .returned (.tuple #[]) ∧ Added w b B (.slice (some ⟨g, 0, none⟩) l.length cap) (k + n) sec (out ++ [⟨x.kind, rawI l k n, sec, x.key, x.value, (k : Int) + 1⟩]) w' := by
  obtain ⟨i0, hi, hz0, hz1, hz2⟩ := info_parts info_recA
  have hcc := Nat.le_trans (costL_cut l k n) hc
  have hlen : l.length ≤ 1048576 := by have := joinB_len l; omega
  obtain ⟨oa, ocap, rfl⟩ := own_formA hO
  obtain ⟨x0, x1, x2, x3, x4, x5⟩ := x
  unfold recV
  simp only
  have hb0 := (Below.refl w.heap.size w).alloc (Nat.le_refl _) (.cells #[.int .i64 x0, .string x1, .string x2, .string x3, .string x4, .int .i64 x5] 35)
  have HA := Lib.hid (recAt_new w ⟨x0, x1, x2, x3, x4, x5⟩)
  have hroB : ∀ i, (Value.slice oa out.length ocap).ownBlock = some i → B ≤ i := own_blockA hO
  have hroR : ∀ i, (Value.slice oa out.length ocap).ownBlock = some i → i ≠ w.heap.size := fun i hi => Nat.ne_of_lt (own_ltA hO i hi)
  have hbw := hX.lt
  have HX0 := Lib.hid (hX.over hb0 hbw)
  have HL0 := Lib.hid (hL.below hb0 (fun _ => by omega))
  have HO0 := Lib.hid (own_belowA hO hb0)
  have HB0 := Lib.hid (But.of (b := b) (hb0.mono hB))
  have hs0 : w.heap.size < (w.alloc (.cells #[.int .i64 x0, .string x1, .string x2, .string x3, .string x4, .int .i64 x5] 35)).heap.size := by simp
  clear hX hL hO hb0
  simp only at HA
  go_enter Tryz.func61, Tryz.ntmps61
  go_wp2_with fail
  generalize w.alloc (.cells #[.int .i64 x0, .string x1, .string x2, .string x3, .string x4, .int .i64 x5] 35) = W at *
  generalize hrb : w.heap.size = rb at *
  have n1 : b ≠ rb := by omega
  have n2 : rb ≠ b := by omega
  have r3 : IntKind.i64.wrap ((k : Int) + (n : Int)) = (k : Int) + (n : Int) := IntWalk.i64_in _ (by omega)
  have hcase : ((out.length : Int) == 199) = false ∨ (((out.length : Int) == 199) = true ∧ decide ((k : Int) + (n : Int) < (l.length : Int)) = false) := by
    by_cases h : out.length = 199
    · exact .inr ⟨by simp [h], by rw [decide_eq_false_iff_not]; omega⟩
    · exact .inl (by rw [beq_eq_false_iff_ne]; omega)
  have hwk : (k : Int) + (n : Int) ≤ 2000000 := by omega
  rcases hcase with hne | ⟨hne, hltn⟩
  all_goals
    obtain ⟨e0, e1, e2, e3⟩ := HX0.out.cells
    have y0 := cell_regrown e0
    have y1 := cell_regrown e1
    have y3 := cell_regrown e3
    refine wp_region_quiet_below (by kernel_rfl) (by kernel_rfl) ?_
    repeat (go_big_quiet_step (fail))
    refine wpQuiet_nil ?_
    intro _ hw'
    obtain ⟨⟨dq, osq⟩, hw''⟩ := hw'
    subst hw''
    have hbq := below_regrown W dq osq
    replace HA := Lib.hid (HA.out.over hbq hs0)
    replace HX0 := Lib.hid (HX0.out.over hbq HX0.out.lt)
    replace HL0 := Lib.hid (HL0.out.below hbq (fun _ => by omega))
    replace HO0 := Lib.hid (own_belowA HO0.out hbq)
    replace HB0 := Lib.hid (HB0.out.trans (But.of (hbq.mono (by omega))))
    replace hs0 := Nat.lt_of_lt_of_le hs0 hbq.size
    clear y0 y1 y3 e0 e1 e2 e3 hbq
    generalize grow (redrawn W dq) osq = W1 at *
    have KJ : Hid (Calls Tryz.prog 94 #[.slice (some ⟨g, k * 2, none⟩) n (cap - k)] W1.drew fun e w' => e = .returned (.string (rawI l k n)) ∧ Below W1.heap.size W1 w') := by
      refine (joinLines_spec _ _ g (k * 2) ((l.drop k).take n) (lines_from (HL0.out.below (_root_.Go.below_drewN (Below.refl _ _) 1) (fun _ => by omega)) k n hk) hcc (fun _ => by show g < W1.heap.size; omega)).mono ?_
      rintro e w' ⟨rfl, hb⟩
      exact ⟨rfl, (_root_.Go.below_drewN (Below.refl _ _) 1).trans hb⟩
    have r0 : ¬ cap = k := by omega
    have r1 : (k : Int) + (n : Int) ≤ (cap : Int) := by omega
    have r2 : (k : Int) ≤ (k : Int) + (n : Int) := by omega
    have r4 : ((k : Int) + (n : Int)).toNat = k + n := by omega
    have r5 : k + n - k = n := by omega
    obtain ⟨e0, e1, e2, e3⟩ := HX0.out.cells
    clear e2 e3
    go_wp2_with fail
    go_region_held3 (fun w' => w'.cell? ⟨b, 0, none⟩ = some (.slice (some ⟨g, 0, none⟩) l.length cap) ∧ w'.cell? ⟨b, 1, none⟩ = some (.int .i64 (k : Int)))
      (first | go_keep | exact ⟨p01, p11⟩)
      (((with_reducible refine KJ.out.mono ?_); rintro e w1 ⟨rfl, hb1⟩; have hX1 := HX0.out.over hb1 HX0.out.lt; have hA1 := HA.out.over hb1 hs0; have hO1 := own_belowA HO0.out hb1; have hbb := HB0.out.trans (But.of (hb1.mono (by omega))); have hs1 := Nat.lt_of_lt_of_le hs0 hb1.size; obtain ⟨p01, p11, p21, p31⟩ := hX1.cells; have f1 := hA1.free 1; obtain ⟨a0, a1, a2, a3, a4, a5⟩ := hA1.cells; have HX1 := Lib.hid hX1; have HA1 := Lib.hid hA1; have HO1 := Lib.hid hO1; clear hX1 hA1 hO1))
    have HX2 := Lib.hid (HX1.out.set (g := rb) (j := 1) n2 (.string (rawI l k n)))
    have HA2 := Lib.hid (HA1.out.putRaw (rawI l k n))
    have HO2 := Lib.hid (own_setA HO1.out (g := rb) 1 hroR (.string (rawI l k n)))
    have HU2 := Lib.hid (hbb.put rb 1 (.inl (by omega)) (.string (rawI l k n)))
    have hs2 : rb < (w1.setCell ⟨rb, 1, none⟩ (.string (rawI l k n))).heap.size := by simpa [World.setCell] using hs1
    clear HX1 HA1 HO1 hbb p01 p11 p21 p31 f1 a0 a1 a2 a3 a4 a5 hb1 r0 r1 r2 r4 r5 e0 e1 HX0 HA HO0 HL0 HB0 hs0 hs1 KJ
    generalize w1.setCell ⟨rb, 1, none⟩ (.string (rawI l k n)) = W2 at *
    generalize hraw : rawI l k n = raw at *
    have HRAW := Lib.hid hraw
    clear hraw
    simp only at HA2
    obtain ⟨p0, p1, p2, p3⟩ := HX2.out.cells
    obtain ⟨a0, a1, a2, a3, a4, a5⟩ := HA2.out.cells
    simp only at a0 a1 a2 a3 a4 a5
    have f2 := HA2.out.free 2
    have f5 := HA2.out.free 5
    have hkk : (k : Int) + (n : Int) ≤ 2000000 := by omega
    have hk0 : (k : Int) ≤ 2000000 := by omega
    go_wp2_with fail
    have HX3 := Lib.hid ((HX2.out.set (g := rb) (j := 2) n2 (.string sec)).set (g := rb) (j := 5) n2 (.int .i64 ((k : Int) + 1)))
    have HA3 := Lib.hid ((HA2.out.putSect sec).putLine ((k : Int) + 1))
    have HO3 := Lib.hid (own_setA (own_setA HO2.out (g := rb) 2 hroR (.string sec)) (g := rb) 5 hroR (.int .i64 ((k : Int) + 1)))
    have HU3 := Lib.hid ((HU2.out.put rb 2 (.inl (by omega)) (.string sec)).put rb 5 (.inl (by omega)) (.int .i64 ((k : Int) + 1)))
    have hs3 : rb < ((W2.setCell ⟨rb, 2, none⟩ (.string sec)).setCell ⟨rb, 5, none⟩ (.int .i64 ((k : Int) + 1))).heap.size := by simpa [World.setCell] using hs2
    simp only at HA3
    clear HX2 HA2 HO2 HU2 hs2 p0 p1 p2 p3 a0 a1 a2 a3 a4 a5 f2 f5
    generalize (W2.setCell ⟨rb, 2, none⟩ (.string sec)).setCell ⟨rb, 5, none⟩ (.int .i64 ((k : Int) + 1)) = W3 at *
    obtain ⟨p0, p1, p2, p3⟩ := HX3.out.cells
    clear p0 p1 p2
    obtain ⟨a0, a1, a2, a3, a4, a5⟩ := HA3.out.cells
    simp only at a0 a1 a2 a3 a4 a5
    have pa3 := (HX3.out.over ((Below.refl W3.heap.size W3).alloc (Nat.le_refl _) (.cells #[.int .i64 x0, .string raw, .string sec, .string x3, .string x4, .int .i64 ((k : Int) + 1)] 35)) HX3.out.lt).cells.2.2.2
    go_region_law ((refine step_append_lies _ (by rfl) _ _ _ (by rfl) B 35 i0 (recV noRec) 6 80 Tryz.underlying32 hi hz0 hz1 hz2 rfl (by omega) _ _ _ (by rfl) ((HO3.out.alloc _).drew) ⟨W3.heap.size, 0, none⟩ 1 1 [.int .i64 x0, .string raw, .string sec, .string x3, .string x4, .int .i64 ((k : Int) + 1)] (by rfl) (by rfl) (World.news_of_block (cs := #[.int .i64 x0, .string raw, .string sec, .string x3, .string x4, .int .i64 ((k : Int) + 1)]) (t := 35) (fr := (0, 0)) (heap_alloc_new W3 _)) (by simp [Value.oneCell']) (by omega) (by unfold maxLen; omega) (by omega) (by simp; omega) (W3.heap.size + 1) (by simp) ?_; intro gg cp w4 hown4 hgrow hat hlt4; have hbw4 : Below B W3 w4 := Below.grown ((Below.refl B W3).alloc (by omega) (.cells #[.int .i64 x0, .string raw, .string sec, .string x3, .string x4, .int .i64 ((k : Int) + 1)] 35)) ⟨hgrow.os, hgrow.tape, hgrow.output, hgrow.size, hgrow.block⟩ (by simp; omega) hroB; have hX4 := HX3.out.kept ((hgrow.block b (by have := HX3.out.lt; simp; omega) (fun e => hro b e.symm rfl)).trans (Below.heap_alloc _ _ _ HX3.out.lt)); have hA4 := HA3.out.kept ((hgrow.block rb (by simp; omega) (fun e => hroR rb e.symm rfl)).trans (Below.heap_alloc _ _ _ hs3)); obtain ⟨s0, s1, s2, s3⟩ := hX4.cells; obtain ⟨m0, m1, m2, m3, m4, m5⟩ := hA4.cells; simp only at m0 m1 m2 m3 m4 m5; have f3 := hX4.free 3; have HX4 := Lib.hid hX4; have HU4 := Lib.hid (HU3.out.trans (But.of (b := b) hbw4)); have HO4 := Lib.hid hown4; clear hX4 hA4))
    all_goals
      have f1 := HX4.out.free 1
      have hrw : w4.ownsRow B 35 6 (.slice (some ⟨gg, 0, none⟩) (out.length + 1) cp) (out ++ [(⟨x0, raw, sec, x3, x4, (k : Int) + 1⟩ : RecD)]).length (rowCells recS (out ++ [⟨x0, raw, sec, x3, x4, (k : Int) + 1⟩])) := by
        rw [rowCells_append, rowCells_single, List.length_append]
        exact HO4.out
      have hnb : ∀ i, (Value.slice (some ⟨gg, 0, none⟩) (out.length + 1) cp).ownBlock = some i → i ≠ b := fun i hi => by rcases hat with h | h; exact hro i (h.trans (by simpa [Value.ownBlock] using hi)); simp only [Value.ownBlock, Option.some.injEq] at hi; have := HX3.out.lt; omega
      have HR := Lib.hid hrw
      have HNB := Lib.hid hnb
      clear hrw hnb hown4
      go_wp2
      go_end0
      refine ⟨rfl, ?_⟩
      rw [HRAW.out]
      exact ⟨_, (HX4.out.putOut _).putAt (k + n) _ (by omega), own_setA (own_setA HR.out (g := b) 3 HNB.out _) (g := b) 1 HNB.out _, (HU4.out.put b 3 (.inr rfl) _).put b 1 (.inr rfl) _, HNB.out⟩

set_option maxHeartbeats 3200000 in
theorem add_over (w : World) (b B k n : Nat) (sec : ByteArray) (g cap : Nat) (l : List Ln) (ov : Value) (out : List RecD) (x : RecD)
    (hX : ReadAt w b (.slice (some ⟨g, 0, none⟩) l.length cap) k sec ov) (hL : LinesRd w (.slice (some ⟨g, 0, none⟩) l.length cap) g 0 l) (hg : g ≠ b) (h1 : 1 ≤ n)  (hcap : l.length ≤ cap) (hc : costL l ≤ 1048576)
    (hO : w.ownsRow B 35 6 ov out.length (rowCells recS out)) (hn : out.length = 199) (hover : k + n < l.length) (hro : ∀ i, ov.ownBlock = some i → i ≠ b) (hgB : g < B) (hB : B ≤ w.heap.size) :
    Calls Tryz.prog 61 #[.pointer (some ⟨b, 0, none⟩), recV x, .int .i64 (n : Int)] w fun e w' => e = .returned (.tuple #[]) ∧ Added w b B (.slice (some ⟨g, 0, none⟩) l.length cap) l.length sec (out ++ [⟨4, rawI l k (l.length - k), sec, ⟨#[]⟩, ⟨#[]⟩, (k : Int) + 1⟩]) w' := by
  obtain ⟨i0, hi, hz0, hz1, hz2⟩ := info_parts info_recA
  have hcc := Nat.le_trans (costL_cut l k (l.length - k)) hc
  have hlen : l.length ≤ 1048576 := by have := joinB_len l; omega
  obtain ⟨oa, ocap, rfl⟩ := own_formA hO
  obtain ⟨x0, x1, x2, x3, x4, x5⟩ := x
  unfold recV
  simp only
  have hb0 := (Below.refl w.heap.size w).alloc (Nat.le_refl _) (.cells #[.int .i64 x0, .string x1, .string x2, .string x3, .string x4, .int .i64 x5] 35)
  have HA := Lib.hid (recAt_new w ⟨x0, x1, x2, x3, x4, x5⟩)
  have hroB : ∀ i, (Value.slice oa out.length ocap).ownBlock = some i → B ≤ i := own_blockA hO
  have hroR : ∀ i, (Value.slice oa out.length ocap).ownBlock = some i → i ≠ w.heap.size := fun i hi => Nat.ne_of_lt (own_ltA hO i hi)
  have hbw := hX.lt
  have HX0 := Lib.hid (hX.over hb0 hbw)
  have HL0 := Lib.hid (hL.below hb0 (fun _ => by omega))
  have HO0 := Lib.hid (own_belowA hO hb0)
  have HB0 := Lib.hid (But.of (b := b) (hb0.mono hB))
  have hs0 : w.heap.size < (w.alloc (.cells #[.int .i64 x0, .string x1, .string x2, .string x3, .string x4, .int .i64 x5] 35)).heap.size := by simp
  have hne : ((out.length : Int) == 199) = true := by simp [hn]
  have hltn : decide ((k : Int) + (n : Int) < (l.length : Int)) = true := by rw [decide_eq_true_iff]; omega
  have hwk : (k : Int) + (n : Int) ≤ 2000000 := by omega
  have r3 : IntKind.i64.wrap ((k : Int) + (n : Int)) = (k : Int) + (n : Int) := IntWalk.i64_in _ (by omega)
  clear hX hL hO hb0
  simp only at HA
  go_enter Tryz.func61, Tryz.ntmps61
  go_wp2_with fail
  generalize w.alloc (.cells #[.int .i64 x0, .string x1, .string x2, .string x3, .string x4, .int .i64 x5] 35) = W at *
  generalize hrb : w.heap.size = rb at *
  have n1 : b ≠ rb := by omega
  have n2 : rb ≠ b := by omega
  obtain ⟨e0, e1, e2, e3⟩ := HX0.out.cells
  have y0 := cell_regrown e0
  have y1 := cell_regrown e1
  have y3 := cell_regrown e3
  refine wp_region_quiet_below (by kernel_rfl) (by kernel_rfl) ?_
  repeat (go_big_quiet_step (fail))
  refine wpQuiet_nil ?_
  intro _ hw'
  obtain ⟨⟨dq, osq⟩, hw''⟩ := hw'
  subst hw''
  have hbq := below_regrown W dq osq
  replace HA := Lib.hid (HA.out.over hbq hs0)
  replace HX0 := Lib.hid (HX0.out.over hbq HX0.out.lt)
  replace HL0 := Lib.hid (HL0.out.below hbq (fun _ => by omega))
  replace HO0 := Lib.hid (own_belowA HO0.out hbq)
  replace HB0 := Lib.hid (HB0.out.trans (But.of (hbq.mono (by omega))))
  replace hs0 := Nat.lt_of_lt_of_le hs0 hbq.size
  clear y0 y1 y3 e0 e1 e2 e3 hbq
  generalize grow (redrawn W dq) osq = W1 at *
  have ng : g ≠ rb := by omega
  have HX0' := Lib.hid (((((((HX0.out.set (g := rb) (j := 0) n2 (.int .i64 4)).set (g := rb) (j := 1) n2 (.string ⟨#[]⟩)).set (g := rb) (j := 2) n2 (.string ⟨#[]⟩)).set (g := rb) (j := 3) n2 (.string ⟨#[]⟩)).set (g := rb) (j := 4) n2 (.string ⟨#[]⟩)).set (g := rb) (j := 5) n2 (.int .i64 0)))
  have HA' := Lib.hid (HA.out.put ⟨4, ⟨#[]⟩, ⟨#[]⟩, ⟨#[]⟩, ⟨#[]⟩, 0⟩)
  have HO0' := Lib.hid ((own_setA (own_setA (own_setA (own_setA (own_setA (own_setA HO0.out (g := rb) 0 hroR (.int .i64 4)) (g := rb) 1 hroR (.string ⟨#[]⟩)) (g := rb) 2 hroR (.string ⟨#[]⟩)) (g := rb) 3 hroR (.string ⟨#[]⟩)) (g := rb) 4 hroR (.string ⟨#[]⟩)) (g := rb) 5 hroR (.int .i64 0)))
  have HB0' := Lib.hid (((((((HB0.out.put rb 0 (.inl (by omega)) (.int .i64 4)).put rb 1 (.inl (by omega)) (.string ⟨#[]⟩)).put rb 2 (.inl (by omega)) (.string ⟨#[]⟩)).put rb 3 (.inl (by omega)) (.string ⟨#[]⟩)).put rb 4 (.inl (by omega)) (.string ⟨#[]⟩)).put rb 5 (.inl (by omega)) (.int .i64 0)))
  have HL0' : Hid (LinesRd ((((((W1.setCell ⟨rb, 0, none⟩ (.int .i64 4)).setCell ⟨rb, 1, none⟩ (.string ⟨#[]⟩)).setCell ⟨rb, 2, none⟩ (.string ⟨#[]⟩)).setCell ⟨rb, 3, none⟩ (.string ⟨#[]⟩)).setCell ⟨rb, 4, none⟩ (.string ⟨#[]⟩)).setCell ⟨rb, 5, none⟩ (.int .i64 0)) (.slice (some ⟨g, 0, none⟩) l.length cap) g 0 l) := HL0.out.kept (fun _ => by rw [Below.heap_setCell _ _ _ g ng, Below.heap_setCell _ _ _ g ng, Below.heap_setCell _ _ _ g ng, Below.heap_setCell _ _ _ g ng, Below.heap_setCell _ _ _ g ng, Below.heap_setCell _ _ _ g ng])
  have hs0' : rb < ((((((W1.setCell ⟨rb, 0, none⟩ (.int .i64 4)).setCell ⟨rb, 1, none⟩ (.string ⟨#[]⟩)).setCell ⟨rb, 2, none⟩ (.string ⟨#[]⟩)).setCell ⟨rb, 3, none⟩ (.string ⟨#[]⟩)).setCell ⟨rb, 4, none⟩ (.string ⟨#[]⟩)).setCell ⟨rb, 5, none⟩ (.int .i64 0)).heap.size := by simpa [World.setCell] using hs0
  obtain ⟨a0, a1, a2, a3, a4, a5⟩ := HA.out.cells
  simp only at a0 a1 a2 a3 a4 a5
  have f0 := HA.out.free 0
  have f1 := HA.out.free 1
  have f2 := HA.out.free 2
  have f3 := HA.out.free 3
  have f4 := HA.out.free 4
  have f5 := HA.out.free 5
  clear HX0 HA HO0 HB0 HL0 hs0
  go_wp2_with fail
  clear a0 a1 a2 a3 a4 a5 f0 f1 f2 f3 f4 f5
  generalize ((((((W1.setCell ⟨rb, 0, none⟩ (.int .i64 4)).setCell ⟨rb, 1, none⟩ (.string ⟨#[]⟩)).setCell ⟨rb, 2, none⟩ (.string ⟨#[]⟩)).setCell ⟨rb, 3, none⟩ (.string ⟨#[]⟩)).setCell ⟨rb, 4, none⟩ (.string ⟨#[]⟩)).setCell ⟨rb, 5, none⟩ (.int .i64 0)) = W9 at *
  (try simp only at HA')
  obtain ⟨n9, hn9⟩ : ∃ n9, n9 = l.length - k := ⟨_, rfl⟩
  have r9 : IntKind.i64.wrap ((l.length : Int) - (k : Int)) = (n9 : Int) := by rw [IntWalk.i64_in _ (by omega)]; omega
  have HN9 := Lib.hid hn9
  clear hn9
  obtain ⟨e0, e1, e2, e3⟩ := HX0'.out.cells
  have y0 := cell_regrown e0
  have y1 := cell_regrown e1
  refine wp_region_quiet_below (by kernel_rfl) (by kernel_rfl) ?_
  repeat (go_big_quiet_step (fail))
  refine wpQuiet_nil ?_
  intro _ hw'
  obtain ⟨⟨dq, osq⟩, hw''⟩ := hw'
  subst hw''
  have hbq := below_regrown W9 dq osq
  have HA := Lib.hid (HA'.out.over hbq hs0')
  have HX0 := Lib.hid (HX0'.out.over hbq HX0'.out.lt)
  have HL0 := Lib.hid (HL0'.out.below hbq (fun _ => by omega))
  have HO0 := Lib.hid (own_belowA HO0'.out hbq)
  have HB0 := Lib.hid (HB0'.out.trans (But.of (hbq.mono (by omega))))
  have hs0 := Nat.lt_of_lt_of_le hs0' hbq.size
  clear y0 y1 e0 e1 e2 e3 hbq HX0' HA' HO0' HB0' HL0' hs0' r9 r3
  generalize grow (redrawn W9 dq) osq = W1 at *
  have hn9 := HN9.out
  rw [← hn9] at hcc
  have hsub : (l.length : Int) - (k : Int) = (n9 : Int) := by omega
  (try rw [hsub])
  clear hsub
  have hk9 : k + n9 = l.length := by omega
  have hk := Nat.le_of_eq hk9
  have h19 : 1 ≤ n9 := by omega
  have hnm : out.length ≤ 1000 := by omega
  have HK9 := Lib.hid hk9
  clear hn9 hk9 hover hltn hwk hn hne
  have KJ : Hid (Calls Tryz.prog 94 #[.slice (some ⟨g, k * 2, none⟩) n9 (cap - k)] W1.drew fun e w' => e = .returned (.string (rawI l k n9)) ∧ Below W1.heap.size W1 w') := by
    refine (joinLines_spec _ _ g (k * 2) ((l.drop k).take n9) (lines_from (HL0.out.below (_root_.Go.below_drewN (Below.refl _ _) 1) (fun _ => by omega)) k n9 hk) hcc (fun _ => by show g < W1.heap.size; omega)).mono ?_
    rintro e w' ⟨rfl, hb⟩
    exact ⟨rfl, (_root_.Go.below_drewN (Below.refl _ _) 1).trans hb⟩
  have r0 : ¬ cap = k := by omega
  have r1 : (k : Int) + (n9 : Int) ≤ (cap : Int) := by omega
  have r2 : (k : Int) ≤ (k : Int) + (n9 : Int) := by omega
  have r4 : ((k : Int) + (n9 : Int)).toNat = k + n9 := by omega
  have r5 : k + n9 - k = n9 := by omega
  have r3 : IntKind.i64.wrap ((k : Int) + (n9 : Int)) = (k : Int) + (n9 : Int) := IntWalk.i64_in _ (by omega)
  obtain ⟨e0, e1, e2, e3⟩ := HX0.out.cells
  clear e2 e3
  go_wp2_with fail
  go_region_held3 (fun w' => w'.cell? ⟨b, 0, none⟩ = some (.slice (some ⟨g, 0, none⟩) l.length cap) ∧ w'.cell? ⟨b, 1, none⟩ = some (.int .i64 (k : Int)))
    (first | go_keep | exact ⟨p01, p11⟩)
    (((with_reducible refine KJ.out.mono ?_); rintro e w1 ⟨rfl, hb1⟩; have hX1 := HX0.out.over hb1 HX0.out.lt; have hA1 := HA.out.over hb1 hs0; have hO1 := own_belowA HO0.out hb1; have hbb := HB0.out.trans (But.of (hb1.mono (by omega))); have hs1 := Nat.lt_of_lt_of_le hs0 hb1.size; obtain ⟨p01, p11, p21, p31⟩ := hX1.cells; have f1 := hA1.free 1; obtain ⟨a0, a1, a2, a3, a4, a5⟩ := hA1.cells; have HX1 := Lib.hid hX1; have HA1 := Lib.hid hA1; have HO1 := Lib.hid hO1; clear hX1 hA1 hO1))
  have HX2 := Lib.hid (HX1.out.set (g := rb) (j := 1) n2 (.string (rawI l k n9)))
  have HA2 := Lib.hid (HA1.out.putRaw (rawI l k n9))
  have HO2 := Lib.hid (own_setA HO1.out (g := rb) 1 hroR (.string (rawI l k n9)))
  have HU2 := Lib.hid (hbb.put rb 1 (.inl (by omega)) (.string (rawI l k n9)))
  have hs2 : rb < (w1.setCell ⟨rb, 1, none⟩ (.string (rawI l k n9))).heap.size := by simpa [World.setCell] using hs1
  clear HX1 HA1 HO1 hbb p01 p11 p21 p31 f1 a0 a1 a2 a3 a4 a5 hb1 r0 r1 r2 r4 r5 e0 e1 HX0 HA HO0 HL0 HB0 hs0 hs1 KJ
  generalize w1.setCell ⟨rb, 1, none⟩ (.string (rawI l k n9)) = W2 at *
  generalize hraw : rawI l k n9 = raw at *
  have HRAW := Lib.hid hraw
  clear hraw
  simp only at HA2
  obtain ⟨p0, p1, p2, p3⟩ := HX2.out.cells
  obtain ⟨a0, a1, a2, a3, a4, a5⟩ := HA2.out.cells
  simp only at a0 a1 a2 a3 a4 a5
  have f2 := HA2.out.free 2
  have f5 := HA2.out.free 5
  have hkk : (k : Int) + (n9 : Int) ≤ 2000000 := by omega
  have hk0 : (k : Int) ≤ 2000000 := by omega
  go_wp2_with fail
  have HX3 := Lib.hid ((HX2.out.set (g := rb) (j := 2) n2 (.string sec)).set (g := rb) (j := 5) n2 (.int .i64 ((k : Int) + 1)))
  have HA3 := Lib.hid ((HA2.out.putSect sec).putLine ((k : Int) + 1))
  have HO3 := Lib.hid (own_setA (own_setA HO2.out (g := rb) 2 hroR (.string sec)) (g := rb) 5 hroR (.int .i64 ((k : Int) + 1)))
  have HU3 := Lib.hid ((HU2.out.put rb 2 (.inl (by omega)) (.string sec)).put rb 5 (.inl (by omega)) (.int .i64 ((k : Int) + 1)))
  have hs3 : rb < ((W2.setCell ⟨rb, 2, none⟩ (.string sec)).setCell ⟨rb, 5, none⟩ (.int .i64 ((k : Int) + 1))).heap.size := by simpa [World.setCell] using hs2
  simp only at HA3
  clear HX2 HA2 HO2 HU2 hs2 p0 p1 p2 p3 a0 a1 a2 a3 a4 a5 f2 f5
  generalize (W2.setCell ⟨rb, 2, none⟩ (.string sec)).setCell ⟨rb, 5, none⟩ (.int .i64 ((k : Int) + 1)) = W3 at *
  obtain ⟨p0, p1, p2, p3⟩ := HX3.out.cells
  clear p0 p1 p2
  obtain ⟨a0, a1, a2, a3, a4, a5⟩ := HA3.out.cells
  simp only at a0 a1 a2 a3 a4 a5
  have pa3 := (HX3.out.over ((Below.refl W3.heap.size W3).alloc (Nat.le_refl _) (.cells #[.int .i64 4, .string raw, .string sec, .string ⟨#[]⟩, .string ⟨#[]⟩, .int .i64 ((k : Int) + 1)] 35)) HX3.out.lt).cells.2.2.2
  go_region_law ((refine step_append_lies _ (by rfl) _ _ _ (by rfl) B 35 i0 (recV noRec) 6 80 Tryz.underlying32 hi hz0 hz1 hz2 rfl (by omega) _ _ _ (by rfl) ((HO3.out.alloc _).drew) ⟨W3.heap.size, 0, none⟩ 1 1 [.int .i64 4, .string raw, .string sec, .string ⟨#[]⟩, .string ⟨#[]⟩, .int .i64 ((k : Int) + 1)] (by rfl) (by rfl) (World.news_of_block (cs := #[.int .i64 4, .string raw, .string sec, .string ⟨#[]⟩, .string ⟨#[]⟩, .int .i64 ((k : Int) + 1)]) (t := 35) (fr := (0, 0)) (heap_alloc_new W3 _)) (by simp [Value.oneCell']) (by omega) (by unfold maxLen; omega) (by omega) (by simp; omega) (W3.heap.size + 1) (by simp) ?_; intro gg cp w4 hown4 hgrow hat hlt4; have hbw4 : Below B W3 w4 := Below.grown ((Below.refl B W3).alloc (by omega) (.cells #[.int .i64 4, .string raw, .string sec, .string ⟨#[]⟩, .string ⟨#[]⟩, .int .i64 ((k : Int) + 1)] 35)) ⟨hgrow.os, hgrow.tape, hgrow.output, hgrow.size, hgrow.block⟩ (by simp; omega) hroB; have hX4 := HX3.out.kept ((hgrow.block b (by have := HX3.out.lt; simp; omega) (fun e => hro b e.symm rfl)).trans (Below.heap_alloc _ _ _ HX3.out.lt)); have hA4 := HA3.out.kept ((hgrow.block rb (by simp; omega) (fun e => hroR rb e.symm rfl)).trans (Below.heap_alloc _ _ _ hs3)); obtain ⟨s0, s1, s2, s3⟩ := hX4.cells; obtain ⟨m0, m1, m2, m3, m4, m5⟩ := hA4.cells; simp only at m0 m1 m2 m3 m4 m5; have f3 := hX4.free 3; have HX4 := Lib.hid hX4; have HU4 := Lib.hid (HU3.out.trans (But.of (b := b) hbw4)); have HO4 := Lib.hid hown4; clear hX4 hA4))
  all_goals
    have f1 := HX4.out.free 1
    have hrw : w4.ownsRow B 35 6 (.slice (some ⟨gg, 0, none⟩) (out.length + 1) cp) (out ++ [(⟨4, raw, sec, ⟨#[]⟩, ⟨#[]⟩, (k : Int) + 1⟩ : RecD)]).length (rowCells recS (out ++ [⟨4, raw, sec, ⟨#[]⟩, ⟨#[]⟩, (k : Int) + 1⟩])) := by
      rw [rowCells_append, rowCells_single, List.length_append]
      exact HO4.out
    have hnb : ∀ i, (Value.slice (some ⟨gg, 0, none⟩) (out.length + 1) cp).ownBlock = some i → i ≠ b := fun i hi => by rcases hat with h | h; exact hro i (h.trans (by simpa [Value.ownBlock] using hi)); simp only [Value.ownBlock, Option.some.injEq] at hi; have := HX3.out.lt; omega
    have HR := Lib.hid hrw
    have HNB := Lib.hid hnb
    clear hrw hnb hown4
    go_wp2
    go_end0
    refine ⟨rfl, ?_⟩
    rw [← HN9.out, HRAW.out]
    exact ⟨_, (HX4.out.putOut _).putAt l.length _ (by have := HK9.out; omega), own_setA (own_setA HR.out (g := b) 3 HNB.out _) (g := b) 1 HNB.out _, (HU4.out.put b 3 (.inr rfl) _).put b 1 (.inr rfl) _, HNB.out⟩


end Go.Proofs.YtkhkpjnpjgnckaaGreatDoor

/- An environment file: the model's ParseEnv. -/
set_option maxRecDepth 100000
namespace Go.Proofs.YtkhkpjnpjgnckaaGreatDoor
open Go.RowKit Go.Sort
set_option linter.unusedVariables false

/-- how far it has come -/
def atOfP (w : World) (b : Nat) : Nat := match w.cell? ⟨b, 1, none⟩ with
  | some (.int _ z) => z.toNat
  | _ => 0
theorem atOfP_at {w : World} {b : Nat} {lv : Value} {k : Nat} {sec : ByteArray} {ov : Value} (h : ReadAt w b lv k sec ov) : atOfP w b = k := by
  obtain ⟨e0, e1, e2, e3⟩ := h.cells
  unfold atOfP
  rw [e1]
  simp
theorem own_linesP {w : World} {B : Nat} {v : Value} {l : List Ln} {t : Nat} (h : w.ownsRow B t 2 v l.length (lnCells l)) (hne : l ≠ []) (hB : B ≤ w.heap.size) : ∃ g cap, v = .slice (some ⟨g, 0, none⟩) l.length cap ∧ l.length ≤ cap ∧ LinesRd w v g 0 l ∧ B ≤ g ∧ g < w.heap.size := by
  obtain ⟨g, hI, hg⟩ := linesIs_of_owns h rfl hB
  have hlt := hI.toLinesRd.lt hne
  rcases h.2 with ⟨hv, h0⟩ | ⟨g2, cap, cur, hv, hb, hg2, hnc, hcm, hcs, htake⟩
  · exact absurd (List.eq_nil_of_length_eq_zero h0) hne
  · obtain ⟨a, cap2, hv2, ha⟩ := hI.form
    have := ha hne
    subst this
    refine ⟨g, cap, ?_, hnc, hI.toLinesRd, hg, hlt⟩
    rw [hv2] at hv
    injection hv with e1 e2 e3
    rw [hv2, e3]
/-- what has been told of the records at a line -/
def ToldP (l : List Ln) (k : Nat) (m : List RecD) : Prop := (m.length ≤ 199 ∧ recsP l 0 = m ++ recsP l k) ∨ (k = l.length ∧ limG (recsP l 0) = m)
theorem toldP_zero (l : List Ln) : ToldP l 0 [] := .inl ⟨by simp, by simp⟩
theorem toldP_len {l : List Ln} {k : Nat} {m : List RecD} (h : ToldP l k m) : m.length ≤ 200 := by
  rcases h with ⟨h, _⟩ | ⟨_, h⟩
  · omega
  · rw [← h]; exact limG_len _
theorem toldP_end {l : List Ln} {m : List RecD} (h : ToldP l l.length m) : limG (recsP l 0) = m := by
  rcases h with ⟨h1, h2⟩ | ⟨_, h⟩
  · rw [recsP_end l l.length (Nat.le_refl _), List.append_nil] at h2
    rw [h2, limG_few (by omega)]
  · exact h
theorem toldP_room {l : List Ln} {k : Nat} {m : List RecD} (h : ToldP l k m) (hk : k < l.length) (hn : ¬ (m.length = 199 ∧ k + (oneAt l k hk).2 < l.length)) : ToldP l (k + (oneAt l k hk).2) (m ++ [putP l k (oneAt l k hk).2 (oneAt l k hk).1]) := by
  have hle := oneAt_le l k hk
  rcases h with ⟨h1, h2⟩ | ⟨h1, _⟩
  · rw [recsP_step l k hk] at h2
    by_cases h3 : m.length = 199
    · have h4 : l.length ≤ k + (oneAt l k hk).2 := by
        apply Classical.byContradiction
        intro h
        exact hn ⟨h3, by omega⟩
      rw [recsP_end l _ h4] at h2
      refine .inr ⟨by omega, ?_⟩
      rw [h2, limG_few (by simp; omega)]
    · refine .inl ⟨by simp; omega, ?_⟩
      rw [h2]
      simp
  · omega
theorem toldP_over {l : List Ln} {k : Nat} {m : List RecD} (h : ToldP l k m) (hk : k < l.length) (hm : m.length = 199) (hover : k + (oneAt l k hk).2 < l.length) : ToldP l l.length (m ++ [⟨4, rawP l k (l.length - k), ⟨#[]⟩, ⟨#[]⟩, ⟨#[]⟩, (k : Int) + 1⟩]) := by
  rcases h with ⟨h1, h2⟩ | ⟨h1, _⟩
  · exact .inr ⟨rfl, limG_over h2 hm hk hover⟩
  · omega

set_option maxHeartbeats 6400000 in
theorem envModel_core (s : ByteArray) (w : World) (hs : s.size ≤ 6000) (h0 : linesOf s ≠ []) :
    Calls Tryz.prog 39 #[.string s] w (NewRows recS w (limG (recsP (linesOf s) 0))) := by
  have KS := Lib.hid (splitLines_spec s w (by omega))
  have hco := linesOf_costP s
  generalize linesOf s = l at *
  have hll : l.length ≤ 12000 := by unfold costL at hco; omega
  have hsz2 : (s.size : Int) ≤ 6000 := by omega
  have KO := Lib.hid (fun (W : World) (lv : Value) (g k : Nat) (hu : LinesRd W lv g 0 l) (hk : k < l.length) => oneE_spec W lv g 0 l k hu (by omega) hk)
  go_enter Tryz.func39, Tryz.ntmps39
  go_wp2_with fail
  refine KS.out.mono ?_
  rintro e W1 ⟨lv, rfl, hown, hb1⟩
  obtain ⟨g, cap, rfl, hcap, hL, hg1, hg2⟩ := own_linesP hown h0 hb1.size
  have HL1 := Lib.hid hL
  clear KS hown hL
  have hbx := ((Below.refl W1.heap.size W1).alloc (Nat.le_refl _) (.cells #[] 35)).alloc (by simp) (.cells #[.slice (some ⟨g, 0, none⟩) l.length cap, .int .i64 0, .string ⟨#[]⟩, .slice (some ⟨W1.heap.size, 0, none⟩) 0 0] 81)
  have HX : Hid (ReadAt ((W1.alloc (.cells #[] 35)).alloc (.cells #[.slice (some ⟨g, 0, none⟩) l.length cap, .int .i64 0, .string ⟨#[]⟩, .slice (some ⟨W1.heap.size, 0, none⟩) 0 0] 81)) (W1.heap.size + 1) (.slice (some ⟨g, 0, none⟩) l.length cap) 0 ⟨#[]⟩ (.slice (some ⟨W1.heap.size, 0, none⟩) 0 0)) := by
    have := heap_alloc_new (W1.alloc (.cells #[] 35)) (.cells #[.slice (some ⟨g, 0, none⟩) l.length cap, .int .i64 0, .string ⟨#[]⟩, .slice (some ⟨W1.heap.size, 0, none⟩) 0 0] 81)
    rw [World.size_alloc] at this
    exact this
  have HO : Hid (((W1.alloc (.cells #[] 35)).alloc (.cells #[.slice (some ⟨g, 0, none⟩) l.length cap, .int .i64 0, .string ⟨#[]⟩, .slice (some ⟨W1.heap.size, 0, none⟩) 0 0] 81)).ownsRow W1.heap.size 35 6 (.slice (some ⟨W1.heap.size, 0, none⟩) 0 0) ([] : List RecD).length (rowCells recS [])) :=
    own_belowA (World.ownsRow_lit W1 (e := 35) (size := 6) #[] 0 (Nat.le_refl _) (Nat.zero_le _) rfl) ((Below.refl _ _).alloc (Nat.le_refl _) _)
  have HRO : Hid (∀ i, (Value.slice (some ⟨W1.heap.size, 0, none⟩) 0 0).ownBlock = some i → i ≠ W1.heap.size + 1) := by
    intro i hi
    simp only [Value.ownBlock, Option.some.injEq] at hi
    omega
  replace HL1 := Lib.hid (HL1.out.below hbx (fun _ => hg2))
  have hB2 := hb1.trans (hbx.mono hb1.size)
  have hwB : w.heap.size ≤ W1.heap.size := hb1.size
  have hsx : W1.heap.size + 1 < ((W1.alloc (.cells #[] 35)).alloc (.cells #[.slice (some ⟨g, 0, none⟩) l.length cap, .int .i64 0, .string ⟨#[]⟩, .slice (some ⟨W1.heap.size, 0, none⟩) 0 0] 81)).heap.size := by simp
  go_wp2_with fail
  clear hbx hb1
  generalize ((W1.alloc (.cells #[] 35)).alloc (.cells #[.slice (some ⟨g, 0, none⟩) l.length cap, .int .i64 0, .string ⟨#[]⟩, .slice (some ⟨W1.heap.size, 0, none⟩) 0 0] 81)) = Wx at *
  generalize hBq : W1.heap.size = B at *
  have n1 : g ≠ (B + 1) := by omega
  go_loopw [4] (fun _ wr => ∃ (k : Nat) (m : List RecD) (oa : Option Addr) (oc : Nat), k ≤ l.length ∧ Hid (ToldP l k m) ∧ Hid (ReadAt wr (B + 1) (.slice (some ⟨g, 0, none⟩) l.length cap) k ⟨#[]⟩ (.slice oa m.length oc)) ∧ Hid (LinesRd wr (.slice (some ⟨g, 0, none⟩) l.length cap) g 0 l) ∧ Hid (wr.ownsRow B 35 6 (.slice oa m.length oc) m.length (rowCells recS m)) ∧ Hid (∀ i, (Value.slice oa m.length oc).ownBlock = some i → i ≠ (B + 1)) ∧ (B + 1) < wr.heap.size ∧ Below w.heap.size w wr) (fun _ wr => l.length - atOfP wr (B + 1))
  case atStart => exact ⟨0, [], _, _, Nat.zero_le _, toldP_zero l, HX, HL1, HO, HRO, hsx, hB2⟩
  case round =>
    obtain ⟨k, m, oa, oc, hkl, hF, hX, hL, hO, hRO, hsw, hb⟩ := hrel
    clear HX HL1 HO HRO hsx hB2
    have hml := toldP_len hF.out
    obtain ⟨e0, e1, e2, e3⟩ := hX.out.cells
    have y0 := cell_regrown e0
    have y1 := cell_regrown e1
    have HM1 := Lib.hid (atOfP_at hX.out)
    by_cases hlt : k < l.length
    · have hkz : (k : Int) < (l.length : Int) := by omega
      clear e0 e1 e2 e3
      go_wp2_with fail
      refine wp_region_quiet_below (by kernel_rfl) (by kernel_rfl) ?_
      repeat (go_big_quiet_step (fail))
      refine wpQuiet_nil ?_
      intro _ hw'
      obtain ⟨⟨dq, osq⟩, hw''⟩ := hw'
      subst hw''
      have hbq := below_regrown wr dq osq
      replace hX := Lib.hid (hX.out.over hbq hsw)
      replace hL := Lib.hid (hL.out.below hbq (fun _ => by omega))
      replace hO := Lib.hid (own_belowA hO.out hbq)
      replace hb := hb.trans (hbq.mono hb.size)
      replace hsw := Nat.lt_of_lt_of_le hsw hbq.size
      have hM2 := HM1.out
      clear y0 y1 hbq HM1
      have HM1 := Lib.hid hM2
      clear hM2
      generalize grow (redrawn wr dq) osq = w2 at *
      have hle := oneAt_le l k hlt
      have hTR := Lib.hid (toldP_room hF.out hlt)
      have hTO := Lib.hid (toldP_over hF.out hlt)
      have K1 := Lib.hid (fun W hu => KO.out W (.slice (some ⟨g, 0, none⟩) l.length cap) g k hu hlt)
      have hone : oneE l[k] (l.drop (k + 1)) = oneAt l k hlt := rfl
      rw [hone] at K1
      have hsx := oneAt_sect l k hlt
      generalize oneAt l k hlt = q at *
      obtain ⟨⟨y0, y1, y2, y3, y4, y5⟩, n⟩ := q
      unfold putP at hTR
      unfold recV at K1
      simp only at hle hTR hTO K1 hsx
      subst hsx
      clear hone hF
      obtain ⟨e0, e1, e2, e3⟩ := hX.out.cells
      clear e2 e3
      have hbd : Below w2.heap.size w2 w2.drew := (Below.refl _ _).drew
      have hba : Below w2.heap.size w2 (w2.alloc (.cells #[.int .i64 0, .string ⟨#[]⟩, .string ⟨#[]⟩, .string ⟨#[]⟩, .string ⟨#[]⟩, .int .i64 0] 35)) := (Below.refl _ _).alloc (Nat.le_refl _) _
      have hsa : w2.heap.size < (w2.alloc (.cells #[.int .i64 0, .string ⟨#[]⟩, .string ⟨#[]⟩, .string ⟨#[]⟩, .string ⟨#[]⟩, .int .i64 0] 35)).heap.size := by simp
      have HRA := Lib.hid (recAt_new w2 ⟨0, ⟨#[]⟩, ⟨#[]⟩, ⟨#[]⟩, ⟨#[]⟩, 0⟩)
      simp only at HRA
      have KB : Hid (Calls Tryz.prog 60 #[.slice (some ⟨g, 0, none⟩) l.length cap, .int .i64 (k : Int)] w2.drew fun e w' => e = .returned (.tuple #[.agg #[.int .i64 y0, .string y1, .string ⟨#[]⟩, .string y3, .string y4, .int .i64 y5], .int .i64 (n : Int)]) ∧ Below w2.heap.size w2 w') := by
        refine (K1.out w2.drew (hL.out.below hbd (fun _ => by omega))).mono ?_
        rintro e w' ⟨he, hb'⟩
        exact ⟨he, hbd.trans hb'⟩
      have KA : Hid (Calls Tryz.prog 60 #[.slice (some ⟨g, 0, none⟩) l.length cap, .int .i64 (k : Int)] (w2.alloc (.cells #[.int .i64 0, .string ⟨#[]⟩, .string ⟨#[]⟩, .string ⟨#[]⟩, .string ⟨#[]⟩, .int .i64 0] 35)).drew fun e w' => e = .returned (.tuple #[.agg #[.int .i64 y0, .string y1, .string ⟨#[]⟩, .string y3, .string y4, .int .i64 y5], .int .i64 (n : Int)]) ∧ Below (w2.alloc (.cells #[.int .i64 0, .string ⟨#[]⟩, .string ⟨#[]⟩, .string ⟨#[]⟩, .string ⟨#[]⟩, .int .i64 0] 35)).heap.size (w2.alloc (.cells #[.int .i64 0, .string ⟨#[]⟩, .string ⟨#[]⟩, .string ⟨#[]⟩, .string ⟨#[]⟩, .int .i64 0] 35)) w') := by
        have hbd2 : Below (w2.alloc (.cells #[.int .i64 0, .string ⟨#[]⟩, .string ⟨#[]⟩, .string ⟨#[]⟩, .string ⟨#[]⟩, .int .i64 0] 35)).heap.size (w2.alloc (.cells #[.int .i64 0, .string ⟨#[]⟩, .string ⟨#[]⟩, .string ⟨#[]⟩, .string ⟨#[]⟩, .int .i64 0] 35)) (w2.alloc (.cells #[.int .i64 0, .string ⟨#[]⟩, .string ⟨#[]⟩, .string ⟨#[]⟩, .string ⟨#[]⟩, .int .i64 0] 35)).drew := (Below.refl _ _).drew
        refine (K1.out (w2.alloc (.cells #[.int .i64 0, .string ⟨#[]⟩, .string ⟨#[]⟩, .string ⟨#[]⟩, .string ⟨#[]⟩, .int .i64 0] 35)).drew ((hL.out.below hba (fun _ => by omega)).below hbd2 (fun _ => by omega))).mono ?_
        rintro e w' ⟨he, hb'⟩
        exact ⟨he, hbd2.trans hb'⟩
      clear K1
      go_wp2_with fail
      go_region_held3 (fun w' => w'.cell? ⟨B + 1, 0, none⟩ = some (.slice (some ⟨g, 0, none⟩) l.length cap) ∧ w'.cell? ⟨B + 1, 1, none⟩ = some (.int .i64 (k : Int)))
        (first | go_keep | exact ⟨m0, m1⟩)
        (first
          | ((with_reducible refine KB.out.mono ?_); rintro e w4 ⟨rfl, hb4⟩; obtain ⟨m0, m1, m2, m3⟩ := (hX.out.over hb4 hsw).cells)
          | ((with_reducible refine KA.out.mono ?_); rintro e w4 ⟨rfl, hb4⟩; obtain ⟨m0, m1, m2, m3⟩ := ((hX.out.over hba hsw).over hb4 (Nat.lt_of_lt_of_le hsw hba.size)).cells; have hr4 := HRA.out.over hb4 hsa; have f0 := hr4.free 0; have f1 := hr4.free 1; have f2 := hr4.free 2; have f3 := hr4.free 3; have f4 := hr4.free 4; have f5 := hr4.free 5; obtain ⟨u0, u1, u2, u3, u4, u5⟩ := hr4.cells; simp only at u0 u1 u2 u3 u4 u5; have HR4 := Lib.hid hr4; clear hr4; have nb1 : B + 1 ≠ w2.heap.size := (by omega); have nb2 : w2.heap.size ≠ B + 1 := (by omega)))
      · have hB5 := hb4.alloc hb4.size (.cells #[.int .i64 y0, .string y1, .string ⟨#[]⟩, .string y3, .string y4, .int .i64 y5] 35)
        have HR5 := Lib.hid (recAt_new w4 ⟨y0, y1, ⟨#[]⟩, y3, y4, y5⟩)
        simp only at HR5
        have hX5 := Lib.hid (hX.out.over hB5 hsw)
        have hL5 := Lib.hid (hL.out.below hB5 (fun _ => by omega))
        have hO5 := Lib.hid (own_belowA hO.out hB5)
        have hb5 := hb.trans (hB5.mono hb.size)
        have hs5 := Nat.lt_of_lt_of_le hsw hB5.size
        obtain ⟨z0, z1, z2, z3, z4, z5⟩ := HR5.out.cells
        simp only at z0 z1 z2 z3 z4 z5
        clear hX hL hO hb hsw hB5 KA KB HRA m0 m1 m2 m3
        generalize w4.alloc (.cells #[.int .i64 y0, .string y1, .string ⟨#[]⟩, .string y3, .string y4, .int .i64 y5] 35) = w5 at *
        have hnc : ((m.length : Int) == 199) = decide (m.length = 199) := by
          by_cases h : m.length = 199
          · rw [h]; rfl
          · rw [decide_eq_false h, beq_eq_false_iff_ne]; omega
        by_cases hov : m.length = 199 ∧ k + n < l.length
        · have KA := Lib.hid (add_over w5 (B + 1) B k n ⟨#[]⟩ g cap l (.slice oa m.length oc) m ⟨y0, y1, ⟨#[]⟩, y3, y4, y5⟩ hX5.out hL5.out n1 hle.1 hcap (by omega) hO5.out hov.1 hov.2 hRO.out (by omega) (by omega))
          have HF6 := Lib.hid (hTO.out hov.1 hov.2)
          go_wp2_with fail
          refine KA.out.mono ?_
          rintro e w6 ⟨rfl, ov6, hX6, hO6, hbut6, hro6⟩
          obtain ⟨oa6, oc6, rfl⟩ := own_formA hO6
          have hb6 := hb5.trans ((hbut6.below (Nat.le_succ B)).mono (by omega))
          have HX6 := Lib.hid hX6
          have HO6 := Lib.hid hO6
          have HR6 := Lib.hid hro6
          have HL6 := Lib.hid (hL5.out.kept (fun _ => hbut6.block g (by omega) (by omega)))
          have hs6 := Nat.lt_of_lt_of_le hs5 hbut6.size
          have HM6 := Lib.hid (atOfP_at hX6)
          clear hX6 hO6 hro6 hX5 hL5 hO5 hb5 KA hbut6 hTR hTO hs5
          go_wp2
          go_roundw
          case rel => exact ⟨l.length, _, oa6, oc6, Nat.le_refl _, HF6, HX6, HL6, HO6, HR6, hs6, hb6⟩
          case measure => rw [HM6.out, HM1.out]; omega
        · have KA := Lib.hid (add_room w5 (B + 1) B k n ⟨#[]⟩ g cap l (.slice oa m.length oc) m ⟨y0, y1, ⟨#[]⟩, y3, y4, y5⟩ hX5.out hL5.out n1 hle.1 hle.2 hcap (by omega) hO5.out hov (by omega) hRO.out (by omega) (by omega))
          have HF6 := Lib.hid (hTR.out hov)
          go_wp2_with fail
          refine KA.out.mono ?_
          rintro e w6 ⟨rfl, ov6, hX6, hO6, hbut6, hro6⟩
          obtain ⟨oa6, oc6, rfl⟩ := own_formA hO6
          have hb6 := hb5.trans ((hbut6.below (Nat.le_succ B)).mono (by omega))
          have HX6 := Lib.hid hX6
          have HO6 := Lib.hid hO6
          have HR6 := Lib.hid hro6
          have HL6 := Lib.hid (hL5.out.kept (fun _ => hbut6.block g (by omega) (by omega)))
          have hs6 := Nat.lt_of_lt_of_le hs5 hbut6.size
          have HM6 := Lib.hid (atOfP_at hX6)
          clear hX6 hO6 hro6 hX5 hL5 hO5 hb5 KA hbut6 hTR hTO hs5
          go_wp2
          go_roundw
          case rel => exact ⟨k + n, _, oa6, oc6, hle.2, HF6, HX6, HL6, HO6, HR6, hs6, hb6⟩
          case measure => rw [HM6.out, HM1.out]; omega
      · have hB5 := below_put (hba.trans (hb4.mono (Nat.le_of_lt hsa))) (Nat.le_refl w2.heap.size) ⟨y0, y1, ⟨#[]⟩, y3, y4, y5⟩
        have HR5 := Lib.hid (HR4.out.put ⟨y0, y1, ⟨#[]⟩, y3, y4, y5⟩)
        simp only at hB5 HR5
        have hX5 := Lib.hid (hX.out.over hB5 hsw)
        have hL5 := Lib.hid (hL.out.below hB5 (fun _ => by omega))
        have hO5 := Lib.hid (own_belowA hO.out hB5)
        have hb5 := hb.trans (hB5.mono hb.size)
        have hs5 := Nat.lt_of_lt_of_le hsw hB5.size
        obtain ⟨z0, z1, z2, z3, z4, z5⟩ := HR5.out.cells
        simp only at z0 z1 z2 z3 z4 z5
        clear hX hL hO hb hsw hB5 KA KB HRA m0 m1 m2 m3 f0 f1 f2 f3 f4 f5 u0 u1 u2 u3 u4 u5
        generalize ((((((w4.setCell ⟨w2.heap.size, 0, none⟩ (.int .i64 y0)).setCell ⟨w2.heap.size, 1, none⟩ (.string y1)).setCell ⟨w2.heap.size, 2, none⟩ (.string ⟨#[]⟩)).setCell ⟨w2.heap.size, 3, none⟩ (.string y3)).setCell ⟨w2.heap.size, 4, none⟩ (.string y4)).setCell ⟨w2.heap.size, 5, none⟩ (.int .i64 y5)) = w5 at *
        have hnc : ((m.length : Int) == 199) = decide (m.length = 199) := by
          by_cases h : m.length = 199
          · rw [h]; rfl
          · rw [decide_eq_false h, beq_eq_false_iff_ne]; omega
        by_cases hov : m.length = 199 ∧ k + n < l.length
        · have KA := Lib.hid (add_over w5 (B + 1) B k n ⟨#[]⟩ g cap l (.slice oa m.length oc) m ⟨y0, y1, ⟨#[]⟩, y3, y4, y5⟩ hX5.out hL5.out n1 hle.1 hcap (by omega) hO5.out hov.1 hov.2 hRO.out (by omega) (by omega))
          have HF6 := Lib.hid (hTO.out hov.1 hov.2)
          go_wp2_with fail
          refine KA.out.mono ?_
          rintro e w6 ⟨rfl, ov6, hX6, hO6, hbut6, hro6⟩
          obtain ⟨oa6, oc6, rfl⟩ := own_formA hO6
          have hb6 := hb5.trans ((hbut6.below (Nat.le_succ B)).mono (by omega))
          have HX6 := Lib.hid hX6
          have HO6 := Lib.hid hO6
          have HR6 := Lib.hid hro6
          have HL6 := Lib.hid (hL5.out.kept (fun _ => hbut6.block g (by omega) (by omega)))
          have hs6 := Nat.lt_of_lt_of_le hs5 hbut6.size
          have HM6 := Lib.hid (atOfP_at hX6)
          clear hX6 hO6 hro6 hX5 hL5 hO5 hb5 KA hbut6 hTR hTO hs5
          go_wp2
          go_roundw
          case rel => exact ⟨l.length, _, oa6, oc6, Nat.le_refl _, HF6, HX6, HL6, HO6, HR6, hs6, hb6⟩
          case measure => rw [HM6.out, HM1.out]; omega
        · have KA := Lib.hid (add_room w5 (B + 1) B k n ⟨#[]⟩ g cap l (.slice oa m.length oc) m ⟨y0, y1, ⟨#[]⟩, y3, y4, y5⟩ hX5.out hL5.out n1 hle.1 hle.2 hcap (by omega) hO5.out hov (by omega) hRO.out (by omega) (by omega))
          have HF6 := Lib.hid (hTR.out hov)
          go_wp2_with fail
          refine KA.out.mono ?_
          rintro e w6 ⟨rfl, ov6, hX6, hO6, hbut6, hro6⟩
          obtain ⟨oa6, oc6, rfl⟩ := own_formA hO6
          have hb6 := hb5.trans ((hbut6.below (Nat.le_succ B)).mono (by omega))
          have HX6 := Lib.hid hX6
          have HO6 := Lib.hid hO6
          have HR6 := Lib.hid hro6
          have HL6 := Lib.hid (hL5.out.kept (fun _ => hbut6.block g (by omega) (by omega)))
          have hs6 := Nat.lt_of_lt_of_le hs5 hbut6.size
          have HM6 := Lib.hid (atOfP_at hX6)
          clear hX6 hO6 hro6 hX5 hL5 hO5 hb5 KA hbut6 hTR hTO hs5
          go_wp2
          go_roundw
          case rel => exact ⟨k + n, _, oa6, oc6, hle.2, HF6, HX6, HL6, HO6, HR6, hs6, hb6⟩
          case measure => rw [HM6.out, HM1.out]; omega
    · obtain rfl : k = l.length := by omega
      have hE := Lib.hid (toldP_end hF.out)
      have hkz : ¬ (l.length : Int) < (l.length : Int) := by omega
      clear e0 e1 e2 e3 hF HM1
      go_wp2_with fail
      refine wp_region_quiet_below (by kernel_rfl) (by kernel_rfl) ?_
      repeat (go_big_quiet_step (fail))
      refine wpQuiet_nil ?_
      intro _ hw'
      obtain ⟨⟨dq, osq⟩, hw''⟩ := hw'
      subst hw''
      have hbq := below_regrown wr dq osq
      replace hX := Lib.hid (hX.out.over hbq hsw)
      replace hO := Lib.hid (own_belowA hO.out hbq)
      replace hb := hb.trans (hbq.mono hb.size)
      replace hsw := Nat.lt_of_lt_of_le hsw hbq.size
      clear y0 y1 hbq hL
      generalize grow (redrawn wr dq) osq = w2 at *
      obtain ⟨e0, e1, e2, e3⟩ := hX.out.cells
      obtain ⟨gr, hrs, hgr⟩ := rowsIs_of_owns (S := recS) hO.out rfl (by omega)
      have HRS := Lib.hid hrs
      have hgw : w.heap.size ≤ gr := Nat.le_trans hwB hgr
      clear hrs hO hX e0 e1 e2
      go_wp2
      go_ret
      exact ⟨_, gr, rfl, by rw [hE.out]; exact HRS.out, hgw, hb⟩

theorem envModel_empty (s : ByteArray) (w : World) (hs : s.size ≤ 1048576) (h0 : linesOf s = []) :
    Calls Tryz.prog 39 #[.string s] w (NewRows recS w []) := by
  have KS := Lib.hid (splitLines_spec s w hs)
  generalize linesOf s = l at *
  have hll : l.length = 0 := by rw [h0]; rfl
  have hkz : ¬ 0 < l.length := by omega
  clear h0 hll
  go_enter Tryz.func39, Tryz.ntmps39
  go_wp2_with fail
  refine KS.out.mono ?_
  rintro e W1 ⟨lv, rfl, hown, hb1⟩
  obtain ⟨ga, cap, rfl⟩ := own_formA hown
  clear KS hown
  have hbx := ((Below.refl W1.heap.size W1).alloc (Nat.le_refl _) (.cells #[] 35)).alloc (by simp) (.cells #[.slice ga l.length cap, .int .i64 0, .string ⟨#[]⟩, .slice (some ⟨W1.heap.size, 0, none⟩) 0 0] 81)
  have HX : Hid (ReadAt ((W1.alloc (.cells #[] 35)).alloc (.cells #[.slice ga l.length cap, .int .i64 0, .string ⟨#[]⟩, .slice (some ⟨W1.heap.size, 0, none⟩) 0 0] 81)) (W1.heap.size + 1) (.slice ga l.length cap) 0 ⟨#[]⟩ (.slice (some ⟨W1.heap.size, 0, none⟩) 0 0)) := by
    have := heap_alloc_new (W1.alloc (.cells #[] 35)) (.cells #[.slice ga l.length cap, .int .i64 0, .string ⟨#[]⟩, .slice (some ⟨W1.heap.size, 0, none⟩) 0 0] 81)
    rw [World.size_alloc] at this
    exact this
  have hB2 := hb1.trans (hbx.mono hb1.size)
  have hwB : w.heap.size ≤ W1.heap.size := hb1.size
  have hsx : W1.heap.size + 1 < ((W1.alloc (.cells #[] 35)).alloc (.cells #[.slice ga l.length cap, .int .i64 0, .string ⟨#[]⟩, .slice (some ⟨W1.heap.size, 0, none⟩) 0 0] 81)).heap.size := by simp
  go_wp2_with fail
  clear hbx hb1
  generalize ((W1.alloc (.cells #[] 35)).alloc (.cells #[.slice ga l.length cap, .int .i64 0, .string ⟨#[]⟩, .slice (some ⟨W1.heap.size, 0, none⟩) 0 0] 81)) = Wx at *
  go_loopw [4] (fun _ wr => Wx = wr) (fun _ _ => 0)
  case atStart => rfl
  case round =>
    obtain rfl := hrel
    obtain ⟨e0, e1, e2, e3⟩ := HX.out.cells
    have y0 := cell_regrown e0
    have y1 := cell_regrown e1
    clear e0 e1 e2 e3
    go_wp2_with fail
    refine wp_region_quiet_below (by kernel_rfl) (by kernel_rfl) ?_
    repeat (go_big_quiet_step (fail))
    refine wpQuiet_nil ?_
    intro _ hw'
    obtain ⟨⟨dq, osq⟩, hw''⟩ := hw'
    subst hw''
    have hbq := below_regrown Wx dq osq
    have hX := HX.out.over hbq hsx
    have hb := hB2.trans (hbq.mono hB2.size)
    clear y0 y1 hbq HX hB2
    generalize grow (redrawn Wx dq) osq = w2 at *
    obtain ⟨e0, e1, e2, e3⟩ := hX.cells
    clear hX e0 e1 e2
    go_wp2
    go_ret
    exact ⟨_, W1.heap.size, rfl, RowsIs.nil _ _ rfl, hwB, hb⟩
theorem envModel_long (s : ByteArray) (w : World) (hs : s.size ≤ 1048576) (h0 : 6000 < s.size) (hne : linesOf s ≠ []) :
    Calls Tryz.prog 39 #[.string s] w (NewRows recS w []) := by
  have KS := Lib.hid (splitLines_spec s w hs)
  generalize linesOf s = l at *
  have hll := List.length_pos_iff.2 hne
  have hkz : 0 < l.length := hll
  have hsz : ¬ (s.size : Int) ≤ 6000 := by omega
  have hszd : decide ((s.size : Int) ≤ 6000) = false := decide_eq_false hsz
  clear hne hll
  go_enter Tryz.func39, Tryz.ntmps39
  go_wp2_with fail
  refine KS.out.mono ?_
  rintro e W1 ⟨lv, rfl, hown, hb1⟩
  obtain ⟨ga, cap, rfl⟩ := own_formA hown
  clear KS hown
  have hbx := ((Below.refl W1.heap.size W1).alloc (Nat.le_refl _) (.cells #[] 35)).alloc (by simp) (.cells #[.slice ga l.length cap, .int .i64 0, .string ⟨#[]⟩, .slice (some ⟨W1.heap.size, 0, none⟩) 0 0] 81)
  have HX : Hid (ReadAt ((W1.alloc (.cells #[] 35)).alloc (.cells #[.slice ga l.length cap, .int .i64 0, .string ⟨#[]⟩, .slice (some ⟨W1.heap.size, 0, none⟩) 0 0] 81)) (W1.heap.size + 1) (.slice ga l.length cap) 0 ⟨#[]⟩ (.slice (some ⟨W1.heap.size, 0, none⟩) 0 0)) := by
    have := heap_alloc_new (W1.alloc (.cells #[] 35)) (.cells #[.slice ga l.length cap, .int .i64 0, .string ⟨#[]⟩, .slice (some ⟨W1.heap.size, 0, none⟩) 0 0] 81)
    rw [World.size_alloc] at this
    exact this
  have hB2 := hb1.trans (hbx.mono hb1.size)
  have hwB : w.heap.size ≤ W1.heap.size := hb1.size
  have hsx : W1.heap.size + 1 < ((W1.alloc (.cells #[] 35)).alloc (.cells #[.slice ga l.length cap, .int .i64 0, .string ⟨#[]⟩, .slice (some ⟨W1.heap.size, 0, none⟩) 0 0] 81)).heap.size := by simp
  go_wp2_with fail
  clear hbx hb1
  generalize ((W1.alloc (.cells #[] 35)).alloc (.cells #[.slice ga l.length cap, .int .i64 0, .string ⟨#[]⟩, .slice (some ⟨W1.heap.size, 0, none⟩) 0 0] 81)) = Wx at *
  go_loopw [4] (fun _ wr => Wx = wr) (fun _ _ => 0)
  case atStart => rfl
  case round =>
    obtain rfl := hrel
    obtain ⟨e0, e1, e2, e3⟩ := HX.out.cells
    have y0 := cell_regrown e0
    have y1 := cell_regrown e1
    clear e0 e1 e2 e3
    go_wp2_with fail
    refine wp_region_quiet_below (by kernel_rfl) (by kernel_rfl) ?_
    repeat (go_big_quiet_step (fail))
    refine wpQuiet_nil ?_
    intro _ hw'
    obtain ⟨⟨dq, osq⟩, hw''⟩ := hw'
    subst hw''
    have hbq := below_regrown Wx dq osq
    have hX := HX.out.over hbq hsx
    have hb := hB2.trans (hbq.mono hB2.size)
    clear y0 y1 hbq HX hB2
    generalize grow (redrawn Wx dq) osq = w2 at *
    obtain ⟨e0, e1, e2, e3⟩ := hX.cells
    clear hX e0 e1 e2
    go_wp2
    go_ret
    exact ⟨_, W1.heap.size, rfl, RowsIs.nil _ _ rfl, hwB, hb⟩
/-- the model's ParseProps -/
theorem parseEnv_spec (s : ByteArray) (w : World) (hs : s.size ≤ 1048576) :
    Calls Tryz.prog 39 #[.string s] w (NewRows recS w (propsL s)) := by
  by_cases hl : linesOf s = []
  · have hp : propsL s = [] := by
      unfold propsL
      split
      · rw [hl]; rfl
      · rfl
    rw [hp]
    exact envModel_empty s w hs hl
  · by_cases h6 : s.size ≤ 6000
    · have hp : propsL s = limG (recsP (linesOf s) 0) := by unfold propsL; rw [if_pos h6]
      rw [hp]
      exact envModel_core s w h6 hl
    · have hp : propsL s = [] := by unfold propsL; rw [if_neg h6]
      rw [hp]
      exact envModel_long s w hs (by omega) hl

end Go.Proofs.YtkhkpjnpjgnckaaGreatDoor
