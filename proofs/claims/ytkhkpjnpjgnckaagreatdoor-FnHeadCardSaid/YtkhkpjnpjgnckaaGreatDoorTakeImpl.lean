/- A record completed: the program's take. -/
import Derived.Test.YtkhkpjnpjgnckaaGreatDoorProg
import Derived.Test.YtkhkpjnpjgnckaaGreatDoorPlain
import Derived.Test.YtkhkpjnpjgnckaaGreatDoorDialectRows
import Derived.Test.YtkhkpjnpjgnckaaGreatDoorRecRows
import Derived.Test.YtkhkpjnpjgnckaaGreatDoorRecArg
import Derived.Test.YtkhkpjnpjgnckaaGreatDoorLines
import Derived.Test.YtkhkpjnpjgnckaaGreatDoorJoin
import Derived.Test.YtkhkpjnpjgnckaaGreatDoorHeadSpec
import Derived.Test.YtkhkpjnpjgnckaaGreatDoorRecOf
import Derived.WalkKit
import Derived.WalkLawsBesides
import Derived.Deep.RegionHeld3
import Derived.Deep.AppendLies
import Derived.Laws.IdiomStrings
import Derived.Lib.Hide
import Derived.Lib.BufferOwn
import Derived.Lib.BufferWrite
import Derived.IntWalk
import Derived.Outline
set_option maxRecDepth 100000
namespace Go.Proofs.YtkhkpjnpjgnckaaGreatDoor
open Go.RowKit
set_option linter.unusedVariables false

theorem recAt_new (w : World) (x : RecD) : RecAt (w.alloc (.cells #[.int .i64 x.kind, .string x.raw, .string x.sect, .string x.key, .string x.value, .int .i64 x.line] 35)) w.heap.size x := heap_alloc_new _ _
theorem costL_drop (l : List Ln) (k : Nat) : costL (l.drop k) ≤ costL l := by
  induction l generalizing k with
  | nil => simp
  | cons x l ih =>
    cases k with
    | zero => simp
    | succ k =>
      have := ih k
      simp only [List.drop_succ_cons, costL, List.length_cons, List.map_cons, List.sum_cons] at *
      omega
theorem costL_cut (l : List Ln) (k n : Nat) : costL ((l.drop k).take n) ≤ costL l := by
  by_cases h : n ≤ (l.drop k).length
  · have h1 := costL_take (l.drop k) n h
    have h2 := costL_drop l k
    omega
  · rw [List.take_of_length_le (by omega)]
    exact costL_drop l k
/-- lines from a place on -/
theorem lines_from {w : World} {g n cap : Nat} {l : List Ln} (h : LinesRd w (.slice (some ⟨g, 0, none⟩) l.length n) g 0 l) (k c : Nat) (hk : k + c ≤ l.length) : LinesRd w (.slice (some ⟨g, k * 2, none⟩) c cap) g (k * 2) ((l.drop k).take c) := by
  have hl : ((l.drop k).take c).length = c := by rw [List.length_take, List.length_drop]; omega
  refine ⟨⟨some ⟨g, k * 2, none⟩, cap, by rw [hl], fun _ => rfl⟩, fun i hi => ?_, fun i hi => ?_⟩
  · have := h.c0 (k + i) (by omega)
    rw [Nat.zero_add, Nat.add_mul] at this
    rw [this]
    simp
  · have := h.c1 (k + i) (by omega)
    rw [Nat.zero_add, Nat.add_mul] at this
    rw [this]
    simp
theorem PA.set {w : World} {b g j : Nat} {d : DialectD} {lv : Value} {k : Nat} {sec : ByteArray} (h : PA w b d lv k sec) (hne : b ≠ g) (v : Value) : PA (w.setCell ⟨g, j, none⟩ v) b d lv k sec :=
  h.kept (Below.heap_setCell _ _ _ b hne)
theorem PA.putAt {w : World} {b : Nat} {d : DialectD} {lv : Value} {k : Nat} {sec : ByteArray} (h : PA w b d lv k sec) (k2 : Nat) (z : Int) (hz : z = (k2 : Int)) : PA (w.setCell ⟨b, 7, none⟩ (.int .i64 z)) b d lv k2 sec := by
  subst hz
  unfold PA at *
  rw [set_cellR _ b 7 _ _ _ _ h]
  rfl
theorem PA.putSec {w : World} {b : Nat} {d : DialectD} {lv : Value} {k : Nat} {sec : ByteArray} (h : PA w b d lv k sec) (v : ByteArray) : PA (w.setCell ⟨b, 8, none⟩ (.string v)) b d lv k v := by
  unfold PA at *
  rw [set_cellR _ b 8 _ _ _ _ h]
  rfl
theorem RecAt.set {w : World} {b g j : Nat} {x : RecD} (h : RecAt w b x) (hne : b ≠ g) (v : Value) : RecAt (w.setCell ⟨g, j, none⟩ v) b x := by
  unfold RecAt at *
  rw [Below.heap_setCell _ _ _ b hne]
  exact h
theorem RecAt.putRaw {w : World} {b : Nat} {x : RecD} (h : RecAt w b x) (v : ByteArray) : RecAt (w.setCell ⟨b, 1, none⟩ (.string v)) b ⟨x.kind, v, x.sect, x.key, x.value, x.line⟩ := by
  unfold RecAt at *
  rw [set_cellR _ b 1 _ _ _ _ h]
  rfl
/-- nothing below B but block b has turned -/
structure But (B b : Nat) (w w' : World) : Prop where
  os : w'.os = w.os
  tape : w'.tape = w.tape
  output : w'.output = w.output
  size : w.heap.size ≤ w'.heap.size
  block : ∀ k, k < B → k ≠ b → w'.heap[k]? = w.heap[k]?
theorem But.of {B b : Nat} {w w' : World} (h : Below B w w') : But B b w w' := ⟨h.os, h.tape, h.output, h.size, fun k hk _ => h.block k hk⟩
theorem But.trans {B b : Nat} {w w' w2 : World} (h : But B b w w') (k : But B b w' w2) : But B b w w2 := ⟨k.os.trans h.os, k.tape.trans h.tape, k.output.trans h.output, Nat.le_trans h.size k.size, fun i hi hn => (k.block i hi hn).trans (h.block i hi hn)⟩
theorem But.mono {B C b : Nat} {w w' : World} (h : But B b w w') (hc : C ≤ B) : But C b w w' := ⟨h.os, h.tape, h.output, h.size, fun k hk hn => h.block k (by omega) hn⟩
theorem But.put {B b : Nat} {w w' : World} (h : But B b w w') (g j : Nat) (hg : B ≤ g ∨ g = b) (v : Value) : But B b w (w'.setCell ⟨g, j, none⟩ v) :=
  h.trans ⟨rfl, rfl, rfl, by simp [World.setCell], fun k hk hn => Below.heap_setCell _ _ _ _ (by rcases hg with h | h <;> (simp only; omega))⟩
theorem But.below {B b : Nat} {w w' : World} (h : But B b w w') (hb : B ≤ b) : Below B w w' := ⟨h.os, h.tape, h.output, h.size, fun k hk => h.block k hk (by omega)⟩
/-- the text of some lines -/
def rawI (l : List Ln) (k c : Nat) : ByteArray := ⟨(joinB ((l.drop k).take c)).toArray⟩

set_option maxHeartbeats 1600000 in
theorem take_impl (d : DialectD) (w : World) (b : Nat) (k c : Nat) (sec : ByteArray) (g : Nat) (l : List Ln) (x : RecD)
    (hX : PA w b d (.slice (some ⟨g, 0, none⟩) l.length l.length) k sec) (hL : LinesRd w (.slice (some ⟨g, 0, none⟩) l.length l.length) g 0 l) (hg : g ≠ b) (h1 : 1 ≤ c) (hk : k + c ≤ l.length) (hc : costL l ≤ 1048576) :
    Calls Tryz.prog 83 #[.pointer (some ⟨b, 0, none⟩), .int .i64 (c : Int), recV x] w fun e w' =>
      e = .returned (recV ⟨x.kind, rawI l k c, x.sect, x.key, x.value, (k : Int) + 1⟩) ∧ PA w' b d (.slice (some ⟨g, 0, none⟩) l.length l.length) (k + c) x.sect ∧ But w.heap.size b w w' := by
  have hcc := Nat.le_trans (costL_cut l k c) hc
  have hlen : l.length ≤ 1048576 := by have := joinB_len l; omega
  have hgl : g < w.heap.size := hL.lt (by intro e; subst e; simp at hk; omega)
  have hbl := hX.lt
  obtain ⟨x0, x1, x2, x3, x4, x5⟩ := x
  unfold recV
  simp only
  have hb0 := ((Below.refl w.heap.size w).alloc (Nat.le_refl _) (.cells #[.int .i64 x0, .string x1, .string x2, .string x3, .string x4, .int .i64 x5] 35)).alloc (by simp) (.cells #[.int .i64 0, .string ⟨#[]⟩, .string ⟨#[]⟩, .string ⟨#[]⟩, .string ⟨#[]⟩, .int .i64 0] 35)
  have hA := (recAt_new w ⟨x0, x1, x2, x3, x4, x5⟩).over ((Below.refl _ _).alloc (Nat.le_refl _) (.cells #[.int .i64 0, .string ⟨#[]⟩, .string ⟨#[]⟩, .string ⟨#[]⟩, .string ⟨#[]⟩, .int .i64 0] 35)) (by simp)
  have hB : RecAt ((w.alloc (.cells #[.int .i64 x0, .string x1, .string x2, .string x3, .string x4, .int .i64 x5] 35)).alloc (.cells #[.int .i64 0, .string ⟨#[]⟩, .string ⟨#[]⟩, .string ⟨#[]⟩, .string ⟨#[]⟩, .int .i64 0] 35)) (w.heap.size + 1) noRec := by
    have := recAt_new (w.alloc (.cells #[.int .i64 x0, .string x1, .string x2, .string x3, .string x4, .int .i64 x5] 35)) noRec
    rw [World.size_alloc] at this
    exact this
  simp only at hA
  have hX0 := hX.over hb0
  have hL0 := hL.below hb0 (fun _ => hgl)
  have hs0 : w.heap.size + 1 < ((w.alloc (.cells #[.int .i64 x0, .string x1, .string x2, .string x3, .string x4, .int .i64 x5] 35)).alloc (.cells #[.int .i64 0, .string ⟨#[]⟩, .string ⟨#[]⟩, .string ⟨#[]⟩, .string ⟨#[]⟩, .int .i64 0] 35)).heap.size := by simp
  have HX0 := Lib.hid hX0
  have HL0 := Lib.hid hL0
  have HA := Lib.hid hA
  have HB := Lib.hid hB
  have HB0 := Lib.hid hb0
  have HS0 := Lib.hid hs0
  have KJ : Hid (Calls Tryz.prog 117 #[.slice (some ⟨g, k * 2, none⟩) c (l.length - k)] ((w.alloc (.cells #[.int .i64 x0, .string x1, .string x2, .string x3, .string x4, .int .i64 x5] 35)).alloc (.cells #[.int .i64 0, .string ⟨#[]⟩, .string ⟨#[]⟩, .string ⟨#[]⟩, .string ⟨#[]⟩, .int .i64 0] 35)).drew fun e w' => e = .returned (.string (rawI l k c)) ∧ Below ((w.alloc (.cells #[.int .i64 x0, .string x1, .string x2, .string x3, .string x4, .int .i64 x5] 35)).alloc (.cells #[.int .i64 0, .string ⟨#[]⟩, .string ⟨#[]⟩, .string ⟨#[]⟩, .string ⟨#[]⟩, .int .i64 0] 35)).heap.size ((w.alloc (.cells #[.int .i64 x0, .string x1, .string x2, .string x3, .string x4, .int .i64 x5] 35)).alloc (.cells #[.int .i64 0, .string ⟨#[]⟩, .string ⟨#[]⟩, .string ⟨#[]⟩, .string ⟨#[]⟩, .int .i64 0] 35)) w') := by
    refine (joinLines_impl _ _ g (k * 2) ((l.drop k).take c) (lines_from (hL0.below (below_drewN (Below.refl _ _) 1) (fun _ => hL0.lt (by intro e; subst e; simp at hk; omega))) k c hk) hcc (fun _ => hL0.lt (by intro e; subst e; simp at hk; omega))).mono ?_
    rintro e w' ⟨rfl, hb⟩
    exact ⟨rfl, (below_drewN (Below.refl _ _) 1).trans hb⟩
  clear hX0 hL0 hA hB hb0 hs0 hX hL hcc HL0
  have r0 : ¬ l.length = k := by omega
  have r1 : (k : Int) + (c : Int) ≤ (l.length : Int) := by omega
  have r2 : (k : Int) ≤ (k : Int) + (c : Int) := by omega
  have r4 : ((k : Int) + (c : Int)).toNat = k + c := by omega
  have r5 : k + c - k = c := by omega
  have n1 : b ≠ w.heap.size := by omega
  have n2 : w.heap.size ≠ b := by omega
  have n3 : b ≠ w.heap.size + 1 := by omega
  have n4 : w.heap.size + 1 ≠ b := by omega
  have r3 : IntKind.i64.wrap ((k : Int) + (c : Int)) = (k : Int) + (c : Int) := IntWalk.i64_in _ (by omega)
  go_enter Tryz.func83, Tryz.ntmps83
  go_wp2_with fail
  generalize ((w.alloc (.cells #[.int .i64 x0, .string x1, .string x2, .string x3, .string x4, .int .i64 x5] 35)).alloc (.cells #[.int .i64 0, .string ⟨#[]⟩, .string ⟨#[]⟩, .string ⟨#[]⟩, .string ⟨#[]⟩, .int .i64 0] 35)) = W at *
  obtain ⟨p0, p1, p2, p3, p4, p5, p6, p7, p8⟩ := HX0.out.cells
  clear p0 p1 p2 p3 p4 p5 p8
  go_region_held3 (fun w' => w'.cell? ⟨b, 6, none⟩ = some (.slice (some ⟨g, 0, none⟩) l.length l.length) ∧ w'.cell? ⟨b, 7, none⟩ = some (.int .i64 (k : Int)))
    (first | go_keep | exact ⟨p61, p71⟩)
    (((with_reducible refine KJ.out.mono ?_); rintro e w1 ⟨rfl, hb1⟩; have hX1 := HX0.out.over hb1; have hA1 := HA.out.over hb1 (by have := HS0.out; omega); have hB1 := HB.out.over hb1 HS0.out; have hbb := HB0.out.trans (hb1.mono HB0.out.size); obtain ⟨q0, q1, q2, q3, q4, q5, p61, p71, q8⟩ := hX1.cells; have f1 := hA1.free 1; obtain ⟨a0, a1, a2, a3, a4, a5⟩ := hA1.cells; have HX1 := Lib.hid hX1; have HA1 := Lib.hid hA1; have HB1 := Lib.hid hB1; clear hX1 hA1 hB1))
  have HX2 := Lib.hid (HX1.out.set (g := w.heap.size) (j := 1) n1 (.string (rawI l k c)))
  have HA2 := Lib.hid (HA1.out.putRaw (rawI l k c))
  have HB2 := Lib.hid (HB1.out.set (g := w.heap.size) (j := 1) (by omega) (.string (rawI l k c)))
  have HU2 := Lib.hid ((But.of (b := b) hbb).put w.heap.size 1 (.inl (Nat.le_refl _)) (.string (rawI l k c)))
  clear HX1 HA1 HB1 hbb q0 q1 q2 q3 q4 q5 p61 p71 q8 f1 a0 a1 a2 a3 a4 a5 hb1 r0 r1 r2 r4 r5 p6 p7 HX0 HA HB HB0 HS0 KJ
  generalize w1.setCell ⟨w.heap.size, 1, none⟩ (.string (rawI l k c)) = W2 at *
  generalize hraw : rawI l k c = raw at *
  have HRAW := Lib.hid hraw
  clear hraw
  simp only at HA2
  obtain ⟨p0, p1, p2, p3, p4, p5, p6, p7, p8⟩ := HX2.out.cells
  obtain ⟨a0, a1, a2, a3, a4, a5⟩ := HA2.out.cells
  obtain ⟨b0, b1, b2, b3, b4, b5⟩ := HB2.out.cells
  simp only [noRec] at a0 a1 a2 a3 a4 a5 b0 b1 b2 b3 b4 b5
  have fa := HA2.out.free 5
  have fb7 := HX2.out.free 7
  have fb8 := HX2.out.free 8
  have fc0 := HB2.out.free 0
  have fc1 := HB2.out.free 1
  have fc2 := HB2.out.free 2
  have fc3 := HB2.out.free 3
  have fc4 := HB2.out.free 4
  have fc5 := HB2.out.free 5
  have hkk : (k : Int) + (c : Int) ≤ 2000000 := by omega
  have hk0 : (k : Int) ≤ 2000000 := by omega
  go_wp2
  (try simp only [Exit.inBlock, Exit.then])
  refine bodyPost_ret (rec_result _ (w.heap.size + 1) _ _ _ _ rfl rfl ((((HB2.out.set (g := w.heap.size) (j := 5) (by omega) _).set (g := b) (j := 7) n4 _).set (g := b) (j := 8) n4 _).put6 _ _ _ _ _ _)) rfl ⟨by rw [HRAW.out]; rfl, ?_, ?_⟩
  · exact ((((((((HX2.out.set (g := w.heap.size) (j := 5) n1 _).putAt (k + c) _ (by omega)).putSec x2).set (j := 0) n3 _).set (j := 1) n3 _).set (j := 2) n3 _).set (j := 3) n3 _).set (j := 4) n3 _).set (j := 5) n3 _
  · exact (((((((((HU2.out.put w.heap.size 5 (.inl (Nat.le_refl _)) _).put b 7 (.inr rfl) _).put b 8 (.inr rfl) _).put (w.heap.size + 1) 0 (.inl (Nat.le_succ _)) _).put (w.heap.size + 1) 1 (.inl (Nat.le_succ _)) _).put (w.heap.size + 1) 2 (.inl (Nat.le_succ _)) _).put (w.heap.size + 1) 3 (.inl (Nat.le_succ _)) _).put (w.heap.size + 1) 4 (.inl (Nat.le_succ _)) _).put (w.heap.size + 1) 5 (.inl (Nat.le_succ _)) _)

end Go.Proofs.YtkhkpjnpjgnckaaGreatDoor
