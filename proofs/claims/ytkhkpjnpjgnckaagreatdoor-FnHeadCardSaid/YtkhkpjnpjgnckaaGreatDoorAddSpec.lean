/- A record put behind those that there are: the model's contract of l05Add, where there is room. -/
import Derived.Test.YtkhkpjnpjgnckaaGreatDoorProg
import Derived.Test.YtkhkpjnpjgnckaaGreatDoorPlain
import Derived.Test.YtkhkpjnpjgnckaaGreatDoorLines
import Derived.Test.YtkhkpjnpjgnckaaGreatDoorJoin
import Derived.Test.YtkhkpjnpjgnckaaGreatDoorRows0
import Derived.Test.YtkhkpjnpjgnckaaGreatDoorRecRows
import Derived.Test.YtkhkpjnpjgnckaaGreatDoorRecArg
import Derived.Test.YtkhkpjnpjgnckaaGreatDoorHeadSpec
import Derived.Test.YtkhkpjnpjgnckaaGreatDoorTakeImpl
import Derived.Test.YtkhkpjnpjgnckaaGreatDoorOneEasy
import Derived.WalkKit
import Derived.WalkLawsBesides
import Derived.OwnWalk
import Derived.BigQuiet
import Derived.Deep.QuietTactic
import Derived.Deep.RegionHeld3
import Derived.Deep.AppendLies
import Derived.Deep.RegionLaw
import Derived.Lib.QuietBelow
import Derived.Laws.IdiomStrings
import Derived.Lib.Hide
import Derived.IntWalk
import Derived.Outline
set_option maxRecDepth 100000
namespace Go.Proofs.YtkhkpjnpjgnckaaGreatDoor
open Go.RowKit Go.Sort
set_option linter.unusedVariables false

theorem info_recA : (Tryz.prog.info? 35).map (fun i => (i.zero, i.size, i.bytes)) = some (some (recV noRec), 6, 80) := by kernel_rfl
theorem ReadAt.putAt {w : World} {b : Nat} {lv : Value} {k : Nat} {sec : ByteArray} {ov : Value} (h : ReadAt w b lv k sec ov) (k2 : Nat) (z : Int) (hz : z = (k2 : Int)) : ReadAt (w.setCell ⟨b, 1, none⟩ (.int .i64 z)) b lv k2 sec ov := by
  subst hz
  unfold ReadAt at *
  rw [set_cellR _ b 1 _ _ _ _ h]
  rfl
theorem ReadAt.putOut {w : World} {b : Nat} {lv : Value} {k : Nat} {sec : ByteArray} {ov : Value} (h : ReadAt w b lv k sec ov) (v : Value) : ReadAt (w.setCell ⟨b, 3, none⟩ v) b lv k sec v := by
  unfold ReadAt at *
  rw [set_cellR _ b 3 _ _ _ _ h]
  rfl
theorem RecAt.putSect {w : World} {b : Nat} {x : RecD} (h : RecAt w b x) (v : ByteArray) : RecAt (w.setCell ⟨b, 2, none⟩ (.string v)) b ⟨x.kind, x.raw, v, x.key, x.value, x.line⟩ := by
  unfold RecAt at *
  rw [set_cellR _ b 2 _ _ _ _ h]
  rfl
theorem RecAt.putLine {w : World} {b : Nat} {x : RecD} (h : RecAt w b x) (z : Int) : RecAt (w.setCell ⟨b, 5, none⟩ (.int .i64 z)) b ⟨x.kind, x.raw, x.sect, x.key, x.value, z⟩ := by
  unfold RecAt at *
  rw [set_cellR _ b 5 _ _ _ _ h]
  rfl
theorem ReadAt.kept {w w' : World} {b : Nat} {lv : Value} {k : Nat} {sec : ByteArray} {ov : Value} (h : ReadAt w b lv k sec ov) (hk : w'.heap[b]? = w.heap[b]?) : ReadAt w' b lv k sec ov := by
  unfold ReadAt at *
  rw [hk]
  exact h
theorem RecAt.kept {w w' : World} {b : Nat} {x : RecD} (h : RecAt w b x) (hk : w'.heap[b]? = w.heap[b]?) : RecAt w' b x := by
  unfold RecAt at *
  rw [hk]
  exact h
theorem own_form {w : World} {base e size n : Nat} {v : Value} {xs : List Value} (h : w.ownsRow base e size v n xs) : ∃ a cap, v = .slice a n cap := by
  rcases h.2 with ⟨rfl, h0⟩ | ⟨g, cap, cur, rfl, hb, hg, hnc, hcm, hcs, htake⟩
  · exact ⟨none, 0, by rw [h0]⟩
  · exact ⟨_, _, rfl⟩
theorem own_blockA {w : World} {base e size n : Nat} {v : Value} {xs : List Value} (h : w.ownsRow base e size v n xs) : ∀ j, v.ownBlock = some j → base ≤ j := by
  intro j hj
  rcases h.2 with ⟨rfl, h0⟩ | ⟨g, cap, cur, hv, hb, hg, hnc, hcm, hcs, htake⟩
  · cases hj
  · subst hv; simp only [Value.ownBlock] at hj; cases hj; exact hb
theorem own_ltA {w : World} {base e size n : Nat} {v : Value} {xs : List Value} (h : w.ownsRow base e size v n xs) : ∀ j, v.ownBlock = some j → j < w.heap.size := by
  intro j hj
  rcases h.2 with ⟨rfl, h0⟩ | ⟨g, cap, cur, hv, hb, hg, hnc, hcm, hcs, htake⟩
  · cases hj
  · subst hv; simp only [Value.ownBlock] at hj; cases hj; exact (Array.getElem?_eq_some_iff.1 hg).1
theorem own_belowA {w w' : World} {base e size n : Nat} {v : Value} {xs : List Value} (h : w.ownsRow base e size v n xs) (hb : Below w.heap.size w w') : w'.ownsRow base e size v n xs := by
  refine h.kept (row := none) ⟨hb.os, hb.tape, hb.output, hb.size, fun k hk _ => hb.block k hk⟩ ?_
  cases v.ownBlock with
  | none => exact .inl rfl
  | some _ => exact .inr (by simp)
theorem own_setA {w : World} {base e size n : Nat} {v : Value} {xs : List Value} (h : w.ownsRow base e size v n xs) {g : Nat} (j : Nat) (hg : ∀ i, v.ownBlock = some i → i ≠ g) (u : Value) : (w.setCell ⟨g, j, none⟩ u).ownsRow base e size v n xs := by
  refine h.kept (row := some g) ⟨rfl, rfl, rfl, by simp [World.setCell], fun k hk hn => Below.heap_setCell _ _ _ k (fun e => hn (by rw [e]))⟩ ?_
  cases hv : v.ownBlock with
  | none => exact .inl rfl
  | some i => exact .inr (by intro e; injection e with e; exact hg i hv e)

/-- what l05Add leaves -/
def Added (w : World) (b B : Nat) (lv : Value) (k : Nat) (sec : ByteArray) (out : List RecD) (w' : World) : Prop :=
  ∃ ov, ReadAt w' b lv k sec ov ∧ w'.ownsRow B 35 6 ov out.length (rowCells recS out) ∧ But B b w w' ∧ ∀ i, ov.ownBlock = some i → i ≠ b
set_option maxHeartbeats 3200000 in
theorem add_spec (w : World) (b B k n : Nat) (sec : ByteArray) (g cap : Nat) (l : List Ln) (ov : Value) (out : List RecD) (x : RecD)
    (hX : ReadAt w b (.slice (some ⟨g, 0, none⟩) l.length cap) k sec ov) (hL : LinesRd w (.slice (some ⟨g, 0, none⟩) l.length cap) g 0 l) (hg : g ≠ b) (h1 : 1 ≤ n) (hk : k + n ≤ l.length) (hcap : l.length ≤ cap) (hc : costL l ≤ 1048576)
    (hO : w.ownsRow B 35 6 ov out.length (rowCells recS out)) (hn : out.length < 199) (hro : ∀ i, ov.ownBlock = some i → i ≠ b) (hgB : g < B) (hB : B ≤ w.heap.size) :
    Calls Tryz.prog 61 #[.pointer (some ⟨b, 0, none⟩), recV x, .int .i64 (n : Int)] w fun e w' => e = .returned (.tuple #[]) ∧ Added w b B (.slice (some ⟨g, 0, none⟩) l.length cap) (k + n) sec (out ++ [⟨x.kind, rawI l k n, sec, x.key, x.value, (k : Int) + 1⟩]) w' := by
  obtain ⟨i0, hi, hz0, hz1, hz2⟩ := info_parts info_recA
  have hcc := Nat.le_trans (costL_cut l k n) hc
  have hlen : l.length ≤ 1048576 := by have := joinB_len l; omega
  obtain ⟨oa, ocap, rfl⟩ := own_form hO
  obtain ⟨x0, x1, x2, x3, x4, x5⟩ := x
  unfold recV
  simp only
  have hb0 := (Below.refl w.heap.size w).alloc (Nat.le_refl _) (.cells #[.int .i64 x0, .string x1, .string x2, .string x3, .string x4, .int .i64 x5] 35)
  have HA := Lib.hid (recAt_new w ⟨x0, x1, x2, x3, x4, x5⟩)
  have hroB : ∀ i, (Value.slice oa out.length ocap).ownBlock = some i → B ≤ i := own_blockA hO
  have hroR : ∀ i, (Value.slice oa out.length ocap).ownBlock = some i → i ≠ w.heap.size := fun i hi => Nat.ne_of_lt (own_ltA hO i hi)
  have hbw := hX.lt
  have HX0 := Lib.hid (hX.over hb0 hbw)
  have HL0 := Lib.hid (hL.below hb0 (fun _ => by omega))
  have HO0 := Lib.hid (own_belowA hO hb0)
  have HB0 := Lib.hid (But.of (b := b) (hb0.mono hB))
  have hs0 : w.heap.size < (w.alloc (.cells #[.int .i64 x0, .string x1, .string x2, .string x3, .string x4, .int .i64 x5] 35)).heap.size := by simp
  have hne : ((out.length : Int) == 199) = false := by rw [beq_eq_false_iff_ne]; omega
  clear hX hL hO hb0
  simp only at HA
  go_enter Tryz.func61, Tryz.ntmps61
  go_wp2_with fail
  generalize w.alloc (.cells #[.int .i64 x0, .string x1, .string x2, .string x3, .string x4, .int .i64 x5] 35) = W at *
  generalize hrb : w.heap.size = rb at *
  have n1 : b ≠ rb := by omega
  have n2 : rb ≠ b := by omega
  obtain ⟨e0, e1, e2, e3⟩ := HX0.out.cells
  have y0 := cell_regrown e0
  have y1 := cell_regrown e1
  have y3 := cell_regrown e3
  refine wp_region_quiet_below (by kernel_rfl) (by kernel_rfl) ?_
  repeat (go_big_quiet_step (fail))
  refine wpQuiet_nil ?_
  intro _ hw'
  obtain ⟨⟨dq, osq⟩, hw''⟩ := hw'
  subst hw''
  have hbq := below_regrown W dq osq
  replace HA := Lib.hid (HA.out.over hbq hs0)
  replace HX0 := Lib.hid (HX0.out.over hbq HX0.out.lt)
  replace HL0 := Lib.hid (HL0.out.below hbq (fun _ => by omega))
  replace HO0 := Lib.hid (own_belowA HO0.out hbq)
  replace HB0 := Lib.hid (HB0.out.trans (But.of (hbq.mono (by omega))))
  replace hs0 := Nat.lt_of_lt_of_le hs0 hbq.size
  clear y0 y1 y3 e0 e1 e2 e3 hbq
  generalize grow (redrawn W dq) osq = W1 at *
  have KJ : Hid (Calls Tryz.prog 94 #[.slice (some ⟨g, k * 2, none⟩) n (cap - k)] W1.drew fun e w' => e = .returned (.string (rawI l k n)) ∧ Below W1.heap.size W1 w') := by
    refine (joinLines_spec _ _ g (k * 2) ((l.drop k).take n) (lines_from (HL0.out.below (below_drewN (Below.refl _ _) 1) (fun _ => by omega)) k n hk) hcc (fun _ => by show g < W1.heap.size; omega)).mono ?_
    rintro e w' ⟨rfl, hb⟩
    exact ⟨rfl, (below_drewN (Below.refl _ _) 1).trans hb⟩
  have r0 : ¬ cap = k := by omega
  have r1 : (k : Int) + (n : Int) ≤ (cap : Int) := by omega
  have r2 : (k : Int) ≤ (k : Int) + (n : Int) := by omega
  have r4 : ((k : Int) + (n : Int)).toNat = k + n := by omega
  have r5 : k + n - k = n := by omega
  have r3 : IntKind.i64.wrap ((k : Int) + (n : Int)) = (k : Int) + (n : Int) := IntWalk.i64_in _ (by omega)
  obtain ⟨e0, e1, e2, e3⟩ := HX0.out.cells
  clear e2 e3
  go_wp2_with fail
  go_region_held3 (fun w' => w'.cell? ⟨b, 0, none⟩ = some (.slice (some ⟨g, 0, none⟩) l.length cap) ∧ w'.cell? ⟨b, 1, none⟩ = some (.int .i64 (k : Int)))
    (first | go_keep | exact ⟨p01, p11⟩)
    (((with_reducible refine KJ.out.mono ?_); rintro e w1 ⟨rfl, hb1⟩; have hX1 := HX0.out.over hb1 HX0.out.lt; have hA1 := HA.out.over hb1 hs0; have hO1 := own_belowA HO0.out hb1; have hbb := HB0.out.trans (But.of (hb1.mono (by omega))); have hs1 := Nat.lt_of_lt_of_le hs0 hb1.size; obtain ⟨p01, p11, p21, p31⟩ := hX1.cells; have f1 := hA1.free 1; obtain ⟨a0, a1, a2, a3, a4, a5⟩ := hA1.cells; have HX1 := Lib.hid hX1; have HA1 := Lib.hid hA1; have HO1 := Lib.hid hO1; clear hX1 hA1 hO1))
  have HX2 := Lib.hid (HX1.out.set (g := rb) (j := 1) n2 (.string (rawI l k n)))
  have HA2 := Lib.hid (HA1.out.putRaw (rawI l k n))
  have HO2 := Lib.hid (own_setA HO1.out (g := rb) 1 hroR (.string (rawI l k n)))
  have HU2 := Lib.hid (hbb.put rb 1 (.inl (by omega)) (.string (rawI l k n)))
  have hs2 : rb < (w1.setCell ⟨rb, 1, none⟩ (.string (rawI l k n))).heap.size := by simpa [World.setCell] using hs1
  clear HX1 HA1 HO1 hbb p01 p11 p21 p31 f1 a0 a1 a2 a3 a4 a5 hb1 r0 r1 r2 r4 r5 e0 e1 HX0 HA HO0 HL0 HB0 hs0 hs1 KJ
  generalize w1.setCell ⟨rb, 1, none⟩ (.string (rawI l k n)) = W2 at *
  generalize hraw : rawI l k n = raw at *
  have HRAW := Lib.hid hraw
  clear hraw
  simp only at HA2
  obtain ⟨p0, p1, p2, p3⟩ := HX2.out.cells
  obtain ⟨a0, a1, a2, a3, a4, a5⟩ := HA2.out.cells
  simp only at a0 a1 a2 a3 a4 a5
  have f2 := HA2.out.free 2
  have f5 := HA2.out.free 5
  have hkk : (k : Int) + (n : Int) ≤ 2000000 := by omega
  have hk0 : (k : Int) ≤ 2000000 := by omega
  go_wp2_with fail
  have HX3 := Lib.hid ((HX2.out.set (g := rb) (j := 2) n2 (.string sec)).set (g := rb) (j := 5) n2 (.int .i64 ((k : Int) + 1)))
  have HA3 := Lib.hid ((HA2.out.putSect sec).putLine ((k : Int) + 1))
  have HO3 := Lib.hid (own_setA (own_setA HO2.out (g := rb) 2 hroR (.string sec)) (g := rb) 5 hroR (.int .i64 ((k : Int) + 1)))
  have HU3 := Lib.hid ((HU2.out.put rb 2 (.inl (by omega)) (.string sec)).put rb 5 (.inl (by omega)) (.int .i64 ((k : Int) + 1)))
  have hs3 : rb < ((W2.setCell ⟨rb, 2, none⟩ (.string sec)).setCell ⟨rb, 5, none⟩ (.int .i64 ((k : Int) + 1))).heap.size := by simpa [World.setCell] using hs2
  simp only at HA3
  clear HX2 HA2 HO2 HU2 hs2 p0 p1 p2 p3 a0 a1 a2 a3 a4 a5 f2 f5
  generalize (W2.setCell ⟨rb, 2, none⟩ (.string sec)).setCell ⟨rb, 5, none⟩ (.int .i64 ((k : Int) + 1)) = W3 at *
  obtain ⟨p0, p1, p2, p3⟩ := HX3.out.cells
  clear p0 p1 p2
  obtain ⟨a0, a1, a2, a3, a4, a5⟩ := HA3.out.cells
  simp only at a0 a1 a2 a3 a4 a5
  have pa3 := (HX3.out.over ((Below.refl W3.heap.size W3).alloc (Nat.le_refl _) (.cells #[.int .i64 x0, .string raw, .string sec, .string x3, .string x4, .int .i64 ((k : Int) + 1)] 35)) HX3.out.lt).cells.2.2.2
  go_region_law ((refine step_append_lies _ (by rfl) _ _ _ (by rfl) B 35 i0 (recV noRec) 6 80 Tryz.underlying32 hi hz0 hz1 hz2 rfl (by omega) _ _ _ (by rfl) ((HO3.out.alloc _).drew) ⟨W3.heap.size, 0, none⟩ 1 1 [.int .i64 x0, .string raw, .string sec, .string x3, .string x4, .int .i64 ((k : Int) + 1)] (by rfl) (by rfl) (World.news_of_block (cs := #[.int .i64 x0, .string raw, .string sec, .string x3, .string x4, .int .i64 ((k : Int) + 1)]) (t := 35) (fr := (0, 0)) (heap_alloc_new W3 _)) (by simp [Value.oneCell']) (by omega) (by unfold maxLen; omega) (by omega) (by simp; omega) (W3.heap.size + 1) (by simp) ?_; intro gg cp w4 hown4 hgrow hat hlt4; have hbw4 : Below B W3 w4 := Below.grown ((Below.refl B W3).alloc (by omega) (.cells #[.int .i64 x0, .string raw, .string sec, .string x3, .string x4, .int .i64 ((k : Int) + 1)] 35)) ⟨hgrow.os, hgrow.tape, hgrow.output, hgrow.size, hgrow.block⟩ (by simp; omega) hroB; have hX4 := HX3.out.kept ((hgrow.block b (by have := HX3.out.lt; simp; omega) (fun e => hro b e.symm rfl)).trans (Below.heap_alloc _ _ _ HX3.out.lt)); have hA4 := HA3.out.kept ((hgrow.block rb (by simp; omega) (fun e => hroR rb e.symm rfl)).trans (Below.heap_alloc _ _ _ hs3)); obtain ⟨s0, s1, s2, s3⟩ := hX4.cells; obtain ⟨m0, m1, m2, m3, m4, m5⟩ := hA4.cells; simp only at m0 m1 m2 m3 m4 m5; have f3 := hX4.free 3; have HX4 := Lib.hid hX4; have HU4 := Lib.hid (HU3.out.trans (But.of (b := b) hbw4)); have HO4 := Lib.hid hown4; clear hX4 hA4))
  all_goals
    have f1 := HX4.out.free 1
    have hrw : w4.ownsRow B 35 6 (.slice (some ⟨gg, 0, none⟩) (out.length + 1) cp) (out ++ [(⟨x0, raw, sec, x3, x4, (k : Int) + 1⟩ : RecD)]).length (rowCells recS (out ++ [⟨x0, raw, sec, x3, x4, (k : Int) + 1⟩])) := by
      rw [rowCells_append, rowCells_single, List.length_append]
      exact HO4.out
    have hnb : ∀ i, (Value.slice (some ⟨gg, 0, none⟩) (out.length + 1) cp).ownBlock = some i → i ≠ b := fun i hi => by rcases hat with h | h; exact hro i (h.trans (by simpa [Value.ownBlock] using hi)); simp only [Value.ownBlock, Option.some.injEq] at hi; have := HX3.out.lt; omega
    have HR := Lib.hid hrw
    have HNB := Lib.hid hnb
    clear hrw hnb hown4
    go_wp2
    go_end0
    refine ⟨rfl, ?_⟩
    rw [HRAW.out]
    exact ⟨_, (HX4.out.putOut _).putAt (k + n) _ (by omega), own_setA (own_setA HR.out (g := b) 3 HNB.out _) (g := b) 1 HNB.out _, (HU4.out.put b 3 (.inr rfl) _).put b 1 (.inr rfl) _, HNB.out⟩

end Go.Proofs.YtkhkpjnpjgnckaaGreatDoor
