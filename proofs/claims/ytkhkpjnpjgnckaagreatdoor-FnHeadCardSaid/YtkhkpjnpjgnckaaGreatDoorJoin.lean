/- Lines put together: the contracts of JoinLines, the model's and the program's. -/
import Derived.Test.YtkhkpjnpjgnckaaGreatDoorProg
import Derived.Test.YtkhkpjnpjgnckaaGreatDoorPlain
import Derived.Test.YtkhkpjnpjgnckaaGreatDoorTexts
import Derived.Test.YtkhkpjnpjgnckaaGreatDoorLines
import Derived.Test.YtkhkpjnpjgnckaaGreatDoorSplitSpec
import Derived.Test.YtkhkpjnpjgnckaaGreatDoorBuild
import Derived.WalkKit
import Derived.WalkLawsBesides
import Derived.OwnWalk
import Derived.Lib.AppendStr
import Derived.Laws.IdiomStrings
import Derived.Deep.RegionHeld3
import Derived.Deep.AppendLies
import Derived.Lib.Hide
import Derived.IntWalk
namespace Go.Proofs.YtkhkpjnpjgnckaaGreatDoor
open Go.RowKit
set_option linter.unusedVariables false

/-- the bytes of lines put together -/
def joinB (l : List Ln) : List UInt8 := l.flatMap (fun x => x.1.data.toList ++ x.2.data.toList)
theorem joinB_append (a b : List Ln) : joinB (a ++ b) = joinB a ++ joinB b := by simp [joinB]
theorem joinB_take_succ (l : List Ln) (k : Nat) (h : k < l.length) : joinB (l.take (k + 1)) = joinB (l.take k) ++ l[k].1.data.toList ++ l[k].2.data.toList := by
  rw [List.take_succ_eq_append_getElem h, joinB_append]
  simp [joinB]
theorem joinB_len (l : List Ln) : (joinB l).length + l.length = costL l := by
  induction l with
  | nil => rfl
  | cons x l ih =>
    have h1 := Lib.size_eq x.1
    have h2 := Lib.size_eq x.2
    simp only [joinB, List.flatMap_cons, List.length_append, costL, List.map_cons, List.sum_cons, List.length_cons] at *
    omega
theorem joinB_take_len (l : List Ln) (k : Nat) (h : k ≤ l.length) : (joinB (l.take k)).length ≤ costL l := by
  have h1 := joinB_len (l.take k)
  have h2 := costL_take l k h
  omega
theorem joinB_is (l : List Ln) : joinB l = joinL (l.map ofB) := by
  simp [joinB, joinL, ofB, List.flatMap_map]

theorem step_append_string {P : Program} (w : World) {ops : Array Oper} {o : Oper} {a : Act} {K : Act → World → Prop} {Q : Exit → Act → World → Prop} {E : Prop} (hgd : o.guard = none) (sl x : Operand) (t u : TypeId)
    (ho : o.op = .call { callee := .builtin .append, args := #[sl, x], argTypes := #[t, u] })
    (base : Nat) (e : TypeId) (i : TypeInfo) (ht : P.underlying t = some (.slice e)) (hu : P.underlying u = some .string) (hi : P.info? e = some i) (hz : i.zero = some (.int .u8 0))
    (hsize : i.size = 1) (hby : i.bytes = 1)
    (v : Value) (n : Nat) (xs : List Value) (hs : a.eval sl = v) (hown : w.ownsRow base e 1 v n xs) (s : ByteArray) (hx : a.eval x = .string s)
    (h63 : n + s.size ≤ maxLen) (hbytes : n + s.size ≤ 140737488355328) (hbase : base ≤ w.heap.size)
    (h : ∀ v' w', w'.ownsRow base e 1 v' (n + s.size) (xs ++ Lib.strCells s) → w.grownBy w' v.ownBlock → K (a.put o.dst v') w') :
    if Region.wanted o (yielded ops a.tmps) = true then Oper.wp P o a w K Q else E := by
  have hw : Region.wanted o (yielded ops a.tmps) = true := by simp [Region.wanted, hgd]
  rw [if_pos hw]
  obtain ⟨v', w', hr, h2, h3, h4⟩ := Lib.run_append_own_string (P := P) w base t u o.type e i ht hu hi hz hsize hby v n xs hown s h63 hbytes hbase
  unfold Oper.wp execOp
  simp only [ho, resolve, invoke, builtin, Sem.run_bind, Sem.run_pure, Result.andThen_ok, List.map_toArray, List.map_cons, List.map_nil, hs, hx, hr]
  exact h v' w' h2 h3

theorem own_low {w : World} {base e size n : Nat} {v : Value} {xs : List Value} {g : Nat} (h : w.ownsRow base e size v n xs) (hg : g < base) : some g ≠ v.ownBlock := fun e => by
  have := own_blockL h g e.symm
  omega

/-- a slice of bytes of the call's own, as a text -/
theorem text_of_own (w : World) (base n : Nat) (v : Value) (l : List UInt8) (h : w.ownsRow base 5 1 v n (Lib.byteCells l)) (hn : n = l.length) :
    (convert 22 9 v).run Tryz.prog w = .ok (.string ⟨l.toArray⟩) w := by
  subst hn
  rcases h.2 with ⟨hv, h0⟩ | ⟨g, cap, cur, hv, hb, hg, hnc, hcm, hcs, htake⟩
  · have hl : l = [] := List.eq_nil_of_length_eq_zero h0
    subst hl
    subst hv
    rw [run_convert_bytes_string w 22 9 5 none 0 0 Tryz.underlying22 Tryz.underlying5 Tryz.underlying9]
    rfl
  · subst hv
    refine run_convert_bytes_back w 22 9 5 ⟨g, 0, none⟩ cap l Tryz.underlying22 Tryz.underlying5 Tryz.underlying9 (fun j hj => ?_)
    refine World.ownsRow.cells h (g := g) rfl j _ ?_
    simp [Lib.byteCells, hj]

set_option maxRecDepth 100000 in
set_option maxHeartbeats 3200000 in
theorem joinLines_spec (w : World) (u : Value) (g o : Nat) (l : List Ln) (hu : LinesRd w u g o l) (hl : costL l ≤ 1048576) (hg : l ≠ [] → g < w.heap.size) :
    Calls Tryz.prog 94 #[u] w fun e w' => e = .returned (.string ⟨(joinB l).toArray⟩) ∧ Below w.heap.size w w' := by
  obtain ⟨i0, hi, hz0, hz1, hz2⟩ := info_parts info_byteB
  obtain ⟨a, cap, rfl, ha⟩ := hu.form
  have hll : l.length ≤ 1048576 := by have := joinB_len l; omega
  have CU := Lib.hid hu
  have HA := Lib.hid ha
  clear hu ha
  go_enter Tryz.func94, Tryz.ntmps94
  go_wp2
  go_loopw [3, 4] (fun v i wr => ∃ (k n : Nat), k ≤ l.length ∧ i = .int .i64 k ∧ n ≤ 1048576 ∧ Hid (n = (joinB (l.take k)).length) ∧ wr.ownsRow w.heap.size 5 1 v n (Lib.byteCells (joinB (l.take k))) ∧ Below w.heap.size w wr) (fun _ i _ => l.length - (intOf i).toNat)
  case atStart => exact ⟨0, 0, Nat.zero_le _, rfl, Nat.zero_le _, rfl, World.ownsRow_lit w #[] 0 (Nat.le_refl _) (Nat.zero_le _) rfl, (Below.refl _ _).alloc (Nat.le_refl _) _⟩
  case round =>
    obtain ⟨k, n, hk, rfl, hn, hnl, hown, hb⟩ := hrel
    have hsz := hb.size
    by_cases hlt : k < l.length
    · have hln : l ≠ [] := by intro e; subst e; simp at hlt
      obtain rfl := HA.out hln
      have hgl := hg hln
      have q1 := (hb.cell (p := ⟨g, o + k * 2, none⟩) hgl).trans (CU.out.c0 k hlt)
      have q2 := (hb.cell (p := ⟨g, o + k * 2 + 1, none⟩) hgl).trans (CU.out.c1 k hlt)
      have hj := Lib.hid (joinB_take_succ l k hlt)
      have hjl := joinB_take_len l (k + 1) (by omega)
      rw [hj.out] at hjl
      simp only [List.length_append, ← Lib.size_eq] at hjl
      rw [← hnl.out] at hjl
      generalize l[k] = x at *
      obtain ⟨x1, x2⟩ := x
      simp only at hjl
      have r1 : (0 : Int) ≤ (k : Int) := by omega
      have r2 : (k : Int) < (l.length : Int) := by omega
      go_wp2_with fail
      go_region_held3 (fun w' => w'.cell? ⟨g, o + k * 2, none⟩ = some (.string x1) ∧ w'.cell? ⟨g, o + k * 2 + 1, none⟩ = some (.string x2))
        (first
          | go_keep
          | (go_split_ands
             refine ⟨?_, ?_⟩
             · (rw [hgrow2.cell_far _ (by have := hgrow1.size; simp at *; omega) (own_low hown1 hgl)]; assumption)
             · (rw [hgrow2.cell_far _ (by have := hgrow1.size; simp at *; omega) (own_low hown1 hgl)]; assumption))
          | (go_split_ands
             refine ⟨?_, ?_⟩
             · (rw [hgrow1.cell_far _ (by simp; omega) (own_low hown hgl)]; assumption)
             · (rw [hgrow1.cell_far _ (by simp; omega) (own_low hown hgl)]; assumption)))
        (first
          | (refine step_append_string _ (by rfl) _ _ 22 9 (by rfl) w.heap.size 5 i0 Tryz.underlying22 Tryz.underlying9 hi hz0 hz1 hz2 _ _ _ (by rfl) hown.drew x1 (by rfl) (by unfold maxLen; omega) (by omega) (by simp; omega) ?_; intro v1 w1 hown1 hgrow1)
          | (refine step_append_string _ (by rfl) _ _ 22 9 (by rfl) w.heap.size 5 i0 Tryz.underlying22 Tryz.underlying9 hi hz0 hz1 hz2 _ _ _ (by rfl) hown1 x2 (by rfl) (by unfold maxLen; omega) (by omega) (by have := hgrow1.size; simp at *; omega) ?_; intro v2 w2 hown2 hgrow2))
      have hb2 : Below w.heap.size w w2 := (hb.drew.grown hgrow1 (by simp; omega) (own_blockL hown)).grown hgrow2 (by have := hgrow1.size; simp at this; omega) (own_blockL hown1)
      have ho2 : w2.ownsRow w.heap.size 5 1 v2 (n + x1.size + x2.size) (Lib.byteCells (joinB (l.take (k + 1)))) := by
        rw [hj.out]
        rw [strCells_eq, strCells_eq] at hown2
        simpa [Lib.byteCells] using hown2
      have hn2 : Hid (n + x1.size + x2.size = (joinB (l.take (k + 1))).length) := by
        unfold Hid
        rw [hj.out, List.length_append, List.length_append, ← Lib.size_eq, ← Lib.size_eq, hnl.out]
      clear hown hown1 hown2 hgrow1 hgrow2 hb hj hnl q1 q2
      go_wp2
      go_roundw
      case rel => exact ⟨k + 1, n + x1.size + x2.size, by omega, by go_num, by omega, hn2, ho2, hb2⟩
      case measure => simp [intOf]; omega
    · obtain rfl : k = l.length := by omega
      rw [List.take_length] at hown hnl
      have hcv := text_of_own wr w.heap.size n _ (joinB l) hown hnl.out
      clear hown hnl
      go_wp2
      go_ret
      exact ⟨rfl, hb⟩

set_option maxRecDepth 100000 in
set_option maxHeartbeats 3200000 in
theorem joinLines_impl (w : World) (u : Value) (g o : Nat) (l : List Ln) (hu : LinesRd w u g o l) (hl : costL l ≤ 1048576) (hg : l ≠ [] → g < w.heap.size) :
    Calls Tryz.prog 117 #[u] w fun e w' => e = .returned (.string ⟨(joinB l).toArray⟩) ∧ Below w.heap.size w w' := by
  obtain ⟨a, cap, rfl, ha⟩ := hu.form
  have hll : l.length ≤ 1048576 := by have := joinB_len l; omega
  have CU := Lib.hid hu
  have HA := Lib.hid ha
  clear hu ha
  have h0 : BuiltF w.heap.size w.heap.size [] (w.alloc (.cells #[.pointer none, .slice none 0 0] 95)) := Lib.IsBuilderF.of (Lib.fresh_isBuilder 95 5 w)
  have H0 := Lib.hid h0
  clear h0
  go_enter Tryz.func117, Tryz.ntmps117
  go_wp2
  go_loopw [8] (fun i wr => ∃ (k : Nat), k ≤ l.length ∧ i = .int .i64 k ∧ Hid (BuiltF w.heap.size w.heap.size (joinB (l.take k)) wr) ∧ w.heap.size < wr.heap.size ∧ Below w.heap.size w wr) (fun i _ => l.length - (intOf i).toNat)
  case atStart => exact ⟨0, Nat.zero_le _, rfl, H0, by simp, (Below.refl _ _).alloc (Nat.le_refl _) _⟩
  case round =>
    obtain ⟨k, hk, rfl, hB, hsz, hb⟩ := hrel
    clear H0
    by_cases hlt : k < l.length
    · have hln : l ≠ [] := by intro e; subst e; simp at hlt
      obtain rfl := HA.out hln
      have hgl := hg hln
      have q1 := (hb.cell (p := ⟨g, o + k * 2, none⟩) hgl).trans (CU.out.c0 k hlt)
      have q2 := (hb.cell (p := ⟨g, o + k * 2 + 1, none⟩) hgl).trans (CU.out.c1 k hlt)
      have hj := Lib.hid (joinB_take_succ l k hlt)
      have hjl := joinB_take_len l (k + 1) (by omega)
      rw [hj.out] at hjl
      simp only [List.length_append, ← Lib.size_eq] at hjl
      generalize l[k] = x at *
      obtain ⟨x1, x2⟩ := x
      simp only at hjl
      have HJL := Lib.hid hjl
      clear hjl
      generalize joinB (l.take k) = z at *
      go_wp2_with fail
      have hB1 : BuiltF w.heap.size w.heap.size z (wr.alloc (.cells #[.string x1, .string x2] 75)) := hB.out.alloc _
      refine (built_write w.heap.size w.heap.size z x1 _ hB1 (by have := HJL.out; omega) (by simp; omega)).mono ?_
      rintro e w1 ⟨rfl, hB2, hb2, hk2⟩
      have hbl : w1.heap[wr.heap.size]? = some (.cells #[.string x1, .string x2] 75 (0, 0)) := hk2 wr.heap.size _ (heap_alloc_new _ _) (by intro e; injection e; omega) (by intro c fz e; cases e)
      have c1 : w1.cell? ⟨wr.heap.size, 1, none⟩ = some (.string x2) := by rw [Lib.cell_of_heap hbl]; rfl
      have hs1 : w.heap.size < w1.heap.size := by have := hb2.size; simp at this; omega
      have hb3 := (hb.alloc (by omega) _).trans hb2
      have HB2 := Lib.hid hB2
      clear hB hB1 hbl hk2 hb2 hb hB2
      go_wp2_with fail
      refine (built_write w.heap.size w.heap.size (z ++ x1.data.toList) x2 _ HB2.out (by have := HJL.out; rw [List.length_append, ← Lib.size_eq]; omega) (by omega)).mono ?_
      rintro e w2 ⟨rfl, hB3, hb4, hk4⟩
      have hs2 : w.heap.size < w2.heap.size := by have := hb4.size; omega
      have hb5 := hb3.trans hb4
      have HB3 : Hid (BuiltF w.heap.size w.heap.size (joinB (l.take (k + 1))) w2) := by unfold Hid; rw [hj.out]; exact hB3
      clear HB2 hB3 hk4 hb3 hb4 c1 hj HJL
      go_wp2
      go_roundw
      case rel => exact ⟨k + 1, by omega, by go_num, HB3, hs2, hb5⟩
      case measure => simp [intOf]; omega
    · obtain rfl : k = l.length := by omega
      rw [List.take_length] at hB
      go_wp2_with fail
      refine (built_string w.heap.size w.heap.size (joinB l) _ hB.out (by omega)).mono ?_
      rintro e w2 ⟨rfl, _, hb4, _⟩
      have hb5 := hb.trans hb4
      clear hB hb4
      go_wp2
      go_ret
      exact ⟨rfl, hb5⟩

end Go.Proofs.YtkhkpjnpjgnckaaGreatDoor
