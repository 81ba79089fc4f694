/- Results that lie in a cell and in slots; a cell of a block turned. -/
import Derived.Test.YtkhkpjnpjgnckaaGreatDoorProg
import Derived.WalkKit
import Derived.WalkLawsBesides
import Derived.Laws.IdiomStrings
import Derived.Test.YtkhkpjnpjgnckaaGreatDoorPlain
import Derived.Test.YtkhkpjnpjgnckaaGreatDoorCut
import Derived.Test.YtkhkpjnpjgnckaaGreatDoorTrim
import Derived.Test.YtkhkpjnpjgnckaaGreatDoorDialectRows
import Derived.Test.YtkhkpjnpjgnckaaGreatDoorQuotSpec
import Derived.Lib.Hide
import Derived.IntWalk
import Derived.Test.YtkhkpjnpjgnckaaGreatDoorRecRows
import Derived.Test.YtkhkpjnpjgnckaaGreatDoorRecArg
namespace Go.Proofs.YtkhkpjnpjgnckaaGreatDoor
open Go.RowKit
set_option linter.unusedVariables false

theorem results_cell2 {P : Program} {fn : Func} {p u v : Tmp} {ty : TypeId} (h : fn.results = #[.cell p ty, .tmp u, .tmp v]) (tmps : Array Value) (w : World) (g : Nat) (t : TypeId) (cs : Array Value) (fr : Nat × Nat) (d : TypeDesc)
    (hp : tmps.getD p undef = .pointer (some ⟨g, 0, none⟩)) (hg : w.heap[g]? = some (.cells cs t fr))
    (hu : P.underlying ty = some d) (hd : (match d with | .struct _ | .array _ _ => true | _ => false) = true) (hi : (P.info? ty).map (·.size) = some cs.size) :
    (results fn tmps).run P w = .ok (.tuple #[.agg cs, tmps.getD u undef, tmps.getD v undef]) w := by
  have hp' : tmps[p]?.getD undef = .pointer (some ⟨g, 0, none⟩) := by simpa using hp
  simp [results, h, hp', asAddr, run_loadVar_row w g t ty cs fr d hg hu hd hi]
theorem results_cell1 {P : Program} {fn : Func} {p u : Tmp} {ty : TypeId} (h : fn.results = #[.cell p ty, .tmp u]) (tmps : Array Value) (w : World) (g : Nat) (t : TypeId) (cs : Array Value) (fr : Nat × Nat) (d : TypeDesc)
    (hp : tmps.getD p undef = .pointer (some ⟨g, 0, none⟩)) (hg : w.heap[g]? = some (.cells cs t fr))
    (hu : P.underlying ty = some d) (hd : (match d with | .struct _ | .array _ _ => true | _ => false) = true) (hi : (P.info? ty).map (·.size) = some cs.size) :
    (results fn tmps).run P w = .ok (.tuple #[.agg cs, tmps.getD u undef]) w := by
  have hp' : tmps[p]?.getD undef = .pointer (some ⟨g, 0, none⟩) := by simpa using hp
  simp [results, h, hp', asAddr, run_loadVar_row w g t ty cs fr d hg hu hd hi]

theorem set_cellR (W : World) (g j : Nat) (cs : Array Value) (t : TypeId) (fr : Nat × Nat) (v : Value) (h : W.heap[g]? = some (.cells cs t fr)) : (W.setCell ⟨g, j, none⟩ v).heap[g]? = some (.cells (cs.setIfInBounds j v) t fr) := by
  obtain ⟨hlt, he⟩ := Array.getElem?_eq_some_iff.1 h
  simp [World.setCell, h, hlt, Array.getElem_modify, he]

end Go.Proofs.YtkhkpjnpjgnckaaGreatDoor

/- Heads: the model's contract of l05Head. -/
namespace Go.Proofs.YtkhkpjnpjgnckaaGreatDoor
open Go.RowKit
set_option linter.unusedVariables false

abbrev closeB : ByteArray := ⟨#[93]⟩
/-- a text cut at the first of some bytes -/
def cutT (s u : ByteArray) : Option (ByteArray × ByteArray) := if firstIn (hasB u) s < s.size then some (s.extract 0 (firstIn (hasB u) s), s.extract (firstIn (hasB u) s + 1) s.size) else none
/-- what CutAt answers -/
theorem cutRes_is (s u : ByteArray) : cutRes s (firstIn (hasB u) s) = match cutT s u with | some (a, b) => .tuple #[.string a, .string b, .bool true] | none => .tuple #[.string s, .string ⟨#[]⟩, .bool false] := by
  unfold cutRes cutT
  split <;> rfl
theorem cutT_size {s u a b : ByteArray} (h : cutT s u = some (a, b)) : a.size ≤ s.size ∧ b.size ≤ s.size := by
  unfold cutT at h
  split at h
  · injection h with h
    injection h with h1 h2
    subst h1 h2
    rw [ByteArray.size_extract, ByteArray.size_extract]
    omega
  · cases h
/-- the section of a head -/
def head5 (d : DialectD) (t : ByteArray) : ByteArray × Bool := match cutT (t.extract 1 t.size) closeB with
  | some (a, b) => if 0 < (trimT a).size ∧ behind5 d b = true then (trimT a, true) else (⟨#[]⟩, false)
  | none => (⟨#[]⟩, false)

set_option maxHeartbeats 1600000 in
theorem head_spec (d : DialectD) (t : ByteArray) (w : World) (ht : t.size ≤ 1048576) (ht1 : 1 ≤ t.size) (hn : d.notes.size ≤ 1048576) :
    Calls Tryz.prog 113 #[.string t, dialectV d] w fun e w' => e = .returned (.tuple #[.string (head5 d t).1, .bool (head5 d t).2]) ∧ Below w.heap.size w w' := by
  have hex : (t.extract 1 t.size).size ≤ 1048576 := by rw [ByteArray.size_extract]; omega
  have K0 := Lib.hid (fun w => cutAt_spec (t.extract 1 t.size) closeB w hex (by decide))
  rw [cutRes_is] at K0
  have HN := Lib.hid (dialAt_new w d)
  have hv : head5 d t = match cutT (t.extract 1 t.size) closeB with
    | some (a, b) => if 0 < (trimT a).size ∧ behind5 d b = true then (trimT a, true) else (⟨#[]⟩, false)
    | none => (⟨#[]⟩, false) := rfl
  have HSZ : Hid (∀ a b, cutT (t.extract 1 t.size) closeB = some (a, b) → a.size ≤ 1048576 ∧ b.size ≤ 1048576) := by
    intro a b h
    have := cutT_size h
    omega
  have KT := Lib.hid (fun (a : ByteArray) (w : World) (ha : a.size ≤ 1048576) => trim_spec a w (by unfold maxLen; omega))
  have KB := Lib.hid (fun (b : ByteArray) (w : World) (hb : b.size ≤ 1048576) => behind5_spec d b w (by omega) (by omega))
  generalize head5 d t = r at *
  have htz : (1 : Int) ≤ (t.size : Int) := by omega
  generalize cutT (t.extract 1 t.size) closeB = cc at *
  obtain ⟨d0, d1, d2, d3, d4, d5⟩ := d
  unfold dialectV at *
  simp only at HN KB ⊢
  have hb0 := (Below.refl w.heap.size w).alloc (Nat.le_refl _) (.cells #[.string d0, .string d1, .bool d2, .bool d3, .bool d4, .int .i64 d5] 25)
  have hw0 : w.heap.size < (w.alloc (.cells #[.string d0, .string d1, .bool d2, .bool d3, .bool d4, .int .i64 d5] 25)).heap.size := by simp
  go_enter Tryz.func113, Tryz.ntmps113
  go_wp2_with fail
  refine (K0.out _).mono ?_
  rintro e w1 ⟨rfl, n1, rfl⟩
  clear K0
  have hD1 : Hid (DialAt ((w.alloc (.cells #[.string d0, .string d1, .bool d2, .bool d3, .bool d4, .int .i64 d5] 25)).drewN n1) w.heap.size ⟨d0, d1, d2, d3, d4, d5⟩) := HN.out
  have hb1 := below_drewN hb0 n1
  have hw1 : w.heap.size < ((w.alloc (.cells #[.string d0, .string d1, .bool d2, .bool d3, .bool d4, .int .i64 d5] 25)).drewN n1).heap.size := hw0
  clear HN hb0 hw0
  generalize (w.alloc (.cells #[.string d0, .string d1, .bool d2, .bool d3, .bool d4, .int .i64 d5] 25)).drewN n1 = W1 at *
  cases cc with
  | none =>
    simp only at hv ⊢
    have HF := Lib.hid hv
    clear hv HSZ KT KB hD1
    go_wp2
    go_ret2
    exact ⟨by rw [HF.out]; rfl, hb1⟩
  | some ab =>
    obtain ⟨a, b⟩ := ab
    obtain ⟨hsa, hsb⟩ := HSZ.out a b rfl
    simp only at hv ⊢
    have KA := Lib.hid (fun w => KT.out a w hsa)
    have htr : (⟨(trimL a.data.toList).toArray⟩ : ByteArray) = trimT a := rfl
    rw [htr] at KA
    have KB2 := Lib.hid (fun w => KB.out b w hsb)
    generalize trimT a = ta at *
    generalize behind5 ⟨d0, d1, d2, d3, d4, d5⟩ b = bh at *
    have HV := Lib.hid hv
    obtain ⟨c0, c1, c2, c3, c4, c5⟩ := hD1.out.cells
    simp only at c0 c1 c2 c3 c4 c5
    clear hv HSZ KT KB htr
    go_wp2_with fail
    refine (KA.out _).mono ?_
    rintro e w2 ⟨rfl, rfl⟩
    by_cases h0 : 0 < ta.size
    · obtain ⟨z1, z2⟩ := text_some ta h0
      cases bh
      · have HF : Hid (r = (⟨#[]⟩, false)) := by unfold Hid; rw [HV.out, if_neg (by intro h; exact absurd h.2 (by decide))]
        clear HV
        go_wp2_with fail
        refine (KB2.out _).mono ?_
        rintro e w3 ⟨rfl, hb3⟩
        have hb4 := hb1.trans (hb3.mono hb1.size)
        go_wp2
        go_ret2
        exact ⟨by rw [HF.out]; rfl, hb4⟩
      · have HF : Hid (r = (ta, true)) := by unfold Hid; rw [HV.out, if_pos ⟨h0, rfl⟩]
        clear HV
        go_wp2_with fail
        refine (KB2.out _).mono ?_
        rintro e w3 ⟨rfl, hb3⟩
        have hb4 := hb1.trans (hb3.mono hb1.size)
        go_wp2_with fail
        refine (KA.out _).mono ?_
        rintro e w4 ⟨rfl, rfl⟩
        go_wp2
        go_ret2
        exact ⟨by rw [HF.out]; rfl, hb4⟩
    · obtain ⟨z1, z2⟩ := text_none ta (by omega)
      have HF : Hid (r = (⟨#[]⟩, false)) := by unfold Hid; rw [HV.out, if_neg (fun h => h0 h.1)]
      clear HV h0
      go_wp2
      go_ret2
      exact ⟨by rw [HF.out]; rfl, hb1⟩

end Go.Proofs.YtkhkpjnpjgnckaaGreatDoor

/- Pairs: the model's contract of l05Pair. -/
namespace Go.Proofs.YtkhkpjnpjgnckaaGreatDoor
open Go.RowKit
set_option linter.unusedVariables false

/-- a record that a call has laid for itself -/
def RecAt (w : World) (b : Nat) (x : RecD) : Prop := w.heap[b]? = some (.cells #[.int .i64 x.kind, .string x.raw, .string x.sect, .string x.key, .string x.value, .int .i64 x.line] 35 (0, 0))
theorem RecAt.over {w w' : World} {b B : Nat} {x : RecD} (h : RecAt w b x) (hb : Below B w w') (hB : b < B) : RecAt w' b x := by
  unfold RecAt at *
  rw [hb.block b hB]
  exact h
theorem RecAt.cells {w : World} {b : Nat} {x : RecD} (h : RecAt w b x) : w.cell? ⟨b, 0, none⟩ = some (.int .i64 x.kind) ∧ w.cell? ⟨b, 1, none⟩ = some (.string x.raw) ∧ w.cell? ⟨b, 2, none⟩ = some (.string x.sect) ∧ w.cell? ⟨b, 3, none⟩ = some (.string x.key) ∧ w.cell? ⟨b, 4, none⟩ = some (.string x.value) ∧ w.cell? ⟨b, 5, none⟩ = some (.int .i64 x.line) := by
  unfold RecAt at h
  refine ⟨?_, ?_, ?_, ?_, ?_, ?_⟩ <;> (rw [Lib.cell_of_heap h]; rfl)
theorem RecAt.free {w : World} {b : Nat} {x : RecD} (h : RecAt w b x) (j : Nat) : w.frozen? ⟨b, j, none⟩ = false := by
  unfold RecAt at h
  simp [World.frozen?, h]
theorem RecAt.put {w : World} {b : Nat} {x : RecD} (h : RecAt w b x) (y : RecD) :
    RecAt ((((((w.setCell ⟨b, 0, none⟩ (.int .i64 y.kind)).setCell ⟨b, 1, none⟩ (.string y.raw)).setCell ⟨b, 2, none⟩ (.string y.sect)).setCell ⟨b, 3, none⟩ (.string y.key)).setCell ⟨b, 4, none⟩ (.string y.value)).setCell ⟨b, 5, none⟩ (.int .i64 y.line)) b y := by
  unfold RecAt at *
  have h1 := set_cellR _ b 0 _ _ _ (.int .i64 y.kind) h
  have h2 := set_cellR _ b 1 _ _ _ (.string y.raw) h1
  have h3 := set_cellR _ b 2 _ _ _ (.string y.sect) h2
  have h4 := set_cellR _ b 3 _ _ _ (.string y.key) h3
  have h5 := set_cellR _ b 4 _ _ _ (.string y.value) h4
  have h6 := set_cellR _ b 5 _ _ _ (.int .i64 y.line) h5
  rw [h6]
  rfl

/-- a pair, whether its value was quoted, whether it is one -/
def pair5 (d : DialectD) (t : ByteArray) : RecD × Bool × Bool := match cutT t d.seps with
  | none => (noRec, false, false)
  | some (a, b) => if (trimT a).size = 0 then (noRec, false, false)
    else if d.quo = true ∧ opens (trim5 d.esc b) = true then (⟨3, ByteArray.empty, ByteArray.empty, trimT a, (quotT d (trim5 d.esc b)).1, 0⟩, true, (quotT d (trim5 d.esc b)).2)
    else (⟨3, ByteArray.empty, ByteArray.empty, trimT a, (bareT d (trim5 d.esc b)).1, 0⟩, false, (bareT d (trim5 d.esc b)).2)

set_option maxRecDepth 100000 in
set_option maxHeartbeats 1600000 in
theorem pair_spec (d : DialectD) (t : ByteArray) (w : World) (ht : t.size ≤ 1048576) (hn : d.notes.size ≤ 1048576) (hse : d.seps.size ≤ 1048576) :
    Calls Tryz.prog 114 #[.string t, dialectV d] w fun e w' => e = .returned (.tuple #[recV (pair5 d t).1, .bool (pair5 d t).2.1, .bool (pair5 d t).2.2]) ∧ Below w.heap.size w w' := by
  have K0 := Lib.hid (fun w => cutAt_spec t d.seps w ht hse)
  rw [cutRes_is] at K0
  have hv : pair5 d t = match cutT t d.seps with
    | none => (noRec, false, false)
    | some (a, b) => if (trimT a).size = 0 then (noRec, false, false)
      else if d.quo = true ∧ opens (trim5 d.esc b) = true then (⟨3, ByteArray.empty, ByteArray.empty, trimT a, (quotT d (trim5 d.esc b)).1, 0⟩, true, (quotT d (trim5 d.esc b)).2)
      else (⟨3, ByteArray.empty, ByteArray.empty, trimT a, (bareT d (trim5 d.esc b)).1, 0⟩, false, (bareT d (trim5 d.esc b)).2) := rfl
  have HSZ : Hid (∀ a b, cutT t d.seps = some (a, b) → a.size ≤ 1048576 ∧ b.size ≤ 1048576) := by
    intro a b h
    have := cutT_size h
    omega
  have HT := Lib.hid ht
  have KT := Lib.hid (fun (a : ByteArray) (w : World) (ha : a.size ≤ 1048576) => trim_spec a w (by unfold maxLen; omega))
  have K5 := Lib.hid (fun (b : ByteArray) (w : World) (hb : b.size ≤ 1048576) => trim5_spec d b w (by omega))
  have KQ := Lib.hid (fun (b : ByteArray) (w : World) (hb : b.size ≤ 1048576) => quoted_spec d b w (by omega) (by omega))
  have KB := Lib.hid (fun (b : ByteArray) (w : World) (hb : b.size ≤ 1048576) => bare_spec d b w (by omega) (by omega))
  have HT5 := Lib.hid (fun b => trim5_size d.esc b)
  have HN := Lib.hid (dialAt_new w d)
  generalize pair5 d t = r at *
  obtain ⟨d0, d1, d2, d3, d4, d5⟩ := d
  unfold dialectV at *
  simp only at HN KB KQ K5 K0 HSZ hv HT5 ⊢
  generalize cutT t d1 = cc at *
  have hb0 := ((Below.refl w.heap.size w).alloc (Nat.le_refl _) (.cells #[.string d0, .string d1, .bool d2, .bool d3, .bool d4, .int .i64 d5] 25)).alloc (by simp) (.cells #[.int .i64 0, .string ⟨#[]⟩, .string ⟨#[]⟩, .string ⟨#[]⟩, .string ⟨#[]⟩, .int .i64 0] 35)
  have HD0 : Hid (DialAt ((w.alloc (.cells #[.string d0, .string d1, .bool d2, .bool d3, .bool d4, .int .i64 d5] 25)).alloc (.cells #[.int .i64 0, .string ⟨#[]⟩, .string ⟨#[]⟩, .string ⟨#[]⟩, .string ⟨#[]⟩, .int .i64 0] 35)) w.heap.size ⟨d0, d1, d2, d3, d4, d5⟩) := by
    unfold Hid DialAt
    rw [Below.heap_alloc _ _ _ (by simp)]
    exact HN.out
  have HR0 : Hid (RecAt ((w.alloc (.cells #[.string d0, .string d1, .bool d2, .bool d3, .bool d4, .int .i64 d5] 25)).alloc (.cells #[.int .i64 0, .string ⟨#[]⟩, .string ⟨#[]⟩, .string ⟨#[]⟩, .string ⟨#[]⟩, .int .i64 0] 35)) (w.heap.size + 1) noRec) := by
    unfold Hid RecAt
    have := heap_alloc_new (w.alloc (.cells #[.string d0, .string d1, .bool d2, .bool d3, .bool d4, .int .i64 d5] 25)) (.cells #[.int .i64 0, .string ⟨#[]⟩, .string ⟨#[]⟩, .string ⟨#[]⟩, .string ⟨#[]⟩, .int .i64 0] 35)
    rw [World.size_alloc] at this
    exact this
  have hw0 : w.heap.size + 1 < ((w.alloc (.cells #[.string d0, .string d1, .bool d2, .bool d3, .bool d4, .int .i64 d5] 25)).alloc (.cells #[.int .i64 0, .string ⟨#[]⟩, .string ⟨#[]⟩, .string ⟨#[]⟩, .string ⟨#[]⟩, .int .i64 0] 35)).heap.size := by simp
  clear HN
  go_enter Tryz.func114, Tryz.ntmps114
  go_wp2_with fail
  refine (K0.out _).mono ?_
  rintro e w1 ⟨rfl, n1, rfl⟩
  clear K0
  have HD1 : Hid (DialAt (((w.alloc (.cells #[.string d0, .string d1, .bool d2, .bool d3, .bool d4, .int .i64 d5] 25)).alloc (.cells #[.int .i64 0, .string ⟨#[]⟩, .string ⟨#[]⟩, .string ⟨#[]⟩, .string ⟨#[]⟩, .int .i64 0] 35)).drewN n1) w.heap.size ⟨d0, d1, d2, d3, d4, d5⟩) := HD0.out
  have HR1 : Hid (RecAt (((w.alloc (.cells #[.string d0, .string d1, .bool d2, .bool d3, .bool d4, .int .i64 d5] 25)).alloc (.cells #[.int .i64 0, .string ⟨#[]⟩, .string ⟨#[]⟩, .string ⟨#[]⟩, .string ⟨#[]⟩, .int .i64 0] 35)).drewN n1) (w.heap.size + 1) noRec) := HR0.out
  have hb1 := below_drewN hb0 n1
  have hw1 : w.heap.size + 1 < (((w.alloc (.cells #[.string d0, .string d1, .bool d2, .bool d3, .bool d4, .int .i64 d5] 25)).alloc (.cells #[.int .i64 0, .string ⟨#[]⟩, .string ⟨#[]⟩, .string ⟨#[]⟩, .string ⟨#[]⟩, .int .i64 0] 35)).drewN n1).heap.size := hw0
  clear HD0 HR0 hb0 hw0
  generalize ((w.alloc (.cells #[.string d0, .string d1, .bool d2, .bool d3, .bool d4, .int .i64 d5] 25)).alloc (.cells #[.int .i64 0, .string ⟨#[]⟩, .string ⟨#[]⟩, .string ⟨#[]⟩, .string ⟨#[]⟩, .int .i64 0] 35)).drewN n1 = W1 at *
  cases cc with
  | none =>
    simp only at hv ⊢
    have HF := Lib.hid hv
    have KA := Lib.hid (fun w => KT.out t w HT.out)
    have KC := Lib.hid (fun w => K5.out ⟨#[]⟩ w (by decide))
    generalize trim5 d4 ⟨#[]⟩ = e5 at *
    generalize (⟨(trimL t.data.toList).toArray⟩ : ByteArray) = e6 at *
    obtain ⟨c0, c1, c2, c3, c4, c5⟩ := HD1.out.cells
    simp only at c0 c1 c2 c3 c4 c5
    clear hv HSZ KT KB KQ K5 HT5
    go_wp2_with fail
    refine (KA.out _).mono ?_
    rintro e w2 ⟨rfl, rfl⟩
    go_wp2_with fail
    refine (KC.out _).mono ?_
    rintro e w3 ⟨rfl, hb3⟩
    have hb4 := hb1.trans (hb3.mono hb1.size)
    have HR3 := Lib.hid (HR1.out.over hb3 hw1)
    clear KA KC c0 c1 c2 c3 c4 c5 HR1 HD1 hb1
    obtain ⟨r0, r1, r2, r3, r4, r5⟩ := HR3.out.cells
    simp only [noRec] at r0 r1 r2 r3 r4 r5
    have f0 := HR3.out.free 0
    have f1 := HR3.out.free 1
    have f2 := HR3.out.free 2
    have f3 := HR3.out.free 3
    have f4 := HR3.out.free 4
    have f5 := HR3.out.free 5
    have HP : Hid (((((((w3.setCell ⟨w.heap.size + 1, 0, none⟩ (.int .i64 0)).setCell ⟨w.heap.size + 1, 1, none⟩ (.string ⟨#[]⟩)).setCell ⟨w.heap.size + 1, 2, none⟩ (.string ⟨#[]⟩)).setCell ⟨w.heap.size + 1, 3, none⟩ (.string ⟨#[]⟩)).setCell ⟨w.heap.size + 1, 4, none⟩ (.string ⟨#[]⟩)).setCell ⟨w.heap.size + 1, 5, none⟩ (.int .i64 0)).heap[w.heap.size + 1]? = some (.cells #[.int .i64 0, .string ⟨#[]⟩, .string ⟨#[]⟩, .string ⟨#[]⟩, .string ⟨#[]⟩, .int .i64 0] 35 (0, 0))) := HR3.out.put noRec
    have HBZ := Lib.hid ((((((hb4.setCell (p := ⟨w.heap.size + 1, 0, none⟩) (Nat.le_succ _) (.int .i64 0)).setCell (p := ⟨w.heap.size + 1, 1, none⟩) (Nat.le_succ _) (.string ⟨#[]⟩)).setCell (p := ⟨w.heap.size + 1, 2, none⟩) (Nat.le_succ _) (.string ⟨#[]⟩)).setCell (p := ⟨w.heap.size + 1, 3, none⟩) (Nat.le_succ _) (.string ⟨#[]⟩)).setCell (p := ⟨w.heap.size + 1, 4, none⟩) (Nat.le_succ _) (.string ⟨#[]⟩)).setCell (p := ⟨w.heap.size + 1, 5, none⟩) (Nat.le_succ _) (.int .i64 0))
    go_wp2
    (try simp only [Exit.inBlock, Exit.then])
    refine bodyPost_ret (results_cell2 rfl _ _ (w.heap.size + 1) 35 _ (0, 0) _ rfl HP.out Tryz.underlying35 rfl (by kernel_rfl)) rfl ⟨?_, HBZ.out⟩
    rw [HF.out]
    rfl
  | some ab =>
    obtain ⟨a, b⟩ := ab
    obtain ⟨hsa, hsb⟩ := HSZ.out a b rfl
    simp only at hv ⊢
    have htr : (⟨(trimL a.data.toList).toArray⟩ : ByteArray) = trimT a := rfl
    have KA := Lib.hid (fun w => KT.out a w hsa)
    rw [htr] at KA
    have KC := Lib.hid (fun w => K5.out b w hsb)
    have h5s : (trim5 d4 b).size ≤ 1048576 := Nat.le_trans (HT5.out b) hsb
    generalize trim5 d4 b = tb at *
    have KQ2 := Lib.hid (fun w => KQ.out tb w h5s)
    have KB2 := Lib.hid (fun w => KB.out tb w h5s)
    generalize trimT a = ta at *
    generalize quotT ⟨d0, d1, d2, d3, d4, d5⟩ tb = qq at *
    generalize bareT ⟨d0, d1, d2, d3, d4, d5⟩ tb = bb at *
    obtain ⟨qa, qb⟩ := qq
    obtain ⟨ba, bbb⟩ := bb
    simp only at KQ2 KB2 hv
    have HV := Lib.hid hv
    obtain ⟨c0, c1, c2, c3, c4, c5⟩ := HD1.out.cells
    simp only at c0 c1 c2 c3 c4 c5
    clear hv HSZ KT KB KQ K5 HT5 htr
    go_wp2_with fail
    refine (KA.out _).mono ?_
    rintro e w2 ⟨rfl, rfl⟩
    go_wp2_with fail
    refine (KC.out _).mono ?_
    rintro e w3 ⟨rfl, hb3⟩
    have hb4 := hb1.trans (hb3.mono hb1.size)
    have HR3 := Lib.hid (HR1.out.over hb3 hw1)
    have HD3 := Lib.hid (HD1.out.over hb3 (by omega))
    have hw3 := Nat.lt_of_lt_of_le hw1 hb3.size
    clear KA KC c0 c1 c2 c3 c4 c5 HR1 HD1 hb1 hb3 hw1
    by_cases h0 : ta.size = 0
    · obtain ⟨z1, z2⟩ := text_none ta h0
      have HF : Hid (r = (noRec, false, false)) := by unfold Hid; rw [HV.out, if_pos h0]
      clear HV h0
      obtain ⟨r0, r1, r2, r3, r4, r5⟩ := HR3.out.cells
      simp only [noRec] at r0 r1 r2 r3 r4 r5
      have f0 := HR3.out.free 0
      have f1 := HR3.out.free 1
      have f2 := HR3.out.free 2
      have f3 := HR3.out.free 3
      have f4 := HR3.out.free 4
      have f5 := HR3.out.free 5
      have HP : Hid (((((((w3.setCell ⟨w.heap.size + 1, 0, none⟩ (.int .i64 0)).setCell ⟨w.heap.size + 1, 1, none⟩ (.string ⟨#[]⟩)).setCell ⟨w.heap.size + 1, 2, none⟩ (.string ⟨#[]⟩)).setCell ⟨w.heap.size + 1, 3, none⟩ (.string ⟨#[]⟩)).setCell ⟨w.heap.size + 1, 4, none⟩ (.string ⟨#[]⟩)).setCell ⟨w.heap.size + 1, 5, none⟩ (.int .i64 0)).heap[w.heap.size + 1]? = some (.cells #[.int .i64 0, .string ⟨#[]⟩, .string ⟨#[]⟩, .string ⟨#[]⟩, .string ⟨#[]⟩, .int .i64 0] 35 (0, 0))) := HR3.out.put noRec
      have HBZ := Lib.hid ((((((hb4.setCell (p := ⟨w.heap.size + 1, 0, none⟩) (Nat.le_succ _) (.int .i64 0)).setCell (p := ⟨w.heap.size + 1, 1, none⟩) (Nat.le_succ _) (.string ⟨#[]⟩)).setCell (p := ⟨w.heap.size + 1, 2, none⟩) (Nat.le_succ _) (.string ⟨#[]⟩)).setCell (p := ⟨w.heap.size + 1, 3, none⟩) (Nat.le_succ _) (.string ⟨#[]⟩)).setCell (p := ⟨w.heap.size + 1, 4, none⟩) (Nat.le_succ _) (.string ⟨#[]⟩)).setCell (p := ⟨w.heap.size + 1, 5, none⟩) (Nat.le_succ _) (.int .i64 0))
      go_wp2
      (try simp only [Exit.inBlock, Exit.then])
      refine bodyPost_ret (results_cell2 rfl _ _ (w.heap.size + 1) 35 _ (0, 0) _ rfl HP.out Tryz.underlying35 rfl (by kernel_rfl)) rfl ⟨?_, HBZ.out⟩
      rw [HF.out]
      rfl
    · obtain ⟨z1, z2⟩ := text_some ta (by omega)
      have HV2 : Hid (r = if d3 = true ∧ opens tb = true then (⟨3, ByteArray.empty, ByteArray.empty, ta, qa, 0⟩, true, qb) else (⟨3, ByteArray.empty, ByteArray.empty, ta, ba, 0⟩, false, bbb)) := by unfold Hid; rw [HV.out, if_neg h0]
      clear HV h0
      obtain ⟨c0, c1, c2, c3, c4, c5⟩ := HD3.out.cells
      simp only at c0 c1 c2 c3 c4 c5
      cases d3
      · have hno : ¬ (false = true ∧ opens tb = true) := fun h => absurd h.1 (by decide)
        have HF : Hid (r = (⟨3, ⟨#[]⟩, ⟨#[]⟩, ta, ba, 0⟩, false, bbb)) := by unfold Hid; rw [HV2.out, if_neg hno]; rfl
        clear HV2 hno
        go_wp2_with fail
        refine (KB2.out _).mono ?_
        rintro e w4 ⟨rfl, hb5⟩
        have hb6 := hb4.trans (hb5.mono hb4.size)
        have HR4 := Lib.hid (HR3.out.over hb5 hw3)
        clear KQ2 KB2 c0 c1 c2 c3 c4 c5 HR3 HD3 hb4 hb5
        obtain ⟨r0, r1, r2, r3, r4, r5⟩ := HR4.out.cells
        simp only [noRec] at r0 r1 r2 r3 r4 r5
        have f0 := HR4.out.free 0
        have f1 := HR4.out.free 1
        have f2 := HR4.out.free 2
        have f3 := HR4.out.free 3
        have f4 := HR4.out.free 4
        have f5 := HR4.out.free 5
        have HP : Hid (((((((w4.setCell ⟨w.heap.size + 1, 0, none⟩ (.int .i64 3)).setCell ⟨w.heap.size + 1, 1, none⟩ (.string ⟨#[]⟩)).setCell ⟨w.heap.size + 1, 2, none⟩ (.string ⟨#[]⟩)).setCell ⟨w.heap.size + 1, 3, none⟩ (.string ta)).setCell ⟨w.heap.size + 1, 4, none⟩ (.string ba)).setCell ⟨w.heap.size + 1, 5, none⟩ (.int .i64 0)).heap[w.heap.size + 1]? = some (.cells #[.int .i64 3, .string ⟨#[]⟩, .string ⟨#[]⟩, .string ta, .string ba, .int .i64 0] 35 (0, 0))) := HR4.out.put ⟨3, ⟨#[]⟩, ⟨#[]⟩, ta, ba, 0⟩
        have HBZ := Lib.hid ((((((hb6.setCell (p := ⟨w.heap.size + 1, 0, none⟩) (Nat.le_succ _) (.int .i64 3)).setCell (p := ⟨w.heap.size + 1, 1, none⟩) (Nat.le_succ _) (.string ⟨#[]⟩)).setCell (p := ⟨w.heap.size + 1, 2, none⟩) (Nat.le_succ _) (.string ⟨#[]⟩)).setCell (p := ⟨w.heap.size + 1, 3, none⟩) (Nat.le_succ _) (.string ta)).setCell (p := ⟨w.heap.size + 1, 4, none⟩) (Nat.le_succ _) (.string ba)).setCell (p := ⟨w.heap.size + 1, 5, none⟩) (Nat.le_succ _) (.int .i64 0))
        go_wp2
        (try simp only [Exit.inBlock, Exit.then])
        refine bodyPost_ret (results_cell2 rfl _ _ (w.heap.size + 1) 35 _ (0, 0) _ rfl HP.out Tryz.underlying35 rfl (by kernel_rfl)) rfl ⟨?_, HBZ.out⟩
        rw [HF.out]
        rfl
      · by_cases ht0 : tb.size = 0
        · obtain ⟨y1, y2⟩ := text_none tb ht0
          have hno : ¬ (true = true ∧ opens tb = true) := by
            intro h
            have h2 := h.2
            unfold opens at h2
            rw [dif_neg (by omega)] at h2
            exact absurd h2 (by decide)
          have HF : Hid (r = (⟨3, ⟨#[]⟩, ⟨#[]⟩, ta, ba, 0⟩, false, bbb)) := by unfold Hid; rw [HV2.out, if_neg hno]; rfl
          clear HV2 hno ht0
          go_wp2_with fail
          refine (KB2.out _).mono ?_
          rintro e w4 ⟨rfl, hb5⟩
          have hb6 := hb4.trans (hb5.mono hb4.size)
          have HR4 := Lib.hid (HR3.out.over hb5 hw3)
          clear KQ2 KB2 c0 c1 c2 c3 c4 c5 HR3 HD3 hb4 hb5
          obtain ⟨r0, r1, r2, r3, r4, r5⟩ := HR4.out.cells
          simp only [noRec] at r0 r1 r2 r3 r4 r5
          have f0 := HR4.out.free 0
          have f1 := HR4.out.free 1
          have f2 := HR4.out.free 2
          have f3 := HR4.out.free 3
          have f4 := HR4.out.free 4
          have f5 := HR4.out.free 5
          have HP : Hid (((((((w4.setCell ⟨w.heap.size + 1, 0, none⟩ (.int .i64 3)).setCell ⟨w.heap.size + 1, 1, none⟩ (.string ⟨#[]⟩)).setCell ⟨w.heap.size + 1, 2, none⟩ (.string ⟨#[]⟩)).setCell ⟨w.heap.size + 1, 3, none⟩ (.string ta)).setCell ⟨w.heap.size + 1, 4, none⟩ (.string ba)).setCell ⟨w.heap.size + 1, 5, none⟩ (.int .i64 0)).heap[w.heap.size + 1]? = some (.cells #[.int .i64 3, .string ⟨#[]⟩, .string ⟨#[]⟩, .string ta, .string ba, .int .i64 0] 35 (0, 0))) := HR4.out.put ⟨3, ⟨#[]⟩, ⟨#[]⟩, ta, ba, 0⟩
          have HBZ := Lib.hid ((((((hb6.setCell (p := ⟨w.heap.size + 1, 0, none⟩) (Nat.le_succ _) (.int .i64 3)).setCell (p := ⟨w.heap.size + 1, 1, none⟩) (Nat.le_succ _) (.string ⟨#[]⟩)).setCell (p := ⟨w.heap.size + 1, 2, none⟩) (Nat.le_succ _) (.string ⟨#[]⟩)).setCell (p := ⟨w.heap.size + 1, 3, none⟩) (Nat.le_succ _) (.string ta)).setCell (p := ⟨w.heap.size + 1, 4, none⟩) (Nat.le_succ _) (.string ba)).setCell (p := ⟨w.heap.size + 1, 5, none⟩) (Nat.le_succ _) (.int .i64 0))
          go_wp2
          (try simp only [Exit.inBlock, Exit.then])
          refine bodyPost_ret (results_cell2 rfl _ _ (w.heap.size + 1) 35 _ (0, 0) _ rfl HP.out Tryz.underlying35 rfl (by kernel_rfl)) rfl ⟨?_, HBZ.out⟩
          rw [HF.out]
          rfl
        · obtain ⟨y1, y2⟩ := text_some tb (by omega)
          have htz : 0 < tb.size := by omega
          have htzi : (0 : Int) < (tb.size : Int) := by omega
          by_cases h34 : tb[0] = 34
          · have hop : opens tb = true := by unfold opens; rw [dif_pos htz]; simp [h34]
            have e34 : ((tb[0].toNat : Int) == 34) = true := byte_same _ 34 h34
            have HF : Hid (r = (⟨3, ⟨#[]⟩, ⟨#[]⟩, ta, qa, 0⟩, true, qb)) := by unfold Hid; rw [HV2.out, if_pos ⟨rfl, hop⟩]; rfl
            clear HV2 hop h34 ht0
            go_wp2_with fail
            refine (KQ2.out _).mono ?_
            rintro e w4 ⟨rfl, hb5⟩
            have hb6 := hb4.trans (hb5.mono hb4.size)
            have HR4 := Lib.hid (HR3.out.over hb5 hw3)
            clear KQ2 KB2 c0 c1 c2 c3 c4 c5 HR3 HD3 hb4 hb5
            obtain ⟨r0, r1, r2, r3, r4, r5⟩ := HR4.out.cells
            simp only [noRec] at r0 r1 r2 r3 r4 r5
            have f0 := HR4.out.free 0
            have f1 := HR4.out.free 1
            have f2 := HR4.out.free 2
            have f3 := HR4.out.free 3
            have f4 := HR4.out.free 4
            have f5 := HR4.out.free 5
            have HP : Hid (((((((w4.setCell ⟨w.heap.size + 1, 0, none⟩ (.int .i64 3)).setCell ⟨w.heap.size + 1, 1, none⟩ (.string ⟨#[]⟩)).setCell ⟨w.heap.size + 1, 2, none⟩ (.string ⟨#[]⟩)).setCell ⟨w.heap.size + 1, 3, none⟩ (.string ta)).setCell ⟨w.heap.size + 1, 4, none⟩ (.string qa)).setCell ⟨w.heap.size + 1, 5, none⟩ (.int .i64 0)).heap[w.heap.size + 1]? = some (.cells #[.int .i64 3, .string ⟨#[]⟩, .string ⟨#[]⟩, .string ta, .string qa, .int .i64 0] 35 (0, 0))) := HR4.out.put ⟨3, ⟨#[]⟩, ⟨#[]⟩, ta, qa, 0⟩
            have HBZ := Lib.hid ((((((hb6.setCell (p := ⟨w.heap.size + 1, 0, none⟩) (Nat.le_succ _) (.int .i64 3)).setCell (p := ⟨w.heap.size + 1, 1, none⟩) (Nat.le_succ _) (.string ⟨#[]⟩)).setCell (p := ⟨w.heap.size + 1, 2, none⟩) (Nat.le_succ _) (.string ⟨#[]⟩)).setCell (p := ⟨w.heap.size + 1, 3, none⟩) (Nat.le_succ _) (.string ta)).setCell (p := ⟨w.heap.size + 1, 4, none⟩) (Nat.le_succ _) (.string qa)).setCell (p := ⟨w.heap.size + 1, 5, none⟩) (Nat.le_succ _) (.int .i64 0))
            go_wp2
            (try simp only [Exit.inBlock, Exit.then])
            refine bodyPost_ret (results_cell2 rfl _ _ (w.heap.size + 1) 35 _ (0, 0) _ rfl HP.out Tryz.underlying35 rfl (by kernel_rfl)) rfl ⟨?_, HBZ.out⟩
            rw [HF.out]
            rfl
          · have hop : opens tb = false := by unfold opens; rw [dif_pos htz]; simpa using h34
            have e34 : ((tb[0].toNat : Int) == 34) = false := byte_differ _ 34 h34
            have hno : ¬ (true = true ∧ opens tb = true) := fun h => by rw [hop] at h; exact absurd h.2 (by decide)
            have HF : Hid (r = (⟨3, ⟨#[]⟩, ⟨#[]⟩, ta, ba, 0⟩, false, bbb)) := by unfold Hid; rw [HV2.out, if_neg hno]; rfl
            clear HV2 hop h34 hno ht0
            go_wp2_with fail
            refine (KB2.out _).mono ?_
            rintro e w4 ⟨rfl, hb5⟩
            have hb6 := hb4.trans (hb5.mono hb4.size)
            have HR4 := Lib.hid (HR3.out.over hb5 hw3)
            clear KQ2 KB2 c0 c1 c2 c3 c4 c5 HR3 HD3 hb4 hb5
            obtain ⟨r0, r1, r2, r3, r4, r5⟩ := HR4.out.cells
            simp only [noRec] at r0 r1 r2 r3 r4 r5
            have f0 := HR4.out.free 0
            have f1 := HR4.out.free 1
            have f2 := HR4.out.free 2
            have f3 := HR4.out.free 3
            have f4 := HR4.out.free 4
            have f5 := HR4.out.free 5
            have HP : Hid (((((((w4.setCell ⟨w.heap.size + 1, 0, none⟩ (.int .i64 3)).setCell ⟨w.heap.size + 1, 1, none⟩ (.string ⟨#[]⟩)).setCell ⟨w.heap.size + 1, 2, none⟩ (.string ⟨#[]⟩)).setCell ⟨w.heap.size + 1, 3, none⟩ (.string ta)).setCell ⟨w.heap.size + 1, 4, none⟩ (.string ba)).setCell ⟨w.heap.size + 1, 5, none⟩ (.int .i64 0)).heap[w.heap.size + 1]? = some (.cells #[.int .i64 3, .string ⟨#[]⟩, .string ⟨#[]⟩, .string ta, .string ba, .int .i64 0] 35 (0, 0))) := HR4.out.put ⟨3, ⟨#[]⟩, ⟨#[]⟩, ta, ba, 0⟩
            have HBZ := Lib.hid ((((((hb6.setCell (p := ⟨w.heap.size + 1, 0, none⟩) (Nat.le_succ _) (.int .i64 3)).setCell (p := ⟨w.heap.size + 1, 1, none⟩) (Nat.le_succ _) (.string ⟨#[]⟩)).setCell (p := ⟨w.heap.size + 1, 2, none⟩) (Nat.le_succ _) (.string ⟨#[]⟩)).setCell (p := ⟨w.heap.size + 1, 3, none⟩) (Nat.le_succ _) (.string ta)).setCell (p := ⟨w.heap.size + 1, 4, none⟩) (Nat.le_succ _) (.string ba)).setCell (p := ⟨w.heap.size + 1, 5, none⟩) (Nat.le_succ _) (.int .i64 0))
            go_wp2
            (try simp only [Exit.inBlock, Exit.then])
            refine bodyPost_ret (results_cell2 rfl _ _ (w.heap.size + 1) 35 _ (0, 0) _ rfl HP.out Tryz.underlying35 rfl (by kernel_rfl)) rfl ⟨?_, HBZ.out⟩
            rw [HF.out]
            rfl

end Go.Proofs.YtkhkpjnpjgnckaaGreatDoor
