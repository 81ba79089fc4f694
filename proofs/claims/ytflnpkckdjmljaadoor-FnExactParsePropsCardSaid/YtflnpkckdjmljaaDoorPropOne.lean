/- Results that lie in a cell and in slots; a cell of a block turned. -/
import Derived.Test.YtflnpkckdjmljaaDoorProg
import Derived.WalkKit
import Derived.WalkLawsBesides
import Derived.Laws.IdiomStrings
import Derived.Test.YtflnpkckdjmljaaDoorPlain
import Derived.Test.YtflnpkckdjmljaaDoorCut
import Derived.Test.YtflnpkckdjmljaaDoorTail
import Derived.Test.YtflnpkckdjmljaaDoorLines
import Derived.Test.YtflnpkckdjmljaaDoorRecRows
import Derived.Test.YtflnpkckdjmljaaDoorPropPure
import Derived.Test.YtflnpkckdjmljaaDoorPropSpec
import Derived.Test.YtflnpkckdjmljaaDoorPropCut
import Derived.Lib.QuietBelow
import Derived.Lib.Hide
import Derived.IntWalk
namespace Go.Proofs.YtflnpkckdjmljaaDoor
open Go.RowKit
set_option linter.unusedVariables false

theorem results_cell2 {P : Program} {fn : Func} {p u v : Tmp} {ty : TypeId} (h : fn.results = #[.cell p ty, .tmp u, .tmp v]) (tmps : Array Value) (w : World) (g : Nat) (t : TypeId) (cs : Array Value) (fr : Nat × Nat) (d : TypeDesc)
    (hp : tmps.getD p undef = .pointer (some ⟨g, 0, none⟩)) (hg : w.heap[g]? = some (.cells cs t fr))
    (hu : P.underlying ty = some d) (hd : (match d with | .struct _ | .array _ _ => true | _ => false) = true) (hi : (P.info? ty).map (·.size) = some cs.size) :
    (results fn tmps).run P w = .ok (.tuple #[.agg cs, tmps.getD u undef, tmps.getD v undef]) w := by
  have hp' : tmps[p]?.getD undef = .pointer (some ⟨g, 0, none⟩) := by simpa using hp
  simp [results, h, hp', asAddr, run_loadVar_row w g t ty cs fr d hg hu hd hi]
theorem results_cell1 {P : Program} {fn : Func} {p u : Tmp} {ty : TypeId} (h : fn.results = #[.cell p ty, .tmp u]) (tmps : Array Value) (w : World) (g : Nat) (t : TypeId) (cs : Array Value) (fr : Nat × Nat) (d : TypeDesc)
    (hp : tmps.getD p undef = .pointer (some ⟨g, 0, none⟩)) (hg : w.heap[g]? = some (.cells cs t fr))
    (hu : P.underlying ty = some d) (hd : (match d with | .struct _ | .array _ _ => true | _ => false) = true) (hi : (P.info? ty).map (·.size) = some cs.size) :
    (results fn tmps).run P w = .ok (.tuple #[.agg cs, tmps.getD u undef]) w := by
  have hp' : tmps[p]?.getD undef = .pointer (some ⟨g, 0, none⟩) := by simpa using hp
  simp [results, h, hp', asAddr, run_loadVar_row w g t ty cs fr d hg hu hd hi]

theorem set_cellR (W : World) (g j : Nat) (cs : Array Value) (t : TypeId) (fr : Nat × Nat) (v : Value) (h : W.heap[g]? = some (.cells cs t fr)) : (W.setCell ⟨g, j, none⟩ v).heap[g]? = some (.cells (cs.setIfInBounds j v) t fr) := by
  obtain ⟨hlt, he⟩ := Array.getElem?_eq_some_iff.1 h
  simp [World.setCell, h, hlt, Array.getElem_modify, he]

end Go.Proofs.YtflnpkckdjmljaaDoor

/- One record of a property file: the model's contract of l07One. -/
set_option maxRecDepth 100000
namespace Go.Proofs.YtflnpkckdjmljaaDoor
open Go.RowKit Go.Sort
set_option linter.unusedVariables false

/-- a text and the lines behind it: joined, and how many lines -/
def joinP (t : ByteArray) : List Ln → Nat → ByteArray × Nat
  | [], n => if tailN t % 2 = 1 then (t.extract 0 (t.size - 1), n) else (t, n)
  | x :: l, n => if tailN t % 2 = 1 then joinP (t.extract 0 (t.size - 1) ++ leadP x.1) l (n + 1) else (t, n)
theorem joinP_stop {t : ByteArray} (l : List Ln) (n : Nat) (h : ¬ tailN t % 2 = 1) : joinP t l n = (t, n) := by
  cases l <;> (unfold joinP; rw [if_neg h])
theorem joinP_end {t : ByteArray} (n : Nat) (h : tailN t % 2 = 1) : joinP t [] n = (t.extract 0 (t.size - 1), n) := by
  unfold joinP; rw [if_pos h]
theorem joinP_on {t : ByteArray} (x : Ln) (l : List Ln) (n : Nat) (h : tailN t % 2 = 1) : joinP t (x :: l) n = joinP (t.extract 0 (t.size - 1) ++ leadP x.1) l (n + 1) := by
  conv => lhs; unfold joinP
  rw [if_pos h]
/-- a record that is only its kind -/
def kindP (k : Int) : RecD := ⟨k, ⟨#[]⟩, ⟨#[]⟩, ⟨#[]⟩, ⟨#[]⟩, 0⟩
/-- the record of a joined text -/
def pairP (t : ByteArray) : RecD := if (propT (cutP t).1).2 = true ∧ (propT (cutP t).2).2 = true then ⟨3, ⟨#[]⟩, ⟨#[]⟩, (propT (cutP t).1).1, (propT (cutP t).2).1, 0⟩ else kindP 4
/-- the record at a line with those behind it, and how many lines it has -/
def oneP (x : Ln) (l : List Ln) : RecD × Nat :=
  if h : 0 < (leadP x.1).size then
    if (leadP x.1)[0] = 35 ∨ (leadP x.1)[0] = 33 then (kindP 1, 1)
    else (pairP (joinP (leadP x.1) l 1).1, (joinP (leadP x.1) l 1).2)
  else (kindP 0, 1)
/-- a record that a call has laid for itself -/
def RecIn (w : World) (b : Nat) (x : RecD) : Prop := w.heap[b]? = some (.cells #[.int .i64 x.kind, .string x.raw, .string x.sect, .string x.key, .string x.value, .int .i64 x.line] 29 (0, 0))
theorem RecIn.over {w w' : World} {b B : Nat} {x : RecD} (h : RecIn w b x) (hb : Below B w w') (hB : b < B) : RecIn w' b x := by
  unfold RecIn at *
  rw [hb.block b hB]
  exact h
theorem RecIn.cells {w : World} {b : Nat} {x : RecD} (h : RecIn w b x) : w.cell? ⟨b, 0, none⟩ = some (.int .i64 x.kind) ∧ w.cell? ⟨b, 1, none⟩ = some (.string x.raw) ∧ w.cell? ⟨b, 2, none⟩ = some (.string x.sect) ∧ w.cell? ⟨b, 3, none⟩ = some (.string x.key) ∧ w.cell? ⟨b, 4, none⟩ = some (.string x.value) ∧ w.cell? ⟨b, 5, none⟩ = some (.int .i64 x.line) := by
  unfold RecIn at h
  refine ⟨?_, ?_, ?_, ?_, ?_, ?_⟩ <;> (rw [Lib.cell_of_heap h]; rfl)
theorem RecIn.free {w : World} {b : Nat} {x : RecD} (h : RecIn w b x) (j : Nat) : w.frozen? ⟨b, j, none⟩ = false := by
  unfold RecIn at h
  simp [World.frozen?, h]
theorem RecIn.put {w : World} {b : Nat} {x : RecD} (h : RecIn w b x) (y : RecD) :
    RecIn ((((((w.setCell ⟨b, 0, none⟩ (.int .i64 y.kind)).setCell ⟨b, 1, none⟩ (.string y.raw)).setCell ⟨b, 2, none⟩ (.string y.sect)).setCell ⟨b, 3, none⟩ (.string y.key)).setCell ⟨b, 4, none⟩ (.string y.value)).setCell ⟨b, 5, none⟩ (.int .i64 y.line)) b y := by
  unfold RecIn at *
  exact set_cellR _ b 5 _ _ _ (.int .i64 y.line) (set_cellR _ b 4 _ _ _ (.string y.value) (set_cellR _ b 3 _ _ _ (.string y.key) (set_cellR _ b 2 _ _ _ (.string y.sect) (set_cellR _ b 1 _ _ _ (.string y.raw) (set_cellR _ b 0 _ _ _ (.int .i64 y.kind) h)))))
theorem below_put {w W : World} {B b : Nat} (hb : Below B w W) (h : B ≤ b) (y : RecD) : Below B w ((((((W.setCell ⟨b, 0, none⟩ (.int .i64 y.kind)).setCell ⟨b, 1, none⟩ (.string y.raw)).setCell ⟨b, 2, none⟩ (.string y.sect)).setCell ⟨b, 3, none⟩ (.string y.key)).setCell ⟨b, 4, none⟩ (.string y.value)).setCell ⟨b, 5, none⟩ (.int .i64 y.line)) :=
  (((((hb.setCell (p := ⟨b, 0, none⟩) h _).setCell (p := ⟨b, 1, none⟩) h _).setCell (p := ⟨b, 2, none⟩) h _).setCell (p := ⟨b, 3, none⟩) h _).setCell (p := ⟨b, 4, none⟩) h _).setCell (p := ⟨b, 5, none⟩) h _
theorem tail_leP (t : ByteArray) : tailN t ≤ t.size := tailN_le t

set_option maxHeartbeats 3200000 in
theorem oneP_spec (w : World) (u : Value) (g o : Nat) (l : List Ln) (at_ : Nat) (hu : LinesRd w u g o l) (hl : costL l ≤ 10000000) (hat : at_ < l.length) :
    Calls Tryd.prog 33 #[u, .int .i64 (at_ : Int)] w fun e w' => e = .returned (.tuple #[recV (oneP l[at_] (l.drop (at_ + 1))).1, .int .i64 ((oneP l[at_] (l.drop (at_ + 1))).2 : Int)]) ∧ Below w.heap.size w w' := by
  obtain ⟨a, cap, rfl, ha⟩ := hu.form
  have hln : l ≠ [] := by intro e; subst e; simp at hat
  obtain rfl := ha hln
  have hgw := hu.lt hln
  have hcl := costL_at l at_ hat
  have CU := Lib.hid hu
  have q1 := hu.c0 at_ hat
  have haz : (at_ : Int) < (l.length : Int) := by omega
  have hlz : (l.length : Int) < 100000001 := by omega
  have KL := Lib.hid (fun w => lead_spec l[at_].1 w (by omega))
  have hls := leadP_size l[at_].1
  have hct0 := costL_take_succ l at_ hat
  have HV : Hid (oneP l[at_] (l.drop (at_ + 1)) = if h : 0 < (leadP l[at_].1).size then (if (leadP l[at_].1)[0] = 35 ∨ (leadP l[at_].1)[0] = 33 then (kindP 1, 1) else (pairP (joinP (leadP l[at_].1) (l.drop (at_ + 1)) 1).1, (joinP (leadP l[at_].1) (l.drop (at_ + 1)) 1).2)) else (kindP 0, 1)) := rfl
  generalize oneP l[at_] (l.drop (at_ + 1)) = r at *
  generalize leadP l[at_].1 = t0 at *
  clear hu ha
  have hb0 := (Below.refl w.heap.size w).alloc (Nat.le_refl _) (.cells #[.int .i64 0, .string ⟨#[]⟩, .string ⟨#[]⟩, .string ⟨#[]⟩, .string ⟨#[]⟩, .int .i64 0] 29)
  have HR0 : Hid (RecIn (w.alloc (.cells #[.int .i64 0, .string ⟨#[]⟩, .string ⟨#[]⟩, .string ⟨#[]⟩, .string ⟨#[]⟩, .int .i64 0] 29)) w.heap.size (kindP 0)) := heap_alloc_new _ _
  have hw0 : w.heap.size < (w.alloc (.cells #[.int .i64 0, .string ⟨#[]⟩, .string ⟨#[]⟩, .string ⟨#[]⟩, .string ⟨#[]⟩, .int .i64 0] 29)).heap.size := by simp
  go_enter Tryd.func33, Tryd.ntmps33
  go_wp2_with fail
  refine (KL.out _).mono ?_
  rintro e w1 ⟨rfl, rfl⟩
  clear KL
  generalize w.alloc (.cells #[.int .i64 0, .string ⟨#[]⟩, .string ⟨#[]⟩, .string ⟨#[]⟩, .string ⟨#[]⟩, .int .i64 0] 29) = W0 at *
  by_cases h0 : t0.size = 0
  · obtain ⟨z1, z2⟩ := text_noneP t0 h0
    have HF : Hid (r = (kindP 0, 1)) := by unfold Hid; rw [HV.out, dif_neg (by omega)]
    clear HV CU
    obtain ⟨z0, z1, z2, z3, z4, z5⟩ := HR0.out.cells
    simp only [kindP] at z0 z1 z2 z3 z4 z5
    have f0 := HR0.out.free 0
    have f1 := HR0.out.free 1
    have f2 := HR0.out.free 2
    have f3 := HR0.out.free 3
    have f4 := HR0.out.free 4
    have f5 := HR0.out.free 5
    go_wp2
    (try simp only [Exit.inBlock, Exit.then])
    refine bodyPost_ret (results_cell1 rfl _ _ w.heap.size 29 _ (0, 0) _ rfl (HR0.out.put (kindP 0)) Tryd.underlying29 rfl (by kernel_rfl)) rfl ⟨?_, below_put hb0 (Nat.le_refl _) (kindP 0)⟩
    rw [HF.out]; rfl
  · obtain ⟨z1, z2⟩ := text_someP t0 (by omega)
    have h1 : 0 < t0.size := by omega
    have h1i : (0 : Int) < (t0.size : Int) := by omega
    have HV2 : Hid (r = if t0[0] = 35 ∨ t0[0] = 33 then (kindP 1, 1) else (pairP (joinP t0 (l.drop (at_ + 1)) 1).1, (joinP t0 (l.drop (at_ + 1)) 1).2)) := by unfold Hid; rw [HV.out, dif_pos h1]
    clear HV
    by_cases n1 : t0[0] = 35
    · have b1 : ((t0[0].toNat : Int) == 35) = true := byte_eqP (d := 35) n1
      have HF : Hid (r = (kindP 1, 1)) := by unfold Hid; rw [HV2.out, if_pos (.inl n1)]
      clear HV2 CU n1
      obtain ⟨z0, z1, z2, z3, z4, z5⟩ := HR0.out.cells
      simp only [kindP] at z0 z1 z2 z3 z4 z5
      have f0 := HR0.out.free 0
      have f1 := HR0.out.free 1
      have f2 := HR0.out.free 2
      have f3 := HR0.out.free 3
      have f4 := HR0.out.free 4
      have f5 := HR0.out.free 5
      go_wp2
      (try simp only [Exit.inBlock, Exit.then])
      refine bodyPost_ret (results_cell1 rfl _ _ w.heap.size 29 _ (0, 0) _ rfl (HR0.out.put (kindP 1)) Tryd.underlying29 rfl (by kernel_rfl)) rfl ⟨?_, below_put hb0 (Nat.le_refl _) (kindP 1)⟩
      rw [HF.out]; rfl
    have b1 : ((t0[0].toNat : Int) == 35) = false := by rw [beq_eq_false_iff_ne]; intro e; exact n1 (UInt8.toNat_inj.1 (Int.ofNat_inj.1 e))
    by_cases n2 : t0[0] = 33
    · have b2 : ((t0[0].toNat : Int) == 33) = true := byte_eqP (d := 33) n2
      have HF : Hid (r = (kindP 1, 1)) := by unfold Hid; rw [HV2.out, if_pos (.inr n2)]
      clear HV2 CU n1 n2
      obtain ⟨z0, z1, z2, z3, z4, z5⟩ := HR0.out.cells
      simp only [kindP] at z0 z1 z2 z3 z4 z5
      have f0 := HR0.out.free 0
      have f1 := HR0.out.free 1
      have f2 := HR0.out.free 2
      have f3 := HR0.out.free 3
      have f4 := HR0.out.free 4
      have f5 := HR0.out.free 5
      go_wp2
      (try simp only [Exit.inBlock, Exit.then])
      refine bodyPost_ret (results_cell1 rfl _ _ w.heap.size 29 _ (0, 0) _ rfl (HR0.out.put (kindP 1)) Tryd.underlying29 rfl (by kernel_rfl)) rfl ⟨?_, below_put hb0 (Nat.le_refl _) (kindP 1)⟩
      rw [HF.out]; rfl
    have b2 : ((t0[0].toNat : Int) == 33) = false := by rw [beq_eq_false_iff_ne]; intro e; exact n2 (UInt8.toNat_inj.1 (Int.ofNat_inj.1 e))
    have HF : Hid (r = (pairP (joinP t0 (l.drop (at_ + 1)) 1).1, (joinP t0 (l.drop (at_ + 1)) 1).2)) := by unfold Hid; rw [HV2.out, if_neg (by simp only [not_or]; exact ⟨n1, n2⟩)]
    clear HV2 n1 n2
    go_wp2
    go_loopw [6, 7] (fun tv nv wr => ∃ (p : Nat) (tx : ByteArray) (hp : p < l.length), at_ ≤ p ∧ tv = .string tx ∧ nv = .int .i64 ((p : Int) + 1 - (at_ : Int)) ∧ tx.size ≤ costL (l.take (p + 1)) ∧ Hid (joinP t0 (l.drop (at_ + 1)) 1 = joinP tx (l.drop (p + 1)) (p + 1 - at_)) ∧ wr = W0) (fun _ nv _ => l.length - (intOf nv).toNat)
    case atStart => exact ⟨at_, t0, hat, Nat.le_refl _, rfl, by congr 1; omega, by omega, by unfold Hid; congr 1; omega, rfl⟩
    case round =>
      obtain ⟨p, tx, hp, hap, rfl, rfl, hsz, hR, rfl⟩ := hrel
      have hct := costL_take l (p + 1) (by omega)
      have KT := Lib.hid (fun w => tail_spec tx w (by unfold maxLen; omega))
      have htn := tailN_le tx
      generalize htt : tailN tx = tn at *
      go_wp2_with fail
      refine (KT.out _).mono ?_
      rintro e w2 ⟨rfl, rfl⟩
      clear KT
      by_cases hodd : tn % 2 = 1
      · have eo : (((tn : Int) % 2) == 1) = true := by rw [beq_iff_eq]; omega
        have htx : 0 < tx.size := by omega
        have s1 : (0 : Int) ≤ (tx.size : Int) - 1 := by omega
        have s2 : (tx.size : Int) - 1 ≤ (tx.size : Int) := by omega
        have hcnd : tailN tx % 2 = 1 := by rw [htt]; exact hodd
        by_cases hlast : p + 1 = l.length
        · have el : ((at_ : Int) + ((p : Int) + 1 - (at_ : Int)) == (l.length : Int)) = true := by rw [beq_iff_eq]; omega
          have HF2 : Hid (r = (pairP (tx.extract 0 (tx.size - 1)), p + 1 - at_)) := by unfold Hid; rw [HF.out, hR.out, List.drop_of_length_le (by omega), joinP_end _ hcnd]
          have hcast : Hid (((p + 1 - at_ : Nat) : Int) = (p : Int) + 1 - (at_ : Int)) := by unfold Hid; omega
          have hz : (tx.extract 0 (tx.size - 1)).size ≤ 10000000 := by rw [ByteArray.size_extract]; omega
          clear hR HF hodd htt hcnd
          have hr2 : Hid (r.2 = p + 1 - at_) := by unfold Hid; rw [HF2.out]
          have hr1 : Hid (r.1 = pairP (tx.extract 0 (tx.size - 1))) := by unfold Hid; rw [HF2.out]
          clear HF2 CU q1
          have KC := Lib.hid (fun w => cutP_spec (tx.extract 0 (tx.size - 1)) w (by omega))
          obtain ⟨hc1, hc2⟩ := cutP_size (tx.extract 0 (tx.size - 1))
          have KA := Lib.hid (fun w => propText_spec (cutP (tx.extract 0 (tx.size - 1))).1 w (by omega))
          have KB := Lib.hid (fun w => propText_spec (cutP (tx.extract 0 (tx.size - 1))).2 w (by omega))
          have hpv : Hid (r.1 = if (propT (cutP (tx.extract 0 (tx.size - 1))).1).2 = true ∧ (propT (cutP (tx.extract 0 (tx.size - 1))).2).2 = true then ⟨3, ⟨#[]⟩, ⟨#[]⟩, (propT (cutP (tx.extract 0 (tx.size - 1))).1).1, (propT (cutP (tx.extract 0 (tx.size - 1))).2).1, 0⟩ else kindP 4) := hr1.out
          clear hr1
          generalize propT (cutP (tx.extract 0 (tx.size - 1))).1 = ra at *
          generalize propT (cutP (tx.extract 0 (tx.size - 1))).2 = rb at *
          generalize cutP (tx.extract 0 (tx.size - 1)) = c at *
          obtain ⟨ca, cb⟩ := c
          obtain ⟨ka, oka⟩ := ra
          obtain ⟨kb, okb⟩ := rb
          simp only at KC KA KB hpv
          go_wp2_with fail
          refine (KC.out _).mono ?_
          rintro e w4 ⟨rfl, rfl⟩
          clear KC
          go_wp2_with fail
          refine (KA.out _).mono ?_
          rintro e w5 ⟨rfl, hb5⟩
          clear KA
          go_wp2_with fail
          refine (KB.out _).mono ?_
          rintro e w6 ⟨rfl, hb6⟩
          clear KB
          have hb56 := hb5.trans (hb6.mono hb5.size)
          have hb7 := hb0.trans (hb56.mono hb0.size)
          have HR7 := Lib.hid (HR0.out.over hb56 hw0)
          clear hb5 hb6 hb56 HR0 hb0
          cases oka
          · have hpv2 : Hid (r.1 = (kindP 4)) := by unfold Hid; rw [hpv.out, if_neg (by simp)]
            clear hpv
            obtain ⟨z0, z1, z2, z3, z4, z5⟩ := HR7.out.cells
            simp only [kindP] at z0 z1 z2 z3 z4 z5
            have f0 := HR7.out.free 0
            have f1 := HR7.out.free 1
            have f2 := HR7.out.free 2
            have f3 := HR7.out.free 3
            have f4 := HR7.out.free 4
            have f5 := HR7.out.free 5
            go_wp2
            (try simp only [Exit.inBlock, Exit.then])
            have hq7 := HR7.out.put (kindP 4)
            have hq8 := below_put hb7 (Nat.le_refl _) (kindP 4)
            try simp only [kindP] at hq7 hq8
            refine bodyPost_ret (results_cell1 rfl _ _ w.heap.size 29 _ (0, 0) _ rfl hq7 Tryd.underlying29 rfl (by kernel_rfl)) rfl ⟨?_, hq8⟩
            rw [hpv2.out, hr2.out, hcast.out]
            simp only [recV, kindP]
            rfl
          · cases okb
            · have hpv2 : Hid (r.1 = (kindP 4)) := by unfold Hid; rw [hpv.out, if_neg (by simp)]
              clear hpv
              obtain ⟨z0, z1, z2, z3, z4, z5⟩ := HR7.out.cells
              simp only [kindP] at z0 z1 z2 z3 z4 z5
              have f0 := HR7.out.free 0
              have f1 := HR7.out.free 1
              have f2 := HR7.out.free 2
              have f3 := HR7.out.free 3
              have f4 := HR7.out.free 4
              have f5 := HR7.out.free 5
              go_wp2
              (try simp only [Exit.inBlock, Exit.then])
              have hq7 := HR7.out.put (kindP 4)
              have hq8 := below_put hb7 (Nat.le_refl _) (kindP 4)
              try simp only [kindP] at hq7 hq8
              refine bodyPost_ret (results_cell1 rfl _ _ w.heap.size 29 _ (0, 0) _ rfl hq7 Tryd.underlying29 rfl (by kernel_rfl)) rfl ⟨?_, hq8⟩
              rw [hpv2.out, hr2.out, hcast.out]
              simp only [recV, kindP]
              rfl
            · have hpv2 : Hid (r.1 = ⟨3, ⟨#[]⟩, ⟨#[]⟩, ka, kb, 0⟩) := by unfold Hid; rw [hpv.out, if_pos ⟨rfl, rfl⟩]
              clear hpv
              obtain ⟨z0, z1, z2, z3, z4, z5⟩ := HR7.out.cells
              simp only [kindP] at z0 z1 z2 z3 z4 z5
              have f0 := HR7.out.free 0
              have f1 := HR7.out.free 1
              have f2 := HR7.out.free 2
              have f3 := HR7.out.free 3
              have f4 := HR7.out.free 4
              have f5 := HR7.out.free 5
              go_wp2
              (try simp only [Exit.inBlock, Exit.then])
              have hq7 := HR7.out.put ⟨3, ⟨#[]⟩, ⟨#[]⟩, ka, kb, 0⟩
              have hq8 := below_put hb7 (Nat.le_refl _) ⟨3, ⟨#[]⟩, ⟨#[]⟩, ka, kb, 0⟩
              try simp only [kindP] at hq7 hq8
              refine bodyPost_ret (results_cell1 rfl _ _ w.heap.size 29 _ (0, 0) _ rfl hq7 Tryd.underlying29 rfl (by kernel_rfl)) rfl ⟨?_, hq8⟩
              rw [hpv2.out, hr2.out, hcast.out]
              simp only [recV, kindP]
              rfl
        · have hp1 : p + 1 < l.length := by omega
          have el : ((at_ : Int) + ((p : Int) + 1 - (at_ : Int)) == (l.length : Int)) = false := by rw [beq_eq_false_iff_ne]; omega
          have ep1 : (at_ : Int) + ((p : Int) + 1 - (at_ : Int)) = ((p + 1 : Nat) : Int) := by omega
          have el2 : ((p : Int) + 1 == (l.length : Int)) = false := by rw [beq_eq_false_iff_ne]; omega
          have q3 : wr.cell? ⟨g, o + (p + 1) * 2, none⟩ = some (.string l[p + 1].1) := (hb0.cell (p := ⟨g, o + (p + 1) * 2, none⟩) hgw).trans (CU.out.c0 (p + 1) hp1)
          have hR2 : Hid (joinP t0 (l.drop (at_ + 1)) 1 = joinP (tx.extract 0 (tx.size - 1) ++ leadP l[p + 1].1) (l.drop (p + 2)) (p + 1 - at_ + 1)) := by
            unfold Hid
            rw [hR.out, List.drop_eq_getElem_cons hp1, joinP_on _ _ _ hcnd]
          have hct2 := costL_take_succ l (p + 1) hp1
          have hct3 := costL_take l (p + 1 + 1) (by omega)
          have hst := leadP_size l[p + 1].1
          have KL2 := Lib.hid (fun w => lead_spec l[p + 1].1 w (by omega))
          generalize leadP l[p + 1].1 = z at *
          generalize hyy : l[p + 1].1 = y at *
          clear hR hodd htt hcnd q1 hyy
          go_wp2_with fail
          refine (KL2.out _).mono ?_
          rintro e w3 ⟨rfl, rfl⟩
          clear KL2
          have hsz3 : (tx.extract 0 (tx.size - 1) ++ z).size ≤ costL (l.take (p + 1 + 1)) := by
            rw [ByteArray.size_append, ByteArray.size_extract]
            omega
          have hR3 : Hid (joinP t0 (l.drop (at_ + 1)) 1 = joinP (tx.extract 0 (tx.size - 1) ++ z) (l.drop (p + 1 + 1)) (p + 1 + 1 - at_)) := by
            unfold Hid
            rw [hR2.out]
            congr 1
            omega
          clear hR2
          go_wp2
          go_roundw
          case rel => exact ⟨p + 1, _, hp1, by omega, rfl, by go_num, hsz3, hR3, trivial⟩
          case measure => simp [intOf]; omega
      · have eo : (((tn : Int) % 2) == 1) = false := by rw [beq_eq_false_iff_ne]; omega
        have HF2 : Hid (r = (pairP tx, p + 1 - at_)) := by unfold Hid; rw [HF.out, hR.out, joinP_stop _ _ (by rw [htt]; exact hodd)]
        have hcast : Hid (((p + 1 - at_ : Nat) : Int) = (p : Int) + 1 - (at_ : Int)) := by unfold Hid; omega
        have hz : tx.size ≤ 10000000 := by omega
        clear hR HF hodd htt
        have hr2 : Hid (r.2 = p + 1 - at_) := by unfold Hid; rw [HF2.out]
        have hr1 : Hid (r.1 = pairP tx) := by unfold Hid; rw [HF2.out]
        clear HF2 CU q1
        have KC := Lib.hid (fun w => cutP_spec tx w (by omega))
        obtain ⟨hc1, hc2⟩ := cutP_size tx
        have KA := Lib.hid (fun w => propText_spec (cutP tx).1 w (by omega))
        have KB := Lib.hid (fun w => propText_spec (cutP tx).2 w (by omega))
        have hpv : Hid (r.1 = if (propT (cutP tx).1).2 = true ∧ (propT (cutP tx).2).2 = true then ⟨3, ⟨#[]⟩, ⟨#[]⟩, (propT (cutP tx).1).1, (propT (cutP tx).2).1, 0⟩ else kindP 4) := hr1.out
        clear hr1
        generalize propT (cutP tx).1 = ra at *
        generalize propT (cutP tx).2 = rb at *
        generalize cutP tx = c at *
        obtain ⟨ca, cb⟩ := c
        obtain ⟨ka, oka⟩ := ra
        obtain ⟨kb, okb⟩ := rb
        simp only at KC KA KB hpv
        go_wp2_with fail
        refine (KC.out _).mono ?_
        rintro e w4 ⟨rfl, rfl⟩
        clear KC
        go_wp2_with fail
        refine (KA.out _).mono ?_
        rintro e w5 ⟨rfl, hb5⟩
        clear KA
        go_wp2_with fail
        refine (KB.out _).mono ?_
        rintro e w6 ⟨rfl, hb6⟩
        clear KB
        have hb56 := hb5.trans (hb6.mono hb5.size)
        have hb7 := hb0.trans (hb56.mono hb0.size)
        have HR7 := Lib.hid (HR0.out.over hb56 hw0)
        clear hb5 hb6 hb56 HR0 hb0
        cases oka
        · have hpv2 : Hid (r.1 = (kindP 4)) := by unfold Hid; rw [hpv.out, if_neg (by simp)]
          clear hpv
          obtain ⟨z0, z1, z2, z3, z4, z5⟩ := HR7.out.cells
          simp only [kindP] at z0 z1 z2 z3 z4 z5
          have f0 := HR7.out.free 0
          have f1 := HR7.out.free 1
          have f2 := HR7.out.free 2
          have f3 := HR7.out.free 3
          have f4 := HR7.out.free 4
          have f5 := HR7.out.free 5
          go_wp2
          (try simp only [Exit.inBlock, Exit.then])
          have hq7 := HR7.out.put (kindP 4)
          have hq8 := below_put hb7 (Nat.le_refl _) (kindP 4)
          try simp only [kindP] at hq7 hq8
          refine bodyPost_ret (results_cell1 rfl _ _ w.heap.size 29 _ (0, 0) _ rfl hq7 Tryd.underlying29 rfl (by kernel_rfl)) rfl ⟨?_, hq8⟩
          rw [hpv2.out, hr2.out, hcast.out]
          simp only [recV, kindP]
          rfl
        · cases okb
          · have hpv2 : Hid (r.1 = (kindP 4)) := by unfold Hid; rw [hpv.out, if_neg (by simp)]
            clear hpv
            obtain ⟨z0, z1, z2, z3, z4, z5⟩ := HR7.out.cells
            simp only [kindP] at z0 z1 z2 z3 z4 z5
            have f0 := HR7.out.free 0
            have f1 := HR7.out.free 1
            have f2 := HR7.out.free 2
            have f3 := HR7.out.free 3
            have f4 := HR7.out.free 4
            have f5 := HR7.out.free 5
            go_wp2
            (try simp only [Exit.inBlock, Exit.then])
            have hq7 := HR7.out.put (kindP 4)
            have hq8 := below_put hb7 (Nat.le_refl _) (kindP 4)
            try simp only [kindP] at hq7 hq8
            refine bodyPost_ret (results_cell1 rfl _ _ w.heap.size 29 _ (0, 0) _ rfl hq7 Tryd.underlying29 rfl (by kernel_rfl)) rfl ⟨?_, hq8⟩
            rw [hpv2.out, hr2.out, hcast.out]
            simp only [recV, kindP]
            rfl
          · have hpv2 : Hid (r.1 = ⟨3, ⟨#[]⟩, ⟨#[]⟩, ka, kb, 0⟩) := by unfold Hid; rw [hpv.out, if_pos ⟨rfl, rfl⟩]
            clear hpv
            obtain ⟨z0, z1, z2, z3, z4, z5⟩ := HR7.out.cells
            simp only [kindP] at z0 z1 z2 z3 z4 z5
            have f0 := HR7.out.free 0
            have f1 := HR7.out.free 1
            have f2 := HR7.out.free 2
            have f3 := HR7.out.free 3
            have f4 := HR7.out.free 4
            have f5 := HR7.out.free 5
            go_wp2
            (try simp only [Exit.inBlock, Exit.then])
            have hq7 := HR7.out.put ⟨3, ⟨#[]⟩, ⟨#[]⟩, ka, kb, 0⟩
            have hq8 := below_put hb7 (Nat.le_refl _) ⟨3, ⟨#[]⟩, ⟨#[]⟩, ka, kb, 0⟩
            try simp only [kindP] at hq7 hq8
            refine bodyPost_ret (results_cell1 rfl _ _ w.heap.size 29 _ (0, 0) _ rfl hq7 Tryd.underlying29 rfl (by kernel_rfl)) rfl ⟨?_, hq8⟩
            rw [hpv2.out, hr2.out, hcast.out]
            simp only [recV, kindP]
            rfl

end Go.Proofs.YtflnpkckdjmljaaDoor
