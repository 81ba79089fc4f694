/- A record of lines that a mark joins: the program's markedRec. -/
import Derived.Test.YtcphmgdeigbemaaDoorProg
import Derived.Test.YtcphmgdeigbemaaDoorPlain
import Derived.Test.YtcphmgdeigbemaaDoorDialectRows
import Derived.Test.YtcphmgdeigbemaaDoorRecRows
import Derived.Test.YtcphmgdeigbemaaDoorRecArg
import Derived.Test.YtcphmgdeigbemaaDoorLines
import Derived.Test.YtcphmgdeigbemaaDoorLinesArg
import Derived.Test.YtcphmgdeigbemaaDoorJoin
import Derived.Test.YtcphmgdeigbemaaDoorPairSpec
import Derived.Test.YtcphmgdeigbemaaDoorRecOf
import Derived.Test.YtcphmgdeigbemaaDoorTakeImpl
import Derived.Test.YtcphmgdeigbemaaDoorSingleRec
import Derived.Test.YtcphmgdeigbemaaDoorJoinMarked
import Derived.WalkKit
import Derived.WalkLawsBesides
import Derived.BigQuiet
import Derived.Deep.QuietTactic
import Derived.Lib.QuietBelow
import Derived.Laws.IdiomStrings
import Derived.Lib.Hide
import Derived.IntWalk
import Derived.Outline
set_option maxRecDepth 100000
namespace Go.Proofs.YtcphmgdeigbemaaDoor
open Go.RowKit Go.Sort
set_option linter.unusedVariables false

theorem lines_rest {w : World} {g n cap : Nat} {l : List Ln} (h : LinesRd w (.slice (some ⟨g, 0, none⟩) l.length n) g 0 l) (k : Nat) (hk : k ≤ l.length) : LinesRd w (.slice (some ⟨g, k * 2, none⟩) (l.length - k) cap) g (k * 2) (l.drop k) := by
  have := lines_from (cap := cap) h k (l.length - k) (by omega)
  rwa [List.take_of_length_le (by rw [List.length_drop]; omega)] at this
/-- how many lines a mark joins, and their text -/
def markN (d : DialectD) (l : List Ln) (k : Nat) (h : k < l.length) : Nat := if isN d (start5 l[k].1) then 1 else (jmI (l.drop k)).2
def markT (d : DialectD) (l : List Ln) (k : Nat) (h : k < l.length) : ByteArray := if isN d (start5 l[k].1) then l[k].1 else jmT (l.drop k)
theorem markN_le (d : DialectD) (l : List Ln) (k : Nat) (h : k < l.length) : 1 ≤ markN d l k h ∧ k + markN d l k h ≤ l.length := by
  unfold markN
  split
  · omega
  · have := jmI_count (l.drop k)
    rw [List.length_drop] at this
    have h2 : l.drop k ≠ [] := by intro e; have := congrArg List.length e; rw [List.length_drop] at this; simp at this; omega
    have := this.2 h2
    omega
theorem jmT_size (l : List Ln) (hl : costL l ≤ 1048576) (k : Nat) : (jmT (l.drop k)).size ≤ 1048576 := by
  have h1 := jmI_len (l.drop k)
  have h2 := joinB_len (l.drop k)
  have h3 := costL_drop l k
  unfold jmT
  rw [Lib.size_eq]
  simp only
  omega

/-- a step's answer, field by field -/
def StepV (w : World) (b : Nat) (d : DialectD) (g : Nat) (l : List Ln) (k c : Nat) (x : RecD) (e : Ending) (w' : World) : Prop := ∃ (y0 : Int) (y1 y2 y3 y4 : ByteArray) (y5 : Int), takeI l k c x = ⟨y0, y1, y2, y3, y4, y5⟩ ∧ e = .returned (.agg #[.int .i64 y0, .string y1, .string y2, .string y3, .string y4, .int .i64 y5]) ∧ Pars w' b d g l (k + c) x.sect ∧ But w.heap.size b w w'
theorem stepV {w : World} {b : Nat} {d : DialectD} {g : Nat} {l : List Ln} {k c : Nat} {x : RecD} {e : Ending} {w' : World} (h : Stepped w b d g l k c x e w') : StepV w b d g l k c x e w' :=
  ⟨_, _, _, _, _, _, rfl, h.1, h.2.1, h.2.2⟩
set_option maxHeartbeats 3200000 in
theorem markedRec_impl (d : DialectD) (w : World) (b k : Nat) (sec : ByteArray) (g : Nat) (l : List Ln) (h : Pars w b d g l k sec) (hk : k < l.length) :
    Calls Tryd.prog 48 #[.pointer (some ⟨b, 0, none⟩)] w (Stepped w b d g l k (markN d l k hk) (recI d sec (markT d l k hk))) := by
  have hbl := h.pa.lt
  have hb0 := (Below.refl w.heap.size w).alloc (Nat.le_refl _) (.cells #[.int .i64 0, .string ⟨#[]⟩, .string ⟨#[]⟩, .string ⟨#[]⟩, .string ⟨#[]⟩, .int .i64 0] 32)
  have HB2 : Hid (RecAt (w.alloc (.cells #[.int .i64 0, .string ⟨#[]⟩, .string ⟨#[]⟩, .string ⟨#[]⟩, .string ⟨#[]⟩, .int .i64 0] 32)) w.heap.size noRec) := recAt_new w noRec
  have hs0 : w.heap.size < (w.alloc (.cells #[.int .i64 0, .string ⟨#[]⟩, .string ⟨#[]⟩, .string ⟨#[]⟩, .string ⟨#[]⟩, .int .i64 0] 32)).heap.size := by simp
  have h0 := h.over hb0
  have hlen := h.len
  have hr1 : (k : Int) < (l.length : Int) := by omega
  have n1 : b ≠ w.heap.size := by omega
  have n2 : w.heap.size ≠ b := by omega
  have n3 : g ≠ w.heap.size := by
    have := h.ls.lt (by intro e; subst e; simp at hk)
    omega
  have hls := start5_size l[k].1
  have htx := h.size k hk
  have K0 := Lib.hid (fun w => trimStart_impl l[k].1 w)
  have K1 := Lib.hid (fun w => isNote_impl d (start5 l[k].1) w (by omega))
  have KR := Lib.hid (fun (W : World) (x : ByteArray) (hx : x.size ≤ 1048576) (hW : Pars W b d g l k sec) => recOf_impl d x W b _ k sec hW.pa hx h.se)
  have KS := Lib.hid (fun (W : World) (hW : Pars W b d g l k sec) => singleRec_impl d W b k sec g l hW hk)
  have hjz := jmT_size l h.co k
  have hjc := jmI_count (l.drop k)
  have hjn : l.drop k ≠ [] := by intro e; have := congrArg List.length e; rw [List.length_drop] at this; simp at this; omega
  have hj1 := hjc.2 hjn
  have hj2 : k + (jmI (l.drop k)).2 ≤ l.length := by have := hjc.1; rw [List.length_drop] at this; omega
  have hcd := Nat.le_trans (costL_drop l k) h.co
  have KJ := Lib.hid (fun (W : World) (hW : Pars W b d g l k sec) => joinMarked_impl W (.slice (some ⟨g, k * 2, none⟩) (l.length - k) (l.length - k)) g (k * 2) (l.drop k) (lines_rest hW.ls k (by omega)) hcd (fun _ => hW.ls.lt (by intro e; subst e; simp at hk)))
  have KT := Lib.hid (fun (W : World) (x : RecD) (hW : Pars W b d g l k sec) => take_any (c := (jmI (l.drop k)).2) x hW hj1 hj2)
  have HN1 : Hid (isN d (start5 l[k].1) = true → markN d l k hk = 1 ∧ markT d l k hk = l[k].1) := by
    intro e; unfold markN markT; rw [e]; exact ⟨rfl, rfl⟩
  have HN2 : Hid (isN d (start5 l[k].1) = false → markN d l k hk = (jmI (l.drop k)).2 ∧ markT d l k hk = jmT (l.drop k)) := by
    intro e; unfold markN markT; rw [e]; exact ⟨rfl, rfl⟩
  clear hcd hjc hjn hls htx
  generalize markN d l k hk = mn at *
  generalize markT d l k hk = mt at *
  generalize isN d (start5 l[k].1) = nn at *
  generalize jmT (l.drop k) = jt at *
  generalize (jmI (l.drop k)).2 = jc at *
  have hr2 : ¬ l.length = k := by omega
  have hr3 : (k : Int) ≤ (l.length : Int) := by omega
  have t0 := h0.text k hk
  generalize start5 l[k].1 = sx at *
  generalize l[k].1 = tx at *
  have H0 := Lib.hid h0
  have HB0 := Lib.hid hb0
  clear hb0
  obtain ⟨d0, d1, d2, d3, d4, d5⟩ := d
  unfold dialectV at *
  simp only at K0 K1
  go_enter Tryd.func48, Tryd.ntmps48
  go_wp2_with fail
  generalize w.alloc (.cells #[.int .i64 0, .string ⟨#[]⟩, .string ⟨#[]⟩, .string ⟨#[]⟩, .string ⟨#[]⟩, .int .i64 0] 32) = W at *
  obtain ⟨p0, p1, p2, p3, p4, p5, p6, p7, p8⟩ := h0.pa.cells
  simp only at p0 p1 p2 p3 p4 p5
  have x0 := cell_regrown p0
  have x1 := cell_regrown p1
  have x2 := cell_regrown p2
  have x3 := cell_regrown p3
  have x4 := cell_regrown p4
  have x5 := cell_regrown p5
  have x6 := cell_regrown p6
  have x7 := cell_regrown p7
  have xt := cell_regrown t0
  clear p0 p1 p2 p3 p4 p5 p6 p7 p8 h0 t0
  have KA : Hid (∀ q os, Calls Tryd.prog 56 #[.string tx] (grow (redrawn W q) os) fun e w' => e = .returned (.string sx) ∧ ∃ p : Regrown, w' = grow (redrawn W p.d) p.os) := by
    intro q os
    exact Calls.regrown_of (K0.out _)
  have KB : Hid (∀ q os, Calls Tryd.prog 60 #[.agg #[.string d0, .string d1, .bool d2, .bool d3, .bool d4, .int .i64 d5], .string sx] (grow (redrawn W q) os) fun e w' => e = .returned (.bool nn) ∧ ∃ p : Regrown, w' = grow (redrawn W p.d) p.os) := by
    intro q os
    exact Calls.regrown_of (K1.out _)
  clear K0 K1
  refine wp_region_quiet_below (by kernel_rfl) (by kernel_rfl) ?_
  repeat (go_big_quiet_step (first | with_reducible exact KA.out _ _ | with_reducible exact KB.out _ _))
  refine wpQuiet_nil ?_
  intro _ hw'
  obtain ⟨⟨dq, osq⟩, hw''⟩ := hw'
  subst hw''
  have hbq := below_regrown W dq osq
  replace H0 := Lib.hid (H0.out.over hbq)
  replace HB0 := Lib.hid (HB0.out.trans (hbq.mono HB0.out.size))
  replace HB2 := Lib.hid (HB2.out.over hbq hs0)
  replace hs0 := Nat.lt_of_lt_of_le hs0 hbq.size
  clear KA KB x0 x1 x2 x3 x4 x5 x6 x7 xt hbq
  generalize grow (redrawn W dq) osq = W1 at *
  cases nn
  · obtain ⟨rfl, rfl⟩ := HN2.out rfl
    clear HN1 HN2 KS
    have KR2 := Lib.hid (fun W hW => KR.out W mt hjz hW)
    clear KR
    generalize recI ⟨d0, d1, d2, d3, d4, d5⟩ sec mt = x at *
    obtain ⟨p0, p1, p2, p3, p4, p5, p6, p7, p8⟩ := H0.out.pa.cells
    have x6 := cell_regrown p6
    have x7 := cell_regrown p7
    clear p0 p1 p2 p3 p4 p5 p6 p7 p8
    have KA : Hid (∀ q os, Calls Tryd.prog 64 #[.slice (some ⟨g, k * 2, none⟩) (l.length - k) (l.length - k)] (grow (redrawn W1 q) os) fun e w' => e = .returned (.tuple #[.string mt, .int .i64 (mn : Int)]) ∧ ∃ p : Regrown, w' = grow (redrawn W1 p.d) p.os) := by
      intro q os
      exact Calls.regrown_of (KJ.out _ (H0.out.over (below_regrown W1 q os)))
    clear KJ
    go_wp2_with fail
    refine wp_region_quiet_below (by kernel_rfl) (by kernel_rfl) ?_
    repeat (go_big_quiet_step (with_reducible exact KA.out _ _))
    refine wpQuiet_nil ?_
    intro _ hw'
    obtain ⟨⟨dq2, osq2⟩, hw''⟩ := hw'
    subst hw''
    have hbq := below_regrown W1 dq2 osq2
    replace H0 := Lib.hid (H0.out.over hbq)
    replace HB0 := Lib.hid (HB0.out.trans (hbq.mono HB0.out.size))
    replace HB2 := Lib.hid (HB2.out.over hbq hs0)
    replace hs0 := Nat.lt_of_lt_of_le hs0 hbq.size
    clear KA x6 x7 hbq
    generalize grow (redrawn W1 dq2) osq2 = W2 at *
    go_wp2_with fail
    refine (KR2.out _ H0.out).mono ?_
    rintro e W3 ⟨rfl, hb3⟩
    replace H0 := Lib.hid (H0.out.over hb3)
    replace HB0 := Lib.hid (HB0.out.trans (hb3.mono HB0.out.size))
    replace HB2 := Lib.hid (HB2.out.over hb3 hs0)
    replace hs0 := Nat.lt_of_lt_of_le hs0 hb3.size
    clear KR2 hb3
    go_wp2_with fail
    refine ((KT.out _ x H0.out).mono (fun _ _ => stepV)).mono ?_
    rintro e w2 ⟨y0, y1, y2, y3, y4, y5, hT, rfl, hp2, hu2⟩
    clear KT
    have hB3 : RecAt w2 w.heap.size noRec := by
      unfold RecAt
      rw [hu2.block _ hs0 n2]
      exact HB2.out
    obtain ⟨a0, a1, a2, a3, a4, a5⟩ := hB3.cells
    simp only [noRec] at a0 a1 a2 a3 a4 a5
    have f0 := hB3.free 0
    have f1 := hB3.free 1
    have f2 := hB3.free 2
    have f3 := hB3.free 3
    have f4 := hB3.free 4
    have f5 := hB3.free 5
    have HB3 := Lib.hid hB3
    have HP2 := Lib.hid hp2
    have HU2 := Lib.hid hu2
    have HT := Lib.hid hT
    clear hB3 hp2 hu2 hT
    go_wp2
    (try simp only [Exit.inBlock, Exit.then])
    exact bodyPost_ret (rec_result _ w.heap.size _ _ _ _ rfl rfl (HB3.out.put6 _ _ _ _ _ _)) rfl (stepped HT.out (HP2.out.set6 n1 n3 _ _ _ _ _ _) (((But.of HB0.out).trans (HU2.out.mono HB0.out.size)).put6 _ (Nat.le_refl _) _ _ _ _ _ _))
  · obtain ⟨rfl, rfl⟩ := HN1.out rfl
    clear HN1 HN2 KR KJ KT
    generalize recI ⟨d0, d1, d2, d3, d4, d5⟩ sec mt = x at *
    go_wp2_with fail
    refine ((KS.out _ H0.out).mono (fun _ _ => stepV)).mono ?_
    rintro e w2 ⟨y0, y1, y2, y3, y4, y5, hT, rfl, hp2, hu2⟩
    clear KS
    have hB3 : RecAt w2 w.heap.size noRec := by
      unfold RecAt
      rw [hu2.block _ hs0 n2]
      exact HB2.out
    obtain ⟨a0, a1, a2, a3, a4, a5⟩ := hB3.cells
    simp only [noRec] at a0 a1 a2 a3 a4 a5
    have f0 := hB3.free 0
    have f1 := hB3.free 1
    have f2 := hB3.free 2
    have f3 := hB3.free 3
    have f4 := hB3.free 4
    have f5 := hB3.free 5
    have HB3 := Lib.hid hB3
    have HP2 := Lib.hid hp2
    have HU2 := Lib.hid hu2
    have HT := Lib.hid hT
    clear hB3 hp2 hu2 hT
    go_wp2
    (try simp only [Exit.inBlock, Exit.then])
    exact bodyPost_ret (rec_result _ w.heap.size _ _ _ _ rfl rfl (HB3.out.put6 _ _ _ _ _ _)) rfl (stepped HT.out (HP2.out.set6 n1 n3 _ _ _ _ _ _) (((But.of HB0.out).trans (HU2.out.mono HB0.out.size)).put6 _ (Nat.le_refl _) _ _ _ _ _ _))

end Go.Proofs.YtcphmgdeigbemaaDoor
