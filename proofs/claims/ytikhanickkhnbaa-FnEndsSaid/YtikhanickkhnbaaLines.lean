/- Lists of lines in memory: how they are read, compared, copied and marked. -/
import Derived.Test.YtikhanickkhnbaaProg
import Derived.Test.YtikhanickkhnbaaPlain
import Derived.Test.YtikhanickkhnbaaDec
import Derived.Test.YtikhanickkhnbaaTexts
import Derived.Test.YtikhanickkhnbaaMarks
import Derived.WalkKit
import Derived.WalkLawsBesides
import Derived.BigQuiet
import Derived.Deep.QuietTactic
import Derived.Lib.QuietBelow
import Derived.Laws.IdiomStrings
import Derived.Lib.Hide
import Derived.IntWalk
namespace Go.Proofs.Ytikhanickkhnbaa
open Go.RowKit Go.Sort
set_option linter.unusedVariables false

/-- a line: its text and its end -/
abbrev Ln := ByteArray × ByteArray

/-- a list of lines, as a value and what it leads to -/
structure LinesRd (w : World) (v : Value) (g o : Nat) (l : List Ln) : Prop where
  form : ∃ (a : Option Addr) (cap : Nat), v = .slice a l.length cap ∧ (l ≠ [] → a = some ⟨g, o, none⟩)
  c0 : ∀ i (h : i < l.length), w.cell? ⟨g, o + i * 2, none⟩ = some (.string l[i].1)
  c1 : ∀ i (h : i < l.length), w.cell? ⟨g, o + i * 2 + 1, none⟩ = some (.string l[i].2)
/-- and none of its cells is frozen -/
structure LinesIs (w : World) (v : Value) (g o : Nat) (l : List Ln) : Prop extends LinesRd w v g o l where
  free : ∀ i, i < l.length * 2 → w.frozen? ⟨g, o + i, none⟩ = false
theorem LinesRd.kept {w w' : World} {v : Value} {g o : Nat} {l : List Ln} (h : LinesRd w v g o l) (hk : l ≠ [] → w'.heap[g]? = w.heap[g]?) : LinesRd w' v g o l :=
  ⟨h.form, fun i hi => (World.cell?_of_block (a := ⟨g, o + i * 2, none⟩) (hk (by intro e; subst e; simp at hi))).trans (h.c0 i hi),
    fun i hi => (World.cell?_of_block (a := ⟨g, o + i * 2 + 1, none⟩) (hk (by intro e; subst e; simp at hi))).trans (h.c1 i hi)⟩
theorem LinesIs.kept {w w' : World} {v : Value} {g o : Nat} {l : List Ln} (h : LinesIs w v g o l) (hk : l ≠ [] → w'.heap[g]? = w.heap[g]?) : LinesIs w' v g o l :=
  ⟨h.toLinesRd.kept hk, fun i hi => (World.frozen?_of_block (a := ⟨g, o + i, none⟩) (hk (by intro e; subst e; simp at hi))).trans (h.free i hi)⟩
theorem LinesRd.lt {w : World} {v : Value} {g o : Nat} {l : List Ln} (h : LinesRd w v g o l) (hl : l ≠ []) : g < w.heap.size := by
  have h0 : 0 < l.length := List.length_pos_iff.2 hl
  exact World.block_lt_of_cell? _ _ (h.c0 0 h0)
theorem LinesRd.below {B : Nat} {w w' : World} {v : Value} {g o : Nat} {l : List Ln} (h : LinesRd w v g o l) (hb : Below B w w') (hg : l ≠ [] → g < B) : LinesRd w' v g o l :=
  h.kept (fun hl => hb.block g (hg hl))
theorem LinesIs.below {B : Nat} {w w' : World} {v : Value} {g o : Nat} {l : List Ln} (h : LinesIs w v g o l) (hb : Below B w w') (hg : l ≠ [] → g < B) : LinesIs w' v g o l :=
  h.kept (fun hl => hb.block g (hg hl))

/-- the cells of a list of lines -/
def lnCells (l : List Ln) : List Value := l.flatMap (fun x => [.string x.1, .string x.2])
theorem lnCells_length (l : List Ln) : (lnCells l).length = l.length * 2 := by
  induction l with
  | nil => rfl
  | cons x l ih => simp only [lnCells, List.flatMap_cons, List.length_append, List.length_cons, List.length_nil] at *; omega
theorem lnCells_append (a b : List Ln) : lnCells (a ++ b) = lnCells a ++ lnCells b := by simp [lnCells]
theorem lnCells_0 (l : List Ln) (i : Nat) (h : i < l.length) : (lnCells l)[i * 2]? = some (.string l[i].1) := by
  induction l generalizing i with
  | nil => simp at h
  | cons x l ih =>
    cases i with
    | zero => simp [lnCells]
    | succ i =>
      have := ih i (by simpa using h)
      simp only [lnCells, List.flatMap_cons] at *
      rw [show (i + 1) * 2 = i * 2 + 2 from by omega]
      simpa using this
theorem lnCells_1 (l : List Ln) (i : Nat) (h : i < l.length) : (lnCells l)[i * 2 + 1]? = some (.string l[i].2) := by
  induction l generalizing i with
  | nil => simp at h
  | cons x l ih =>
    cases i with
    | zero => simp [lnCells]
    | succ i =>
      have := ih i (by simpa using h)
      simp only [lnCells, List.flatMap_cons] at *
      rw [show (i + 1) * 2 + 1 = i * 2 + 1 + 2 from by omega]
      simpa using this
theorem lnCells_one (l : List Ln) : ∀ u ∈ lnCells l, u.oneCell' = true := by
  intro u hu
  simp only [lnCells, List.mem_flatMap] at hu
  obtain ⟨x, _, hx⟩ := hu
  simp at hx
  rcases hx with rfl | rfl <;> rfl
/-- out of a row that the call itself made -/
theorem linesIs_of_owns {w : World} {base n : Nat} {v : Value} {l : List Ln} {t : Nat} (h : w.ownsRow base t 2 v n (lnCells l)) (hn : n = l.length) (hB : base ≤ w.heap.size) : ∃ g, LinesIs w v g 0 l ∧ base ≤ g := by
  subst hn
  rcases h.2 with ⟨hv, h0⟩ | ⟨g, cap, cur, hv, hb, hg, hnc, hcm, hcs, htake⟩
  · have hl : l = [] := List.eq_nil_of_length_eq_zero h0
    subst hl
    exact ⟨w.heap.size, ⟨⟨⟨none, 0, hv, fun h => absurd rfl h⟩, fun i hi => by simp at hi, fun i hi => by simp at hi⟩, fun i hi => by simp at hi⟩, hB⟩
  · subst hv
    have cell : ∀ j u, (lnCells l)[j]? = some u → w.cell? ⟨g, j, none⟩ = some u := by
      intro j u hu
      have := World.ownsRow.cells h (g := g) rfl j u hu
      have hadd : (⟨g, 0, none⟩ : Addr).add j = ⟨g, j, none⟩ := by unfold Addr.add; split <;> simp_all
      rwa [hadd] at this
    refine ⟨g, ⟨⟨⟨_, cap, rfl, fun _ => rfl⟩, fun i hi => ?_, fun i hi => ?_⟩, fun i hi => ?_⟩, hb⟩
    · rw [Nat.zero_add]; exact cell _ _ (lnCells_0 l i hi)
    · rw [Nat.zero_add]; exact cell _ _ (lnCells_1 l i hi)
    · rw [Nat.zero_add]; exact World.ownsRow.frozenAt h i

def lnV (x : Ln) : Value := .agg #[.string x.1, .string x.2]

theorem beq_texts (a b : ByteArray) : (a.toList == b.toList) = decide (a = b) := by
  by_cases h : a = b
  · subst h; simp
  · rw [show decide (a = b) = false by simpa using h, beq_eq_false_iff_ne]
    intro e
    apply h
    rw [Lib.toList_data, Lib.toList_data] at e
    exact ByteArray.ext (Array.toList_inj.1 e)

set_option maxHeartbeats 800000 in
theorem eqLine_any (x y : Ln) (w : World) :
    Calls Try.prog 33 #[lnV x, lnV y] w fun e w' => e = .returned (.bool (decide (x = y))) ∧ Below w.heap.size w w' := by
  obtain ⟨a, b⟩ := x
  obtain ⟨c, d⟩ := y
  unfold lnV
  have hb := ((Below.refl w.heap.size w).alloc (Nat.le_refl _) (.cells #[.string a, .string b] 31)).alloc (by simp) (.cells #[.string c, .string d] 31)
  by_cases h1 : a = c
  · have e1 : (a.toList == c.toList) = true := by rw [beq_texts]; simp [h1]
    by_cases h2 : b = d
    · have e2 : (b.toList == d.toList) = true := by rw [beq_texts]; simp [h2]
      have HD : Hid (decide ((a, b) = (c, d)) = true) := by unfold Hid; simp [h1, h2]
      clear h1 h2
      go_enter Try.func33, Try.ntmps33
      go_wp2
      go_ret
      exact ⟨by rw [HD.out]; rfl, hb⟩
    · have e2 : (b.toList == d.toList) = false := by rw [beq_texts]; simp [h2]
      have HD : Hid (decide ((a, b) = (c, d)) = false) := by unfold Hid; simp [h2]
      clear h1 h2
      go_enter Try.func33, Try.ntmps33
      go_wp2
      go_ret
      exact ⟨by rw [HD.out]; rfl, hb⟩
  · have e1 : (a.toList == c.toList) = false := by rw [beq_texts]; simp [h1]
    have HD : Hid (decide ((a, b) = (c, d)) = false) := by unfold Hid; simp [h1]
    clear h1
    go_enter Try.func33, Try.ntmps33
    go_wp2
    go_ret
    exact ⟨by rw [HD.out]; rfl, hb⟩

set_option maxHeartbeats 800000 in
theorem eqLines (w : World) (u v : Value) (g o g' o' : Nat) (l m : List Ln) (hu : LinesRd w u g o l) (hv : LinesRd w v g' o' m) (hl : l.length ≤ 9223372036854775806) (hm : m.length ≤ 9223372036854775806) :
    Calls Try.prog 20 #[u, v] w fun e w' => e = .returned (.bool (decide (l = m))) ∧ Below w.heap.size w w' := by
  by_cases hlen : l.length = m.length
  · obtain ⟨a, cap, rfl, ha⟩ := hu.form
    obtain ⟨b, cap', rfl, hb⟩ := hv.form
    have hne : ((l.length : Int) != (m.length : Int)) = false := by simp [hlen]
    have HL := Lib.hid hlen
    have CU := Lib.hid hu
    have CV := Lib.hid hv
    have HA := Lib.hid ha
    have HB := Lib.hid hb
    clear hlen hu hv ha hb
    go_enter Try.func20, Try.ntmps20
    go_wp2
    go_loopw [5] (fun i wr => ∃ k : Nat, k ≤ l.length ∧ i = .int .i64 k ∧ Below w.heap.size w wr ∧ Hid (l.take k = m.take k)) (fun i wr => l.length - (intOf i).toNat)
    case atStart => exact ⟨0, Nat.zero_le _, rfl, Below.refl _ _, rfl⟩
    case round =>
      obtain ⟨k, hk, rfl, hbr, ht⟩ := hrel
      by_cases hlt : k < l.length
      · have hltm : k < m.length := by rw [← HL.out]; exact hlt
        have hln : l ≠ [] := by intro e; subst e; simp at hlt
        have hmn : m ≠ [] := by intro e; subst e; simp at hltm
        obtain rfl := HA.out hln
        obtain rfl := HB.out hmn
        have q1 := cell_regrown ((hbr.cell (p := ⟨g, o + k * 2, none⟩) (CU.out.lt hln)).trans (CU.out.c0 k hlt))
        have q2 := cell_regrown ((hbr.cell (p := ⟨g, o + k * 2 + 1, none⟩) (CU.out.lt hln)).trans (CU.out.c1 k hlt))
        have q3 := cell_regrown ((hbr.cell (p := ⟨g', o' + k * 2, none⟩) (CV.out.lt hmn)).trans (CV.out.c0 k hltm))
        have q4 := cell_regrown ((hbr.cell (p := ⟨g', o' + k * 2 + 1, none⟩) (CV.out.lt hmn)).trans (CV.out.c1 k hltm))
        have km : Hid (∀ d os, Calls Try.prog 33 #[lnV l[k], lnV m[k]] (grow (redrawn wr d) os) fun e w' => e = .returned (.bool (decide (l[k] = m[k]))) ∧ ∃ p : Regrown, w' = grow (redrawn wr p.d) p.os) := by
          intro d os
          exact Calls.regrown_of (eqLine_any l[k] m[k] _)
        have hjn : (k : Int) < (l.length : Int) := by omega
        have hjm : (k : Int) < (m.length : Int) := by omega
        by_cases heq : l[k] = m[k]
        · have ht2 : Hid (l.take (k + 1) = m.take (k + 1)) := by
            unfold Hid
            rw [List.take_succ_eq_append_getElem hlt, List.take_succ_eq_append_getElem hltm, ht.out, heq]
          rw [show decide (l[k] = m[k]) = true by simpa using heq] at km
          generalize l[k] = x at *
          generalize m[k] = y at *
          obtain ⟨x1, x2⟩ := x
          obtain ⟨y1, y2⟩ := y
          unfold lnV at km
          clear heq
          go_wp2_with fail
          refine wp_region_quiet_below (by kernel_rfl) (by kernel_rfl) ?_
          repeat (go_big_quiet_step (exact km.out _ _))
          refine wpQuiet_nil ?_
          intro _ hw'
          obtain ⟨⟨dq, osq⟩, hw''⟩ := hw'
          subst hw''
          have hb2 := hbr.trans ((below_regrown wr dq osq).mono hbr.size)
          go_wp2
          go_roundw
          case rel => exact ⟨k + 1, by omega, by go_num, hb2, ht2⟩
          case measure => simp [intOf]; omega
        · have HD : Hid (decide (l = m) = false) := by
            unfold Hid
            rw [decide_eq_false_iff_not]
            intro e
            subst e
            exact heq rfl
          rw [show decide (l[k] = m[k]) = false by simpa using heq] at km
          generalize l[k] = x at *
          generalize m[k] = y at *
          obtain ⟨x1, x2⟩ := x
          obtain ⟨y1, y2⟩ := y
          unfold lnV at km
          clear heq ht
          go_wp2_with fail
          refine wp_region_quiet_below (by kernel_rfl) (by kernel_rfl) ?_
          repeat (go_big_quiet_step (exact km.out _ _))
          refine wpQuiet_nil ?_
          intro _ hw'
          obtain ⟨⟨dq, osq⟩, hw''⟩ := hw'
          subst hw''
          have hb2 := hbr.trans ((below_regrown wr dq osq).mono hbr.size)
          go_wp2
          go_ret
          exact ⟨by rw [HD.out]; rfl, hb2⟩
      · have HD : Hid (decide (l = m) = true) := by
          unfold Hid
          rw [decide_eq_true_iff]
          have e := ht.out
          rw [List.take_of_length_le (by omega), List.take_of_length_le (by rw [← HL.out]; omega)] at e
          exact e
        clear ht
        go_wp2
        go_ret
        exact ⟨by rw [HD.out]; rfl, hbr⟩
  · obtain ⟨a, cap, rfl, ha⟩ := hu.form
    obtain ⟨b, cap', rfl, hb⟩ := hv.form
    have hne : ((l.length : Int) != (m.length : Int)) = true := by rw [bne_iff_ne]; omega
    have HD : Hid (decide (l = m) = false) := by
      unfold Hid
      rw [decide_eq_false_iff_not]
      intro e
      exact hlen (congrArg List.length e)
    clear hlen ha hb hu hv
    go_enter Try.func20, Try.ntmps20
    go_wp2
    go_ret
    exact ⟨by rw [HD.out]; rfl, Below.refl _ _⟩

end Go.Proofs.Ytikhanickkhnbaa
