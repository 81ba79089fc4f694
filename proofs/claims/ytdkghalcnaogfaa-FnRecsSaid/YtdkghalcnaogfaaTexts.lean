/- Lists of texts in memory: how they are read, compared and marked. -/
import Derived.Test.YtdkghalcnaogfaaProg
import Derived.Test.YtdkghalcnaogfaaPlain
import Derived.Test.YtdkghalcnaogfaaDec
import Derived.WalkKit
import Derived.WalkLawsBesides
import Derived.BigQuiet
import Derived.Deep.QuietTactic
import Derived.Lib.QuietBelow
import Derived.Laws.IdiomStrings
import Derived.Lib.Hide
import Derived.IntWalk
namespace Go.Proofs.Ytdkghalcnaogfaa
open Go.RowKit Go.Sort
set_option linter.unusedVariables false

/-- a list of texts, as a value and what it leads to -/
structure TextsIs (w : World) (v : Value) (g : Nat) (l : List ByteArray) : Prop where
  form : ∃ (a : Option Addr) (cap : Nat), v = .slice a l.length cap ∧ (l ≠ [] → a = some ⟨g, 0, none⟩)
  cell : ∀ i (h : i < l.length), w.cell? ⟨g, i, none⟩ = some (.string l[i])
  free : ∀ i, i < l.length → w.frozen? ⟨g, i, none⟩ = false
theorem TextsIs.kept {w w' : World} {v : Value} {g : Nat} {l : List ByteArray} (h : TextsIs w v g l) (hk : l ≠ [] → w'.heap[g]? = w.heap[g]?) : TextsIs w' v g l :=
  ⟨h.form, fun i hi => (World.cell?_of_block (a := ⟨g, i, none⟩) (hk (by intro e; subst e; simp at hi))).trans (h.cell i hi), fun i hi => (World.frozen?_of_block (a := ⟨g, i, none⟩) (hk (by intro e; subst e; simp at hi))).trans (h.free i hi)⟩
theorem TextsIs.lt {w : World} {v : Value} {g : Nat} {l : List ByteArray} (h : TextsIs w v g l) (hl : l ≠ []) : g < w.heap.size := by
  have h0 : 0 < l.length := List.length_pos_iff.2 hl
  exact World.block_lt_of_cell? _ _ (h.cell 0 h0)
theorem TextsIs.below {B : Nat} {w w' : World} {v : Value} {g : Nat} {l : List ByteArray} (h : TextsIs w v g l) (hb : Below B w w') (hg : l ≠ [] → g < B) : TextsIs w' v g l :=
  h.kept (fun hl => hb.block g (hg hl))
/-- out of a row that the call itself made -/
theorem textsIs_of_owns {w : World} {base n : Nat} {v : Value} {l : List ByteArray} {t : Nat} (h : w.ownsRow base t 1 v n (l.map Value.string)) (hn : n = l.length) (hB : base ≤ w.heap.size) : ∃ g, TextsIs w v g l ∧ base ≤ g := by
  subst hn
  rcases h.2 with ⟨hv, h0⟩ | ⟨g, cap, cur, hv, hb, hg, hnc, hcm, hcs, htake⟩
  · have hl : l = [] := List.eq_nil_of_length_eq_zero h0
    subst hl
    exact ⟨w.heap.size, ⟨⟨none, 0, hv, fun h => absurd rfl h⟩, fun i hi => by simp at hi, fun i hi => by simp at hi⟩, hB⟩
  · subst hv
    refine ⟨g, ⟨⟨_, cap, rfl, fun _ => rfl⟩, fun i hi => ?_, fun i hi => World.ownsRow.frozenAt h i⟩, hb⟩
    rw [World.ownsRow.cellAt h i (by omega)]
    simp [hi]


set_option maxHeartbeats 800000 in
theorem eqTexts (w : World) (u v : Value) (g g' : Nat) (l m : List ByteArray) (hu : TextsIs w u g l) (hv : TextsIs w v g' m) (hl : l.length ≤ 9223372036854775806) (hm : m.length ≤ 9223372036854775806) :
    Calls Try.prog 33 #[u, v] w fun e w' => e = .returned (.bool (decide (l = m))) ∧ ∃ n, w' = w.drewN n := by
  obtain ⟨⟨a, cap, rfl, ha⟩, cu, fu⟩ := hu
  obtain ⟨⟨b, cap', rfl, hb⟩, cv, fv⟩ := hv
  by_cases hlen : l.length = m.length
  · have hne : ((l.length : Int) != (m.length : Int)) = false := by simp [hlen]
    have HL := Lib.hid hlen
    have CU := Lib.hid cu
    have CV := Lib.hid cv
    have HA := Lib.hid ha
    have HB := Lib.hid hb
    clear hlen cu cv fu fv ha hb
    go_enter Try.func33, Try.ntmps33
    go_wp2
    go_loopw [5] (fun i wr => ∃ k n : Nat, k ≤ l.length ∧ i = .int .i64 k ∧ wr = w.drewN n ∧ Hid (l.take k = m.take k)) (fun i wr => l.length - (intOf i).toNat)
    case atStart => exact ⟨0, 0, Nat.zero_le _, rfl, rfl, rfl⟩
    case round =>
      obtain ⟨k, n, hk, rfl, rfl, ht⟩ := hrel
      by_cases hlt : k < l.length
      · have hltm : k < m.length := by rw [← HL.out]; exact hlt
        obtain rfl := HA.out (by intro e; subst e; simp at hlt)
        obtain rfl := HB.out (by intro e; subst e; simp at hltm)
        have h1 := CU.out k hlt
        have h2 := CV.out k hltm
        by_cases heq : l[k] = m[k]
        · have hbb : (l[k].toList == m[k].toList) = true := by simp [heq]
          have ht2 : Hid (l.take (k + 1) = m.take (k + 1)) := by
            unfold Hid
            rw [List.take_succ_eq_append_getElem hlt, List.take_succ_eq_append_getElem hltm, ht.out, heq]
          generalize l[k] = x at *
          generalize m[k] = y at *
          clear heq
          go_wp2_with fail
          go_quiet (fail)
          go_wp2
          go_roundw
          case rel => exact ⟨k + 1, n + nq, by omega, by go_num, by simp, ht2⟩
          case measure => simp [intOf]; omega
        · have hbb : (l[k].toList == m[k].toList) = false := by
            rw [beq_eq_false_iff_ne]
            intro e
            apply heq
            rw [Lib.toList_data, Lib.toList_data] at e
            exact ByteArray.ext (Array.toList_inj.1 e)
          have HD : Hid (decide (l = m) = false) := by
            unfold Hid
            rw [decide_eq_false_iff_not]
            intro e
            subst e
            exact heq rfl
          generalize l[k] = x at *
          generalize m[k] = y at *
          clear heq ht
          go_wp2_with fail
          go_quiet (fail)
          go_wp2
          go_ret
          exact ⟨by rw [HD.out]; rfl, _, by rw [World.drewN_drewN]⟩
      · have HD : Hid (decide (l = m) = true) := by
          unfold Hid
          rw [decide_eq_true_iff]
          have e := ht.out
          rw [List.take_of_length_le (by omega), List.take_of_length_le (by rw [← HL.out]; omega)] at e
          exact e
        clear ht
        go_wp2
        go_ret
        exact ⟨by rw [HD.out]; rfl, n, rfl⟩
  · have hne : ((l.length : Int) != (m.length : Int)) = true := by rw [bne_iff_ne]; omega
    have HD : Hid (decide (l = m) = false) := by
      unfold Hid
      rw [decide_eq_false_iff_not]
      intro e
      exact hlen (congrArg List.length e)
    clear hlen
    go_enter Try.func33, Try.ntmps33
    go_wp2
    go_ret
    exact ⟨by rw [HD.out]; rfl, 0, rfl⟩

set_option maxHeartbeats 800000 in
theorem sameTexts_any (w : World) (u v : Value) (g g' : Nat) (l m : List ByteArray) (hu : TextsIs w u g l) (hv : TextsIs w v g' m) (hl : l.length ≤ 9223372036854775806) (hm : m.length ≤ 9223372036854775806) :
    Calls Try.prog 19 #[u, v] w fun e w' => e = .returned (.bool (decide (l = m))) ∧ ∃ n, w' = w.drewN n := by
  obtain ⟨⟨a, cap, rfl, ha⟩, cu, fu⟩ := hu
  obtain ⟨⟨b, cap', rfl, hb⟩, cv, fv⟩ := hv
  by_cases hlen : l.length = m.length
  · have hne : ((l.length : Int) != (m.length : Int)) = false := by simp [hlen]
    have HL := Lib.hid hlen
    have CU := Lib.hid cu
    have CV := Lib.hid cv
    have HA := Lib.hid ha
    have HB := Lib.hid hb
    clear hlen cu cv fu fv ha hb
    go_enter Try.func19, Try.ntmps19
    go_wp2
    go_loopw [5] (fun i wr => ∃ k n : Nat, k ≤ l.length ∧ i = .int .i64 k ∧ wr = w.drewN n ∧ Hid (l.take k = m.take k)) (fun i wr => l.length - (intOf i).toNat)
    case atStart => exact ⟨0, 0, Nat.zero_le _, rfl, rfl, rfl⟩
    case round =>
      obtain ⟨k, n, hk, rfl, rfl, ht⟩ := hrel
      by_cases hlt : k < l.length
      · have hltm : k < m.length := by rw [← HL.out]; exact hlt
        obtain rfl := HA.out (by intro e; subst e; simp at hlt)
        obtain rfl := HB.out (by intro e; subst e; simp at hltm)
        have h1 := CU.out k hlt
        have h2 := CV.out k hltm
        by_cases heq : l[k] = m[k]
        · have hbb : (l[k].toList == m[k].toList) = true := by simp [heq]
          have ht2 : Hid (l.take (k + 1) = m.take (k + 1)) := by
            unfold Hid
            rw [List.take_succ_eq_append_getElem hlt, List.take_succ_eq_append_getElem hltm, ht.out, heq]
          generalize l[k] = x at *
          generalize m[k] = y at *
          clear heq
          go_wp2_with fail
          go_quiet (fail)
          go_wp2
          go_roundw
          case rel => exact ⟨k + 1, n + nq, by omega, by go_num, by simp, ht2⟩
          case measure => simp [intOf]; omega
        · have hbb : (l[k].toList == m[k].toList) = false := by
            rw [beq_eq_false_iff_ne]
            intro e
            apply heq
            rw [Lib.toList_data, Lib.toList_data] at e
            exact ByteArray.ext (Array.toList_inj.1 e)
          have HD : Hid (decide (l = m) = false) := by
            unfold Hid
            rw [decide_eq_false_iff_not]
            intro e
            subst e
            exact heq rfl
          generalize l[k] = x at *
          generalize m[k] = y at *
          clear heq ht
          go_wp2_with fail
          go_quiet (fail)
          go_wp2
          go_ret
          exact ⟨by rw [HD.out]; rfl, _, by rw [World.drewN_drewN]⟩
      · have HD : Hid (decide (l = m) = true) := by
          unfold Hid
          rw [decide_eq_true_iff]
          have e := ht.out
          rw [List.take_of_length_le (by omega), List.take_of_length_le (by rw [← HL.out]; omega)] at e
          exact e
        clear ht
        go_wp2
        go_ret
        exact ⟨by rw [HD.out]; rfl, n, rfl⟩
  · have hne : ((l.length : Int) != (m.length : Int)) = true := by rw [bne_iff_ne]; omega
    have HD : Hid (decide (l = m) = false) := by
      unfold Hid
      rw [decide_eq_false_iff_not]
      intro e
      exact hlen (congrArg List.length e)
    clear hlen
    go_enter Try.func19, Try.ntmps19
    go_wp2
    go_ret
    exact ⟨by rw [HD.out]; rfl, 0, rfl⟩

end Go.Proofs.Ytdkghalcnaogfaa
