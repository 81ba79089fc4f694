/- The struct Rec: lists of it in memory, and how they are compared. -/
import Derived.Test.YthljlkngmfbeoaaGreatDoorProg
import Derived.Test.YthljlkngmfbeoaaGreatDoorPlain
import Derived.Test.YthljlkngmfbeoaaGreatDoorTexts
import Derived.Test.YthljlkngmfbeoaaGreatDoorRows0
import Derived.WalkKit
import Derived.WalkLawsBesides
import Derived.OwnWalk
import Derived.BigQuiet
import Derived.Deep.QuietTactic
import Derived.Lib.QuietBelow
import Derived.Laws.IdiomStrings
import Derived.Lib.Hide
import Derived.IntWalk
namespace Go.Proofs.YthljlkngmfbeoaaGreatDoor
open Go.RowKit Go.Sort
set_option linter.unusedVariables false

structure RecD where
  kind : Int
  raw : ByteArray
  sect : ByteArray
  key : ByteArray
  value : ByteArray
  line : Int

theorem RecD.eq_iff (a b : RecD) : a = b ↔ a.kind = b.kind ∧ a.raw = b.raw ∧ a.sect = b.sect ∧ a.key = b.key ∧ a.value = b.value ∧ a.line = b.line := by
  cases a; cases b; simp
instance : DecidableEq RecD := fun a b => decidable_of_iff _ (RecD.eq_iff a b).symm

/-- its cells -/
def recCs (x : RecD) : List Value := [.int .i64 x.kind, .string x.raw, .string x.sect, .string x.key, .string x.value, .int .i64 x.line]
/-- as a value -/
def recV (x : RecD) : Value := .agg #[.int .i64 x.kind, .string x.raw, .string x.sect, .string x.key, .string x.value, .int .i64 x.line]
def recS : Shape RecD where
  n := 6
  cs := recCs
  len := fun _ => rfl
  pos := by decide
  one := by
    intro x u hu
    simp only [recCs, List.mem_cons, List.not_mem_nil, or_false] at hu
    rcases hu with rfl | rfl | rfl | rfl | rfl | rfl <;> rfl
theorem rec_n : recS.n = 6 := rfl
theorem rec_c0 {w : World} {v : Value} {g o : Nat} {l : List RecD} (h : RowsRd recS w v g o l) (i : Nat) (hi : i < l.length) : w.cell? ⟨g, o + i * 6, none⟩ = some (.int .i64 l[i].kind) := h.cell i hi 0 _ rfl
theorem rec_p0 {w : World} {v : Value} {g o : Nat} {m : List RecD} {i : Nat} {x : RecD} (h : RowsIs recS w v g o (m.set i x)) (hi : i < m.length) (u : Int) : RowsIs recS (w.setCell ⟨g, o + i * 6, none⟩ (.int .i64 u)) v g o (m.set i { x with kind := u }) := h.put hi 0 (by decide) _ _ rfl
theorem rec_f0 {w : World} {v : Value} {g o : Nat} {m : List RecD} (h : RowsIs recS w v g o m) (i : Nat) (hi : i < m.length) : w.frozen? ⟨g, o + i * 6, none⟩ = false := h.putFree i hi 0 (by decide)
theorem rec_q0 {w : World} {v : Value} {g o : Nat} {m : List RecD} {i : Nat} {x : RecD} (h : RowsIs recS w v g o (m.set i x)) (hi : i < m.length) : w.cell? ⟨g, o + i * 6, none⟩ = some (.int .i64 x.kind) := h.putCell hi 0 _ rfl
theorem rec_c1 {w : World} {v : Value} {g o : Nat} {l : List RecD} (h : RowsRd recS w v g o l) (i : Nat) (hi : i < l.length) : w.cell? ⟨g, o + i * 6 + 1, none⟩ = some (.string l[i].raw) := h.cell i hi 1 _ rfl
theorem rec_p1 {w : World} {v : Value} {g o : Nat} {m : List RecD} {i : Nat} {x : RecD} (h : RowsIs recS w v g o (m.set i x)) (hi : i < m.length) (u : ByteArray) : RowsIs recS (w.setCell ⟨g, o + i * 6 + 1, none⟩ (.string u)) v g o (m.set i { x with raw := u }) := h.put hi 1 (by decide) _ _ rfl
theorem rec_f1 {w : World} {v : Value} {g o : Nat} {m : List RecD} (h : RowsIs recS w v g o m) (i : Nat) (hi : i < m.length) : w.frozen? ⟨g, o + i * 6 + 1, none⟩ = false := h.putFree i hi 1 (by decide)
theorem rec_q1 {w : World} {v : Value} {g o : Nat} {m : List RecD} {i : Nat} {x : RecD} (h : RowsIs recS w v g o (m.set i x)) (hi : i < m.length) : w.cell? ⟨g, o + i * 6 + 1, none⟩ = some (.string x.raw) := h.putCell hi 1 _ rfl
theorem rec_c2 {w : World} {v : Value} {g o : Nat} {l : List RecD} (h : RowsRd recS w v g o l) (i : Nat) (hi : i < l.length) : w.cell? ⟨g, o + i * 6 + 2, none⟩ = some (.string l[i].sect) := h.cell i hi 2 _ rfl
theorem rec_p2 {w : World} {v : Value} {g o : Nat} {m : List RecD} {i : Nat} {x : RecD} (h : RowsIs recS w v g o (m.set i x)) (hi : i < m.length) (u : ByteArray) : RowsIs recS (w.setCell ⟨g, o + i * 6 + 2, none⟩ (.string u)) v g o (m.set i { x with sect := u }) := h.put hi 2 (by decide) _ _ rfl
theorem rec_f2 {w : World} {v : Value} {g o : Nat} {m : List RecD} (h : RowsIs recS w v g o m) (i : Nat) (hi : i < m.length) : w.frozen? ⟨g, o + i * 6 + 2, none⟩ = false := h.putFree i hi 2 (by decide)
theorem rec_q2 {w : World} {v : Value} {g o : Nat} {m : List RecD} {i : Nat} {x : RecD} (h : RowsIs recS w v g o (m.set i x)) (hi : i < m.length) : w.cell? ⟨g, o + i * 6 + 2, none⟩ = some (.string x.sect) := h.putCell hi 2 _ rfl
theorem rec_c3 {w : World} {v : Value} {g o : Nat} {l : List RecD} (h : RowsRd recS w v g o l) (i : Nat) (hi : i < l.length) : w.cell? ⟨g, o + i * 6 + 3, none⟩ = some (.string l[i].key) := h.cell i hi 3 _ rfl
theorem rec_p3 {w : World} {v : Value} {g o : Nat} {m : List RecD} {i : Nat} {x : RecD} (h : RowsIs recS w v g o (m.set i x)) (hi : i < m.length) (u : ByteArray) : RowsIs recS (w.setCell ⟨g, o + i * 6 + 3, none⟩ (.string u)) v g o (m.set i { x with key := u }) := h.put hi 3 (by decide) _ _ rfl
theorem rec_f3 {w : World} {v : Value} {g o : Nat} {m : List RecD} (h : RowsIs recS w v g o m) (i : Nat) (hi : i < m.length) : w.frozen? ⟨g, o + i * 6 + 3, none⟩ = false := h.putFree i hi 3 (by decide)
theorem rec_q3 {w : World} {v : Value} {g o : Nat} {m : List RecD} {i : Nat} {x : RecD} (h : RowsIs recS w v g o (m.set i x)) (hi : i < m.length) : w.cell? ⟨g, o + i * 6 + 3, none⟩ = some (.string x.key) := h.putCell hi 3 _ rfl
theorem rec_c4 {w : World} {v : Value} {g o : Nat} {l : List RecD} (h : RowsRd recS w v g o l) (i : Nat) (hi : i < l.length) : w.cell? ⟨g, o + i * 6 + 4, none⟩ = some (.string l[i].value) := h.cell i hi 4 _ rfl
theorem rec_p4 {w : World} {v : Value} {g o : Nat} {m : List RecD} {i : Nat} {x : RecD} (h : RowsIs recS w v g o (m.set i x)) (hi : i < m.length) (u : ByteArray) : RowsIs recS (w.setCell ⟨g, o + i * 6 + 4, none⟩ (.string u)) v g o (m.set i { x with value := u }) := h.put hi 4 (by decide) _ _ rfl
theorem rec_f4 {w : World} {v : Value} {g o : Nat} {m : List RecD} (h : RowsIs recS w v g o m) (i : Nat) (hi : i < m.length) : w.frozen? ⟨g, o + i * 6 + 4, none⟩ = false := h.putFree i hi 4 (by decide)
theorem rec_q4 {w : World} {v : Value} {g o : Nat} {m : List RecD} {i : Nat} {x : RecD} (h : RowsIs recS w v g o (m.set i x)) (hi : i < m.length) : w.cell? ⟨g, o + i * 6 + 4, none⟩ = some (.string x.value) := h.putCell hi 4 _ rfl
theorem rec_c5 {w : World} {v : Value} {g o : Nat} {l : List RecD} (h : RowsRd recS w v g o l) (i : Nat) (hi : i < l.length) : w.cell? ⟨g, o + i * 6 + 5, none⟩ = some (.int .i64 l[i].line) := h.cell i hi 5 _ rfl
theorem rec_p5 {w : World} {v : Value} {g o : Nat} {m : List RecD} {i : Nat} {x : RecD} (h : RowsIs recS w v g o (m.set i x)) (hi : i < m.length) (u : Int) : RowsIs recS (w.setCell ⟨g, o + i * 6 + 5, none⟩ (.int .i64 u)) v g o (m.set i { x with line := u }) := h.put hi 5 (by decide) _ _ rfl
theorem rec_f5 {w : World} {v : Value} {g o : Nat} {m : List RecD} (h : RowsIs recS w v g o m) (i : Nat) (hi : i < m.length) : w.frozen? ⟨g, o + i * 6 + 5, none⟩ = false := h.putFree i hi 5 (by decide)
theorem rec_q5 {w : World} {v : Value} {g o : Nat} {m : List RecD} {i : Nat} {x : RecD} (h : RowsIs recS w v g o (m.set i x)) (hi : i < m.length) : w.cell? ⟨g, o + i * 6 + 5, none⟩ = some (.int .i64 x.line) := h.putCell hi 5 _ rfl

theorem txt_beqRec (a b : ByteArray) : (a.toList == b.toList) = decide (a = b) := by
  by_cases h : a = b
  · subst h; simp
  · rw [show decide (a = b) = false by simpa using h, beq_eq_false_iff_ne]
    intro e
    apply h
    rw [Lib.toList_data, Lib.toList_data] at e
    exact ByteArray.ext (Array.toList_inj.1 e)
set_option maxHeartbeats 800000 in
theorem eqRec_any (x y : RecD) (w : World) :
    Calls Tryz.prog 28 #[recV x, recV y] w fun e w' => e = .returned (.bool (decide (x = y))) ∧ Below w.heap.size w w' := by
  obtain ⟨a0, a1, a2, a3, a4, a5⟩ := x
  obtain ⟨b0, b1, b2, b3, b4, b5⟩ := y
  unfold recV
  simp only
  have hb := ((Below.refl w.heap.size w).alloc (Nat.le_refl _) (.cells #[.int .i64 a0, .string a1, .string a2, .string a3, .string a4, .int .i64 a5] 29)).alloc (by simp) (.cells #[.int .i64 b0, .string b1, .string b2, .string b3, .string b4, .int .i64 b5] 29)
  by_cases h0 : a0 = b0
  · have e0 : (a0 != b0) = false := by simp [h0]
    by_cases h1 : a1 = b1
    · have e1 : (a1.toList == b1.toList) = true := by rw [txt_beqRec]; simp [h1]
      by_cases h2 : a2 = b2
      · have e2 : (a2.toList == b2.toList) = true := by rw [txt_beqRec]; simp [h2]
        by_cases h3 : a3 = b3
        · have e3 : (a3.toList == b3.toList) = true := by rw [txt_beqRec]; simp [h3]
          by_cases h4 : a4 = b4
          · have e4 : (a4.toList == b4.toList) = true := by rw [txt_beqRec]; simp [h4]
            by_cases h5 : a5 = b5
            · have e5 : (a5 != b5) = false := by simp [h5]
              have HD : Hid (decide ((RecD.mk a0 a1 a2 a3 a4 a5) = RecD.mk b0 b1 b2 b3 b4 b5) = true) := by unfold Hid; simp [h0, h1, h2, h3, h4, h5]
              clear h0 h1 h2 h3 h4 h5
              go_enter Tryz.func28, Tryz.ntmps28
              go_wp2
              go_ret
              exact ⟨by rw [HD.out]; rfl, hb⟩
            · have e5 : (a5 != b5) = true := by simp [h5]
              have HD : Hid (decide ((RecD.mk a0 a1 a2 a3 a4 a5) = RecD.mk b0 b1 b2 b3 b4 b5) = false) := by unfold Hid; simp [h5]
              clear h0 h1 h2 h3 h4 h5
              go_enter Tryz.func28, Tryz.ntmps28
              go_wp2
              go_ret
              exact ⟨by rw [HD.out]; rfl, hb⟩
          · have e4 : (a4.toList == b4.toList) = false := by rw [txt_beqRec]; simp [h4]
            have HD : Hid (decide ((RecD.mk a0 a1 a2 a3 a4 a5) = RecD.mk b0 b1 b2 b3 b4 b5) = false) := by unfold Hid; simp [h4]
            clear h0 h1 h2 h3 h4
            go_enter Tryz.func28, Tryz.ntmps28
            go_wp2
            go_ret
            exact ⟨by rw [HD.out]; rfl, hb⟩
        · have e3 : (a3.toList == b3.toList) = false := by rw [txt_beqRec]; simp [h3]
          have HD : Hid (decide ((RecD.mk a0 a1 a2 a3 a4 a5) = RecD.mk b0 b1 b2 b3 b4 b5) = false) := by unfold Hid; simp [h3]
          clear h0 h1 h2 h3
          go_enter Tryz.func28, Tryz.ntmps28
          go_wp2
          go_ret
          exact ⟨by rw [HD.out]; rfl, hb⟩
      · have e2 : (a2.toList == b2.toList) = false := by rw [txt_beqRec]; simp [h2]
        have HD : Hid (decide ((RecD.mk a0 a1 a2 a3 a4 a5) = RecD.mk b0 b1 b2 b3 b4 b5) = false) := by unfold Hid; simp [h2]
        clear h0 h1 h2
        go_enter Tryz.func28, Tryz.ntmps28
        go_wp2
        go_ret
        exact ⟨by rw [HD.out]; rfl, hb⟩
    · have e1 : (a1.toList == b1.toList) = false := by rw [txt_beqRec]; simp [h1]
      have HD : Hid (decide ((RecD.mk a0 a1 a2 a3 a4 a5) = RecD.mk b0 b1 b2 b3 b4 b5) = false) := by unfold Hid; simp [h1]
      clear h0 h1
      go_enter Tryz.func28, Tryz.ntmps28
      go_wp2
      go_ret
      exact ⟨by rw [HD.out]; rfl, hb⟩
  · have e0 : (a0 != b0) = true := by simp [h0]
    have HD : Hid (decide ((RecD.mk a0 a1 a2 a3 a4 a5) = RecD.mk b0 b1 b2 b3 b4 b5) = false) := by unfold Hid; simp [h0]
    clear h0
    go_enter Tryz.func28, Tryz.ntmps28
    go_wp2
    go_ret
    exact ⟨by rw [HD.out]; rfl, hb⟩

set_option maxHeartbeats 1600000 in
theorem eqRecs (w : World) (u v : Value) (g o g' o' : Nat) (l m : List RecD) (hu : RowsRd recS w u g o l) (hv : RowsRd recS w v g' o' m) (hl : l.length ≤ 9223372036854775806) (hm : m.length ≤ 9223372036854775806) :
    Calls Tryz.prog 12 #[u, v] w fun e w' => e = .returned (.bool (decide (l = m))) ∧ Below w.heap.size w w' := by
  by_cases hlen : l.length = m.length
  · obtain ⟨a, cap, rfl, ha⟩ := hu.form
    obtain ⟨b, cap', rfl, hb⟩ := hv.form
    have hne : ((l.length : Int) != (m.length : Int)) = false := by simp [hlen]
    have HL := Lib.hid hlen
    have CU := Lib.hid hu
    have CV := Lib.hid hv
    have HA := Lib.hid ha
    have HB := Lib.hid hb
    clear hlen hu hv ha hb
    go_enter Tryz.func12, Tryz.ntmps12
    go_wp2
    go_loopw [5] (fun i wr => ∃ k : Nat, k ≤ l.length ∧ i = .int .i64 k ∧ Below w.heap.size w wr ∧ Hid (l.take k = m.take k)) (fun i wr => l.length - (intOf i).toNat)
    case atStart => exact ⟨0, Nat.zero_le _, rfl, Below.refl _ _, rfl⟩
    case round =>
      obtain ⟨k, hk, rfl, hbr, ht⟩ := hrel
      by_cases hlt : k < l.length
      · have hltm : k < m.length := by rw [← HL.out]; exact hlt
        have hln : l ≠ [] := by intro e; subst e; simp at hlt
        have hmn : m ≠ [] := by intro e; subst e; simp at hltm
        obtain rfl := HA.out hln
        obtain rfl := HB.out hmn
        have q0 := cell_regrown ((hbr.cell (p := ⟨g, o + k * 6, none⟩) (CU.out.lt hln)).trans (rec_c0 CU.out k hlt))
        have r0 := cell_regrown ((hbr.cell (p := ⟨g', o' + k * 6, none⟩) (CV.out.lt hmn)).trans (rec_c0 CV.out k hltm))
        have q1 := cell_regrown ((hbr.cell (p := ⟨g, o + k * 6 + 1, none⟩) (CU.out.lt hln)).trans (rec_c1 CU.out k hlt))
        have r1 := cell_regrown ((hbr.cell (p := ⟨g', o' + k * 6 + 1, none⟩) (CV.out.lt hmn)).trans (rec_c1 CV.out k hltm))
        have q2 := cell_regrown ((hbr.cell (p := ⟨g, o + k * 6 + 2, none⟩) (CU.out.lt hln)).trans (rec_c2 CU.out k hlt))
        have r2 := cell_regrown ((hbr.cell (p := ⟨g', o' + k * 6 + 2, none⟩) (CV.out.lt hmn)).trans (rec_c2 CV.out k hltm))
        have q3 := cell_regrown ((hbr.cell (p := ⟨g, o + k * 6 + 3, none⟩) (CU.out.lt hln)).trans (rec_c3 CU.out k hlt))
        have r3 := cell_regrown ((hbr.cell (p := ⟨g', o' + k * 6 + 3, none⟩) (CV.out.lt hmn)).trans (rec_c3 CV.out k hltm))
        have q4 := cell_regrown ((hbr.cell (p := ⟨g, o + k * 6 + 4, none⟩) (CU.out.lt hln)).trans (rec_c4 CU.out k hlt))
        have r4 := cell_regrown ((hbr.cell (p := ⟨g', o' + k * 6 + 4, none⟩) (CV.out.lt hmn)).trans (rec_c4 CV.out k hltm))
        have q5 := cell_regrown ((hbr.cell (p := ⟨g, o + k * 6 + 5, none⟩) (CU.out.lt hln)).trans (rec_c5 CU.out k hlt))
        have r5 := cell_regrown ((hbr.cell (p := ⟨g', o' + k * 6 + 5, none⟩) (CV.out.lt hmn)).trans (rec_c5 CV.out k hltm))
        have km : Hid (∀ d os, Calls Tryz.prog 28 #[recV l[k], recV m[k]] (grow (redrawn wr d) os) fun e w' => e = .returned (.bool (decide (l[k] = m[k]))) ∧ ∃ p : Regrown, w' = grow (redrawn wr p.d) p.os) := by
          intro d os
          exact Calls.regrown_of (eqRec_any l[k] m[k] _)
        have hjn : (k : Int) < (l.length : Int) := by omega
        have hjm : (k : Int) < (m.length : Int) := by omega
        by_cases heq : l[k] = m[k]
        · have ht2 : Hid (l.take (k + 1) = m.take (k + 1)) := by
            unfold Hid
            rw [List.take_succ_eq_append_getElem hlt, List.take_succ_eq_append_getElem hltm, ht.out, heq]
          rw [show decide (l[k] = m[k]) = true by simpa using heq] at km
          generalize l[k] = x at *
          generalize m[k] = y at *
          obtain ⟨a0, a1, a2, a3, a4, a5⟩ := x
          obtain ⟨b0, b1, b2, b3, b4, b5⟩ := y
          unfold recV at km
          simp only at km
          clear heq
          go_wp2_with fail
          refine wp_region_quiet_below (by kernel_rfl) (by kernel_rfl) ?_
          repeat (go_big_quiet_step (exact km.out _ _))
          refine wpQuiet_nil ?_
          intro _ hw'
          obtain ⟨⟨dq, osq⟩, hw''⟩ := hw'
          subst hw''
          have hb2 := hbr.trans ((below_regrown wr dq osq).mono hbr.size)
          go_wp2
          go_roundw
          case rel => exact ⟨k + 1, by omega, by go_num, hb2, ht2⟩
          case measure => simp [intOf]; omega
        · have HD : Hid (decide (l = m) = false) := by
            unfold Hid
            rw [decide_eq_false_iff_not]
            intro e
            subst e
            exact heq rfl
          rw [show decide (l[k] = m[k]) = false by simpa using heq] at km
          generalize l[k] = x at *
          generalize m[k] = y at *
          obtain ⟨a0, a1, a2, a3, a4, a5⟩ := x
          obtain ⟨b0, b1, b2, b3, b4, b5⟩ := y
          unfold recV at km
          simp only at km
          clear heq ht
          go_wp2_with fail
          refine wp_region_quiet_below (by kernel_rfl) (by kernel_rfl) ?_
          repeat (go_big_quiet_step (exact km.out _ _))
          refine wpQuiet_nil ?_
          intro _ hw'
          obtain ⟨⟨dq, osq⟩, hw''⟩ := hw'
          subst hw''
          have hb2 := hbr.trans ((below_regrown wr dq osq).mono hbr.size)
          go_wp2
          go_ret
          exact ⟨by rw [HD.out]; rfl, hb2⟩
      · have HD : Hid (decide (l = m) = true) := by
          unfold Hid
          rw [decide_eq_true_iff]
          have e := ht.out
          rw [List.take_of_length_le (by omega), List.take_of_length_le (by rw [← HL.out]; omega)] at e
          exact e
        clear ht
        go_wp2
        go_ret
        exact ⟨by rw [HD.out]; rfl, hbr⟩
  · obtain ⟨a, cap, rfl, ha⟩ := hu.form
    obtain ⟨b, cap', rfl, hb⟩ := hv.form
    have hne : ((l.length : Int) != (m.length : Int)) = true := by rw [bne_iff_ne]; omega
    have HD : Hid (decide (l = m) = false) := by
      unfold Hid
      rw [decide_eq_false_iff_not]
      intro e
      exact hlen (congrArg List.length e)
    clear hlen ha hb hu hv
    go_enter Tryz.func12, Tryz.ntmps12
    go_wp2
    go_ret
    exact ⟨by rw [HD.out]; rfl, Below.refl _ _⟩

end Go.Proofs.YthljlkngmfbeoaaGreatDoor
