/- Marks on lists of Rec. -/
import Derived.Test.YthljlkngmfbeoaaGreatDoorProg
import Derived.Test.YthljlkngmfbeoaaGreatDoorPlain
import Derived.Test.YthljlkngmfbeoaaGreatDoorTexts
import Derived.Test.YthljlkngmfbeoaaGreatDoorRows0
import Derived.Test.YthljlkngmfbeoaaGreatDoorRecRows
import Derived.WalkKit
import Derived.WalkLawsBesides
import Derived.OwnWalk
import Derived.BigQuiet
import Derived.Deep.QuietTactic
import Derived.Lib.QuietBelow
import Derived.Laws.IdiomStrings
import Derived.Lib.Hide
import Derived.IntWalk
namespace Go.Proofs.YthljlkngmfbeoaaGreatDoor
open Go.RowKit Go.Sort
set_option linter.unusedVariables false

/-- one marked from k on -/
def markRec (k : Nat) : RecD := ⟨((k : Nat) : Int), (markB (k + 1)), (markB (k + 2)), (markB (k + 3)), (markB (k + 4)), ((k + 5 : Nat) : Int)⟩
/-- marked ones from k on -/
def marksRec (k : Nat) : Nat → List RecD
  | 0 => []
  | i + 1 => marksRec k i ++ [markRec (k + i * 6)]
theorem marksRec_length (k n : Nat) : (marksRec k n).length = n := by
  induction n with
  | zero => rfl
  | succ n ih => simp [marksRec, ih]
theorem marksRec_at (k n i : Nat) (h : i < n) : (marksRec k n)[i]'(by rw [marksRec_length]; exact h) = markRec (k + i * 6) := by
  induction n with
  | zero => omega
  | succ n ih =>
    by_cases e : i = n
    · subst e
      simp [marksRec, marksRec_length]
    · have := ih (by omega)
      simp only [marksRec]
      rw [List.getElem_append_left (by rw [marksRec_length]; omega)]
      exact this
theorem marksRec_mix (k j : Nat) (l : List RecD) (h : j < l.length) : (marksRec k j ++ l.drop j).set j (markRec (k + j * 6)) = marksRec k (j + 1) ++ l.drop (j + 1) := by
  rw [List.set_append_right _ _ (by rw [marksRec_length]; exact Nat.le_refl _), marksRec_length, Nat.sub_self, List.drop_eq_getElem_cons h, List.set_cons_zero]
  simp [marksRec]

set_option maxHeartbeats 3200000 in
theorem mark_recs (w : World) (v : Value) (g o k : Nat) (l : List RecD) (h : RowsIs recS w v g o l) (hk : 1 ≤ k) (hl : k + l.length * 6 ≤ 1000000000000) :
    Calls Tryz.prog 13 #[v, .int .i64 k] w fun e w' => e = .returned (.int .i64 ((k + l.length * 6 : Nat) : Int)) ∧ RowsIs recS w' v g o (marksRec k l.length) ∧ w.grownBy w' (some g) := by
  obtain ⟨a, cap, rfl, ha⟩ := h.form
  have HT := Lib.hid h
  have HA := Lib.hid ha
  clear h ha
  go_enter Tryz.func13, Tryz.ntmps13
  go_wp2
  go_loopw [1, 5] (fun m i wr => ∃ j : Nat, j ≤ l.length ∧ i = .int .i64 j ∧ m = .int .i64 ((k + j * 6 : Nat) : Int) ∧ Hid (RowsIs recS wr (.slice a l.length cap) g o (marksRec k j ++ l.drop j)) ∧ Hid (w.grownBy wr (some g))) (fun _ i _ => l.length - (intOf i).toNat)
  case atStart => exact ⟨0, Nat.zero_le _, rfl, rfl, by unfold Hid; simpa [marksRec] using HT.out, World.grownBy.refl _ _⟩
  case round =>
    obtain ⟨j, hj, rfl, rfl, hT, hG⟩ := hrel
    by_cases hlt : j < l.length
    · obtain rfl := HA.out (by intro e; subst e; simp at hlt)
      have hll : (marksRec k j ++ l.drop j).length = l.length := by simp [marksRec_length]; omega
      have hmix := Lib.hid (marksRec_mix k j l hlt)
      have hgl : g < wr.heap.size := hT.out.lt (by intro e; rw [e] at hll; simp at hll; omega)
      have hmk : markRec (k + j * 6) = ⟨((k + j * 6 : Nat) : Int), (markB (k + j * 6 + 1)), (markB (k + j * 6 + 2)), (markB (k + j * 6 + 3)), (markB (k + j * 6 + 4)), ((k + j * 6 + 5 : Nat) : Int)⟩ := rfl
      rw [hmk] at hmix
      clear hmk
      generalize marksRec k j ++ l.drop j = m at *
      have hjm : j < m.length := by omega
      have hT0 := hT.out.self j hjm
      generalize m[j] = old at hT0
      obtain ⟨b0, b1, b2, b3, b4, b5⟩ := old
      have HG0 := hG
      have HT0 := Lib.hid hT0
      clear hT hG hT0
      have ecast : ((k + j * 6 : Nat) : Int) = (k : Int) + j * 6 := by omega
      have E0 : ((k + j * 6 : Nat) : Int) = (k : Int) + j * 6 := by omega
      have K1 : Hid (∀ wz, Calls Tryz.prog 29 #[.int .i64 ((k : Int) + j * 6 + 1)] wz fun e w' => e = .returned (.string (markB (k + j * 6 + 1))) ∧ Below wz.heap.size wz w') := by
        intro wz
        have := mark_any (k + j * 6 + 1) wz (by omega) (by omega)
        rw [show ((k + j * 6 + 1 : Nat) : Int) = (k : Int) + j * 6 + 1 by omega] at this
        exact this
      generalize markB (k + j * 6 + 1) = m1 at *
      have K2 : Hid (∀ wz, Calls Tryz.prog 29 #[.int .i64 ((k : Int) + j * 6 + 2)] wz fun e w' => e = .returned (.string (markB (k + j * 6 + 2))) ∧ Below wz.heap.size wz w') := by
        intro wz
        have := mark_any (k + j * 6 + 2) wz (by omega) (by omega)
        rw [show ((k + j * 6 + 2 : Nat) : Int) = (k : Int) + j * 6 + 2 by omega] at this
        exact this
      generalize markB (k + j * 6 + 2) = m2 at *
      have K3 : Hid (∀ wz, Calls Tryz.prog 29 #[.int .i64 ((k : Int) + j * 6 + 3)] wz fun e w' => e = .returned (.string (markB (k + j * 6 + 3))) ∧ Below wz.heap.size wz w') := by
        intro wz
        have := mark_any (k + j * 6 + 3) wz (by omega) (by omega)
        rw [show ((k + j * 6 + 3 : Nat) : Int) = (k : Int) + j * 6 + 3 by omega] at this
        exact this
      generalize markB (k + j * 6 + 3) = m3 at *
      have K4 : Hid (∀ wz, Calls Tryz.prog 29 #[.int .i64 ((k : Int) + j * 6 + 4)] wz fun e w' => e = .returned (.string (markB (k + j * 6 + 4))) ∧ Below wz.heap.size wz w') := by
        intro wz
        have := mark_any (k + j * 6 + 4) wz (by omega) (by omega)
        rw [show ((k + j * 6 + 4 : Nat) : Int) = (k : Int) + j * 6 + 4 by omega] at this
        exact this
      generalize markB (k + j * 6 + 4) = m4 at *
      have E5 : ((k + j * 6 + 5 : Nat) : Int) = (k : Int) + j * 6 + 5 := by omega
      simp only [E0, E5] at hmix ⊢
      clear E0 E5
      have hc0 := rec_q0 HT0.out hjm
      have hf0 := rec_f0 HT0.out j (by rw [List.length_set]; exact hjm)
      simp only at hc0
      have HT1 := Lib.hid (rec_p0 HT0.out hjm ((k : Int) + j * 6))
      simp only at HT1
      have HG1 := Lib.hid (grown_step HG0.out (grown_set wr g (o + j * 6) (.int .i64 ((k : Int) + j * 6))))
      have hgl : g < (wr.setCell ⟨g, o + j * 6, none⟩ (.int .i64 ((k : Int) + j * 6))).heap.size := by simpa only [World.size_setCell] using hgl
      clear HT0 HG0
      go_wp2_with fail
      refine (K1.out _).mono ?_
      clear hc0 hf0
      generalize (wr.setCell ⟨g, o + j * 6, none⟩ (.int .i64 ((k : Int) + j * 6))) = w1z at *
      rintro e w1a ⟨rfl, hb1⟩
      have hgl1 : g < w1a.heap.size := Nat.lt_of_lt_of_le hgl hb1.size
      have hT1a := HT1.out.below hb1 (fun _ => hgl)
      have hG1a := grown_step HG1.out (grown_below hb1)
      clear hgl
      have hgl := hgl1
      clear HT1 HG1 hb1 hgl1 K1
      have HT1 := Lib.hid hT1a
      have HG1 := Lib.hid hG1a
      clear hT1a hG1a
      have hc1 := rec_q1 HT1.out hjm
      have hf1 := rec_f1 HT1.out j (by rw [List.length_set]; exact hjm)
      simp only at hc1
      have HT2 := Lib.hid (rec_p1 HT1.out hjm m1)
      simp only at HT2
      have HG2 := Lib.hid (grown_step HG1.out (grown_set w1a g (o + j * 6 + 1) (.string m1)))
      have hgl : g < (w1a.setCell ⟨g, o + j * 6 + 1, none⟩ (.string m1)).heap.size := by simpa only [World.size_setCell] using hgl
      clear HT1 HG1
      go_wp2_with fail
      refine (K2.out _).mono ?_
      clear hc1 hf1
      generalize (w1a.setCell ⟨g, o + j * 6 + 1, none⟩ (.string m1)) = w2z at *
      rintro e w2a ⟨rfl, hb2⟩
      have hgl2 : g < w2a.heap.size := Nat.lt_of_lt_of_le hgl hb2.size
      have hT2a := HT2.out.below hb2 (fun _ => hgl)
      have hG2a := grown_step HG2.out (grown_below hb2)
      clear hgl
      have hgl := hgl2
      clear HT2 HG2 hb2 hgl2 K2
      have HT2 := Lib.hid hT2a
      have HG2 := Lib.hid hG2a
      clear hT2a hG2a
      have hc2 := rec_q2 HT2.out hjm
      have hf2 := rec_f2 HT2.out j (by rw [List.length_set]; exact hjm)
      simp only at hc2
      have HT3 := Lib.hid (rec_p2 HT2.out hjm m2)
      simp only at HT3
      have HG3 := Lib.hid (grown_step HG2.out (grown_set w2a g (o + j * 6 + 2) (.string m2)))
      have hgl : g < (w2a.setCell ⟨g, o + j * 6 + 2, none⟩ (.string m2)).heap.size := by simpa only [World.size_setCell] using hgl
      clear HT2 HG2
      go_wp2_with fail
      refine (K3.out _).mono ?_
      clear hc2 hf2
      generalize (w2a.setCell ⟨g, o + j * 6 + 2, none⟩ (.string m2)) = w3z at *
      rintro e w3a ⟨rfl, hb3⟩
      have hgl3 : g < w3a.heap.size := Nat.lt_of_lt_of_le hgl hb3.size
      have hT3a := HT3.out.below hb3 (fun _ => hgl)
      have hG3a := grown_step HG3.out (grown_below hb3)
      clear hgl
      have hgl := hgl3
      clear HT3 HG3 hb3 hgl3 K3
      have HT3 := Lib.hid hT3a
      have HG3 := Lib.hid hG3a
      clear hT3a hG3a
      have hc3 := rec_q3 HT3.out hjm
      have hf3 := rec_f3 HT3.out j (by rw [List.length_set]; exact hjm)
      simp only at hc3
      have HT4 := Lib.hid (rec_p3 HT3.out hjm m3)
      simp only at HT4
      have HG4 := Lib.hid (grown_step HG3.out (grown_set w3a g (o + j * 6 + 3) (.string m3)))
      have hgl : g < (w3a.setCell ⟨g, o + j * 6 + 3, none⟩ (.string m3)).heap.size := by simpa only [World.size_setCell] using hgl
      clear HT3 HG3
      go_wp2_with fail
      refine (K4.out _).mono ?_
      clear hc3 hf3
      generalize (w3a.setCell ⟨g, o + j * 6 + 3, none⟩ (.string m3)) = w4z at *
      rintro e w4a ⟨rfl, hb4⟩
      have hgl4 : g < w4a.heap.size := Nat.lt_of_lt_of_le hgl hb4.size
      have hT4a := HT4.out.below hb4 (fun _ => hgl)
      have hG4a := grown_step HG4.out (grown_below hb4)
      clear hgl
      have hgl := hgl4
      clear HT4 HG4 hb4 hgl4 K4
      have HT4 := Lib.hid hT4a
      have HG4 := Lib.hid hG4a
      clear hT4a hG4a
      have hc4 := rec_q4 HT4.out hjm
      have hf4 := rec_f4 HT4.out j (by rw [List.length_set]; exact hjm)
      simp only at hc4
      have hc5 := rec_q5 HT4.out hjm
      have hf5 := rec_f5 HT4.out j (by rw [List.length_set]; exact hjm)
      simp only at hc5
      have HT5 := Lib.hid (rec_p4 HT4.out hjm m4)
      simp only at HT5
      have HG5 := Lib.hid (grown_step HG4.out (grown_set w4a g (o + j * 6 + 4) (.string m4)))
      have hgl : g < (w4a.setCell ⟨g, o + j * 6 + 4, none⟩ (.string m4)).heap.size := by simpa only [World.size_setCell] using hgl
      clear HT4 HG4
      have HT6 := Lib.hid (rec_p5 HT5.out hjm ((k : Int) + j * 6 + 5))
      simp only at HT6
      have HG6 := Lib.hid (grown_step HG5.out (grown_set (w4a.setCell ⟨g, o + j * 6 + 4, none⟩ (.string m4)) g (o + j * 6 + 5) (.int .i64 ((k : Int) + j * 6 + 5))))
      have hgl : g < ((w4a.setCell ⟨g, o + j * 6 + 4, none⟩ (.string m4)).setCell ⟨g, o + j * 6 + 5, none⟩ (.int .i64 ((k : Int) + j * 6 + 5))).heap.size := by simpa only [World.size_setCell] using hgl
      clear HT5 HG5
      have hT5 : Hid (RowsIs recS ((w4a.setCell ⟨g, o + j * 6 + 4, none⟩ (.string m4)).setCell ⟨g, o + j * 6 + 5, none⟩ (.int .i64 ((k : Int) + j * 6 + 5))) (.slice (some ⟨g, o, none⟩) l.length cap) g o (marksRec k (j + 1) ++ l.drop (j + 1))) := by
        unfold Hid
        rw [← hmix.out]
        exact HT6.out
      clear HT6 hmix
      go_wp2
      go_roundw
      case rel => exact ⟨j + 1, by omega, by go_num, by go_num, hT5, HG6⟩
      case measure => simp [intOf]; omega
    · obtain rfl : j = l.length := by omega
      have hT3 : Hid (RowsIs recS wr (.slice a l.length cap) g o (marksRec k l.length)) := by unfold Hid; have := hT.out; rwa [List.drop_length, List.append_nil] at this
      clear hT
      go_wp2
      go_ret
      exact ⟨rfl, hT3.out, hG.out⟩

set_option maxHeartbeats 3200000 in
theorem held_recs (w : World) (v : Value) (g o k n : Nat) (h : RowsIs recS w v g o (marksRec k n)) (hk : 1 ≤ k) (hl : k + n * 6 ≤ 1000000000000) :
    Calls Tryz.prog 14 #[v, .int .i64 k] w fun e w' => e = .returned (.int .i64 ((k + n * 6 : Nat) : Int)) ∧ Below w.heap.size w w' := by
  obtain ⟨a, cap, rfl, ha⟩ := h.form
  have HC := Lib.hid h
  have HA := Lib.hid ha
  clear h ha
  rw [marksRec_length]
  go_enter Tryz.func14, Tryz.ntmps14
  go_wp2
  go_loopw [1, 5] (fun m i wr => ∃ j : Nat, j ≤ n ∧ i = .int .i64 j ∧ m = .int .i64 ((k + j * 6 : Nat) : Int) ∧ Below w.heap.size w wr) (fun _ i _ => n - (intOf i).toNat)
  case atStart => exact ⟨0, Nat.zero_le _, rfl, rfl, Below.refl _ _⟩
  case round =>
    obtain ⟨j, hj, rfl, rfl, hb⟩ := hrel
    by_cases hlt : j < n
    · have hne : marksRec k n ≠ [] := by intro e; have := marksRec_length k n; rw [e] at this; simp at this; omega
      obtain rfl := HA.out hne
      have hc0 : wr.cell? ⟨g, o + j * 6, none⟩ = some (.int .i64 ((k : Int) + j * 6)) := by
        have := rec_c0 HC.out.toRowsRd j (by rw [marksRec_length]; exact hlt)
        rw [marksRec_at k n j hlt] at this
        refine ((hb.cell (p := ⟨g, o + j * 6, none⟩) (HC.out.lt hne)).trans this).trans ?_
        simp only [markRec]; congr 2
      have hc1 : wr.cell? ⟨g, o + j * 6 + 1, none⟩ = some (.string (markB (k + j * 6 + 1))) := by
        have := rec_c1 HC.out.toRowsRd j (by rw [marksRec_length]; exact hlt)
        rw [marksRec_at k n j hlt] at this
        refine ((hb.cell (p := ⟨g, o + j * 6 + 1, none⟩) (HC.out.lt hne)).trans this).trans ?_
        rfl
      have K1 : Hid (∀ wz, Calls Tryz.prog 29 #[.int .i64 ((k : Int) + j * 6 + 1)] wz fun e w' => e = .returned (.string (markB (k + j * 6 + 1))) ∧ Below wz.heap.size wz w') := by
        intro wz
        have := mark_any (k + j * 6 + 1) wz (by omega) (by omega)
        rw [show ((k + j * 6 + 1 : Nat) : Int) = (k : Int) + j * 6 + 1 by omega] at this
        exact this
      generalize markB (k + j * 6 + 1) = m1 at *
      have hmm1 : (m1.toList == m1.toList) = true := by simp
      have hc2 : wr.cell? ⟨g, o + j * 6 + 2, none⟩ = some (.string (markB (k + j * 6 + 2))) := by
        have := rec_c2 HC.out.toRowsRd j (by rw [marksRec_length]; exact hlt)
        rw [marksRec_at k n j hlt] at this
        refine ((hb.cell (p := ⟨g, o + j * 6 + 2, none⟩) (HC.out.lt hne)).trans this).trans ?_
        rfl
      have K2 : Hid (∀ wz, Calls Tryz.prog 29 #[.int .i64 ((k : Int) + j * 6 + 2)] wz fun e w' => e = .returned (.string (markB (k + j * 6 + 2))) ∧ Below wz.heap.size wz w') := by
        intro wz
        have := mark_any (k + j * 6 + 2) wz (by omega) (by omega)
        rw [show ((k + j * 6 + 2 : Nat) : Int) = (k : Int) + j * 6 + 2 by omega] at this
        exact this
      generalize markB (k + j * 6 + 2) = m2 at *
      have hmm2 : (m2.toList == m2.toList) = true := by simp
      have hc3 : wr.cell? ⟨g, o + j * 6 + 3, none⟩ = some (.string (markB (k + j * 6 + 3))) := by
        have := rec_c3 HC.out.toRowsRd j (by rw [marksRec_length]; exact hlt)
        rw [marksRec_at k n j hlt] at this
        refine ((hb.cell (p := ⟨g, o + j * 6 + 3, none⟩) (HC.out.lt hne)).trans this).trans ?_
        rfl
      have K3 : Hid (∀ wz, Calls Tryz.prog 29 #[.int .i64 ((k : Int) + j * 6 + 3)] wz fun e w' => e = .returned (.string (markB (k + j * 6 + 3))) ∧ Below wz.heap.size wz w') := by
        intro wz
        have := mark_any (k + j * 6 + 3) wz (by omega) (by omega)
        rw [show ((k + j * 6 + 3 : Nat) : Int) = (k : Int) + j * 6 + 3 by omega] at this
        exact this
      generalize markB (k + j * 6 + 3) = m3 at *
      have hmm3 : (m3.toList == m3.toList) = true := by simp
      have hc4 : wr.cell? ⟨g, o + j * 6 + 4, none⟩ = some (.string (markB (k + j * 6 + 4))) := by
        have := rec_c4 HC.out.toRowsRd j (by rw [marksRec_length]; exact hlt)
        rw [marksRec_at k n j hlt] at this
        refine ((hb.cell (p := ⟨g, o + j * 6 + 4, none⟩) (HC.out.lt hne)).trans this).trans ?_
        rfl
      have K4 : Hid (∀ wz, Calls Tryz.prog 29 #[.int .i64 ((k : Int) + j * 6 + 4)] wz fun e w' => e = .returned (.string (markB (k + j * 6 + 4))) ∧ Below wz.heap.size wz w') := by
        intro wz
        have := mark_any (k + j * 6 + 4) wz (by omega) (by omega)
        rw [show ((k + j * 6 + 4 : Nat) : Int) = (k : Int) + j * 6 + 4 by omega] at this
        exact this
      generalize markB (k + j * 6 + 4) = m4 at *
      have hmm4 : (m4.toList == m4.toList) = true := by simp
      have hc5 : wr.cell? ⟨g, o + j * 6 + 5, none⟩ = some (.int .i64 ((k : Int) + j * 6 + 5)) := by
        have := rec_c5 HC.out.toRowsRd j (by rw [marksRec_length]; exact hlt)
        rw [marksRec_at k n j hlt] at this
        refine ((hb.cell (p := ⟨g, o + j * 6 + 5, none⟩) (HC.out.lt hne)).trans this).trans ?_
        simp only [markRec]; congr 2
      have hjn : (j : Int) < (n : Int) := by omega
      have ecast : ((k + j * 6 : Nat) : Int) = (k : Int) + j * 6 := by omega
      rw [ecast]
      clear ecast hne
      have hr1 := cell_regrown hc1
      have km1 : Hid (∀ d os, Calls Tryz.prog 29 #[.int .i64 ((k : Int) + j * 6 + 1)] (grow (redrawn wr d) os) fun e w' => e = .returned (.string m1) ∧ ∃ p : Regrown, w' = grow (redrawn wr p.d) p.os) := by
        intro d os
        exact Calls.regrown_of (K1.out _)
      go_wp2_with fail
      refine wp_region_quiet_below (by kernel_rfl) (by kernel_rfl) ?_
      repeat (go_big_quiet_step (exact km1.out _ _))
      refine wpQuiet_nil ?_
      intro _ hw'
      obtain ⟨⟨dq, osq⟩, hw''⟩ := hw'
      subst hw''
      have hb1 := hb.trans ((below_regrown wr dq osq).mono hb.size)
      have hc2 := cell_regrown hc2 dq osq
      have hc3 := cell_regrown hc3 dq osq
      have hc4 := cell_regrown hc4 dq osq
      have hc5 := cell_regrown hc5 dq osq
      clear hr1 km1 K1 hc1
      generalize grow (redrawn wr dq) osq = w1z at *
      have hr2 := cell_regrown hc2
      have km2 : Hid (∀ d os, Calls Tryz.prog 29 #[.int .i64 ((k : Int) + j * 6 + 2)] (grow (redrawn w1z d) os) fun e w' => e = .returned (.string m2) ∧ ∃ p : Regrown, w' = grow (redrawn w1z p.d) p.os) := by
        intro d os
        exact Calls.regrown_of (K2.out _)
      go_wp2_with fail
      refine wp_region_quiet_below (by kernel_rfl) (by kernel_rfl) ?_
      repeat (go_big_quiet_step (exact km2.out _ _))
      refine wpQuiet_nil ?_
      intro _ hw'
      obtain ⟨⟨dq, osq⟩, hw''⟩ := hw'
      subst hw''
      have hb2 := hb1.trans ((below_regrown w1z dq osq).mono hb1.size)
      have hc3 := cell_regrown hc3 dq osq
      have hc4 := cell_regrown hc4 dq osq
      have hc5 := cell_regrown hc5 dq osq
      clear hr2 km2 K2 hc2
      generalize grow (redrawn w1z dq) osq = w2z at *
      have hr3 := cell_regrown hc3
      have km3 : Hid (∀ d os, Calls Tryz.prog 29 #[.int .i64 ((k : Int) + j * 6 + 3)] (grow (redrawn w2z d) os) fun e w' => e = .returned (.string m3) ∧ ∃ p : Regrown, w' = grow (redrawn w2z p.d) p.os) := by
        intro d os
        exact Calls.regrown_of (K3.out _)
      go_wp2_with fail
      refine wp_region_quiet_below (by kernel_rfl) (by kernel_rfl) ?_
      repeat (go_big_quiet_step (exact km3.out _ _))
      refine wpQuiet_nil ?_
      intro _ hw'
      obtain ⟨⟨dq, osq⟩, hw''⟩ := hw'
      subst hw''
      have hb3 := hb2.trans ((below_regrown w2z dq osq).mono hb2.size)
      have hc4 := cell_regrown hc4 dq osq
      have hc5 := cell_regrown hc5 dq osq
      clear hr3 km3 K3 hc3
      generalize grow (redrawn w2z dq) osq = w3z at *
      have hr4 := cell_regrown hc4
      have km4 : Hid (∀ d os, Calls Tryz.prog 29 #[.int .i64 ((k : Int) + j * 6 + 4)] (grow (redrawn w3z d) os) fun e w' => e = .returned (.string m4) ∧ ∃ p : Regrown, w' = grow (redrawn w3z p.d) p.os) := by
        intro d os
        exact Calls.regrown_of (K4.out _)
      go_wp2_with fail
      refine wp_region_quiet_below (by kernel_rfl) (by kernel_rfl) ?_
      repeat (go_big_quiet_step (exact km4.out _ _))
      refine wpQuiet_nil ?_
      intro _ hw'
      obtain ⟨⟨dq, osq⟩, hw''⟩ := hw'
      subst hw''
      have hb4 := hb3.trans ((below_regrown w3z dq osq).mono hb3.size)
      have hc5 := cell_regrown hc5 dq osq
      clear hr4 km4 K4 hc4
      generalize grow (redrawn w3z dq) osq = w4z at *
      go_wp2
      go_roundw
      case rel => exact ⟨j + 1, by omega, by go_num, by go_num, hb4⟩
      case measure => simp [intOf]; omega
    · obtain rfl : j = n := by omega
      go_wp2
      go_ret
      exact ⟨rfl, hb⟩

end Go.Proofs.YthljlkngmfbeoaaGreatDoor
