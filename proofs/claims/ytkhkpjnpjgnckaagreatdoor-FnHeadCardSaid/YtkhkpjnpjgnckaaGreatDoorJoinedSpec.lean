/- Lines that are joined by a mark: the model's contracts of l05Note, l05Joined. -/
import Derived.Test.YtkhkpjnpjgnckaaGreatDoorProg
import Derived.Test.YtkhkpjnpjgnckaaGreatDoorPlain
import Derived.Test.YtkhkpjnpjgnckaaGreatDoorCut
import Derived.Test.YtkhkpjnpjgnckaaGreatDoorTrim
import Derived.Test.YtkhkpjnpjgnckaaGreatDoorTail
import Derived.Test.YtkhkpjnpjgnckaaGreatDoorLines
import Derived.Test.YtkhkpjnpjgnckaaGreatDoorDialectRows
import Derived.Test.YtkhkpjnpjgnckaaGreatDoorQuotSpec
import Derived.WalkKit
import Derived.WalkLawsBesides
import Derived.BigQuiet
import Derived.Deep.QuietTactic
import Derived.Lib.QuietBelow
import Derived.Laws.IdiomStrings
import Derived.Lib.Hide
import Derived.IntWalk
namespace Go.Proofs.YtkhkpjnpjgnckaaGreatDoor
open Go.RowKit Go.Sort
set_option linter.unusedVariables false

/-- a trimmed text is a note -/
def noteT (d : DialectD) (t : ByteArray) : Bool := if h : 0 < t.size then hasB d.notes t[0] else false

set_option maxHeartbeats 1600000 in
theorem note_spec (d : DialectD) (t : ByteArray) (w : World) (ht : t.size ≤ 100000000) (hn : d.notes.size ≤ 100000000) :
    Calls Tryz.prog 112 #[.string t, dialectV d] w fun e w' => e = .returned (.bool (noteT d t)) ∧ Below w.heap.size w w' := by
  have HN := Lib.hid (dialAt_new w d)
  have hv : noteT d t = (if h : 0 < t.size then hasB d.notes t[0] else false) := rfl
  generalize noteT d t = r at *
  obtain ⟨d0, d1, d2, d3, d4, d5⟩ := d
  unfold dialectV
  simp only at HN hv hn ⊢
  have hb0 := (Below.refl w.heap.size w).alloc (Nat.le_refl _) (.cells #[.string d0, .string d1, .bool d2, .bool d3, .bool d4, .int .i64 d5] 25)
  have hw0 : w.heap.size < (w.alloc (.cells #[.string d0, .string d1, .bool d2, .bool d3, .bool d4, .int .i64 d5] 25)).heap.size := by simp
  by_cases h0 : 0 < t.size
  · rw [dif_pos h0] at hv
    obtain ⟨e1, e2⟩ := text_some t h0
    have KB : Hid (∀ wz : World, ∀ q os, Calls Tryz.prog 52 #[.string d0, .int .u8 (t[0].toNat : Int)] (grow (redrawn wz q) os) fun e w' => e = .returned (.bool (hasB d0 t[0])) ∧ ∃ p : Regrown, w' = grow (redrawn wz p.d) p.os) := by
      intro wz q os
      refine Calls.regrown_of ((has_any d0 t[0] _ (by unfold maxLen; omega)).mono ?_)
      rintro e w' ⟨rfl, rfl⟩
      exact ⟨rfl, Below.refl _ _⟩
    have htz : (0 : Int) < (t.size : Int) := by omega
    generalize hB1 : hasB d0 t[0] = b1 at *
    have HV := Lib.hid hv
    clear hv hB1
    go_enter Tryz.func112, Tryz.ntmps112
    go_wp2_with fail
    obtain ⟨c0, c1, c2, c3, c4, c5⟩ := HN.out.cells
    simp only at c0
    generalize w.alloc (.cells #[.string d0, .string d1, .bool d2, .bool d3, .bool d4, .int .i64 d5] 25) = W0 at *
    have x0 := cell_regrown c0
    have KB2 := Lib.hid (KB.out W0)
    clear KB HN c1 c2 c3 c4 c5
    refine wp_region_quiet_below (by kernel_rfl) (by kernel_rfl) ?_
    repeat (go_big_quiet_step (first | with_reducible exact KB2.out _ _))
    refine wpQuiet_nil ?_
    intro _ hw'
    obtain ⟨⟨dq, osq⟩, hw''⟩ := hw'
    subst hw''
    have hb2 := hb0.trans ((below_regrown W0 dq osq).mono (by omega))
    go_wp2
    go_ret
    exact ⟨by rw [HV.out]; rfl, hb2⟩
  · rw [dif_neg h0] at hv
    obtain ⟨e1, e2⟩ := text_none t (by omega)
    have HV := Lib.hid hv
    clear hv
    go_enter Tryz.func112, Tryz.ntmps112
    go_wp2_with fail
    generalize w.alloc (.cells #[.string d0, .string d1, .bool d2, .bool d3, .bool d4, .int .i64 d5] 25) = W0 at *
    refine wp_region_quiet_below (by kernel_rfl) (by kernel_rfl) ?_
    repeat (go_big_quiet_step (fail))
    refine wpQuiet_nil ?_
    intro _ hw'
    obtain ⟨⟨dq, osq⟩, hw''⟩ := hw'
    subst hw''
    have hb2 := hb0.trans ((below_regrown W0 dq osq).mono (by omega))
    go_wp2
    go_ret
    exact ⟨by rw [HV.out]; rfl, hb2⟩

/-- without the blanks at the beginning -/
def strip5 (s : ByteArray) : ByteArray := s.extract (front5 s) s.size
/-- a text, the end of its line, the lines behind: joined, and how many lines -/
def joinR (t e : ByteArray) : List Ln → Nat → ByteArray × Nat
  | [], n => if tailN t % 2 = 1 ∧ 0 < e.size then (t.extract 0 (t.size - 1), n) else (t, n)
  | x :: l, n => if tailN t % 2 = 1 ∧ 0 < e.size then joinR (t.extract 0 (t.size - 1) ++ strip5 x.1) x.2 l (n + 1) else (t, n)
/-- the text of a line with those that are joined to it, and how many lines -/
def joined5 (d : DialectD) (x : Ln) (l : List Ln) : ByteArray × Nat := if d.join ≠ 1 ∨ (trimT x.1).size = 0 ∨ noteT d (trimT x.1) = true then (x.1, 1) else joinR x.1 x.2 l 1
theorem joinR_stop {t e : ByteArray} (l : List Ln) (n : Nat) (h : ¬ (tailN t % 2 = 1 ∧ 0 < e.size)) : joinR t e l n = (t, n) := by
  cases l <;> (unfold joinR; rw [if_neg h])
theorem joinR_end {t e : ByteArray} (n : Nat) (h : tailN t % 2 = 1 ∧ 0 < e.size) : joinR t e [] n = (t.extract 0 (t.size - 1), n) := by
  unfold joinR; rw [if_pos h]
theorem joinR_on {t e : ByteArray} (x : Ln) (l : List Ln) (n : Nat) (h : tailN t % 2 = 1 ∧ 0 < e.size) : joinR t e (x :: l) n = joinR (t.extract 0 (t.size - 1) ++ strip5 x.1) x.2 l (n + 1) := by
  conv => lhs; unfold joinR
  rw [if_pos h]
theorem strip5_size (s : ByteArray) : (strip5 s).size ≤ s.size := by
  unfold strip5
  rw [ByteArray.size_extract]
  omega

def strLen (v : Value) : Nat := match v with | .string z => z.size | _ => 0
theorem strip_list (s : ByteArray) : (strip5 s).data.toList = s.data.toList.dropWhile blankB := by
  unfold strip5 front5
  have h : ∀ l : List UInt8, l.drop (l.takeWhile blankB).length = l.dropWhile blankB := by
    intro l
    induction l with
    | nil => rfl
    | cons c t ih =>
      by_cases hc : blankB c = true
      · rw [List.takeWhile_cons_of_pos hc, List.dropWhile_cons_of_pos hc, List.length_cons, List.drop_succ_cons]; exact ih
      · rw [List.takeWhile_cons_of_neg hc, List.dropWhile_cons_of_neg hc]; rfl
  rw [← h, ByteArray.data_extract, Array.toList_extract, List.extract_eq_take_drop]
  rw [List.take_of_length_le (by rw [List.length_drop, ← Lib.size_eq]; omega)]
theorem drop_front (s : ByteArray) : (strip5 s).data.toList = s.data.toList.dropWhile blankB := strip_list s
theorem bytes_ext {a b : ByteArray} (h : a.data.toList = b.data.toList) : a = b := ByteArray.ext (Array.toList_inj.1 h)
theorem strip_none (z : ByteArray) (h : z.size = 0) : strip5 z = z := by
  apply bytes_ext
  rw [strip_list]
  have : z.data.toList = [] := by apply List.eq_nil_of_length_eq_zero; rw [← Lib.size_eq]; exact h
  rw [this]
  rfl
theorem head_tail (z : ByteArray) (h : 0 < z.size) : z.data.toList = z[0] :: (z.extract 1 z.size).data.toList := by
  have hl : 0 < z.data.toList.length := by rw [← Lib.size_eq]; exact h
  have e1 : z.data.toList = z.data.toList[0] :: z.data.toList.drop 1 := by
    have := List.drop_eq_getElem_cons hl
    simpa using this
  rw [e1]
  congr 1
  rw [ByteArray.data_extract, Array.toList_extract, List.extract_eq_take_drop]
  rw [List.take_of_length_le (by rw [List.length_drop, ← Lib.size_eq]; omega)]
theorem strip_here (z : ByteArray) (h : 0 < z.size) (hb : blankB z[0] = false) : strip5 z = z := by
  apply bytes_ext
  rw [strip_list, head_tail z h, List.dropWhile_cons_of_neg (by simp [hb])]
theorem strip_on (z : ByteArray) (h : 0 < z.size) (hb : blankB z[0] = true) : strip5 (z.extract 1 z.size) = strip5 z := by
  apply bytes_ext
  rw [strip_list, strip_list, head_tail z h, List.dropWhile_cons_of_pos hb]

set_option maxRecDepth 100000 in
set_option maxHeartbeats 1600000 in
theorem joined_spec (d : DialectD) (w : World) (u : Value) (g o : Nat) (l : List Ln) (at_ : Nat) (hu : LinesRd w u g o l) (hg : l ≠ [] → g < w.heap.size) (hl : costL l ≤ 10000000) (hat : at_ < l.length) (hn : d.notes.size ≤ 100000000) :
    Calls Tryz.prog 110 #[u, .int .i64 (at_ : Int), dialectV d] w fun e w' => e = .returned (.tuple #[.string (joined5 d l[at_] (l.drop (at_ + 1))).1, .int .i64 ((joined5 d l[at_] (l.drop (at_ + 1))).2 : Int)]) ∧ Below w.heap.size w w' := by
  obtain ⟨a, cap, rfl, ha⟩ := hu.form
  have hln : l ≠ [] := by intro e; subst e; simp at hat
  obtain rfl := ha hln
  have hgw := hg hln
  have hcl := costL_at l at_ hat
  have CU := Lib.hid hu
  have HN := Lib.hid (dialAt_new w d)
  have K0 := Lib.hid (fun w => trim_spec l[at_].1 w (by unfold maxLen; omega))
  have htr : (⟨(trimL l[at_].1.data.toList).toArray⟩ : ByteArray) = trimT l[at_].1 := rfl
  rw [htr] at K0
  have hts := trimT_size l[at_].1
  have K1 := Lib.hid (fun w => note_spec d (trimT l[at_].1) w (by omega) hn)
  have hjv : joined5 d l[at_] (l.drop (at_ + 1)) = if d.join ≠ 1 ∨ (trimT l[at_].1).size = 0 ∨ noteT d (trimT l[at_].1) = true then (l[at_].1, 1) else joinR l[at_].1 l[at_].2 (l.drop (at_ + 1)) 1 := rfl
  have q1 := hu.c0 at_ hat
  obtain ⟨d0, d1, d2, d3, d4, d5⟩ := d
  unfold dialectV at *
  simp only at HN hn K1 hjv ⊢
  generalize joined5 ⟨d0, d1, d2, d3, d4, d5⟩ l[at_] (l.drop (at_ + 1)) = r at *
  have hb0 := (Below.refl w.heap.size w).alloc (Nat.le_refl _) (.cells #[.string d0, .string d1, .bool d2, .bool d3, .bool d4, .int .i64 d5] 25)
  have hw0 : w.heap.size < (w.alloc (.cells #[.string d0, .string d1, .bool d2, .bool d3, .bool d4, .int .i64 d5] 25)).heap.size := by simp
  have q1' : (w.alloc (.cells #[.string d0, .string d1, .bool d2, .bool d3, .bool d4, .int .i64 d5] 25)).cell? ⟨g, o + at_ * 2, none⟩ = some (.string l[at_].1) := (hb0.cell (p := ⟨g, o + at_ * 2, none⟩) hgw).trans q1
  have haz : (at_ : Int) < (l.length : Int) := by omega
  have HJV := Lib.hid hjv
  generalize trimT l[at_].1 = t0 at *
  generalize noteT ⟨d0, d1, d2, d3, d4, d5⟩ t0 = nt at *
  clear hjv htr hu ha
  go_enter Tryz.func110, Tryz.ntmps110
  go_wp2_with fail
  refine (K0.out _).mono ?_
  rintro e w1 ⟨rfl, rfl⟩
  clear K0
  by_cases h5 : d5 = 1
  · have e5 : (d5 != 1) = false := by simp [h5]
    by_cases h0 : t0.size = 0
    · obtain ⟨z1, z2⟩ := text_none t0 h0
      have HF : Hid (r = (l[at_].1, 1)) := by unfold Hid; rw [HJV.out, if_pos (.inr (.inl h0))]
      generalize l[at_].1 = tx0 at *
      clear h5 h0 K1
      go_wp2
      go_ret2
      exact ⟨by rw [HF.out]; rfl, hb0⟩
    · obtain ⟨z1, z2⟩ := text_some t0 (by omega)
      obtain ⟨c0, c1, c2, c3, c4, c5⟩ := HN.out.cells
      simp only at c0 c1 c2 c3 c4 c5
      generalize w.alloc (.cells #[.string d0, .string d1, .bool d2, .bool d3, .bool d4, .int .i64 d5] 25) = W0 at *
      cases nt
      · have HF : Hid (r = joinR l[at_].1 l[at_].2 (l.drop (at_ + 1)) 1) := by unfold Hid; rw [HJV.out, if_neg (by simp only [not_or]; exact ⟨fun h => h h5, h0, by decide⟩)]
        clear HJV h5 h0
        go_wp2_with fail
        refine (K1.out _).mono ?_
        rintro e w1 ⟨rfl, hb1⟩
        have hb1' := hb0.trans (hb1.mono (by omega))
        clear c0 c1 c2 c3 c4 c5 HN K1 hb1 q1' hb0 hw0
        have HC1 := costL_take_succ l at_ hat
        go_wp2
        go_loopw [8, 9] (fun tv nv wr => ∃ (p : Nat) (tx : ByteArray) (hp : p < l.length), at_ ≤ p ∧ tv = .string tx ∧ nv = .int .i64 ((p : Int) + 1 - (at_ : Int)) ∧ tx.size ≤ costL (l.take (p + 1)) ∧ Hid (r = joinR tx l[p].2 (l.drop (p + 1)) (p + 1 - at_)) ∧ wr = w1) (fun _ nv _ => l.length - (intOf nv).toNat)
        case atStart => exact ⟨at_, l[at_].1, hat, Nat.le_refl _, rfl, by congr 1; omega, by omega, by unfold Hid; rw [HF.out]; congr 1; omega, rfl⟩
        case round =>
          obtain ⟨p, tx, hp, hap, rfl, rfl, hsz, hR, rfl⟩ := hrel
          have hct := costL_take l (p + 1) (by omega)
          have KT := Lib.hid (fun w => tail_spec tx w (by unfold maxLen; omega))
          have htn := tailN_le tx
          have q2 : wr.cell? ⟨g, o + p * 2 + 1, none⟩ = some (.string l[p].2) := (hb1'.cell (p := ⟨g, o + p * 2 + 1, none⟩) hgw).trans (CU.out.c1 p hp)
          generalize htt : tailN tx = tn at *
          have epz : (at_ : Int) + ((p : Int) + 1 - (at_ : Int)) - 1 = (p : Int) := by omega
          go_wp2_with fail
          refine (KT.out _).mono ?_
          rintro e w2 ⟨rfl, rfl⟩
          by_cases hodd : tn % 2 = 1
          · have eo : (((tn : Int) % 2) == 1) = true := by rw [beq_iff_eq]; omega
            by_cases hes : l[p].2.size = 0
            · obtain ⟨y1, y2⟩ := text_none l[p].2 hes
              have HF2 : Hid (r = (tx, p + 1 - at_)) := by unfold Hid; rw [hR.out, joinR_stop _ _ (fun h => by omega)]
              have hcast : Hid (((p + 1 - at_ : Nat) : Int) = (p : Int) + 1 - (at_ : Int)) := by unfold Hid; omega
              generalize l[p].2 = ep at *
              clear hR hodd hes htt
              go_wp2
              go_ret2
              exact ⟨by rw [HF2.out]; simp only; rw [hcast.out]; rfl, hb1'⟩
            · obtain ⟨y1, y2⟩ := text_some l[p].2 (by omega)
              have htx : 0 < tx.size := by omega
              have s1 : (0 : Int) ≤ (tx.size : Int) - 1 := by omega
              have s2 : (tx.size : Int) - 1 ≤ (tx.size : Int) := by omega
              have hcnd : tailN tx % 2 = 1 ∧ 0 < l[p].2.size := ⟨by rw [htt]; exact hodd, by omega⟩
              by_cases hlast : p + 1 = l.length
              · have el : ((at_ : Int) + ((p : Int) + 1 - (at_ : Int)) == (l.length : Int)) = true := by rw [beq_iff_eq]; omega
                have HF2 : Hid (r = (tx.extract 0 (tx.size - 1), p + 1 - at_)) := by unfold Hid; rw [hR.out, List.drop_of_length_le (by omega), joinR_end _ hcnd]
                have hcast : Hid (((p + 1 - at_ : Nat) : Int) = (p : Int) + 1 - (at_ : Int)) := by unfold Hid; omega
                generalize l[p].2 = ep at *
                clear hR hodd hes htt hcnd
                go_wp2
                go_ret2
                exact ⟨by rw [HF2.out]; simp only; rw [hcast.out]; rfl, hb1'⟩
              · have hp1 : p + 1 < l.length := by omega
                have el : ((at_ : Int) + ((p : Int) + 1 - (at_ : Int)) == (l.length : Int)) = false := by rw [beq_eq_false_iff_ne]; omega
                have el2 : ((p : Int) + 1 == (l.length : Int)) = false := by rw [beq_eq_false_iff_ne]; omega
                have ep1 : (at_ : Int) + ((p : Int) + 1 - (at_ : Int)) = ((p + 1 : Nat) : Int) := by omega
                have q3 : wr.cell? ⟨g, o + (p + 1) * 2, none⟩ = some (.string l[p + 1].1) := (hb1'.cell (p := ⟨g, o + (p + 1) * 2, none⟩) hgw).trans (CU.out.c0 (p + 1) hp1)
                have hR2 : Hid (r = joinR (tx.extract 0 (tx.size - 1) ++ strip5 l[p + 1].1) l[p + 1].2 (l.drop (p + 2)) (p + 1 - at_ + 1)) := by
                  unfold Hid
                  rw [hR.out, List.drop_eq_getElem_cons hp1, joinR_on _ _ _ hcnd]
                have hct2 := costL_take_succ l (p + 1) hp1
                have hct3 := costL_take l (p + 1 + 1) (by omega)
                have hst := strip5_size l[p + 1].1
                generalize hyy : l[p + 1].1 = y at *
                generalize l[p].2 = ep at *
                clear hR hodd hes htt hcnd hyy
                go_wp2_with fail
                have HYF := Lib.hid (drop_front y)
                have hys : y.size ≤ 10000000 := by omega
                clear q1 q2 q3 epz
                go_loopw [11] (fun nx wr' => ∃ (z : ByteArray), nx = .string z ∧ z.size ≤ y.size ∧ Hid (strip5 z = strip5 y) ∧ wr' = wr) (fun nx _ => strLen nx)
                case atStart => exact ⟨y, rfl, Nat.le_refl _, rfl, rfl⟩
                case round =>
                  obtain ⟨z, rfl, hzs, hzz, rfl⟩ := hrel
                  by_cases hz0 : z.size = 0
                  · obtain ⟨f1, f2⟩ := text_none z hz0
                    have hfin : Hid (z = strip5 y) := by unfold Hid; rw [← hzz.out, strip_none z hz0]
                    clear hzz hz0
                    have hsz3 : (tx.extract 0 (tx.size - 1) ++ z).size ≤ costL (l.take (p + 1 + 1)) := by
                      rw [ByteArray.size_append, ByteArray.size_extract, hfin.out]
                      omega
                    have hsz4 : (tx.extract 0 (tx.size - 1) ++ z).size ≤ 10000000 := by
                      have := costL_take l (p + 1 + 1) (by omega)
                      omega
                    have hR3 : Hid (r = joinR (tx.extract 0 (tx.size - 1) ++ z) l[p + 1].2 (l.drop (p + 1 + 1)) (p + 1 + 1 - at_)) := by
                      unfold Hid
                      rw [hR2.out, ← hfin.out]
                      congr 1
                      omega
                    clear hR2 hfin
                    go_wp2
                    go_roundw
                    case rel => exact ⟨p + 1, _, hp1, by omega, rfl, by go_num, hsz3, hR3, trivial⟩
                    case measure => simp [intOf]; omega
                  · obtain ⟨f1, f2⟩ := text_some z (by omega)
                    have hz1 : 0 < z.size := by omega
                    have hzi : (0 : Int) < (z.size : Int) := by omega
                    have KZ := Lib.hid (fun w => blank_any z[0] w)
                    cases hbz : blankB z[0]
                    · have hfin : Hid (z = strip5 y) := by unfold Hid; rw [← hzz.out, strip_here z hz1 hbz]
                      rw [hbz] at KZ
                      clear hzz hbz
                      go_wp2_with fail
                      refine (KZ.out _).mono ?_
                      rintro e w4 ⟨rfl, rfl⟩
                      clear KZ
                      have hsz3 : (tx.extract 0 (tx.size - 1) ++ z).size ≤ costL (l.take (p + 1 + 1)) := by
                        rw [ByteArray.size_append, ByteArray.size_extract, hfin.out]
                        omega
                      have hsz4 : (tx.extract 0 (tx.size - 1) ++ z).size ≤ 10000000 := by
                        have := costL_take l (p + 1 + 1) (by omega)
                        omega
                      have hR3 : Hid (r = joinR (tx.extract 0 (tx.size - 1) ++ z) l[p + 1].2 (l.drop (p + 1 + 1)) (p + 1 + 1 - at_)) := by
                        unfold Hid
                        rw [hR2.out, ← hfin.out]
                        congr 1
                        omega
                      clear hR2 hfin
                      go_wp2
                      go_roundw
                      case rel => exact ⟨p + 1, _, hp1, by omega, rfl, by go_num, hsz3, hR3, trivial⟩
                      case measure => simp [intOf]; omega
                    · have hz2 : Hid (strip5 (z.extract 1 z.size) = strip5 y) := by unfold Hid; rw [← hzz.out, strip_on z hz1 hbz]
                      have hz3 : (z.extract 1 z.size).size = z.size - 1 := by rw [ByteArray.size_extract]; omega
                      have hzo : (1 : Int) ≤ (z.size : Int) := by omega
                      rw [hbz] at KZ
                      clear hzz hbz
                      go_wp2_with fail
                      refine (KZ.out _).mono ?_
                      rintro e w4 ⟨rfl, rfl⟩
                      clear KZ
                      go_wp2
                      go_roundw
                      case rel => exact ⟨_, rfl, by omega, hz2, trivial⟩
                      case measure =>
                        show (z.extract 1 z.size).size < z.size
                        omega
          · have eo : (((tn : Int) % 2) == 1) = false := by rw [beq_eq_false_iff_ne]; omega
            have HF2 : Hid (r = (tx, p + 1 - at_)) := by unfold Hid; rw [hR.out, joinR_stop _ _ (fun h => by omega)]
            have hcast : Hid (((p + 1 - at_ : Nat) : Int) = (p : Int) + 1 - (at_ : Int)) := by unfold Hid; omega
            generalize l[p].2 = ep at *
            clear hR hodd htt
            go_wp2
            go_ret2
            exact ⟨by rw [HF2.out]; simp only; rw [hcast.out]; rfl, hb1'⟩
      · have HF : Hid (r = (l[at_].1, 1)) := by unfold Hid; rw [HJV.out, if_pos (.inr (.inr rfl))]
        generalize l[at_].1 = tx0 at *
        clear h5
        go_wp2_with fail
        refine (K1.out _).mono ?_
        rintro e w1 ⟨rfl, hb1⟩
        have hb1' := hb0.trans (hb1.mono (by omega))
        go_wp2
        go_ret2
        exact ⟨by rw [HF.out]; rfl, hb1'⟩
  · have e5 : (d5 != 1) = true := by simpa using h5
    have HF : Hid (r = (l[at_].1, 1)) := by unfold Hid; rw [HJV.out, if_pos (.inl h5)]
    generalize l[at_].1 = tx0 at *
    clear h5 K1
    go_wp2
    go_ret2
    exact ⟨by rw [HF.out]; rfl, hb0⟩

end Go.Proofs.YtkhkpjnpjgnckaaGreatDoor
