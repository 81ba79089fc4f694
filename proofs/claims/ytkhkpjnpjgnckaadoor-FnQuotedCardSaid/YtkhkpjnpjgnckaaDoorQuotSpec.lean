/- Values between quotes: the model's contracts of l05Behind, Quoted. -/
import Derived.Test.YtkhkpjnpjgnckaaDoorProg
import Derived.Test.YtkhkpjnpjgnckaaDoorPlain
import Derived.Test.YtkhkpjnpjgnckaaDoorCut
import Derived.Test.YtkhkpjnpjgnckaaDoorTrim
import Derived.Test.YtkhkpjnpjgnckaaDoorTail
import Derived.Test.YtkhkpjnpjgnckaaDoorDialectRows
import Derived.Test.YtkhkpjnpjgnckaaDoorUnescSpec
import Derived.Test.YtkhkpjnpjgnckaaDoorBareSpec
import Derived.WalkKit
import Derived.WalkLawsBesides
import Derived.BigQuiet
import Derived.Deep.QuietTactic
import Derived.Lib.QuietBelow
import Derived.Laws.IdiomStrings
import Derived.Lib.Hide
import Derived.IntWalk
namespace Go.Proofs.YtkhkpjnpjgnckaaDoor
open Go.RowKit Go.Sort
set_option linter.unusedVariables false

/-- a text trimmed -/
def trimT (s : ByteArray) : ByteArray := ⟨(trimL s.data.toList).toArray⟩
theorem trimS_len (l m : List UInt8) : (Lib.trimS l m).length ≤ l.length := by
  unfold Lib.trimS Lib.trimRightS Lib.trimLeftS
  refine Nat.le_trans (List.dropWhile_sublist _).length_le ?_
  simp only [List.length_reverse]
  have := (List.dropWhile_sublist (fun x => m.contains x) (l := l.reverse)).length_le
  rw [List.length_reverse] at this
  exact this
theorem trimT_size (s : ByteArray) : (trimT s).size ≤ s.size := by
  unfold trimT trimL
  rw [Lib.size_eq, Lib.size_eq]
  simpa using trimS_len s.data.toList [32, 9]
/-- what may stand behind something that is closed -/
def behind5 (d : DialectD) (s : ByteArray) : Bool := if h : 0 < (trimT s).size then d.inl && (if h2 : 0 < s.size then blankB s[0] else false) && hasB d.notes (trimT s)[0] else true
theorem text_none (x : ByteArray) (h : x.size = 0) : (x.toList == []) = true ∧ x.toList.isEmpty = true := by
  have : x.toList = [] := by
    rw [Lib.toList_data]
    apply List.eq_nil_of_length_eq_zero
    rw [← Lib.size_eq]
    exact h
  rw [this]
  exact ⟨rfl, rfl⟩
theorem text_some (x : ByteArray) (h : 0 < x.size) : (x.toList == []) = false ∧ x.toList.isEmpty = false := by
  rw [Lib.toList_data]
  cases hl : x.data.toList with
  | nil =>
    have h2 := Lib.size_eq x
    rw [hl, List.length_nil] at h2
    omega
  | cons c t => exact ⟨rfl, rfl⟩

set_option maxHeartbeats 3200000 in
theorem behind5_spec (d : DialectD) (s : ByteArray) (w : World) (hs : s.size ≤ 100000000) (hn : d.notes.size ≤ 100000000) :
    Calls Tryd.prog 26 #[.string s, dialectV d] w fun e w' => e = .returned (.bool (behind5 d s)) ∧ Below w.heap.size w w' := by
  have K0 := Lib.hid (fun w => trim_spec s w (by unfold maxLen; omega))
  have hts := trimT_size s
  have HN := Lib.hid (dialAt_new w d)
  have hv : behind5 d s = (if h : 0 < (trimT s).size then d.inl && (if h2 : 0 < s.size then blankB s[0] else false) && hasB d.notes (trimT s)[0] else true) := rfl
  generalize behind5 d s = r at *
  obtain ⟨d0, d1, d2, d3, d4, d5⟩ := d
  unfold dialectV
  simp only at HN hv hn ⊢
  have htr : (⟨(trimL s.data.toList).toArray⟩ : ByteArray) = trimT s := rfl
  rw [htr] at K0
  clear htr
  generalize trimT s = t at *
  have hb0 := (Below.refl w.heap.size w).alloc (Nat.le_refl _) (.cells #[.string d0, .string d1, .bool d2, .bool d3, .bool d4, .int .i64 d5] 25)
  have hw0 : w.heap.size < (w.alloc (.cells #[.string d0, .string d1, .bool d2, .bool d3, .bool d4, .int .i64 d5] 25)).heap.size := by simp
  by_cases ht : 0 < t.size
  · rw [dif_pos ht] at hv
    have hss : 0 < s.size := by omega
    rw [dif_pos hss] at hv
    obtain ⟨e1, e2⟩ := text_some t ht
    have KA : Hid (∀ wz : World, ∀ q os, Calls Tryd.prog 47 #[.int .u8 (s[0].toNat : Int)] (grow (redrawn wz q) os) fun e w' => e = .returned (.bool (blankB s[0])) ∧ ∃ p : Regrown, w' = grow (redrawn wz p.d) p.os) := by
      intro wz q os
      refine Calls.regrown_of ((blank_any s[0] _).mono ?_)
      rintro e w' ⟨rfl, rfl⟩
      exact ⟨rfl, Below.refl _ _⟩
    have KB : Hid (∀ wz : World, ∀ q os, Calls Tryd.prog 30 #[.string d0, .int .u8 (t[0].toNat : Int)] (grow (redrawn wz q) os) fun e w' => e = .returned (.bool (hasB d0 t[0])) ∧ ∃ p : Regrown, w' = grow (redrawn wz p.d) p.os) := by
      intro wz q os
      refine Calls.regrown_of ((has_any d0 t[0] _ (by unfold maxLen; omega)).mono ?_)
      rintro e w' ⟨rfl, rfl⟩
      exact ⟨rfl, Below.refl _ _⟩
    have hssz : (0 : Int) < (s.size : Int) := by omega
    have htz : (0 : Int) < (t.size : Int) := by omega
    generalize hB0 : blankB s[0] = b0 at *
    generalize hB1 : hasB d0 t[0] = b1 at *
    have HV := Lib.hid hv
    clear hv hB0 hB1
    go_enter Tryd.func26, Tryd.ntmps26
    go_wp2_with fail
    refine (K0.out _).mono ?_
    rintro e w1 ⟨rfl, rfl⟩
    clear K0
    obtain ⟨c0, c1, c2, c3, c4, c5⟩ := HN.out.cells
    simp only at c0 c1 c2 c3 c4 c5
    generalize w.alloc (.cells #[.string d0, .string d1, .bool d2, .bool d3, .bool d4, .int .i64 d5] 25) = W0 at *
    have x0 := cell_regrown c0
    have x2 := cell_regrown c2
    have KA2 := Lib.hid (KA.out W0)
    have KB2 := Lib.hid (KB.out W0)
    clear KA KB HN
    cases d2 <;> cases b0 <;> cases b1
    all_goals
      have HD := Lib.hid HV.out
      simp only [Bool.and_true, Bool.and_false, Bool.true_and, Bool.false_and, Bool.and_self] at HD
      clear HV
      go_wp2_with fail
      refine wp_region_quiet_below (by kernel_rfl) (by kernel_rfl) ?_
      repeat (go_big_quiet_step (first | with_reducible exact KA2.out _ _ | with_reducible exact KB2.out _ _))
      refine wpQuiet_nil ?_
      intro _ hw'
      obtain ⟨⟨dq, osq⟩, hw''⟩ := hw'
      subst hw''
      have hb2 := hb0.trans ((below_regrown W0 dq osq).mono (by omega))
      go_wp2
      go_ret
      exact ⟨by rw [HD.out]; rfl, hb2⟩
  · rw [dif_neg ht] at hv
    obtain ⟨e1, e2⟩ := text_none t (by omega)
    have HV := Lib.hid hv
    clear hv
    go_enter Tryd.func26, Tryd.ntmps26
    go_wp2_with fail
    refine (K0.out _).mono ?_
    rintro e w1 ⟨rfl, rfl⟩
    clear K0 HN
    generalize w.alloc (.cells #[.string d0, .string d1, .bool d2, .bool d3, .bool d4, .int .i64 d5] 25) = W0 at *
    go_wp2_with fail
    refine wp_region_quiet_below (by kernel_rfl) (by kernel_rfl) ?_
    repeat (go_big_quiet_step (fail))
    refine wpQuiet_nil ?_
    intro _ hw'
    obtain ⟨⟨dq, osq⟩, hw''⟩ := hw'
    subst hw''
    have hb2 := hb0.trans ((below_regrown W0 dq osq).mono (by omega))
    go_wp2
    go_ret
    exact ⟨by rw [HV.out]; rfl, hb2⟩

/-- a quote that closes, at place i -/
def clos5 (e : Bool) (s : ByteArray) (i : Nat) : Bool := if h : 1 ≤ i ∧ i < s.size then (s[i]'h.2) == 34 && (!e || tailN (s.extract 1 i) % 2 == 0) else false
/-- where the text between the quotes ends -/
def close5 (e : Bool) (s : ByteArray) : Nat := (List.range s.size).findIdx (clos5 e s)
/-- begins with a quote -/
def opens (s : ByteArray) : Bool := if h : 0 < s.size then s[0] == 34 else false
/-- what Quoted answers -/
def quotT (d : DialectD) (s : ByteArray) : ByteArray × Bool :=
  if opens s = true ∧ close5 d.esc s < s.size then (if behind5 d (s.extract (close5 d.esc s + 1) s.size) then unT d.esc (s.extract 1 (close5 d.esc s)) else (⟨#[]⟩, false)) else (⟨#[]⟩, false)

set_option maxRecDepth 100000 in
set_option maxHeartbeats 3200000 in
theorem quoted_spec (d : DialectD) (s : ByteArray) (w : World) (hs : s.size ≤ 100000000) (hn : d.notes.size ≤ 100000000) :
    Calls Tryd.prog 7 #[.string s, dialectV d] w fun e w' => e = .returned (.tuple #[.string (quotT d s).1, .bool (quotT d s).2]) ∧ Below w.heap.size w w' := by
  have HA : Hid (opens s = false → quotT d s = (⟨#[]⟩, false)) := by
    intro h
    unfold quotT
    rw [if_neg (by intro h2; rw [h] at h2; exact absurd h2.1 (by decide))]
  have HB : Hid (opens s = true → ∀ i, i ≤ s.size → (∀ j, j < i → clos5 d.esc s j = false) → (i < s.size → clos5 d.esc s i = true) → quotT d s = if i < s.size then (if behind5 d (s.extract (i + 1) s.size) then unT d.esc (s.extract 1 i) else (⟨#[]⟩, false)) else (⟨#[]⟩, false)) := by
    intro h i hi h1 h2
    have hc : close5 d.esc s = i := findIdx_range _ _ i hi h1 h2
    unfold quotT
    rw [hc]
    by_cases hl : i < s.size
    · rw [if_pos ⟨h, hl⟩, if_pos hl]
    · rw [if_neg (fun h2 => hl h2.2), if_neg hl]
  have HC : Hid (∀ i (h1 : 1 ≤ i) (h : i < s.size), clos5 d.esc s i = (s[i] == 34 && (!d.esc || tailN (s.extract 1 i) % 2 == 0))) := by
    intro i h1 h
    unfold clos5
    rw [dif_pos ⟨h1, h⟩]
  have HC0 : Hid (clos5 d.esc s 0 = false) := by unfold Hid clos5; rw [dif_neg (fun h => by omega)]
  have KT := Lib.hid (fun (i : Nat) (w : World) => tail_spec (s.extract 1 i) w (by rw [ByteArray.size_extract]; unfold maxLen; omega))
  have HTN : Hid (∀ i, tailN (s.extract 1 i) ≤ 100000000) := by
    intro i
    refine Nat.le_trans (tailN_le _) ?_
    rw [ByteArray.size_extract]
    omega
  have KN := Lib.hid (fun (i : Nat) (w : World) => behind5_spec d (s.extract (i + 1) s.size) w (by rw [ByteArray.size_extract]; omega) hn)
  have KU := Lib.hid (fun (i : Nat) (w : World) => unescape_spec d (s.extract 1 i) w (by rw [ByteArray.size_extract]; omega))
  have HN := Lib.hid (dialAt_new w d)
  obtain ⟨d0, d1, d2, d3, d4, d5⟩ := d
  unfold dialectV at *
  simp only at HA HB HC HC0 KN KU HN hn ⊢
  generalize hCL : clos5 d4 s = cl at *
  clear hCL
  generalize quotT ⟨d0, d1, d2, d3, d4, d5⟩ s = r at *
  have hb0 := (Below.refl w.heap.size w).alloc (Nat.le_refl _) (.cells #[.string d0, .string d1, .bool d2, .bool d3, .bool d4, .int .i64 d5] 25)
  have hw0 : w.heap.size < (w.alloc (.cells #[.string d0, .string d1, .bool d2, .bool d3, .bool d4, .int .i64 d5] 25)).heap.size := by simp
  go_enter Tryd.func7, Tryd.ntmps7
  go_wp2
  generalize w.alloc (.cells #[.string d0, .string d1, .bool d2, .bool d3, .bool d4, .int .i64 d5] 25) = W0 at *
  go_loopw [6] (fun i wr => ∃ k : Nat, 1 ≤ k ∧ (k ≤ s.size ∨ k = 1) ∧ i = .int .i64 k ∧ Hid (∀ j, j < k → cl j = false) ∧ wr = W0) (fun i _ => s.size - (intOf i).toNat)
  case atStart => exact ⟨1, Nat.le_refl _, .inr rfl, rfl, fun j hj => (show j = 0 by omega) ▸ HC0.out, rfl⟩
  case round =>
    obtain ⟨k, hk1, hks, rfl, hno, rfl⟩ := hrel
    have hb := hb0
    by_cases hlt : k < s.size
    · have h0s : 0 < s.size := by omega
      have h0z : (0 : Int) < (s.size : Int) := by omega
      have hkz : (k : Int) < (s.size : Int) := by omega
      by_cases hq : s[0] = 34
      · have hop : opens s = true := by unfold opens; rw [dif_pos h0s]; simp [hq]
        have e0 : ((s[0].toNat : Int) == 34) = true := byte_same _ 34 hq
        obtain ⟨c0, c1, c2, c3, c4, c5⟩ := HN.out.cells
        simp only at c0 c1 c2 c3 c4 c5
        have hck := HC.out k hk1 hlt
        clear hq
        by_cases h34 : s[k] = 34
        · have e34 : ((s[k].toNat : Int) == 34) = true := byte_same _ 34 h34
          have b34 : (s[k] == 34) = true := by simp [h34]
          rw [b34] at hck
          clear h34 b34
          have hyes : Hid (cl k = true → r = if behind5 ⟨d0, d1, d2, d3, d4, d5⟩ (s.extract (k + 1) s.size) then unT d4 (s.extract 1 k) else (⟨#[]⟩, false)) := by
            intro h
            have := HB.out hop k (by omega) hno.out (fun _ => h)
            rw [if_pos hlt] at this
            exact this
          have q1 : (1 : Int) ≤ (k : Int) := by omega
          have q2 : (k : Int) ≤ (s.size : Int) := by omega
          have q3 : (k : Int) + 1 ≤ (s.size : Int) := by omega
          have KN2 := Lib.hid (KN.out k)
          have KU2 := Lib.hid (KU.out k)
          have KT2 := Lib.hid (KT.out k)
          have htn := HTN.out k
          clear KN KU KT HTN HA HB HC HC0
          generalize behind5 ⟨d0, d1, d2, d3, d4, d5⟩ (s.extract (k + 1) s.size) = bh at *
          generalize unT d4 (s.extract 1 k) = ut at *
          obtain ⟨ua, ub⟩ := ut
          generalize tailN (s.extract 1 k) = tn at *
          simp only at KU2
          cases d4
          · have hyes2 : Hid (r = if bh then (ua, ub) else (⟨#[]⟩, false)) := hyes.out hck
            clear hyes hck hno KT2
            go_wp2_with fail
            have KNr : Hid (∀ q os, Calls Tryd.prog 26 #[.string (s.extract (k + 1) s.size), .agg #[.string d0, .string d1, .bool d2, .bool d3, .bool false, .int .i64 d5]] (grow (redrawn wr q) os) fun e w' => e = .returned (.bool bh) ∧ ∃ p : Regrown, w' = grow (redrawn wr p.d) p.os) := by
              intro q os
              exact Calls.regrown_of (KN2.out _)
            have x0 := cell_regrown c0
            have x1 := cell_regrown c1
            have x2 := cell_regrown c2
            have x3 := cell_regrown c3
            have x4 := cell_regrown c4
            have x5 := cell_regrown c5
            cases bh
            · have HF : Hid (r = (⟨#[]⟩, false)) := hyes2.out
              go_wp2_with fail
              refine wp_region_quiet_below (by kernel_rfl) (by kernel_rfl) ?_
              repeat (go_big_quiet_step (first | with_reducible exact KNr.out _ _))
              refine wpQuiet_nil ?_
              intro _ hw'
              obtain ⟨⟨dq, osq⟩, hw''⟩ := hw'
              subst hw''
              have hb2 := hb.trans ((below_regrown wr dq osq).mono (by omega))
              go_wp2
              go_ret2
              exact ⟨by rw [HF.out]; rfl, hb2⟩
            · have HF : Hid (r = (ua, ub)) := hyes2.out
              go_wp2_with fail
              refine wp_region_quiet_below (by kernel_rfl) (by kernel_rfl) ?_
              repeat (go_big_quiet_step (first | with_reducible exact KNr.out _ _))
              refine wpQuiet_nil ?_
              intro _ hw'
              obtain ⟨⟨dq, osq⟩, hw''⟩ := hw'
              subst hw''
              have hbq := below_regrown wr dq osq
              have hb2 := hb.trans (hbq.mono (by omega))
              have hD2 := Lib.hid (HN.out.over hbq hw0)
              clear x0 x1 x2 x3 x4 x5 c0 c1 c2 c3 c4 c5 KNr hbq HN
              generalize grow (redrawn wr dq) osq = w2 at *
              obtain ⟨c0, c1, c2, c3, c4, c5⟩ := hD2.out.cells
              simp only at c0 c1 c2 c3 c4 c5
              have x0 := cell_regrown c0
              have x1 := cell_regrown c1
              have x2 := cell_regrown c2
              have x3 := cell_regrown c3
              have x4 := cell_regrown c4
              have x5 := cell_regrown c5
              have KUr : Hid (∀ q os, Calls Tryd.prog 27 #[.string (s.extract 1 k), .agg #[.string d0, .string d1, .bool d2, .bool d3, .bool false, .int .i64 d5]] (grow (redrawn w2 q) os) fun e w' => e = .returned (.tuple #[.string ua, .bool ub]) ∧ ∃ p : Regrown, w' = grow (redrawn w2 p.d) p.os) := by
                intro q os
                exact Calls.regrown_of (KU2.out _)
              clear c0 c1 c2 c3 c4 c5 KU2 KN2
              go_wp2_with fail
              refine wp_region_quiet_below (by kernel_rfl) (by kernel_rfl) ?_
              repeat (go_big_quiet_step (first | with_reducible exact KUr.out _ _))
              refine wpQuiet_nil ?_
              intro _ hw'
              obtain ⟨⟨dq, osq⟩, hw''⟩ := hw'
              subst hw''
              have hb3 := hb2.trans ((below_regrown w2 dq osq).mono hb2.size)
              go_wp2
              go_ret2
              exact ⟨by rw [HF.out]; rfl, hb3⟩
          · rcases (show tn % 2 = 0 ∨ tn % 2 = 1 by omega) with hp | hp
            · have hyes2 : Hid (r = if bh then (ua, ub) else (⟨#[]⟩, false)) := hyes.out (by rw [hck, hp]; rfl)
              have hpz : (((tn : Int) % 2) == 0) = true := by rw [beq_iff_eq]; omega
              clear hyes hck hno hp
              go_wp2_with fail
              refine (KT2.out _).mono ?_
              rintro e w1 ⟨rfl, rfl⟩
              clear KT2
              go_wp2_with fail
              have KNr : Hid (∀ q os, Calls Tryd.prog 26 #[.string (s.extract (k + 1) s.size), .agg #[.string d0, .string d1, .bool d2, .bool d3, .bool true, .int .i64 d5]] (grow (redrawn wr q) os) fun e w' => e = .returned (.bool bh) ∧ ∃ p : Regrown, w' = grow (redrawn wr p.d) p.os) := by
                intro q os
                exact Calls.regrown_of (KN2.out _)
              have x0 := cell_regrown c0
              have x1 := cell_regrown c1
              have x2 := cell_regrown c2
              have x3 := cell_regrown c3
              have x4 := cell_regrown c4
              have x5 := cell_regrown c5
              cases bh
              · have HF : Hid (r = (⟨#[]⟩, false)) := hyes2.out
                go_wp2_with fail
                refine wp_region_quiet_below (by kernel_rfl) (by kernel_rfl) ?_
                repeat (go_big_quiet_step (first | with_reducible exact KNr.out _ _))
                refine wpQuiet_nil ?_
                intro _ hw'
                obtain ⟨⟨dq, osq⟩, hw''⟩ := hw'
                subst hw''
                have hb2 := hb.trans ((below_regrown wr dq osq).mono (by omega))
                go_wp2
                go_ret2
                exact ⟨by rw [HF.out]; rfl, hb2⟩
              · have HF : Hid (r = (ua, ub)) := hyes2.out
                go_wp2_with fail
                refine wp_region_quiet_below (by kernel_rfl) (by kernel_rfl) ?_
                repeat (go_big_quiet_step (first | with_reducible exact KNr.out _ _))
                refine wpQuiet_nil ?_
                intro _ hw'
                obtain ⟨⟨dq, osq⟩, hw''⟩ := hw'
                subst hw''
                have hbq := below_regrown wr dq osq
                have hb2 := hb.trans (hbq.mono (by omega))
                have hD2 := Lib.hid (HN.out.over hbq hw0)
                clear x0 x1 x2 x3 x4 x5 c0 c1 c2 c3 c4 c5 KNr hbq HN
                generalize grow (redrawn wr dq) osq = w2 at *
                obtain ⟨c0, c1, c2, c3, c4, c5⟩ := hD2.out.cells
                simp only at c0 c1 c2 c3 c4 c5
                have x0 := cell_regrown c0
                have x1 := cell_regrown c1
                have x2 := cell_regrown c2
                have x3 := cell_regrown c3
                have x4 := cell_regrown c4
                have x5 := cell_regrown c5
                have KUr : Hid (∀ q os, Calls Tryd.prog 27 #[.string (s.extract 1 k), .agg #[.string d0, .string d1, .bool d2, .bool d3, .bool true, .int .i64 d5]] (grow (redrawn w2 q) os) fun e w' => e = .returned (.tuple #[.string ua, .bool ub]) ∧ ∃ p : Regrown, w' = grow (redrawn w2 p.d) p.os) := by
                  intro q os
                  exact Calls.regrown_of (KU2.out _)
                clear c0 c1 c2 c3 c4 c5 KU2 KN2
                go_wp2_with fail
                refine wp_region_quiet_below (by kernel_rfl) (by kernel_rfl) ?_
                repeat (go_big_quiet_step (first | with_reducible exact KUr.out _ _))
                refine wpQuiet_nil ?_
                intro _ hw'
                obtain ⟨⟨dq, osq⟩, hw''⟩ := hw'
                subst hw''
                have hb3 := hb2.trans ((below_regrown w2 dq osq).mono hb2.size)
                go_wp2
                go_ret2
                exact ⟨by rw [HF.out]; rfl, hb3⟩
            · have hno2 : Hid (∀ j, j < k + 1 → cl j = false) := by
                intro j hj
                by_cases e : j = k
                · subst e; rw [hck, hp]; rfl
                · exact hno.out j (by omega)
              have hpz : (((tn : Int) % 2) == 0) = false := by rw [beq_eq_false_iff_ne]; omega
              clear hyes hck hno hp
              go_wp2_with fail
              refine (KT2.out _).mono ?_
              rintro e w1 ⟨rfl, rfl⟩
              clear KT2
              go_wp2
              go_roundw
              case rel => exact ⟨k + 1, by omega, .inl (by omega), by go_num, hno2, trivial⟩
              case measure => simp [intOf]; omega
        · have e34 : ((s[k].toNat : Int) == 34) = false := byte_differ _ 34 h34
          have b34 : (s[k] == 34) = false := by simpa using h34
          rw [b34] at hck
          have hno2 : Hid (∀ j, j < k + 1 → cl j = false) := by
            intro j hj
            by_cases e : j = k
            · subst e; exact hck
            · exact hno.out j (by omega)
          clear hno hck h34 b34
          go_wp2
          go_roundw
          case rel => exact ⟨k + 1, by omega, .inl (by omega), by go_num, hno2, trivial⟩
          case measure => simp [intOf]; omega
      · have HF : Hid (r = (⟨#[]⟩, false)) := HA.out (by unfold opens; rw [dif_pos h0s]; simpa using hq)
        have e0 : ((s[0].toNat : Int) == 34) = false := byte_differ _ 34 hq
        clear hq
        clear HA
        go_wp2
        go_ret2
        exact ⟨by rw [HF.out]; rfl, hb⟩
    · have HF : Hid (r = (⟨#[]⟩, false)) := by
        cases hop : opens s
        · exact HA.out hop
        · have := HB.out hop s.size (Nat.le_refl _) (fun j hj => hno.out j (by omega)) (fun h => absurd h (Nat.lt_irrefl _))
          rw [if_neg (Nat.lt_irrefl _)] at this
          exact this
      clear HA
      go_wp2
      go_ret2
      exact ⟨by rw [HF.out]; rfl, hb⟩

end Go.Proofs.YtkhkpjnpjgnckaaDoor
