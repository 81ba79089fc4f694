/- A quoted value: the program's small functions. -/
import Derived.Test.YtkhkpjnpjgnckaaGreatDoorProg
import Derived.Test.YtkhkpjnpjgnckaaGreatDoorPlain
import Derived.Test.YtkhkpjnpjgnckaaGreatDoorCut
import Derived.Test.YtkhkpjnpjgnckaaGreatDoorTrim
import Derived.Test.YtkhkpjnpjgnckaaGreatDoorTail
import Derived.Test.YtkhkpjnpjgnckaaGreatDoorDialectRows
import Derived.Test.YtkhkpjnpjgnckaaGreatDoorQuotSpec
import Derived.Test.YtkhkpjnpjgnckaaGreatDoorBareImpl
import Derived.Test.YtkhkpjnpjgnckaaGreatDoorUnescTop
import Derived.WalkKit
import Derived.WalkLawsBesides
import Derived.BigQuiet
import Derived.Deep.QuietTactic
import Derived.Lib.QuietBelow
import Derived.Laws.IdiomStrings
import Derived.Lib.Hide
import Derived.IntWalk
set_option maxRecDepth 100000
namespace Go.Proofs.YtkhkpjnpjgnckaaGreatDoor
open Go.RowKit Go.Sort
set_option linter.unusedVariables false

/-! a trimmed text that is not empty begins as the text behind the blanks -/
theorem dropWhile_over (p : UInt8 → Bool) (c : UInt8) (hc : p c = false) : ∀ (xs ys : List UInt8), (xs ++ c :: ys).dropWhile p = xs.dropWhile p ++ c :: ys := by
  intro xs
  induction xs with
  | nil => intro ys; simp [List.dropWhile_cons, hc]
  | cons x xs ih =>
    intro ys
    simp only [List.cons_append, List.dropWhile_cons]
    cases p x
    · simp
    · simp [ih ys]
theorem dropWhile_none (p : UInt8 → Bool) : ∀ (xs ys : List UInt8), (∀ x, x ∈ xs → p x = true) → (xs ++ ys).dropWhile p = ys.dropWhile p := by
  intro xs
  induction xs with
  | nil => intro ys _; rfl
  | cons x xs ih =>
    intro ys h
    simp only [List.cons_append, List.dropWhile_cons]
    rw [h x (by simp)]
    exact ih ys (fun y hy => h y (by simp [hy]))
theorem trimL_form (l : List UInt8) : trimL l = ((l.reverse.dropWhile blankB).reverse).dropWhile blankB := by
  have hp : (fun x => List.contains [32, 9] x) = blankB := by funext x; exact blank_set x
  unfold trimL Lib.trimS Lib.trimLeftS Lib.trimRightS
  rw [hp]
theorem trimL_some {l u : List UInt8} {c : UInt8} (h : l.dropWhile blankB = c :: u) : ∃ v, trimL l = c :: v := by
  have hc : blankB c = false := by
    have := List.head?_dropWhile_not (p := blankB) (l := l)
    rw [h] at this
    simpa using this
  have e := List.takeWhile_append_dropWhile (p := blankB) (l := l)
  rw [h] at e
  have ha : ∀ x, x ∈ l.takeWhile blankB → blankB x = true := by
    have := List.all_takeWhile (p := blankB) (l := l)
    rwa [List.all_eq_true] at this
  refine ⟨(u.reverse.dropWhile blankB).reverse, ?_⟩
  rw [trimL_form]
  generalize l.takeWhile blankB = pre at *
  rw [← e]
  rw [List.reverse_append, List.reverse_cons, List.append_assoc, List.singleton_append, dropWhile_over blankB c hc, List.reverse_append, List.reverse_cons, List.reverse_reverse, List.append_assoc, List.singleton_append]
  rw [dropWhile_none blankB pre _ ha, List.dropWhile_cons, hc]
  rfl
theorem trimL_none {l : List UInt8} (h : l.dropWhile blankB = []) : trimL l = [] := by
  have e := List.takeWhile_append_dropWhile (p := blankB) (l := l)
  rw [h, List.append_nil] at e
  have ha : ∀ x, x ∈ l → blankB x = true := by
    have := List.all_takeWhile (p := blankB) (l := l)
    rw [List.all_eq_true, e] at this
    exact this
  rw [trimL_form]
  have h1 : l.reverse.dropWhile blankB = [] := by
    have := dropWhile_none blankB l.reverse [] (fun x hx => ha x (by simpa using hx))
    rw [List.append_nil] at this
    rw [this]
    rfl
  rw [h1]
  rfl
theorem start5_data (s : ByteArray) : (start5 s).data.toList = s.data.toList.dropWhile blankB := by
  rw [← start5_list]
  have hp : (fun x => List.contains [32, 9] x) = blankB := by funext x; exact blank_set x
  unfold Lib.trimLeftS
  rw [hp]
/-- begins with a byte of a note -/
def isN (d : DialectD) (x : ByteArray) : Bool := if h : 0 < x.size then hasB d.notes x[0] else false
theorem first_data (x : ByteArray) (h : 0 < x.size) : ∃ u, x.data.toList = x[0] :: u := by
  have hl : 0 < x.data.toList.length := by rw [← Lib.size_eq]; exact h
  have := List.drop_eq_getElem_cons hl
  rw [List.drop_zero] at this
  exact ⟨_, this⟩
theorem behind_start (d : DialectD) (s : ByteArray) : behind5 d s = if 0 < (start5 s).size then (d.inl && decide ((start5 s).size < s.size) && isN d (start5 s)) else true := by
  have hsd := start5_data s
  have hss := start5_size s
  unfold behind5
  by_cases h : 0 < (start5 s).size
  · rw [if_pos h]
    obtain ⟨u, hu⟩ := first_data _ h
    rw [hsd] at hu
    obtain ⟨v, hv⟩ := trimL_some hu
    have hs0 : 0 < s.size := by omega
    have htz : 0 < (trimT s).size := by
      unfold trimT
      rw [Lib.size_eq]
      simp [hv]
    have ht0 : (trimT s)[0] = (start5 s)[0] := by
      obtain ⟨v2, hv2⟩ := first_data _ htz
      have : (trimT s).data.toList = (start5 s)[0] :: v := by unfold trimT; simpa using hv
      rw [hv2] at this
      exact (List.cons.inj this).1
    rw [dif_pos htz, dif_pos hs0, ht0]
    unfold isN
    rw [dif_pos h]
    congr 2
    have hfr : front5 s = 0 ∨ 0 < front5 s := by omega
    obtain ⟨w, hw⟩ := first_data s hs0
    have hf : front5 s = (s.data.toList.takeWhile blankB).length := rfl
    rw [hw, List.takeWhile_cons] at hf
    cases hb : blankB s[0]
    · rw [hb] at hf
      simp at hf
      rw [decide_eq_false (by omega)]
    · rw [hb] at hf
      simp at hf
      rw [decide_eq_true (by omega)]
  · rw [if_neg h]
    have : (start5 s).data.toList = [] := List.eq_nil_of_length_eq_zero (by rw [← Lib.size_eq]; omega)
    rw [hsd] at this
    have ht := trimL_none this
    rw [dif_neg (by unfold trimT; rw [Lib.size_eq]; simp [ht])]

set_option maxHeartbeats 1600000 in
theorem isNote_impl (d : DialectD) (x : ByteArray) (w : World) (hs : x.size ≤ 1048576) :
    Calls Tryz.prog 81 #[dialectV d, .string x] w fun e w' => e = .returned (.bool (isN d x)) ∧ Below w.heap.size w w' := by
  have HN := Lib.hid (dialAt_new w d)
  have hb0 := (Below.refl w.heap.size w).alloc (Nat.le_refl _) (.cells #[.string d.notes, .string d.seps, .bool d.inl, .bool d.quo, .bool d.esc, .int .i64 d.join] 25)
  by_cases hz : 0 < x.size
  · have HV : Hid (isN d x = hasB d.notes x[0]) := by unfold Hid isN; rw [dif_pos hz]
    obtain ⟨e1, e2⟩ := text_some x hz
    have hz2 : (0 : Int) < (x.size : Int) := by omega
    have K0 := Lib.hid (fun w => hasByte_any d.notes x[0] w)
    generalize isN d x = r at *
    obtain ⟨d0, d1, d2, d3, d4, d5⟩ := d
    unfold dialectV at *
    simp only at K0 HN HV hb0 ⊢
    go_enter Tryz.func81, Tryz.ntmps81
    go_wp2_with fail
    generalize w.alloc (.cells #[.string d0, .string d1, .bool d2, .bool d3, .bool d4, .int .i64 d5] 25) = wr at *
    have KA : Hid (∀ q os, Calls Tryz.prog 64 #[.string d0, .int .u8 (x[0].toNat : Int)] (grow (redrawn wr q) os) fun e w' => e = .returned (.bool (hasB d0 x[0])) ∧ ∃ p : Regrown, w' = grow (redrawn wr p.d) p.os) := by
      intro q os
      refine Calls.regrown_of ((K0.out _).mono ?_)
      rintro e w' ⟨rfl, rfl⟩
      exact ⟨rfl, Below.refl _ _⟩
    obtain ⟨c0, c1, c2, c3, c4, c5⟩ := HN.out.cells
    simp only at c0 c1 c2 c3 c4 c5
    have x0 := cell_regrown c0
    clear c0 c1 c2 c3 c4 c5 K0
    generalize hasB d0 x[0] = hv at *
    refine wp_region_quiet_below (by kernel_rfl) (by kernel_rfl) ?_
    repeat (go_big_quiet_step (with_reducible exact KA.out _ _))
    refine wpQuiet_nil ?_
    intro _ hw'
    obtain ⟨⟨dq9, osq9⟩, hw''⟩ := hw'
    subst hw''
    have hb9 := hb0.trans ((below_regrown wr dq9 osq9).mono hb0.size)
    clear KA
    go_wp2
    go_ret
    exact ⟨by rw [HV.out]; rfl, hb9⟩
  · have HV : Hid (isN d x = false) := by unfold Hid isN; rw [dif_neg hz]
    obtain ⟨e1, e2⟩ := text_none x (by omega)
    obtain ⟨d0, d1, d2, d3, d4, d5⟩ := d
    unfold dialectV at *
    simp only at HN HV hb0 ⊢
    go_enter Tryz.func81, Tryz.ntmps81
    go_wp2_with fail
    generalize w.alloc (.cells #[.string d0, .string d1, .bool d2, .bool d3, .bool d4, .int .i64 d5] 25) = wr at *
    obtain ⟨c0, c1, c2, c3, c4, c5⟩ := HN.out.cells
    simp only at c0 c1 c2 c3 c4 c5
    have x0 := cell_regrown c0
    clear c0 c1 c2 c3 c4 c5
    refine wp_region_quiet_below (by kernel_rfl) (by kernel_rfl) ?_
    repeat (go_big_quiet_step (fail))
    refine wpQuiet_nil ?_
    intro _ hw'
    obtain ⟨⟨dq9, osq9⟩, hw''⟩ := hw'
    subst hw''
    have hb9 := hb0.trans ((below_regrown wr dq9 osq9).mono hb0.size)
    go_wp2
    go_ret
    exact ⟨by rw [HV.out]; rfl, hb9⟩

set_option maxHeartbeats 1600000 in
theorem mayFollow_impl (d : DialectD) (s : ByteArray) (w : World) (hs : s.size ≤ 1048576) :
    Calls Tryz.prog 141 #[dialectV d, .string s] w fun e w' => e = .returned (.bool (behind5 d s)) ∧ Below w.heap.size w w' := by
  have HV := Lib.hid (behind_start d s)
  have K0 := Lib.hid (fun w => trimStart_impl s w)
  have hss := start5_size s
  have hx : (start5 s).size ≤ 1048576 := by omega
  have K1 := Lib.hid (fun w => isNote_impl d (start5 s) w hx)
  have HN := Lib.hid (dialAt_new w d)
  clear hss
  generalize behind5 d s = r at *
  generalize isN d (start5 s) = n at *
  generalize start5 s = x at *
  have hb0 := (Below.refl w.heap.size w).alloc (Nat.le_refl _) (.cells #[.string d.notes, .string d.seps, .bool d.inl, .bool d.quo, .bool d.esc, .int .i64 d.join] 25)
  have hw0 : w.heap.size < (w.alloc (.cells #[.string d.notes, .string d.seps, .bool d.inl, .bool d.quo, .bool d.esc, .int .i64 d.join] 25)).heap.size := by simp
  obtain ⟨d0, d1, d2, d3, d4, d5⟩ := d
  unfold dialectV at *
  simp only at K1 HN HV hb0 hw0 ⊢
  go_enter Tryz.func141, Tryz.ntmps141
  go_wp2_with fail
  refine (K0.out _).mono ?_
  rintro e w1 ⟨rfl, hb1⟩
  obtain ⟨c0, c1, c2, c3, c4, c5⟩ := (HN.out.over hb1 hw0).cells
  simp only at c0 c1 c2 c3 c4 c5
  have hB1 := hb0.trans (hb1.mono hb0.size)
  clear hb1 hb0 HN hw0 K0
  by_cases hz : 0 < x.size
  · obtain ⟨e1, e2⟩ := text_some x hz
    have H2 : Hid (r = (d2 && decide (x.size < s.size) && n)) := by unfold Hid; rw [HV.out, if_pos hz]
    clear HV
    cases d2
    · have H3 : Hid (r = false) := H2.out
      clear H2
      go_wp2
      go_ret
      exact ⟨by rw [H3.out]; rfl, hB1⟩
    · by_cases hlt : x.size < s.size
      · have H3 : Hid (r = n) := by unfold Hid; rw [H2.out, decide_eq_true hlt]; rfl
        have hlt2 : (x.size : Int) < (s.size : Int) := by omega
        clear H2
        go_wp2_with fail
        refine (K1.out _).mono ?_
        rintro e w2 ⟨rfl, hb2⟩
        have hB2 := hB1.trans (hb2.mono hB1.size)
        clear hb2
        go_wp2
        go_ret
        exact ⟨by rw [H3.out]; rfl, hB2⟩
      · have H3 : Hid (r = false) := by unfold Hid; rw [H2.out, decide_eq_false hlt]; rfl
        have hlt2 : ¬ (x.size : Int) < (s.size : Int) := by omega
        clear H2
        go_wp2
        go_ret
        exact ⟨by rw [H3.out]; rfl, hB1⟩
  · obtain ⟨e1, e2⟩ := text_none x (by omega)
    have H3 : Hid (r = true) := by unfold Hid; rw [HV.out, if_neg hz]
    clear HV
    go_wp2
    go_ret
    exact ⟨by rw [H3.out]; rfl, hB1⟩

end Go.Proofs.YtkhkpjnpjgnckaaGreatDoor
