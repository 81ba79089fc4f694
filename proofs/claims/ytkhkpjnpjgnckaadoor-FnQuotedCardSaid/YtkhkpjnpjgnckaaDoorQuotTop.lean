/- A quoted value: the program's contract of Quoted. -/
import Derived.Test.YtkhkpjnpjgnckaaDoorProg
import Derived.Test.YtkhkpjnpjgnckaaDoorPlain
import Derived.Test.YtkhkpjnpjgnckaaDoorCut
import Derived.Test.YtkhkpjnpjgnckaaDoorTrim
import Derived.Test.YtkhkpjnpjgnckaaDoorTail
import Derived.Test.YtkhkpjnpjgnckaaDoorDialectRows
import Derived.Test.YtkhkpjnpjgnckaaDoorUnescSpec
import Derived.Test.YtkhkpjnpjgnckaaDoorUnescTop
import Derived.Test.YtkhkpjnpjgnckaaDoorBareSpec
import Derived.Test.YtkhkpjnpjgnckaaDoorQuotSpec
import Derived.Test.YtkhkpjnpjgnckaaDoorBareImpl
import Derived.Test.YtkhkpjnpjgnckaaDoorBareRun
import Derived.Test.YtkhkpjnpjgnckaaDoorQuotImpl
import Derived.Test.YtkhkpjnpjgnckaaDoorQuotRun
import Derived.WalkKit
import Derived.WalkLawsBesides
import Derived.BigQuiet
import Derived.Deep.QuietTactic
import Derived.Lib.QuietBelow
import Derived.Laws.IdiomStrings
import Derived.Lib.Hide
import Derived.IntWalk
set_option maxRecDepth 100000
namespace Go.Proofs.YtkhkpjnpjgnckaaDoor
open Go.RowKit Go.Sort
set_option linter.unusedVariables false

theorem opens_pos {s : ByteArray} (h : opens s = true) : 0 < s.size := by
  rcases Nat.eq_zero_or_pos s.size with h2 | h2
  · unfold opens at h; rw [dif_neg (by omega)] at h; cases h
  · exact h2
theorem inner_opens {s : ByteArray} (h : opens s = true) : inner5 s = s.extract 1 s.size := by unfold inner5; rw [h]; rfl
theorem inner_size {s : ByteArray} (h : opens s = true) : (inner5 s).size + 1 = s.size := by
  have := opens_pos h
  rw [inner_opens h, ByteArray.size_extract]
  omega
theorem clos_succ (e : Bool) {s : ByteArray} (h : opens s = true) (i : Nat) (hi : i < (inner5 s).size) : clos5 e s (i + 1) = cq5 e (inner5 s) i := by
  have hz := inner_size h
  have h1 := inner_opens h
  unfold clos5 cq5
  rw [dif_pos ⟨by omega, by omega⟩, dif_pos hi]
  have ha : (inner5 s)[i] = s[i + 1]'(by omega) := by
    have := ext_at s 1 s.size i (Nat.le_refl _) (by omega) (by rw [← h1]; exact hi)
    simp only [h1]
    rw [this]
    congr 1
    omega
  rw [ha]
  congr 1
  unfold esc5
  have he : (inner5 s).extract 0 i = s.extract 1 (i + 1) := by
    rw [h1]
    have := ext_ext s 1 s.size 0 i (by omega)
    rw [Nat.zero_add, Nat.add_zero] at this
    rw [this]
    congr 1
    omega
  rw [he]
  generalize tailN (s.extract 1 (i + 1)) = n
  cases e
  · rfl
  · rcases (show n % 2 = 0 ∨ n % 2 = 1 by omega) with q | q <;> rw [q] <;> rfl
theorem cqAt_le (e : Bool) (t : ByteArray) : cqAt e t ≤ t.size := by
  unfold cqAt
  have := List.findIdx_le_length (p := cq5 e t) (xs := List.range t.size)
  rwa [List.length_range] at this
theorem cqAt_no (e : Bool) (t : ByteArray) (j : Nat) (h : j < cqAt e t) : cq5 e t j = false := by
  have hl := cqAt_le e t
  have := List.not_of_lt_findIdx (p := cq5 e t) (xs := List.range t.size) (i := j) h
  simpa using this
theorem cqAt_yes (e : Bool) (t : ByteArray) (h : cqAt e t < t.size) : cq5 e t (cqAt e t) = true := by
  have := List.findIdx_getElem (p := cq5 e t) (xs := List.range t.size) (w := by rw [List.length_range]; exact h)
  simpa [cqAt] using this
theorem close_inner (e : Bool) {s : ByteArray} (h : opens s = true) : close5 e s = cqAt e (inner5 s) + 1 := by
  have hz := inner_size h
  have hl := cqAt_le e (inner5 s)
  refine findIdx_range _ _ _ (by omega) ?_ ?_
  · intro j hj
    cases j with
    | zero => unfold clos5; rw [dif_neg (by omega)]
    | succ j =>
      rw [clos_succ e h j (by omega)]
      exact cqAt_no e _ j (by omega)
  · intro hlt
    rw [clos_succ e h _ (by omega)]
    exact cqAt_yes e _ (by omega)
theorem quot_form (d : DialectD) (s : ByteArray) : quotT d s = if opens s = true ∧ cqAt d.esc (inner5 s) < (inner5 s).size then (if behind5 d ((inner5 s).extract (cqAt d.esc (inner5 s) + 1) (inner5 s).size) then unT d.esc ((inner5 s).extract 0 (cqAt d.esc (inner5 s))) else (⟨#[]⟩, false)) else (⟨#[]⟩, false) := by
  unfold quotT
  cases h : opens s
  · rw [if_neg (by simp), if_neg (by simp)]
  · have hz := inner_size h
    have hl := cqAt_le d.esc (inner5 s)
    rw [close_inner d.esc h]
    by_cases hlt : cqAt d.esc (inner5 s) < (inner5 s).size
    · have p1 : true = true ∧ cqAt d.esc (inner5 s) + 1 < s.size := ⟨rfl, by omega⟩
      have p2 : true = true ∧ cqAt d.esc (inner5 s) < (inner5 s).size := ⟨rfl, hlt⟩
      rw [if_pos p1, if_pos p2]
      have h1 := inner_opens h
      have e1 : s.extract (cqAt d.esc (inner5 s) + 1 + 1) s.size = (inner5 s).extract (cqAt d.esc (inner5 s) + 1) (inner5 s).size := by
        generalize cqAt d.esc (inner5 s) = c at *
        have := ext_ext s 1 s.size (c + 1) ((inner5 s).size - (c + 1)) (by omega)
        rw [← h1] at this
        rw [show c + 1 + ((inner5 s).size - (c + 1)) = (inner5 s).size by omega] at this
        rw [this]
        congr 1 <;> omega
      have e2 : s.extract 1 (cqAt d.esc (inner5 s) + 1) = (inner5 s).extract 0 (cqAt d.esc (inner5 s)) := by
        generalize cqAt d.esc (inner5 s) = c at *
        have := ext_ext s 1 s.size 0 c (by omega)
        rw [← h1, Nat.zero_add, Nat.add_zero] at this
        rw [this]
        congr 1
        omega
      rw [e1, e2]
    · rw [if_neg (fun h2 => absurd h2.2 (by omega)), if_neg (fun h2 => hlt h2.2)]

set_option maxHeartbeats 3200000 in
theorem quoted_impl (d : DialectD) (s : ByteArray) (w : World) (hs : s.size ≤ 1048576) :
    Calls Tryd.prog 6 #[.string s, dialectV d] w fun e w' => e = .returned (.tuple #[.string (quotT d s).1, .bool (quotT d s).2]) ∧ Below w.heap.size w w' := by
  have HV := Lib.hid (quot_form d s)
  have hti : (inner5 s).size ≤ 1048576 := by
    cases h : opens s
    · unfold inner5; rw [h]; exact hs
    · have := inner_size h; omega
  have K0 := Lib.hid (fun w => cutQuote_any s w hs)
  have K1 := Lib.hid (fun w => closing_impl d (inner5 s) w hti)
  have K2 := Lib.hid (fun (x : ByteArray) (w : World) (h : x.size ≤ 1048576) => mayFollow_impl d x w h)
  have K3 := Lib.hid (fun (x : ByteArray) (w : World) (h : x.size ≤ 1048576) => unescape_impl d x w h)
  have HC : Hid (cqInt d.esc (inner5 s) = if cqAt d.esc (inner5 s) < (inner5 s).size then (cqAt d.esc (inner5 s) : Int) else -1) := rfl
  have HN := Lib.hid (dialAt_new w d)
  generalize quotT d s = r at *
  generalize inner5 s = t at *
  generalize cqInt d.esc t = ci at *
  generalize cqAt d.esc t = c at *
  generalize opens s = o at *
  obtain ⟨d0, d1, d2, d3, d4, d5⟩ := d
  unfold dialectV at *
  simp only at K1 K2 K3 HN HV HC ⊢
  have hb0 := (Below.refl w.heap.size w).alloc (Nat.le_refl _) (.cells #[.string d0, .string d1, .bool d2, .bool d3, .bool d4, .int .i64 d5] 25)
  have hw0 : w.heap.size < (w.alloc (.cells #[.string d0, .string d1, .bool d2, .bool d3, .bool d4, .int .i64 d5] 25)).heap.size := by simp
  go_enter Tryd.func6, Tryd.ntmps6
  go_wp2_with fail
  refine (K0.out _).mono ?_
  rintro e w1 ⟨rfl, rfl⟩
  obtain ⟨c0, c1, c2, c3, c4, c5⟩ := HN.out.cells
  simp only at c0 c1 c2 c3 c4 c5
  generalize w.alloc (.cells #[.string d0, .string d1, .bool d2, .bool d3, .bool d4, .int .i64 d5] 25) = w1 at *
  go_wp2_with fail
  refine (K1.out _).mono ?_
  rintro e w2 ⟨rfl, hb2⟩
  clear c0 c1 c2 c3 c4 c5
  have hD := HN.out.over hb2 hw0
  have hB2 := hb0.trans (hb2.mono hb0.size)
  clear hb0 hb2 HN hw0 K0 K1
  obtain ⟨c0, c1, c2, c3, c4, c5⟩ := hD.cells
  simp only at c0 c1 c2 c3 c4 c5
  have x0 := cell_regrown c0
  have x1 := cell_regrown c1
  have x2 := cell_regrown c2
  have x3 := cell_regrown c3
  have x4 := cell_regrown c4
  have x5 := cell_regrown c5
  clear c0 c1 c2 c3 c4 c5
  cases o
  · have HR : Hid (r = (⟨#[]⟩, false)) := by unfold Hid; rw [HV.out, if_neg (by simp)]
    clear HC K2 K3
    clear HV
    go_wp2_with fail
    refine wp_region_quiet_below (by kernel_rfl) (by kernel_rfl) ?_
    repeat (go_big_quiet_step (fail))
    refine wpQuiet_nil ?_
    intro _ hw'
    obtain ⟨⟨dq9, osq9⟩, hw''⟩ := hw'
    subst hw''
    have hb9 := hB2.trans ((below_regrown w2 dq9 osq9).mono hB2.size)
    go_wp2
    go_ret2
    exact ⟨by rw [HR.out]; rfl, hb9⟩
  · by_cases hlt : c < t.size
    · obtain rfl : ci = (c : Int) := by rw [HC.out, if_pos hlt]
      clear HC
      have hV2 : r = if behind5 ⟨d0, d1, d2, d3, d4, d5⟩ (t.extract (c + 1) t.size) then unT d4 (t.extract 0 c) else (⟨#[]⟩, false) := by rw [HV.out, if_pos ⟨rfl, hlt⟩]
      have HV2 := Lib.hid hV2
      clear hV2 HV
      have hz1 : (t.extract (c + 1) t.size).size ≤ 1048576 := by rw [ByteArray.size_extract]; omega
      have hz2 : (t.extract 0 c).size ≤ 1048576 := by rw [ByteArray.size_extract]; omega
      have KA : Hid (∀ q os, Calls Tryd.prog 24 #[.agg #[.string d0, .string d1, .bool d2, .bool d3, .bool d4, .int .i64 d5], .string (t.extract (c + 1) t.size)] (grow (redrawn w2 q) os) fun e w' => e = .returned (.bool (behind5 ⟨d0, d1, d2, d3, d4, d5⟩ (t.extract (c + 1) t.size))) ∧ ∃ p : Regrown, w' = grow (redrawn w2 p.d) p.os) := by
        intro q os
        exact Calls.regrown_of (K2.out _ _ hz1)
      have KU := Lib.hid (fun w => K3.out (t.extract 0 c) w hz2)
      clear K2 K3 hz1 hz2
      have hc1 : IntKind.i64.wrap ((c : Int) + 1) = (c : Int) + 1 := IntWalk.i64_in _ (by omega)
      have hc2 : (c : Int) + 1 ≤ (t.size : Int) := by omega
      have hc3 : ((c : Int) + 1).toNat = c + 1 := by omega
      have hc4 : (0 : Int) ≤ (c : Int) + 1 := by omega
      have hc5 : ¬ ((c : Int) < 0) := by omega
      have hc6 : decide ((c : Int) < 0) = false := by simp
      have hc7 : (c : Int) ≤ (t.size : Int) := by omega
      generalize behind5 ⟨d0, d1, d2, d3, d4, d5⟩ (t.extract (c + 1) t.size) = bv at *
      generalize hut : unT d4 (t.extract 0 c) = ut at *
      clear hut
      obtain ⟨ua, ub⟩ := ut
      simp only at KU
      cases bv
      all_goals
        go_wp2_with fail
        refine wp_region_quiet_below (by kernel_rfl) (by kernel_rfl) ?_
        repeat (go_big_quiet_step (with_reducible exact KA.out _ _))
        refine wpQuiet_nil ?_
        intro _ hw'
        obtain ⟨⟨dq9, osq9⟩, hw''⟩ := hw'
        subst hw''
        have hbq := below_regrown w2 dq9 osq9
        have hB9 := hB2.trans (hbq.mono hB2.size)
        clear hbq KA hc1 hc2 hc3 hc4 hc5 hc6
      · have HR : Hid (r = (⟨#[]⟩, false)) := HV2.out
        go_wp2
        go_ret2
        exact ⟨by rw [HR.out]; rfl, hB9⟩
      · have HR : Hid (r = (ua, ub)) := HV2.out
        have y0 := x0 dq9 osq9
        have y1 := x1 dq9 osq9
        have y2 := x2 dq9 osq9
        have y3 := x3 dq9 osq9
        have y4 := x4 dq9 osq9
        have y5 := x5 dq9 osq9
        clear x0 x1 x2 x3 x4 x5
        generalize grow (redrawn w2 dq9) osq9 = w3 at *
        have KB : Hid (∀ q os, Calls Tryd.prog 12 #[.string (t.extract 0 c), .agg #[.string d0, .string d1, .bool d2, .bool d3, .bool d4, .int .i64 d5]] (grow (redrawn w3 q) os) fun e w' => e = .returned (.tuple #[.string ua, .bool ub]) ∧ ∃ p : Regrown, w' = grow (redrawn w3 p.d) p.os) := by
          intro q os
          exact Calls.regrown_of (KU.out _)
        have x0 := cell_regrown y0
        have x1 := cell_regrown y1
        have x2 := cell_regrown y2
        have x3 := cell_regrown y3
        have x4 := cell_regrown y4
        have x5 := cell_regrown y5
        clear y0 y1 y2 y3 y4 y5 KU
        go_wp2_with fail
        refine wp_region_quiet_below (by kernel_rfl) (by kernel_rfl) ?_
        repeat (go_big_quiet_step (with_reducible exact KB.out _ _))
        refine wpQuiet_nil ?_
        intro _ hw'
        obtain ⟨⟨dq8, osq8⟩, hw''⟩ := hw'
        subst hw''
        have hB8 := hB9.trans ((below_regrown w3 dq8 osq8).mono hB9.size)
        clear KB
        go_wp2
        go_ret2
        exact ⟨by rw [HR.out]; rfl, hB8⟩
    · obtain rfl : ci = -1 := by rw [HC.out, if_neg hlt]
      have HR : Hid (r = (⟨#[]⟩, false)) := by unfold Hid; rw [HV.out, if_neg (fun h => hlt h.2)]
      clear HC K2 K3
      clear HV
      go_wp2_with fail
      refine wp_region_quiet_below (by kernel_rfl) (by kernel_rfl) ?_
      repeat (go_big_quiet_step (fail))
      refine wpQuiet_nil ?_
      intro _ hw'
      obtain ⟨⟨dq9, osq9⟩, hw''⟩ := hw'
      subst hw''
      have hb9 := hB2.trans ((below_regrown w2 dq9 osq9).mono hB2.size)
      go_wp2
      go_ret2
      exact ⟨by rw [HR.out]; rfl, hb9⟩

end Go.Proofs.YtkhkpjnpjgnckaaDoor
