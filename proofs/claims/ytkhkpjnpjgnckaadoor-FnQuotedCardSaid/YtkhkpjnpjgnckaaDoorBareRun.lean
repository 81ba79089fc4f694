/- A bare value: the program's trim, beforeNote and Bare. -/
import Derived.Test.YtkhkpjnpjgnckaaDoorProg
import Derived.Test.YtkhkpjnpjgnckaaDoorPlain
import Derived.Test.YtkhkpjnpjgnckaaDoorCut
import Derived.Test.YtkhkpjnpjgnckaaDoorTrim
import Derived.Test.YtkhkpjnpjgnckaaDoorTail
import Derived.Test.YtkhkpjnpjgnckaaDoorDialectRows
import Derived.Test.YtkhkpjnpjgnckaaDoorUnescSpec
import Derived.Test.YtkhkpjnpjgnckaaDoorUnescTop
import Derived.Test.YtkhkpjnpjgnckaaDoorBareSpec
import Derived.Test.YtkhkpjnpjgnckaaDoorBareImpl
import Derived.WalkKit
import Derived.WalkLawsBesides
import Derived.BigQuiet
import Derived.Deep.QuietTactic
import Derived.Lib.QuietBelow
import Derived.Laws.IdiomStrings
import Derived.Lib.Hide
import Derived.IntWalk
set_option maxRecDepth 100000
namespace Go.Proofs.YtkhkpjnpjgnckaaDoor
open Go.RowKit Go.Sort
set_option linter.unusedVariables false

theorem ext_data (s : ByteArray) (a b : Nat) : (s.extract a b).data.toList = (s.data.toList.drop a).take (b - a) := by
  rw [Lib.extract_eq]
theorem same_data {x y : ByteArray} (h : x.data.toList = y.data.toList) : x = y := by
  cases x with
  | mk a => cases y with
    | mk b => cases a; cases b; simp_all
theorem ext_ext (s : ByteArray) (a b c d : Nat) (hd : c + d ≤ b - a) : (s.extract a b).extract c (c + d) = s.extract (a + c) (a + c + d) := by
  apply same_data
  rw [ext_data, ext_data, ext_data, List.drop_take, List.take_take, List.drop_drop]
  congr 1
  omega
theorem at_data (s : ByteArray) (i : Nat) (h : i < s.size) : s[i] = s.data.toList[i]'(by rw [← Lib.size_eq]; exact h) := rfl
theorem ext_at (s : ByteArray) (a b i : Nat) (hb : b ≤ s.size) (hi : i < b - a) (h : i < (s.extract a b).size) : (s.extract a b)[i] = s[a + i]'(by omega) := by
  have hl : s.data.toList.length = s.size := (Lib.size_eq s).symm
  rw [at_data, at_data]
  have : ((s.data.toList.drop a).take (b - a))[i]? = s.data.toList[a + i]? := by
    rw [List.getElem?_take, if_pos hi, List.getElem?_drop]
  have e := ext_data s a b
  have h1 : (s.extract a b).data.toList[i]? = s.data.toList[a + i]? := by rw [e]; exact this
  rw [List.getElem?_eq_getElem (by rw [← Lib.size_eq]; exact h), List.getElem?_eq_getElem (by omega)] at h1
  exact Option.some.inj h1
theorem takeWhile_stop (p : UInt8 → Bool) : ∀ (xs ys : List UInt8), ys.takeWhile p = [] → (xs ++ ys).takeWhile p = xs.takeWhile p := by
  intro xs
  induction xs with
  | nil => intro ys h; simpa using h
  | cons c xs ih =>
    intro ys h
    simp only [List.cons_append, List.takeWhile_cons]
    rw [ih ys h]
/-- nothing ahead of a place reaches over it -/
def Stops (s : ByteArray) (a : Nat) : Prop := a = 0 ∨ ∃ h : a - 1 < s.size, 1 ≤ a ∧ s[a - 1]'h ≠ 92
theorem tail_stops {s : ByteArray} {a j : Nat} (h : Stops s a) (haj : a ≤ j) (hj : j ≤ s.size) : tailN (s.extract a j) = tailN (s.extract 0 j) := by
  have hl : s.data.toList.length = s.size := (Lib.size_eq s).symm
  unfold tailN
  rw [ext_data, ext_data, List.drop_zero, Nat.sub_zero]
  have e : s.data.toList.take j = s.data.toList.take a ++ (s.data.toList.drop a).take (j - a) := by
    have := List.take_append_drop a (s.data.toList.take j)
    rw [List.take_take, Nat.min_eq_left haj, List.drop_take] at this
    exact this.symm
  rw [e, List.reverse_append, takeWhile_stop]
  rcases h with rfl | ⟨h1, h2, h3⟩
  · simp
  · obtain ⟨b, rfl⟩ : ∃ b, a = b + 1 := ⟨a - 1, by omega⟩
    have hb : b < s.data.toList.length := by omega
    rw [List.take_succ_eq_append_getElem hb, List.reverse_append]
    simp only [List.reverse_cons, List.reverse_nil, List.nil_append, List.cons_append, List.takeWhile_cons]
    have h4 : s.data.toList[b] ≠ 92 := h3
    rw [if_neg (by simpa using h4)]
theorem front_stops (s : ByteArray) : Stops s (front5 s) := by
  by_cases h : front5 s = 0
  · exact .inl h
  · refine .inr ⟨by have := front5_le s; omega, by omega, ?_⟩
    have hf := front5_le s
    have hl : s.data.toList.length = s.size := (Lib.size_eq s).symm
    have hx : s[front5 s - 1]'(by omega) ∈ s.data.toList.takeWhile blankB := by
      have e := List.takeWhile_append_dropWhile (p := blankB) (l := s.data.toList)
      have hlt : front5 s - 1 < (s.data.toList.takeWhile blankB).length := by
        have : (s.data.toList.takeWhile blankB).length = front5 s := rfl
        omega
      have h1 : s.data.toList[front5 s - 1]? = (s.data.toList.takeWhile blankB)[front5 s - 1]? := by
        conv => lhs; rw [← e]
        rw [List.getElem?_append_left hlt]
      rw [List.getElem?_eq_getElem (by omega), List.getElem?_eq_getElem hlt] at h1
      have h2 := Option.some.inj h1
      rw [at_data, h2]
      exact List.getElem_mem _
    have hy : blankB (s[front5 s - 1]'(by omega)) = true := by
      have := List.all_takeWhile (p := blankB) (l := s.data.toList)
      rw [List.all_eq_true] at this
      exact this _ hx
    intro e
    rw [e] at hy
    exact absurd hy (by decide)
theorem ends_ext {e : Bool} {s : ByteArray} {a b : Nat} (h : Stops s a) (hab : a ≤ b) (hb : b ≤ s.size) : ends5 e (s.extract a b) = (decide (a < b) && blank5 e s (b - 1)) := by
  have hsz : (s.extract a b).size = b - a := by rw [ByteArray.size_extract]; omega
  unfold ends5
  by_cases hlt : a < b
  · rw [dif_pos (by omega), decide_eq_true hlt, Bool.true_and]
    unfold blank5
    rw [dif_pos (by omega)]
    have e1 : (s.extract a b)[(s.extract a b).size - 1]'(by omega) = s[b - 1]'(by omega) := by
      rw [ext_at s a b _ hb (by omega)]
      congr 1
      omega
    rw [e1]
    congr 1
    unfold esc5
    have e2 : (s.extract a b).extract 0 ((s.extract a b).size - 1) = s.extract a (b - 1) := by
      rw [hsz]
      have := ext_ext s a b 0 (b - a - 1) (by omega)
      rw [Nat.zero_add] at this
      rw [this, Nat.add_zero]
      congr 1
      omega
    rw [e2, tail_stops h (by omega) (by omega)]
    generalize tailN (s.extract 0 (b - 1)) = n
    cases e
    · rfl
    · rcases (show n % 2 = 0 ∨ n % 2 = 1 by omega) with q | q <;> rw [q] <;> rfl
  · rw [dif_neg (by omega), decide_eq_false hlt]
    rfl

set_option maxHeartbeats 3200000 in
theorem trim_implD (d : DialectD) (s : ByteArray) (w : World) (hs : s.size ≤ 1048576) :
    Calls Tryd.prog 29 #[dialectV d, .string s] w fun e w' => e = .returned (.string (trim5 d.esc s)) ∧ Below w.heap.size w w' := by
  have K1 := Lib.hid (fun w => trimStart_impl s w)
  have K2 := Lib.hid (fun (t : ByteArray) (w : World) (h : t.size ≤ 1048576) => endsWith_impl d t w h)
  have HF := Lib.hid (front5_le s)
  have HS := Lib.hid (front_stops s)
  have HT : Hid (trim5 d.esc s = s.extract (front5 s) (back5 d.esc s (front5 s) s.size)) := rfl
  have H1 : Hid (start5 s = s.extract (front5 s) s.size) := rfl
  have HN := Lib.hid (dialAt_new w d)
  generalize trim5 d.esc s = r at *
  generalize front5 s = a at *
  obtain ⟨d0, d1, d2, d3, d4, d5⟩ := d
  unfold dialectV at *
  simp only at K1 K2 HT HN ⊢
  rw [H1.out] at K1
  have hb0 := (Below.refl w.heap.size w).alloc (Nat.le_refl _) (.cells #[.string d0, .string d1, .bool d2, .bool d3, .bool d4, .int .i64 d5] 25)
  have hw0 : w.heap.size < (w.alloc (.cells #[.string d0, .string d1, .bool d2, .bool d3, .bool d4, .int .i64 d5] 25)).heap.size := by simp
  clear H1
  go_enter Tryd.func29, Tryd.ntmps29
  go_wp2_with fail
  refine (K1.out _).mono ?_
  rintro e w1 ⟨rfl, hb1⟩
  have hB1 := hb0.trans (hb1.mono hb0.size)
  have hD1 := Lib.hid (HN.out.over hb1 hw0)
  have hw1 := Nat.lt_of_lt_of_le hw0 hb1.size
  clear hb1 hb0 HN hw0 K1
  go_wp2
  go_loopw [1] (fun sv wr => ∃ b : Nat, sv = .string (s.extract a b) ∧ Hid (a ≤ b ∧ b ≤ s.size ∧ back5 d4 s a s.size = back5 d4 s a b) ∧ Hid (DialAt wr w.heap.size ⟨d0, d1, d2, d3, d4, d5⟩) ∧ Below w.heap.size w wr ∧ w.heap.size < wr.heap.size) (fun sv _ => match sv with | .string t => t.size | _ => 0)
  case atStart => exact ⟨s.size, rfl, ⟨HF.out, Nat.le_refl _, rfl⟩, hD1, hB1, hw1⟩
  case round =>
    obtain ⟨b, rfl, hI, hD, hb, hwl⟩ := hrel
    clear hB1 hD1 hw1
    have hsz : (s.extract a b).size = b - a := by have := hI.out; rw [ByteArray.size_extract]; omega
    have KE := Lib.hid (K2.out (s.extract a b) wr (by have := hI.out.2.1; omega))
    have he := Lib.hid (ends_ext (e := d4) HS.out hI.out.1 hI.out.2.1)
    obtain ⟨c0, c1, c2, c3, c4, c5⟩ := hD.out.cells
    simp only at c0 c1 c2 c3 c4 c5
    cases hE : ends5 d4 (s.extract a b)
    · rw [hE] at KE
      have hfin : Hid (r = s.extract a b) := by
        unfold Hid
        rw [HT.out, hI.out.2.2]
        congr 1
        have h2 := he.out
        rw [hE] at h2
        rcases Nat.lt_or_ge a b with hlt | hge
        · obtain ⟨c, rfl⟩ : ∃ c, b = c + 1 := ⟨b - 1, by omega⟩
          rw [decide_eq_true hlt, Bool.true_and] at h2
          exact back5_no h2.symm
        · have : a = b := by have := hI.out.1; omega
          subst this
          exact back5_end
      clear hE he hsz hI
      generalize s.extract a b = t at *
      go_wp2_with fail
      refine KE.out.mono ?_
      rintro e w2 ⟨rfl, hb2⟩
      have hb3 := hb.trans (hb2.mono hb.size)
      clear hb2 hb KE K2
      go_wp2
      go_ret
      exact ⟨by rw [hfin.out]; rfl, hb3⟩
    · rw [hE] at KE
      have h2 := he.out
      rw [hE] at h2
      have h3 := (Bool.and_eq_true _ _ ▸ h2.symm : decide (a < b) = true ∧ blank5 d4 s (b - 1) = true)
      have hlt : a < b := of_decide_eq_true h3.1
      obtain ⟨c, rfl⟩ : ∃ c, b = c + 1 := ⟨b - 1, by omega⟩
      have hI2 : Hid (a ≤ c ∧ c ≤ s.size ∧ back5 d4 s a s.size = back5 d4 s a c) := by
        refine ⟨by omega, by have := hI.out.2.1; omega, ?_⟩
        rw [hI.out.2.2]
        exact back5_yes hlt h3.2
      have hx : Hid ((s.extract a (c + 1)).extract 0 (c - a) = s.extract a c) := by
        unfold Hid
        have := ext_ext s a (c + 1) 0 (c - a) (by omega)
        rw [Nat.zero_add] at this
        rw [this, Nat.add_zero]
        congr 1
        omega
      have hm : Hid ((s.extract a c).size < (s.extract a (c + 1)).size) := by
        unfold Hid
        have := hI.out.2.1
        rw [hsz, ByteArray.size_extract]
        omega
      have hzz : Hid ((s.extract a (c + 1)).size = (c - a) + 1) := by unfold Hid; rw [hsz]; omega
      have hz9 : (s.extract a (c + 1)).size ≤ 1048576 := by have := hI.out.2.1; rw [hsz]; omega
      clear h2 h3 he hE hsz hI
      generalize s.extract a (c + 1) = t at *
      generalize c - a = n at *
      have z1 : (t.size : Int) - 1 = (n : Int) := by have := hzz.out; omega
      have z2 : (n : Int) ≤ (t.size : Int) := by have := hzz.out; omega
      have z3 : (n : Int) ≤ 1048576 := by omega
      have z4 : (0 : Int) ≤ (n : Int) := by omega
      go_wp2_with fail
      refine KE.out.mono ?_
      rintro e w2 ⟨rfl, hb2⟩
      have hb3 := hb.trans (hb2.mono hb.size)
      have hD3 := Lib.hid (hD.out.over hb2 hwl)
      have hwl3 := Nat.lt_of_lt_of_le hwl hb2.size
      clear hb2 hb KE hD hwl c0 c1 c2 c3 c4 c5
      go_wp2
      go_roundw
      case rel => exact ⟨c, by rw [← hx.out], hI2, hD3, hb3, hwl3⟩
      case measure => first | exact hm.out | (rw [hx.out]; exact hm.out) | (simp only [Int.toNat_natCast, hx.out]; exact hm.out)

/-- a note behind a value, as the program looks for it -/
theorem note5_ends (d : DialectD) (s : ByteArray) (k : Nat) (h : k < s.size) : note5 d s k = (hasB d.notes s[k] && ends5 d.esc (s.extract 0 k)) := by
  rw [ends_ext (.inl rfl) (Nat.zero_le _) (by omega)]
  unfold note5
  by_cases hk : 1 ≤ k
  · rw [dif_pos ⟨hk, h⟩, decide_eq_true (show 0 < k by omega), Bool.true_and]
  · rw [dif_neg (fun x => hk x.1), decide_eq_false (show ¬ 0 < k by omega), Bool.false_and, Bool.and_false]
/-- what stands ahead of a note -/
def ahead5 (d : DialectD) (s : ByteArray) : ByteArray := s.extract 0 ((List.range s.size).findIdx (note5 d s))

set_option maxHeartbeats 3200000 in
theorem beforeNote_impl (d : DialectD) (s : ByteArray) (w : World) (hs : s.size ≤ 1048576) :
    Calls Tryd.prog 28 #[dialectV d, .string s] w fun e w' => e = .returned (.string (ahead5 d s)) ∧ Below w.heap.size w w' := by
  have K1 := Lib.hid (fun (i : Nat) (w : World) (hi : i < s.size) => endsWith_impl d (s.extract 0 i) w (by rw [ByteArray.size_extract]; omega))
  have K0 := Lib.hid (fun (i : Nat) (w : World) (hi : i < s.size) => hasByte_any d.notes s[i] w)
  have HN := Lib.hid (dialAt_new w d)
  have HB : Hid (∀ i, i ≤ s.size → (∀ j, j < i → note5 d s j = false) → (i < s.size → note5 d s i = true) → ahead5 d s = s.extract 0 i) := by
    intro i hi h1 h2
    unfold ahead5
    rw [findIdx_range _ _ i hi h1 h2]
  have HNA := Lib.hid (fun k h => note5_ends d s k h)
  have HX := Lib.hid (extract_all s)
  obtain ⟨d0, d1, d2, d3, d4, d5⟩ := d
  unfold dialectV at *
  simp only at K1 K0 HN HB HNA ⊢
  generalize hNN : note5 ⟨d0, d1, d2, d3, d4, d5⟩ s = note at *
  clear hNN
  generalize ahead5 ⟨d0, d1, d2, d3, d4, d5⟩ s = r at *
  have hb0 := (Below.refl w.heap.size w).alloc (Nat.le_refl _) (.cells #[.string d0, .string d1, .bool d2, .bool d3, .bool d4, .int .i64 d5] 25)
  have hw0 : w.heap.size < (w.alloc (.cells #[.string d0, .string d1, .bool d2, .bool d3, .bool d4, .int .i64 d5] 25)).heap.size := by simp
  go_enter Tryd.func28, Tryd.ntmps28
  go_wp2
  generalize w.alloc (.cells #[.string d0, .string d1, .bool d2, .bool d3, .bool d4, .int .i64 d5] 25) = W0 at *
  go_loopw [8] (fun i wr => ∃ k : Nat, k ≤ s.size ∧ i = .int .i64 k ∧ Hid (∀ j, j < k → note j = false) ∧ Hid (DialAt wr w.heap.size ⟨d0, d1, d2, d3, d4, d5⟩) ∧ Below w.heap.size w wr ∧ w.heap.size < wr.heap.size) (fun i _ => s.size - (intOf i).toNat)
  case atStart => exact ⟨0, Nat.zero_le _, rfl, fun j hj => absurd hj (Nat.not_lt_zero _), HN, hb0, hw0⟩
  case round =>
    obtain ⟨k, hks, rfl, hno, hD, hb, hwl⟩ := hrel
    clear hb0 HN hw0
    by_cases hlt : k < s.size
    · have hna := HNA.out k hlt
      obtain ⟨c0, c1, c2, c3, c4, c5⟩ := hD.out.cells
      simp only at c0 c1 c2 c3 c4 c5
      have x0 := cell_regrown c0
      have x1 := cell_regrown c1
      have x2 := cell_regrown c2
      have x3 := cell_regrown c3
      have x4 := cell_regrown c4
      have x5 := cell_regrown c5
      have KA : Hid (∀ q os, Calls Tryd.prog 48 #[.string d0, .int .u8 (s[k].toNat : Int)] (grow (redrawn wr q) os) fun e w' => e = .returned (.bool (hasB d0 s[k])) ∧ ∃ p : Regrown, w' = grow (redrawn wr p.d) p.os) := by
        intro q os
        refine Calls.regrown_of ((K0.out k _ hlt).mono ?_)
        rintro e w' ⟨rfl, rfl⟩
        exact ⟨rfl, Below.refl _ _⟩
      have KB : Hid (∀ q os, Calls Tryd.prog 49 #[.agg #[.string d0, .string d1, .bool d2, .bool d3, .bool d4, .int .i64 d5], .string (s.extract 0 k)] (grow (redrawn wr q) os) fun e w' => e = .returned (.bool (ends5 d4 (s.extract 0 k))) ∧ ∃ p : Regrown, w' = grow (redrawn wr p.d) p.os) := by
        intro q os
        exact Calls.regrown_of (K1.out k (grow (redrawn wr q) os) hlt)
      have hkz : (k : Int) ≤ (s.size : Int) := by omega
      have hkz2 : (k : Int) < (s.size : Int) := by omega
      have HNA2 := Lib.hid hna
      clear hna
      cases h1 : hasB d0 s[k] <;> cases h2 : ends5 d4 (s.extract 0 k) <;> rw [h1] at KA HNA2 <;> rw [h2] at KB HNA2 <;> clear h1 h2
      all_goals
        go_wp2_with fail
        refine wp_region_quiet_below (by kernel_rfl) (by kernel_rfl) ?_
        repeat (go_big_quiet_step (first | with_reducible exact KA.out _ _ | with_reducible exact KB.out _ _))
        refine wpQuiet_nil ?_
        intro _ hw'
        obtain ⟨⟨dq, osq⟩, hw''⟩ := hw'
        subst hw''
        have hbq := below_regrown wr dq osq
        have hb2 := hb.trans (hbq.mono hb.size)
        have hD2 := Lib.hid (hD.out.over hbq hwl)
        have hwl2 := Nat.lt_of_lt_of_le hwl hbq.size
        clear KA KB c0 c1 c2 c3 c4 c5 x0 x1 x2 x3 x4 x5 hbq hb hD
        generalize grow (redrawn wr dq) osq = w2 at *
      iterate 3
        · have hno2 : Hid (∀ j, j < k + 1 → note j = false) := by
            intro j hj
            by_cases e : j = k
            · subst e; exact HNA2.out
            · exact hno.out j (by omega)
          clear hno HNA2
          go_wp2
          go_roundw
          case rel => exact ⟨k + 1, by omega, by go_num, hno2, hD2, hb2, hwl2⟩
          case measure => simp [intOf]; omega
      · have HTT : Hid (r = s.extract 0 k) := HB.out k (by omega) hno.out (fun _ => HNA2.out)
        clear hno HNA2 HB
        go_wp2
        go_ret
        exact ⟨by rw [HTT.out]; rfl, hb2⟩
    · obtain rfl : k = s.size := by omega
      have HTT : Hid (r = s) := by
        unfold Hid
        rw [HB.out s.size (Nat.le_refl _) hno.out (fun h => absurd h (Nat.lt_irrefl _))]
        exact HX.out
      clear hno HB
      go_wp2
      go_ret
      exact ⟨by rw [HTT.out]; rfl, hb⟩

end Go.Proofs.YtkhkpjnpjgnckaaDoor
