/- A quoted value: the program's contract of Quoted. -/
import Derived.Test.YtkhkpjnpjgnckaaGreatDoorProg
import Derived.Test.YtkhkpjnpjgnckaaGreatDoorPlain
import Derived.Test.YtkhkpjnpjgnckaaGreatDoorCut
import Derived.Test.YtkhkpjnpjgnckaaGreatDoorTrim
import Derived.Test.YtkhkpjnpjgnckaaGreatDoorTail
import Derived.Test.YtkhkpjnpjgnckaaGreatDoorDialectRows
import Derived.Test.YtkhkpjnpjgnckaaGreatDoorQuotSpec
import Derived.Test.YtkhkpjnpjgnckaaGreatDoorUnescTop
import Derived.Test.YtkhkpjnpjgnckaaGreatDoorBareImpl
import Derived.Test.YtkhkpjnpjgnckaaGreatDoorQuotImpl
import Derived.WalkKit
import Derived.WalkLawsBesides
import Derived.BigQuiet
import Derived.Deep.QuietTactic
import Derived.Lib.QuietBelow
import Derived.Laws.IdiomStrings
import Derived.Lib.Hide
import Derived.IntWalk
set_option maxRecDepth 100000
namespace Go.Proofs.YtkhkpjnpjgnckaaGreatDoor
open Go.RowKit Go.Sort
set_option linter.unusedVariables false

abbrev quoteB : ByteArray := ⟨#[34]⟩
theorem opens_first (s : ByteArray) (h : 0 < s.size) : ((s.extract 0 1).toList == quoteB.toList) = opens s := by
  obtain ⟨u, hu⟩ := first_data s h
  rw [Lib.toList_data, Lib.toList_data, ext_data, List.drop_zero, hu]
  unfold opens
  rw [dif_pos h]
  simp
set_option maxHeartbeats 1600000 in
theorem hasQuote_any (s : ByteArray) (w : World) (hs : s.size ≤ 1048576) :
    Calls Tryz.prog 137 #[.string s, .string quoteB] w fun e w' => e = .returned (.bool (opens s)) ∧ w = w' := by
  by_cases hz : 0 < s.size
  · have h1 := opens_first s hz
    have hz2 : (1 : Int) ≤ (s.size : Int) := by omega
    have hz3 : Hid ((1 : Int) ≤ (s.size : Int)) := hz2
    generalize opens s = r at *
    go_enter Tryz.func137, Tryz.ntmps137
    go_wp2
    go_ret
    exact ⟨by first | rfl | (rw [← h1]; rfl) | simp_all, rfl⟩
  · have h1 : Hid (opens s = false) := by unfold Hid opens; rw [dif_neg hz]
    have hz2 : (s.size : Int) = 0 := by omega
    go_enter Tryz.func137, Tryz.ntmps137
    go_wp2
    go_ret
    exact ⟨by rw [h1.out]; rfl, rfl⟩
/-- the text behind a quote that opens -/
def inner5 (s : ByteArray) : ByteArray := if opens s then s.extract 1 s.size else s
set_option maxHeartbeats 1600000 in
theorem cutQuote_lite (s : ByteArray) (w : World) (hs : s.size ≤ 1048576) :
    Calls Tryz.prog 158 #[.string s, .string quoteB] w fun e w' => e = .returned (.tuple #[.string (inner5 s), .bool (opens s)]) ∧ w = w' := by
  have K := Lib.hid (fun w => hasQuote_any s w hs)
  cases ho : opens s
  · have hi : Hid (inner5 s = s) := by unfold Hid inner5; rw [ho]; rfl
    rw [ho] at K
    clear ho
    go_enter Tryz.func158, Tryz.ntmps158
    go_wp2_with fail
    refine (K.out _).mono ?_
    rintro e w' ⟨rfl, rfl⟩
    go_wp2
    go_ret2
    exact ⟨by rw [hi.out]; rfl, rfl⟩
  · have hi : Hid (inner5 s = s.extract 1 s.size) := by unfold Hid inner5; rw [ho]; rfl
    have hz : 0 < s.size := by
      rcases Nat.eq_zero_or_pos s.size with h | h
      · unfold opens at ho; rw [dif_neg (by omega)] at ho; cases ho
      · exact h
    have hz2 : (1 : Int) ≤ (s.size : Int) := by omega
    rw [ho] at K
    clear ho
    go_enter Tryz.func158, Tryz.ntmps158
    go_wp2_with fail
    refine (K.out _).mono ?_
    rintro e w' ⟨rfl, rfl⟩
    go_wp2
    go_ret2
    exact ⟨by rw [hi.out]; rfl, rfl⟩
theorem cutQuote_any (s : ByteArray) (w : World) (hs : s.size ≤ 1048576) :
    Calls Tryz.prog 119 #[.string s, .string quoteB] w fun e w' => e = .returned (.tuple #[.string (inner5 s), .bool (opens s)]) ∧ w = w' := by
  have K := Lib.hid (fun w => cutQuote_lite s w hs)
  generalize inner5 s = x at *
  generalize opens s = o at *
  go_enter Tryz.func119, Tryz.ntmps119
  go_wp2_with fail
  refine (K.out _).mono ?_
  rintro e w' ⟨rfl, rfl⟩
  go_wp2
  go_ret2
  exact ⟨rfl, rfl⟩

/-- a quote that closes, as the program looks for it -/
def cq5 (e : Bool) (t : ByteArray) (i : Nat) : Bool := if h : i < t.size then t[i] == 34 && !esc5 e t i else false
def cqAt (e : Bool) (t : ByteArray) : Nat := (List.range t.size).findIdx (cq5 e t)
/-- its place, or -1 -/
def cqInt (e : Bool) (t : ByteArray) : Int := if cqAt e t < t.size then (cqAt e t : Int) else -1
set_option maxHeartbeats 3200000 in
theorem closing_impl (d : DialectD) (t : ByteArray) (w : World) (hs : t.size ≤ 1048576) :
    Calls Tryz.prog 177 #[dialectV d, .string t] w fun e w' => e = .returned (.int .i64 (cqInt d.esc t)) ∧ Below w.heap.size w w' := by
  have K1 := Lib.hid (fun (i : Nat) (w : World) (hi : i < t.size) => isEscaped_impl d t i w hs (by omega))
  have HN := Lib.hid (dialAt_new w d)
  have HB : Hid (∀ i, i < t.size → (∀ j, j < i → cq5 d.esc t j = false) → cq5 d.esc t i = true → cqInt d.esc t = (i : Int)) := by
    intro i hi h1 h2
    have h3 : cqAt d.esc t = i := findIdx_range _ _ i (by omega) h1 (fun _ => h2)
    unfold cqInt
    rw [h3, if_pos hi]
  have HE : Hid ((∀ j, j < t.size → cq5 d.esc t j = false) → cqInt d.esc t = -1) := by
    intro h1
    have h3 : cqAt d.esc t = t.size := findIdx_range _ _ t.size (Nat.le_refl _) h1 (fun h => absurd h (Nat.lt_irrefl _))
    unfold cqInt
    rw [h3, if_neg (Nat.lt_irrefl _)]
  have HNA : Hid (∀ k (h : k < t.size), cq5 d.esc t k = (t[k] == 34 && !esc5 d.esc t k)) := by
    intro k h
    unfold cq5
    rw [dif_pos h]
  obtain ⟨d0, d1, d2, d3, d4, d5⟩ := d
  unfold dialectV at *
  simp only at K1 HN HB HE HNA ⊢
  generalize cq5 d4 t = note at *
  generalize cqInt d4 t = r at *
  have hb0 := (Below.refl w.heap.size w).alloc (Nat.le_refl _) (.cells #[.string d0, .string d1, .bool d2, .bool d3, .bool d4, .int .i64 d5] 25)
  have hw0 : w.heap.size < (w.alloc (.cells #[.string d0, .string d1, .bool d2, .bool d3, .bool d4, .int .i64 d5] 25)).heap.size := by simp
  go_enter Tryz.func177, Tryz.ntmps177
  go_wp2
  generalize w.alloc (.cells #[.string d0, .string d1, .bool d2, .bool d3, .bool d4, .int .i64 d5] 25) = W0 at *
  go_loopw [8] (fun i wr => ∃ k : Nat, k ≤ t.size ∧ i = .int .i64 k ∧ Hid (∀ j, j < k → note j = false) ∧ Hid (DialAt wr w.heap.size ⟨d0, d1, d2, d3, d4, d5⟩) ∧ Below w.heap.size w wr ∧ w.heap.size < wr.heap.size) (fun i _ => t.size - (intOf i).toNat)
  case atStart => exact ⟨0, Nat.zero_le _, rfl, fun j hj => absurd hj (Nat.not_lt_zero _), HN, hb0, hw0⟩
  case round =>
    obtain ⟨k, hks, rfl, hno, hD, hb, hwl⟩ := hrel
    clear hb0 HN hw0
    by_cases hlt : k < t.size
    · have hna := HNA.out k hlt
      obtain ⟨c0, c1, c2, c3, c4, c5⟩ := hD.out.cells
      simp only at c0 c1 c2 c3 c4 c5
      have x0 := cell_regrown c0
      have x1 := cell_regrown c1
      have x2 := cell_regrown c2
      have x3 := cell_regrown c3
      have x4 := cell_regrown c4
      have x5 := cell_regrown c5
      have KB : Hid (∀ q os, Calls Tryz.prog 139 #[.agg #[.string d0, .string d1, .bool d2, .bool d3, .bool d4, .int .i64 d5], .string t, .int .i64 (k : Int)] (grow (redrawn wr q) os) fun e w' => e = .returned (.bool (esc5 d4 t k)) ∧ ∃ p : Regrown, w' = grow (redrawn wr p.d) p.os) := by
        intro q os
        exact Calls.regrown_of (K1.out k (grow (redrawn wr q) os) hlt)
      have hkz : (k : Int) ≤ (t.size : Int) := by omega
      have hkz2 : (k : Int) < (t.size : Int) := by omega
      have HNA2 := Lib.hid hna
      clear hna
      have hq : ∀ v : Bool, ((t[k] == 34) = v) → ((t[k].toNat : Int) == (((⟨#[34]⟩ : ByteArray)[0]'(by decide)).toNat : Int)) = v := by
        intro v hv
        show ((t[k].toNat : Int) == 34) = v
        cases v
        · exact byte_differ t[k] 34 (by simpa using hv)
        · exact byte_same t[k] 34 (by simpa using hv)
      cases h1 : (t[k] == 34)
      · have hq1 := hq _ h1
        rw [h1] at HNA2
        clear h1 hq
        go_wp2_with fail
        refine wp_region_quiet_below (by kernel_rfl) (by kernel_rfl) ?_
        repeat (go_big_quiet_step (with_reducible exact KB.out _ _))
        refine wpQuiet_nil ?_
        intro _ hw'
        obtain ⟨⟨dq, osq⟩, hw''⟩ := hw'
        subst hw''
        have hbq := below_regrown wr dq osq
        have hb2 := hb.trans (hbq.mono hb.size)
        have hD2 := Lib.hid (hD.out.over hbq hwl)
        have hwl2 := Nat.lt_of_lt_of_le hwl hbq.size
        clear KB c0 c1 c2 c3 c4 c5 x0 x1 x2 x3 x4 x5 hbq hb hD hq1
        generalize grow (redrawn wr dq) osq = w2 at *
        have hno2 : Hid (∀ j, j < k + 1 → note j = false) := by
          intro j hj
          by_cases e : j = k
          · subst e; exact HNA2.out
          · exact hno.out j (by omega)
        clear hno HNA2
        go_wp2
        go_roundw
        case rel => exact ⟨k + 1, by omega, by go_num, hno2, hD2, hb2, hwl2⟩
        case measure => simp [intOf]; omega
      · have hq1 := hq _ h1
        rw [h1] at HNA2
        clear h1 hq
        cases h2 : esc5 d4 t k <;> rw [h2] at KB HNA2 <;> clear h2
        all_goals
          go_wp2_with fail
          refine wp_region_quiet_below (by kernel_rfl) (by kernel_rfl) ?_
          repeat (go_big_quiet_step (with_reducible exact KB.out _ _))
          refine wpQuiet_nil ?_
          intro _ hw'
          obtain ⟨⟨dq, osq⟩, hw''⟩ := hw'
          subst hw''
          have hbq := below_regrown wr dq osq
          have hb2 := hb.trans (hbq.mono hb.size)
          have hD2 := Lib.hid (hD.out.over hbq hwl)
          have hwl2 := Nat.lt_of_lt_of_le hwl hbq.size
          clear KB c0 c1 c2 c3 c4 c5 x0 x1 x2 x3 x4 x5 hbq hb hD hq1
          generalize grow (redrawn wr dq) osq = w2 at *
        · have HTT : Hid (r = (k : Int)) := HB.out k hlt hno.out HNA2.out
          clear hno HNA2 HB HE
          go_wp2
          go_ret
          exact ⟨by rw [HTT.out]; rfl, hb2⟩
        · have hno2 : Hid (∀ j, j < k + 1 → note j = false) := by
            intro j hj
            by_cases e : j = k
            · subst e; exact HNA2.out
            · exact hno.out j (by omega)
          clear hno HNA2
          go_wp2
          go_roundw
          case rel => exact ⟨k + 1, by omega, by go_num, hno2, hD2, hb2, hwl2⟩
          case measure => simp [intOf]; omega
    · obtain rfl : k = t.size := by omega
      have HTT : Hid (r = -1) := HE.out hno.out
      clear hno HB HE
      go_wp2
      go_ret
      exact ⟨by rw [HTT.out]; rfl, hb⟩

end Go.Proofs.YtkhkpjnpjgnckaaGreatDoor

/- A quoted value: the program's contract of Quoted. -/
set_option maxRecDepth 100000
namespace Go.Proofs.YtkhkpjnpjgnckaaGreatDoor
open Go.RowKit Go.Sort
set_option linter.unusedVariables false

theorem opens_pos {s : ByteArray} (h : opens s = true) : 0 < s.size := by
  rcases Nat.eq_zero_or_pos s.size with h2 | h2
  · unfold opens at h; rw [dif_neg (by omega)] at h; cases h
  · exact h2
theorem inner_opens {s : ByteArray} (h : opens s = true) : inner5 s = s.extract 1 s.size := by unfold inner5; rw [h]; rfl
theorem inner_size {s : ByteArray} (h : opens s = true) : (inner5 s).size + 1 = s.size := by
  have := opens_pos h
  rw [inner_opens h, ByteArray.size_extract]
  omega
theorem clos_succ (e : Bool) {s : ByteArray} (h : opens s = true) (i : Nat) (hi : i < (inner5 s).size) : clos5 e s (i + 1) = cq5 e (inner5 s) i := by
  have hz := inner_size h
  have h1 := inner_opens h
  unfold clos5 cq5
  rw [dif_pos ⟨by omega, by omega⟩, dif_pos hi]
  have ha : (inner5 s)[i] = s[i + 1]'(by omega) := by
    have := ext_at s 1 s.size i (Nat.le_refl _) (by omega) (by rw [← h1]; exact hi)
    simp only [h1]
    rw [this]
    congr 1
    omega
  rw [ha]
  congr 1
  unfold esc5
  have he : (inner5 s).extract 0 i = s.extract 1 (i + 1) := by
    rw [h1]
    have := ext_ext s 1 s.size 0 i (by omega)
    rw [Nat.zero_add, Nat.add_zero] at this
    rw [this]
    congr 1
    omega
  rw [he]
  generalize tailN (s.extract 1 (i + 1)) = n
  cases e
  · rfl
  · rcases (show n % 2 = 0 ∨ n % 2 = 1 by omega) with q | q <;> rw [q] <;> rfl
theorem cqAt_le (e : Bool) (t : ByteArray) : cqAt e t ≤ t.size := by
  unfold cqAt
  have := List.findIdx_le_length (p := cq5 e t) (xs := List.range t.size)
  rwa [List.length_range] at this
theorem cqAt_no (e : Bool) (t : ByteArray) (j : Nat) (h : j < cqAt e t) : cq5 e t j = false := by
  have hl := cqAt_le e t
  have := List.not_of_lt_findIdx (p := cq5 e t) (xs := List.range t.size) (i := j) h
  simpa using this
theorem cqAt_yes (e : Bool) (t : ByteArray) (h : cqAt e t < t.size) : cq5 e t (cqAt e t) = true := by
  have := List.findIdx_getElem (p := cq5 e t) (xs := List.range t.size) (w := by rw [List.length_range]; exact h)
  simpa [cqAt] using this
theorem close_inner (e : Bool) {s : ByteArray} (h : opens s = true) : close5 e s = cqAt e (inner5 s) + 1 := by
  have hz := inner_size h
  have hl := cqAt_le e (inner5 s)
  refine findIdx_range _ _ _ (by omega) ?_ ?_
  · intro j hj
    cases j with
    | zero => unfold clos5; rw [dif_neg (by omega)]
    | succ j =>
      rw [clos_succ e h j (by omega)]
      exact cqAt_no e _ j (by omega)
  · intro hlt
    rw [clos_succ e h _ (by omega)]
    exact cqAt_yes e _ (by omega)
theorem quot_form (d : DialectD) (s : ByteArray) : quotT d s = if opens s = true ∧ cqAt d.esc (inner5 s) < (inner5 s).size then (if behind5 d ((inner5 s).extract (cqAt d.esc (inner5 s) + 1) (inner5 s).size) then unT d.esc ((inner5 s).extract 0 (cqAt d.esc (inner5 s))) else (⟨#[]⟩, false)) else (⟨#[]⟩, false) := by
  unfold quotT
  cases h : opens s
  · rw [if_neg (by simp), if_neg (by simp)]
  · have hz := inner_size h
    have hl := cqAt_le d.esc (inner5 s)
    rw [close_inner d.esc h]
    by_cases hlt : cqAt d.esc (inner5 s) < (inner5 s).size
    · have p1 : true = true ∧ cqAt d.esc (inner5 s) + 1 < s.size := ⟨rfl, by omega⟩
      have p2 : true = true ∧ cqAt d.esc (inner5 s) < (inner5 s).size := ⟨rfl, hlt⟩
      rw [if_pos p1, if_pos p2]
      have h1 := inner_opens h
      have e1 : s.extract (cqAt d.esc (inner5 s) + 1 + 1) s.size = (inner5 s).extract (cqAt d.esc (inner5 s) + 1) (inner5 s).size := by
        generalize cqAt d.esc (inner5 s) = c at *
        have := ext_ext s 1 s.size (c + 1) ((inner5 s).size - (c + 1)) (by omega)
        rw [← h1] at this
        rw [show c + 1 + ((inner5 s).size - (c + 1)) = (inner5 s).size by omega] at this
        rw [this]
        congr 1 <;> omega
      have e2 : s.extract 1 (cqAt d.esc (inner5 s) + 1) = (inner5 s).extract 0 (cqAt d.esc (inner5 s)) := by
        generalize cqAt d.esc (inner5 s) = c at *
        have := ext_ext s 1 s.size 0 c (by omega)
        rw [← h1, Nat.zero_add, Nat.add_zero] at this
        rw [this]
        congr 1
        omega
      rw [e1, e2]
    · rw [if_neg (fun h2 => absurd h2.2 (by omega)), if_neg (fun h2 => hlt h2.2)]

set_option maxHeartbeats 3200000 in
theorem quoted_impl (d : DialectD) (s : ByteArray) (w : World) (hs : s.size ≤ 1048576) :
    Calls Tryz.prog 171 #[.string s, dialectV d] w fun e w' => e = .returned (.tuple #[.string (quotT d s).1, .bool (quotT d s).2]) ∧ Below w.heap.size w w' := by
  have HV := Lib.hid (quot_form d s)
  have hti : (inner5 s).size ≤ 1048576 := by
    cases h : opens s
    · unfold inner5; rw [h]; exact hs
    · have := inner_size h; omega
  have K0 := Lib.hid (fun w => cutQuote_any s w hs)
  have K1 := Lib.hid (fun w => closing_impl d (inner5 s) w hti)
  have K2 := Lib.hid (fun (x : ByteArray) (w : World) (h : x.size ≤ 1048576) => mayFollow_impl d x w h)
  have K3 := Lib.hid (fun (x : ByteArray) (w : World) (h : x.size ≤ 1048576) => unescape_impl d x w h)
  have HC : Hid (cqInt d.esc (inner5 s) = if cqAt d.esc (inner5 s) < (inner5 s).size then (cqAt d.esc (inner5 s) : Int) else -1) := rfl
  have HN := Lib.hid (dialAt_new w d)
  generalize quotT d s = r at *
  generalize inner5 s = t at *
  generalize cqInt d.esc t = ci at *
  generalize cqAt d.esc t = c at *
  generalize opens s = o at *
  obtain ⟨d0, d1, d2, d3, d4, d5⟩ := d
  unfold dialectV at *
  simp only at K1 K2 K3 HN HV HC ⊢
  have hb0 := (Below.refl w.heap.size w).alloc (Nat.le_refl _) (.cells #[.string d0, .string d1, .bool d2, .bool d3, .bool d4, .int .i64 d5] 25)
  have hw0 : w.heap.size < (w.alloc (.cells #[.string d0, .string d1, .bool d2, .bool d3, .bool d4, .int .i64 d5] 25)).heap.size := by simp
  go_enter Tryz.func171, Tryz.ntmps171
  go_wp2_with fail
  refine (K0.out _).mono ?_
  rintro e w1 ⟨rfl, rfl⟩
  obtain ⟨c0, c1, c2, c3, c4, c5⟩ := HN.out.cells
  simp only at c0 c1 c2 c3 c4 c5
  generalize w.alloc (.cells #[.string d0, .string d1, .bool d2, .bool d3, .bool d4, .int .i64 d5] 25) = w1 at *
  go_wp2_with fail
  refine (K1.out _).mono ?_
  rintro e w2 ⟨rfl, hb2⟩
  clear c0 c1 c2 c3 c4 c5
  have hD := HN.out.over hb2 hw0
  have hB2 := hb0.trans (hb2.mono hb0.size)
  clear hb0 hb2 HN hw0 K0 K1
  obtain ⟨c0, c1, c2, c3, c4, c5⟩ := hD.cells
  simp only at c0 c1 c2 c3 c4 c5
  have x0 := cell_regrown c0
  have x1 := cell_regrown c1
  have x2 := cell_regrown c2
  have x3 := cell_regrown c3
  have x4 := cell_regrown c4
  have x5 := cell_regrown c5
  clear c0 c1 c2 c3 c4 c5
  cases o
  · have HR : Hid (r = (⟨#[]⟩, false)) := by unfold Hid; rw [HV.out, if_neg (by simp)]
    clear HC K2 K3
    clear HV
    go_wp2_with fail
    refine wp_region_quiet_below (by kernel_rfl) (by kernel_rfl) ?_
    repeat (go_big_quiet_step (fail))
    refine wpQuiet_nil ?_
    intro _ hw'
    obtain ⟨⟨dq9, osq9⟩, hw''⟩ := hw'
    subst hw''
    have hb9 := hB2.trans ((below_regrown w2 dq9 osq9).mono hB2.size)
    go_wp2
    go_ret2
    exact ⟨by rw [HR.out]; rfl, hb9⟩
  · by_cases hlt : c < t.size
    · obtain rfl : ci = (c : Int) := by rw [HC.out, if_pos hlt]
      clear HC
      have hV2 : r = if behind5 ⟨d0, d1, d2, d3, d4, d5⟩ (t.extract (c + 1) t.size) then unT d4 (t.extract 0 c) else (⟨#[]⟩, false) := by rw [HV.out, if_pos ⟨rfl, hlt⟩]
      have HV2 := Lib.hid hV2
      clear hV2 HV
      have hz1 : (t.extract (c + 1) t.size).size ≤ 1048576 := by rw [ByteArray.size_extract]; omega
      have hz2 : (t.extract 0 c).size ≤ 1048576 := by rw [ByteArray.size_extract]; omega
      have KA : Hid (∀ q os, Calls Tryz.prog 141 #[.agg #[.string d0, .string d1, .bool d2, .bool d3, .bool d4, .int .i64 d5], .string (t.extract (c + 1) t.size)] (grow (redrawn w2 q) os) fun e w' => e = .returned (.bool (behind5 ⟨d0, d1, d2, d3, d4, d5⟩ (t.extract (c + 1) t.size))) ∧ ∃ p : Regrown, w' = grow (redrawn w2 p.d) p.os) := by
        intro q os
        exact Calls.regrown_of (K2.out _ _ hz1)
      have KU := Lib.hid (fun w => K3.out (t.extract 0 c) w hz2)
      clear K2 K3 hz1 hz2
      have hc1 : IntKind.i64.wrap ((c : Int) + 1) = (c : Int) + 1 := IntWalk.i64_in _ (by omega)
      have hc2 : (c : Int) + 1 ≤ (t.size : Int) := by omega
      have hc3 : ((c : Int) + 1).toNat = c + 1 := by omega
      have hc4 : (0 : Int) ≤ (c : Int) + 1 := by omega
      have hc5 : ¬ ((c : Int) < 0) := by omega
      have hc6 : decide ((c : Int) < 0) = false := by simp
      have hc7 : (c : Int) ≤ (t.size : Int) := by omega
      generalize behind5 ⟨d0, d1, d2, d3, d4, d5⟩ (t.extract (c + 1) t.size) = bv at *
      generalize hut : unT d4 (t.extract 0 c) = ut at *
      clear hut
      obtain ⟨ua, ub⟩ := ut
      simp only at KU
      cases bv
      all_goals
        go_wp2_with fail
        refine wp_region_quiet_below (by kernel_rfl) (by kernel_rfl) ?_
        repeat (go_big_quiet_step (with_reducible exact KA.out _ _))
        refine wpQuiet_nil ?_
        intro _ hw'
        obtain ⟨⟨dq9, osq9⟩, hw''⟩ := hw'
        subst hw''
        have hbq := below_regrown w2 dq9 osq9
        have hB9 := hB2.trans (hbq.mono hB2.size)
        clear hbq KA hc1 hc2 hc3 hc4 hc5 hc6
      · have HR : Hid (r = (⟨#[]⟩, false)) := HV2.out
        go_wp2
        go_ret2
        exact ⟨by rw [HR.out]; rfl, hB9⟩
      · have HR : Hid (r = (ua, ub)) := HV2.out
        have y0 := x0 dq9 osq9
        have y1 := x1 dq9 osq9
        have y2 := x2 dq9 osq9
        have y3 := x3 dq9 osq9
        have y4 := x4 dq9 osq9
        have y5 := x5 dq9 osq9
        clear x0 x1 x2 x3 x4 x5
        generalize grow (redrawn w2 dq9) osq9 = w3 at *
        have KB : Hid (∀ q os, Calls Tryz.prog 173 #[.string (t.extract 0 c), .agg #[.string d0, .string d1, .bool d2, .bool d3, .bool d4, .int .i64 d5]] (grow (redrawn w3 q) os) fun e w' => e = .returned (.tuple #[.string ua, .bool ub]) ∧ ∃ p : Regrown, w' = grow (redrawn w3 p.d) p.os) := by
          intro q os
          exact Calls.regrown_of (KU.out _)
        have x0 := cell_regrown y0
        have x1 := cell_regrown y1
        have x2 := cell_regrown y2
        have x3 := cell_regrown y3
        have x4 := cell_regrown y4
        have x5 := cell_regrown y5
        clear y0 y1 y2 y3 y4 y5 KU
        go_wp2_with fail
        refine wp_region_quiet_below (by kernel_rfl) (by kernel_rfl) ?_
        repeat (go_big_quiet_step (with_reducible exact KB.out _ _))
        refine wpQuiet_nil ?_
        intro _ hw'
        obtain ⟨⟨dq8, osq8⟩, hw''⟩ := hw'
        subst hw''
        have hB8 := hB9.trans ((below_regrown w3 dq8 osq8).mono hB9.size)
        clear KB
        go_wp2
        go_ret2
        exact ⟨by rw [HR.out]; rfl, hB8⟩
    · obtain rfl : ci = -1 := by rw [HC.out, if_neg hlt]
      have HR : Hid (r = (⟨#[]⟩, false)) := by unfold Hid; rw [HV.out, if_neg (fun h => hlt h.2)]
      clear HC K2 K3
      clear HV
      go_wp2_with fail
      refine wp_region_quiet_below (by kernel_rfl) (by kernel_rfl) ?_
      repeat (go_big_quiet_step (fail))
      refine wpQuiet_nil ?_
      intro _ hw'
      obtain ⟨⟨dq9, osq9⟩, hw''⟩ := hw'
      subst hw''
      have hb9 := hB2.trans ((below_regrown w2 dq9 osq9).mono hB2.size)
      go_wp2
      go_ret2
      exact ⟨by rw [HR.out]; rfl, hb9⟩

end Go.Proofs.YtkhkpjnpjgnckaaGreatDoor
