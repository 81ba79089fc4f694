/- A line of a file with sections: the program's small functions (CutAt, isQuoted, readValue, readPair, readHead, hasQuoted). -/
import Derived.Test.YtkhkpjnpjgnckaaGreatDoorProg
import Derived.Test.YtkhkpjnpjgnckaaGreatDoorPlain
import Derived.Test.YtkhkpjnpjgnckaaGreatDoorCut
import Derived.Test.YtkhkpjnpjgnckaaGreatDoorTrim
import Derived.Test.YtkhkpjnpjgnckaaGreatDoorTail
import Derived.Test.YtkhkpjnpjgnckaaGreatDoorBuild
import Derived.Test.YtkhkpjnpjgnckaaGreatDoorDialectRows
import Derived.Test.YtkhkpjnpjgnckaaGreatDoorQuotSpec
import Derived.Test.YtkhkpjnpjgnckaaGreatDoorUnescTop
import Derived.Test.YtkhkpjnpjgnckaaGreatDoorBareImpl
import Derived.Test.YtkhkpjnpjgnckaaGreatDoorBareTop
import Derived.Test.YtkhkpjnpjgnckaaGreatDoorQuotImpl
import Derived.Test.YtkhkpjnpjgnckaaGreatDoorQuotTop
import Derived.Test.YtkhkpjnpjgnckaaGreatDoorHeadSpec
import Derived.WalkKit
import Derived.WalkLawsBesides
import Derived.BigQuiet
import Derived.Deep.QuietTactic
import Derived.Lib.QuietBelow
import Derived.Laws.IdiomStrings
import Derived.Lib.Hide
import Derived.IntWalk
set_option maxRecDepth 100000
namespace Go.Proofs.YtkhkpjnpjgnckaaGreatDoor
open Go.RowKit Go.Sort
set_option linter.unusedVariables false

/-! a text cut at the first of some bytes: what stands ahead, what behind, and whether there is one -/
def cutA (s u : ByteArray) : ByteArray := if firstIn (hasB u) s < s.size then s.extract 0 (firstIn (hasB u) s) else s
def cutZ (s u : ByteArray) : ByteArray := if firstIn (hasB u) s < s.size then s.extract (firstIn (hasB u) s + 1) s.size else ⟨#[]⟩
def cutOk (s u : ByteArray) : Bool := decide (firstIn (hasB u) s < s.size)
theorem cutA_size (s u : ByteArray) : (cutA s u).size ≤ s.size := by
  unfold cutA
  split
  · rw [ByteArray.size_extract]; omega
  · exact Nat.le_refl _
theorem cutZ_size (s u : ByteArray) : (cutZ s u).size ≤ s.size := by
  unfold cutZ
  split
  · rw [ByteArray.size_extract]; omega
  · exact Nat.zero_le _
theorem cut_impl (s u : ByteArray) (w : World) (hs : s.size ≤ 1048576) (hu : u.size ≤ 1048576) :
    Calls Tryz.prog 65 #[.string s, .string u] w fun e w' => e = .returned (.tuple #[.string (cutA s u), .string (cutZ s u), .bool (cutOk s u)]) ∧ Below w.heap.size w w' := by
  refine (cutAt_impl s u w hs hu).mono ?_
  rintro e w' ⟨rfl, n, rfl⟩
  refine ⟨?_, below_drewN (Below.refl _ _) n⟩
  unfold cutRes cutA cutZ cutOk
  split
  · rename_i h; rw [decide_eq_true h]
  · rename_i h; rw [decide_eq_false h]

theorem prefix_opens (s : ByteArray) : Lib.hasPrefix s.data.toList [34] = opens s := by
  unfold opens
  by_cases h : 0 < s.size
  · rw [dif_pos h]
    obtain ⟨u, hu⟩ := first_data s h
    rw [hu]
    simp [Lib.hasPrefix, List.isPrefixOf]
    exact Bool.beq_comm
  · rw [dif_neg h]
    have : s.data.toList = [] := List.eq_nil_of_length_eq_zero (by rw [← Lib.size_eq]; omega)
    rw [this]
    rfl
theorem quote_lib (s : ByteArray) (w : World) :
    Calls Tryz.prog 100 #[.string s, .string quoteB] w fun e w' => e = .returned (.bool (opens s)) ∧ w = w' := by
  refine (hasPrefix_lib s quoteB w).mono ?_
  rintro e w' ⟨rfl, rfl⟩
  refine ⟨?_, rfl⟩
  rw [← prefix_opens]
/-- a value between quotes -/
def isQ (d : DialectD) (t : ByteArray) : Bool := d.quo && opens t
set_option maxHeartbeats 1600000 in
theorem isQuoted_impl (d : DialectD) (t : ByteArray) (w : World) :
    Calls Tryz.prog 122 #[dialectV d, .string t] w fun e w' => e = .returned (.bool (isQ d t)) ∧ Below w.heap.size w w' := by
  have K := Lib.hid (fun w => quote_lib t w)
  have HV : Hid (isQ d t = (d.quo && opens t)) := rfl
  have hb0 := (Below.refl w.heap.size w).alloc (Nat.le_refl _) (.cells #[.string d.notes, .string d.seps, .bool d.inl, .bool d.quo, .bool d.esc, .int .i64 d.join] 25)
  generalize isQ d t = r at *
  generalize opens t = o at *
  obtain ⟨d0, d1, d2, d3, d4, d5⟩ := d
  unfold dialectV
  simp only at HV hb0 ⊢
  cases d3
  · have HR : Hid (r = false) := HV.out
    clear HV
    go_enter Tryz.func122, Tryz.ntmps122
    go_wp2
    go_ret
    exact ⟨by rw [HR.out]; rfl, hb0⟩
  · have HR : Hid (r = o) := HV.out
    clear HV
    go_enter Tryz.func122, Tryz.ntmps122
    go_wp2_with fail
    refine (K.out _).mono ?_
    rintro e w' ⟨rfl, rfl⟩
    go_wp2
    go_ret
    exact ⟨by rw [HR.out]; rfl, hb0⟩

/-- the value of a pair -/
def valI (d : DialectD) (t : ByteArray) : ByteArray × Bool := if isQ d t then quotT d t else bareT d t
set_option maxHeartbeats 1600000 in
theorem readValue_impl (d : DialectD) (t : ByteArray) (w : World) (hs : t.size ≤ 1048576) :
    Calls Tryz.prog 159 #[dialectV d, .string t] w fun e w' => e = .returned (.tuple #[.string (valI d t).1, .bool (valI d t).2]) ∧ Below w.heap.size w w' := by
  have K0 := Lib.hid (fun w => isQuoted_impl d t w)
  have KQ := Lib.hid (fun w => quoted_impl d t w hs)
  have KB := Lib.hid (fun w => bare_impl d t w hs)
  have HV : Hid (valI d t = if isQ d t then quotT d t else bareT d t) := rfl
  have HN := Lib.hid (dialAt_new w d)
  have hb0 := (Below.refl w.heap.size w).alloc (Nat.le_refl _) (.cells #[.string d.notes, .string d.seps, .bool d.inl, .bool d.quo, .bool d.esc, .int .i64 d.join] 25)
  have hw0 : w.heap.size < (w.alloc (.cells #[.string d.notes, .string d.seps, .bool d.inl, .bool d.quo, .bool d.esc, .int .i64 d.join] 25)).heap.size := by simp
  generalize valI d t = r at *
  generalize quotT d t = qv at *
  generalize bareT d t = bv at *
  generalize isQ d t = iq at *
  obtain ⟨d0, d1, d2, d3, d4, d5⟩ := d
  unfold dialectV at *
  simp only at K0 KQ KB HN hb0 hw0 ⊢
  obtain ⟨q1, q2⟩ := qv
  obtain ⟨b1, b2⟩ := bv
  simp only at KQ KB
  cases iq
  · have HR : Hid (r = (b1, b2)) := HV.out
    clear HV KQ
    go_enter Tryz.func159, Tryz.ntmps159
    go_wp2_with fail
    refine (K0.out _).mono ?_
    rintro e w1 ⟨rfl, hb1⟩
    obtain ⟨c0, c1, c2, c3, c4, c5⟩ := (HN.out.over hb1 hw0).cells
    simp only at c0 c1 c2 c3 c4 c5
    have hB1 := hb0.trans (hb1.mono hb0.size)
    clear hb1 hb0 HN hw0 K0
    go_wp2_with fail
    refine (KB.out _).mono ?_
    rintro e w2 ⟨rfl, hb2⟩
    have hB2 := hB1.trans (hb2.mono hB1.size)
    go_wp2
    go_ret2
    exact ⟨by rw [HR.out]; rfl, hB2⟩
  · have HR : Hid (r = (q1, q2)) := HV.out
    clear HV KB
    go_enter Tryz.func159, Tryz.ntmps159
    go_wp2_with fail
    refine (K0.out _).mono ?_
    rintro e w1 ⟨rfl, hb1⟩
    obtain ⟨c0, c1, c2, c3, c4, c5⟩ := (HN.out.over hb1 hw0).cells
    simp only at c0 c1 c2 c3 c4 c5
    have hB1 := hb0.trans (hb1.mono hb0.size)
    clear hb1 hb0 HN hw0 K0
    go_wp2_with fail
    refine (KQ.out _).mono ?_
    rintro e w2 ⟨rfl, hb2⟩
    have hB2 := hB1.trans (hb2.mono hB1.size)
    go_wp2
    go_ret2
    exact ⟨by rw [HR.out]; rfl, hB2⟩

/-- a pair: its key, its value, and whether it is one -/
def pairI (d : DialectD) (t : ByteArray) : ByteArray × ByteArray × Bool :=
  if cutOk t d.seps = true ∧ 0 < (trim5 d.esc (cutA t d.seps)).size then (trim5 d.esc (cutA t d.seps), valI d (trim5 d.esc (cutZ t d.seps))) else (⟨#[]⟩, ⟨#[]⟩, false)
set_option maxHeartbeats 3200000 in
theorem readPair_impl (d : DialectD) (t : ByteArray) (w : World) (hs : t.size ≤ 1048576) (hd : d.seps.size ≤ 1048576) :
    Calls Tryz.prog 121 #[dialectV d, .string t] w fun e w' => e = .returned (.tuple #[.string (pairI d t).1, .string (pairI d t).2.1, .bool (pairI d t).2.2]) ∧ Below w.heap.size w w' := by
  have K0 := Lib.hid (fun w => cut_impl t d.seps w hs hd)
  have hsa := Nat.le_trans (cutA_size t d.seps) hs
  have hsz := Nat.le_trans (cutZ_size t d.seps) hs
  have hst := Nat.le_trans (trim5_size d.esc (cutZ t d.seps)) hsz
  have K1 := Lib.hid (fun w => trim_implD d (cutA t d.seps) w hsa)
  have K2 := Lib.hid (fun w => trim_implD d (cutZ t d.seps) w hsz)
  have K3 := Lib.hid (fun w => readValue_impl d (trim5 d.esc (cutZ t d.seps)) w hst)
  have HV : Hid (pairI d t = if cutOk t d.seps = true ∧ 0 < (trim5 d.esc (cutA t d.seps)).size then (trim5 d.esc (cutA t d.seps), valI d (trim5 d.esc (cutZ t d.seps))) else (⟨#[]⟩, ⟨#[]⟩, false)) := rfl
  have HN := Lib.hid (dialAt_new w d)
  clear hsa hsz hst
  generalize pairI d t = r at *
  generalize valI d (trim5 d.esc (cutZ t d.seps)) = v at *
  generalize trim5 d.esc (cutA t d.seps) = ka at *
  generalize trim5 d.esc (cutZ t d.seps) = tz at *
  generalize cutA t d.seps = ca at *
  generalize cutZ t d.seps = cz at *
  generalize cutOk t d.seps = co at *
  have hb0 := (Below.refl w.heap.size w).alloc (Nat.le_refl _) (.cells #[.string d.notes, .string d.seps, .bool d.inl, .bool d.quo, .bool d.esc, .int .i64 d.join] 25)
  have hw0 : w.heap.size < (w.alloc (.cells #[.string d.notes, .string d.seps, .bool d.inl, .bool d.quo, .bool d.esc, .int .i64 d.join] 25)).heap.size := by simp
  obtain ⟨d0, d1, d2, d3, d4, d5⟩ := d
  unfold dialectV at *
  simp only at K0 K1 K2 K3 HN hb0 hw0 ⊢
  obtain ⟨v1, v2⟩ := v
  simp only at K3
  go_enter Tryz.func121, Tryz.ntmps121
  go_wp2_with fail
  refine (K0.out _).mono ?_
  rintro e w1 ⟨rfl, hb1⟩
  have hD1 := HN.out.over hb1 hw0
  have hB1 := hb0.trans (hb1.mono hb0.size)
  have hw1 := Nat.lt_of_lt_of_le hw0 hb1.size
  clear hb1 hb0 HN hw0 K0
  obtain ⟨c0, c1, c2, c3, c4, c5⟩ := hD1.cells
  simp only at c0 c1 c2 c3 c4 c5
  go_wp2_with fail
  refine (K1.out _).mono ?_
  rintro e w2 ⟨rfl, hb2⟩
  clear c0 c1 c2 c3 c4 c5
  have hD2 := hD1.over hb2 hw1
  have hB2 := hB1.trans (hb2.mono hB1.size)
  clear hb2 hB1 hD1 hw1 K1
  obtain ⟨c0, c1, c2, c3, c4, c5⟩ := hD2.cells
  simp only at c0 c1 c2 c3 c4 c5
  have x0 := cell_regrown c0
  have x1 := cell_regrown c1
  have x2 := cell_regrown c2
  have x3 := cell_regrown c3
  have x4 := cell_regrown c4
  have x5 := cell_regrown c5
  clear c0 c1 c2 c3 c4 c5 hD2
  cases co
  · have HR : Hid (r = (⟨#[]⟩, ⟨#[]⟩, false)) := by unfold Hid; rw [HV.out, if_neg (by simp)]
    clear HV
    go_wp2
    go_ret3
    exact ⟨by rw [HR.out]; rfl, hB2⟩
  · by_cases hz : 0 < ka.size
    · obtain ⟨e1, e2⟩ := text_some ka hz
      have HR : Hid (r = (ka, v1, v2)) := by unfold Hid; rw [HV.out, if_pos ⟨rfl, hz⟩]
      clear HV
      have KA : Hid (∀ q os, Calls Tryz.prog 118 #[.agg #[.string d0, .string d1, .bool d2, .bool d3, .bool d4, .int .i64 d5], .string cz] (grow (redrawn w2 q) os) fun e w' => e = .returned (.string tz) ∧ ∃ p : Regrown, w' = grow (redrawn w2 p.d) p.os) := by
        intro q os
        exact Calls.regrown_of (K2.out _)
      have KB : Hid (∀ q os, Calls Tryz.prog 159 #[.agg #[.string d0, .string d1, .bool d2, .bool d3, .bool d4, .int .i64 d5], .string tz] (grow (redrawn w2 q) os) fun e w' => e = .returned (.tuple #[.string v1, .bool v2]) ∧ ∃ p : Regrown, w' = grow (redrawn w2 p.d) p.os) := by
        intro q os
        exact Calls.regrown_of (K3.out _)
      clear K2 K3
      go_wp2_with fail
      refine wp_region_quiet_below (by kernel_rfl) (by kernel_rfl) ?_
      repeat (go_big_quiet_step (first | with_reducible exact KA.out _ _ | with_reducible exact KB.out _ _))
      refine wpQuiet_nil ?_
      intro _ hw'
      obtain ⟨⟨dq9, osq9⟩, hw''⟩ := hw'
      subst hw''
      have hb9 := hB2.trans ((below_regrown w2 dq9 osq9).mono hB2.size)
      clear KA KB
      go_wp2
      go_ret3
      exact ⟨by rw [HR.out]; rfl, hb9⟩
    · obtain ⟨e1, e2⟩ := text_none ka (by omega)
      have HR : Hid (r = (⟨#[]⟩, ⟨#[]⟩, false)) := by unfold Hid; rw [HV.out, if_neg (fun h => hz h.2)]
      clear HV
      go_wp2
      go_ret3
      exact ⟨by rw [HR.out]; rfl, hB2⟩

/-- a head: its section, and whether it is one -/
def headI (d : DialectD) (t : ByteArray) : ByteArray × Bool := (trim5 d.esc (cutA t closeB), cutOk t closeB && decide (0 < (trim5 d.esc (cutA t closeB)).size) && behind5 d (cutZ t closeB))
set_option maxHeartbeats 3200000 in
theorem readHead_impl (d : DialectD) (t : ByteArray) (w : World) (hs : t.size ≤ 1048576) :
    Calls Tryz.prog 120 #[dialectV d, .string t] w fun e w' => e = .returned (.tuple #[.string (headI d t).1, .bool (headI d t).2]) ∧ Below w.heap.size w w' := by
  have K0 := Lib.hid (fun w => cut_impl t closeB w hs (by decide))
  have hsa := Nat.le_trans (cutA_size t closeB) hs
  have hsz := Nat.le_trans (cutZ_size t closeB) hs
  have K1 := Lib.hid (fun w => trim_implD d (cutA t closeB) w hsa)
  have K2 := Lib.hid (fun w => mayFollow_impl d (cutZ t closeB) w hsz)
  have HV : Hid (headI d t = (trim5 d.esc (cutA t closeB), cutOk t closeB && decide (0 < (trim5 d.esc (cutA t closeB)).size) && behind5 d (cutZ t closeB))) := rfl
  have HN := Lib.hid (dialAt_new w d)
  clear hsa hsz
  generalize headI d t = r at *
  generalize trim5 d.esc (cutA t closeB) = ka at *
  generalize behind5 d (cutZ t closeB) = bv at *
  generalize cutA t closeB = ca at *
  generalize cutZ t closeB = cz at *
  generalize cutOk t closeB = co at *
  have hb0 := (Below.refl w.heap.size w).alloc (Nat.le_refl _) (.cells #[.string d.notes, .string d.seps, .bool d.inl, .bool d.quo, .bool d.esc, .int .i64 d.join] 25)
  have hw0 : w.heap.size < (w.alloc (.cells #[.string d.notes, .string d.seps, .bool d.inl, .bool d.quo, .bool d.esc, .int .i64 d.join] 25)).heap.size := by simp
  obtain ⟨d0, d1, d2, d3, d4, d5⟩ := d
  unfold dialectV at *
  simp only at K1 K2 HN hb0 hw0 ⊢
  go_enter Tryz.func120, Tryz.ntmps120
  go_wp2_with fail
  refine (K0.out _).mono ?_
  rintro e w1 ⟨rfl, hb1⟩
  have hD1 := HN.out.over hb1 hw0
  have hB1 := hb0.trans (hb1.mono hb0.size)
  have hw1 := Nat.lt_of_lt_of_le hw0 hb1.size
  clear hb1 hb0 HN hw0 K0
  obtain ⟨c0, c1, c2, c3, c4, c5⟩ := hD1.cells
  simp only at c0 c1 c2 c3 c4 c5
  go_wp2_with fail
  refine (K1.out _).mono ?_
  rintro e w2 ⟨rfl, hb2⟩
  clear c0 c1 c2 c3 c4 c5
  have hD2 := hD1.over hb2 hw1
  have hB2 := hB1.trans (hb2.mono hB1.size)
  clear hb2 hB1 hD1 hw1 K1
  obtain ⟨c0, c1, c2, c3, c4, c5⟩ := hD2.cells
  simp only at c0 c1 c2 c3 c4 c5
  clear hD2
  cases co
  · have HR : Hid (r = (ka, false)) := HV.out
    clear HV
    go_wp2
    go_ret2
    exact ⟨by rw [HR.out]; rfl, hB2⟩
  · by_cases hz : 0 < ka.size
    · obtain ⟨e1, e2⟩ := text_some ka hz
      have HR : Hid (r = (ka, bv)) := by unfold Hid; rw [HV.out, decide_eq_true hz]; rfl
      clear HV
      go_wp2_with fail
      refine (K2.out _).mono ?_
      rintro e w3 ⟨rfl, hb3⟩
      have hB3 := hB2.trans (hb3.mono hB2.size)
      go_wp2
      go_ret2
      exact ⟨by rw [HR.out]; rfl, hB3⟩
    · obtain ⟨e1, e2⟩ := text_none ka (by omega)
      have HR : Hid (r = (ka, false)) := by unfold Hid; rw [HV.out, decide_eq_false hz]; rfl
      clear HV
      go_wp2
      go_ret2
      exact ⟨by rw [HR.out]; rfl, hB2⟩

/-- a pair whose value is between quotes -/
def hasQ (d : DialectD) (t : ByteArray) : Bool := isQ d (start5 (cutZ t d.seps))
set_option maxHeartbeats 3200000 in
theorem hasQuoted_impl (d : DialectD) (t : ByteArray) (w : World) (hs : t.size ≤ 1048576) (hd : d.seps.size ≤ 1048576) :
    Calls Tryz.prog 85 #[dialectV d, .string t] w fun e w' => e = .returned (.bool (hasQ d t)) ∧ Below w.heap.size w w' := by
  have K0 := Lib.hid (fun w => cut_impl t d.seps w hs hd)
  have K1 := Lib.hid (fun w => trimStart_impl (cutZ t d.seps) w)
  have K2 := Lib.hid (fun w => isQuoted_impl d (start5 (cutZ t d.seps)) w)
  have HV : Hid (hasQ d t = isQ d (start5 (cutZ t d.seps))) := rfl
  have HN := Lib.hid (dialAt_new w d)
  generalize hasQ d t = r at *
  generalize isQ d (start5 (cutZ t d.seps)) = iq at *
  generalize start5 (cutZ t d.seps) = sz at *
  generalize cutA t d.seps = ca at *
  generalize cutZ t d.seps = cz at *
  generalize cutOk t d.seps = co at *
  have hb0 := (Below.refl w.heap.size w).alloc (Nat.le_refl _) (.cells #[.string d.notes, .string d.seps, .bool d.inl, .bool d.quo, .bool d.esc, .int .i64 d.join] 25)
  have hw0 : w.heap.size < (w.alloc (.cells #[.string d.notes, .string d.seps, .bool d.inl, .bool d.quo, .bool d.esc, .int .i64 d.join] 25)).heap.size := by simp
  obtain ⟨d0, d1, d2, d3, d4, d5⟩ := d
  unfold dialectV at *
  simp only at K0 K2 HN hb0 hw0 ⊢
  go_enter Tryz.func85, Tryz.ntmps85
  go_wp2_with fail
  refine (K0.out _).mono ?_
  rintro e w1 ⟨rfl, hb1⟩
  have hD1 := HN.out.over hb1 hw0
  have hB1 := hb0.trans (hb1.mono hb0.size)
  clear hb1 hb0 HN hw0 K0
  obtain ⟨c0, c1, c2, c3, c4, c5⟩ := hD1.cells
  simp only at c0 c1 c2 c3 c4 c5
  have x0 := cell_regrown c0
  have x1 := cell_regrown c1
  have x2 := cell_regrown c2
  have x3 := cell_regrown c3
  have x4 := cell_regrown c4
  have x5 := cell_regrown c5
  clear c0 c1 c2 c3 c4 c5 hD1
  have KA : Hid (∀ q os, Calls Tryz.prog 63 #[.string cz] (grow (redrawn w1 q) os) fun e w' => e = .returned (.string sz) ∧ ∃ p : Regrown, w' = grow (redrawn w1 p.d) p.os) := by
    intro q os
    exact Calls.regrown_of (K1.out _)
  have KB : Hid (∀ q os, Calls Tryz.prog 122 #[.agg #[.string d0, .string d1, .bool d2, .bool d3, .bool d4, .int .i64 d5], .string sz] (grow (redrawn w1 q) os) fun e w' => e = .returned (.bool iq) ∧ ∃ p : Regrown, w' = grow (redrawn w1 p.d) p.os) := by
    intro q os
    exact Calls.regrown_of (K2.out _)
  clear K1 K2
  go_wp2_with fail
  refine wp_region_quiet_below (by kernel_rfl) (by kernel_rfl) ?_
  repeat (go_big_quiet_step (first | with_reducible exact KA.out _ _ | with_reducible exact KB.out _ _))
  refine wpQuiet_nil ?_
  intro _ hw'
  obtain ⟨⟨dq9, osq9⟩, hw''⟩ := hw'
  subst hw''
  have hb9 := hB1.trans ((below_regrown w1 dq9 osq9).mono hB1.size)
  clear KA KB
  go_wp2
  go_ret
  exact ⟨by rw [HV.out]; rfl, hb9⟩

end Go.Proofs.YtkhkpjnpjgnckaaGreatDoor
