/- Values without quotes: the model's contracts of l05Blank, l05Trim, Bare. -/
import Derived.Test.YtkhkpjnpjgnckaaDoorProg
import Derived.Test.YtkhkpjnpjgnckaaDoorPlain
import Derived.Test.YtkhkpjnpjgnckaaDoorHex
import Derived.Test.YtkhkpjnpjgnckaaDoorCut
import Derived.Test.YtkhkpjnpjgnckaaDoorTrim
import Derived.Test.YtkhkpjnpjgnckaaDoorTail
import Derived.Test.YtkhkpjnpjgnckaaDoorDialectRows
import Derived.Test.YtkhkpjnpjgnckaaDoorDialSpec
import Derived.Test.YtkhkpjnpjgnckaaDoorUnescSpec
import Derived.WalkKit
import Derived.WalkLawsBesides
import Derived.BigQuiet
import Derived.Deep.QuietTactic
import Derived.Lib.QuietBelow
import Derived.Laws.IdiomStrings
import Derived.Lib.Hide
import Derived.IntWalk
namespace Go.Proofs.YtkhkpjnpjgnckaaDoor
open Go.RowKit Go.Sort
set_option linter.unusedVariables false

theorem extract_none (s : ByteArray) (k : Nat) : s.extract k k = ByteArray.empty := by
  apply ByteArray.ext
  simp
/-- a blank at place i that isn't meant as itself -/
def blank5 (e : Bool) (s : ByteArray) (i : Nat) : Bool := if h : i < s.size then blankB s[i] && (!e || tailN (s.extract 0 i) % 2 == 0) else false
/-- where the blanks at the beginning end -/
def lead5 (s : ByteArray) : Nat → Nat
  | 0 => s.size
  | n + 1 => if h : s.size - (n + 1) < s.size then (if blankB s[s.size - (n + 1)] then lead5 s n else s.size - (n + 1)) else lead5 s n
/-- the end, without blanks that aren't meant -/
def back5 (e : Bool) (s : ByteArray) (a : Nat) : Nat → Nat
  | 0 => 0
  | b + 1 => if a < b + 1 ∧ blank5 e s b = true then back5 e s a b else b + 1
theorem back5_le (e : Bool) (s : ByteArray) (a b : Nat) : back5 e s a b ≤ b := by
  induction b with
  | zero => exact Nat.le_refl _
  | succ b ih =>
    simp only [back5]
    split <;> omega
theorem back5_ge (e : Bool) (s : ByteArray) (a b : Nat) (h : a ≤ b) : a ≤ back5 e s a b := by
  induction b with
  | zero => simp only [back5]; exact h
  | succ b ih =>
    simp only [back5]
    split
    · rename_i hc
      exact ih (by omega)
    · exact h
theorem back5_yes {e : Bool} {s : ByteArray} {a b : Nat} (h : a < b + 1) (hb : blank5 e s b = true) : back5 e s a (b + 1) = back5 e s a b := by simp only [back5]; rw [if_pos ⟨h, hb⟩]
theorem back5_no {e : Bool} {s : ByteArray} {a b : Nat} (hb : blank5 e s b = false) : back5 e s a (b + 1) = b + 1 := by simp only [back5]; rw [if_neg (fun h => by rw [hb] at h; exact absurd h.2 (by decide))]
theorem back5_end {e : Bool} {s : ByteArray} {a : Nat} : back5 e s a a = a := by
  cases a with
  | zero => rfl
  | succ a => simp only [back5]; rw [if_neg (fun h => by omega)]
def front5 (s : ByteArray) : Nat := (s.data.toList.takeWhile blankB).length
theorem front5_le (s : ByteArray) : front5 s ≤ s.size := by
  unfold front5
  rw [Lib.size_eq]
  exact (List.takeWhile_sublist _).length_le
/-- trimmed, but for blanks that are meant -/
def trim5 (e : Bool) (s : ByteArray) : ByteArray := s.extract (front5 s) (back5 e s (front5 s) s.size)
theorem trim5_size (e : Bool) (s : ByteArray) : (trim5 e s).size ≤ s.size := by
  unfold trim5
  rw [ByteArray.size_extract]
  have := back5_le e s (front5 s) s.size
  omega

theorem takeWhile_at (p : UInt8 → Bool) : ∀ (l : List UInt8) (n : Nat), n ≤ l.length → (∀ j (h : j < l.length), j < n → p l[j] = true) → (∀ h : n < l.length, p l[n] = false) → (l.takeWhile p).length = n := by
  intro l
  induction l with
  | nil => intro n hn _ _; simp at hn; subst hn; rfl
  | cons c t ih =>
    intro n hn h1 h2
    cases n with
    | zero =>
      have := h2 (by simp)
      simp at this
      simp [this]
    | succ n =>
      have hc : p c = true := h1 0 (by simp) (by omega)
      rw [List.takeWhile_cons_of_pos hc]
      have := ih n (by simpa using hn) (fun j h hj => by have := h1 (j + 1) (by simpa using h) (by omega); simpa using this) (fun h => by have := h2 (by simpa using h); simpa using this)
      simp [this]

/-- the cells of a Dialect that a call has laid for itself -/
def DialAt (w : World) (b : Nat) (d : DialectD) : Prop := w.heap[b]? = some (.cells #[.string d.notes, .string d.seps, .bool d.inl, .bool d.quo, .bool d.esc, .int .i64 d.join] 25 (0, 0))
theorem dialAt_new (w : World) (d : DialectD) : DialAt (w.alloc (.cells #[.string d.notes, .string d.seps, .bool d.inl, .bool d.quo, .bool d.esc, .int .i64 d.join] 25)) w.heap.size d := heap_alloc_new _ _
theorem DialAt.over {w w' : World} {b B : Nat} {d : DialectD} (h : DialAt w b d) (hb : Below B w w') (hB : b < B) : DialAt w' b d := by
  unfold DialAt at *
  rw [hb.block b hB]
  exact h
theorem DialAt.cells {w : World} {b : Nat} {d : DialectD} (h : DialAt w b d) : w.cell? ⟨b, 0, none⟩ = some (.string d.notes) ∧ w.cell? ⟨b, 1, none⟩ = some (.string d.seps) ∧ w.cell? ⟨b, 2, none⟩ = some (.bool d.inl) ∧ w.cell? ⟨b, 3, none⟩ = some (.bool d.quo) ∧ w.cell? ⟨b, 4, none⟩ = some (.bool d.esc) ∧ w.cell? ⟨b, 5, none⟩ = some (.int .i64 d.join) := by
  unfold DialAt at h
  refine ⟨?_, ?_, ?_, ?_, ?_, ?_⟩ <;> (rw [Lib.cell_of_heap h]; rfl)

set_option maxHeartbeats 1600000 in
theorem blank5_spec (d : DialectD) (s : ByteArray) (i : Nat) (w : World) (hs : s.size ≤ 100000000) (hi : i < s.size) :
    Calls Tryd.prog 31 #[.string s, .int .i64 (i : Int), dialectV d] w fun e w' => e = .returned (.bool (blank5 d.esc s i)) ∧ Below w.heap.size w w' := by
  have HV : Hid (blank5 d.esc s i = (blankB s[i] && (!d.esc || tailN (s.extract 0 i) % 2 == 0))) := by unfold Hid blank5; rw [dif_pos hi]
  generalize blank5 d.esc s i = r at *
  have K1 := Lib.hid (fun w => blank_any s[i] w)
  have hex : (s.extract 0 i).size ≤ 100000000 := by rw [ByteArray.size_extract]; omega
  have K2 := Lib.hid (fun w => tail_spec (s.extract 0 i) w (by unfold maxLen; omega))
  have htl : tailN (s.extract 0 i) ≤ 100000000 := Nat.le_trans (tailN_le _) hex
  have hiz : (i : Int) ≤ (s.size : Int) := by omega
  have hiz2 : (i : Int) < (s.size : Int) := by omega
  obtain ⟨d0, d1, d2, d3, d4, d5⟩ := d
  unfold dialectV
  simp only at HV ⊢
  have hb0 := (Below.refl w.heap.size w).alloc (Nat.le_refl _) (.cells #[.string d0, .string d1, .bool d2, .bool d3, .bool d4, .int .i64 d5] 25)
  generalize tailN (s.extract 0 i) = tn at *
  generalize blankB s[i] = bl at *
  clear hex
  cases bl
  · have HD : Hid (r = false) := HV.out
    clear HV
    go_enter Tryd.func31, Tryd.ntmps31
    go_wp2_with fail
    refine (K1.out _).mono ?_
    rintro e w1 ⟨rfl, rfl⟩
    go_wp2
    go_ret
    exact ⟨by rw [HD.out]; rfl, hb0⟩
  · cases d4
    · have HD : Hid (r = true) := HV.out
      clear HV
      go_enter Tryd.func31, Tryd.ntmps31
      go_wp2_with fail
      refine (K1.out _).mono ?_
      rintro e w1 ⟨rfl, rfl⟩
      go_wp2
      go_ret
      exact ⟨by rw [HD.out]; rfl, hb0⟩
    · have HD : Hid (r = (((tn : Int) % 2) == 0)) := by
        unfold Hid
        rw [HV.out]
        rcases (show tn % 2 = 0 ∨ tn % 2 = 1 by omega) with h | h
        · rw [h, show (tn : Int) % 2 = 0 by omega]; rfl
        · rw [h, show (tn : Int) % 2 = 1 by omega]; rfl
      clear HV
      go_enter Tryd.func31, Tryd.ntmps31
      go_wp2_with fail
      refine (K1.out _).mono ?_
      rintro e w1 ⟨rfl, rfl⟩
      go_wp2_with fail
      refine (K2.out _).mono ?_
      rintro e w1 ⟨rfl, rfl⟩
      go_wp2
      go_ret
      exact ⟨by rw [HD.out]; rfl, hb0⟩

set_option maxHeartbeats 1600000 in
theorem trim5_spec (d : DialectD) (s : ByteArray) (w : World) (hs : s.size ≤ 100000000) :
    Calls Tryd.prog 32 #[.string s, dialectV d] w fun e w' => e = .returned (.string (trim5 d.esc s)) ∧ Below w.heap.size w w' := by
  have K1 := Lib.hid (fun (i : Nat) (w : World) (hi : i < s.size) => blank5_spec d s i w hs hi)
  have HT : Hid (∀ a b, front5 s = a → back5 d.esc s a s.size = b → s.extract a b = trim5 d.esc s) := by
    rintro a b rfl rfl
    rfl
  have HSL := Lib.hid (Lib.size_eq s)
  have HN := Lib.hid (dialAt_new w d)
  obtain ⟨d0, d1, d2, d3, d4, d5⟩ := d
  unfold dialectV at *
  simp only at K1 HT HN ⊢
  generalize trim5 d4 s = r at *
  have hb0 := (Below.refl w.heap.size w).alloc (Nat.le_refl _) (.cells #[.string d0, .string d1, .bool d2, .bool d3, .bool d4, .int .i64 d5] 25)
  have hw0 : w.heap.size < (w.alloc (.cells #[.string d0, .string d1, .bool d2, .bool d3, .bool d4, .int .i64 d5] 25)).heap.size := by simp
  go_enter Tryd.func32, Tryd.ntmps32
  go_wp2
  generalize w.alloc (.cells #[.string d0, .string d1, .bool d2, .bool d3, .bool d4, .int .i64 d5] 25) = W0 at *
  go_loopw [5] (fun a wr => ∃ k : Nat, k ≤ s.size ∧ a = .int .i64 k ∧ Hid (∀ j (h : j < s.size), j < k → blankB s[j] = true) ∧ wr = W0) (fun a _ => s.size - (intOf a).toNat)
  case atStart => exact ⟨0, Nat.zero_le _, rfl, fun j h hj => by omega, rfl⟩
  case round =>
    obtain ⟨k, hk, rfl, hbl, rfl⟩ := hrel
    by_cases hlt : k < s.size ∧ ∃ h : k < s.size, blankB s[k] = true
    · obtain ⟨hlt, _, hbk⟩ := hlt
      have hbl2 : Hid (∀ j (h : j < s.size), j < k + 1 → blankB s[j] = true) := by
        intro j h hj
        by_cases e : j = k
        · subst e; exact hbk
        · exact hbl.out j h (by omega)
      have K2 := Lib.hid (fun w => blank_any s[k] w)
      rw [hbk] at K2
      clear hbl hbk
      go_wp2_with fail
      refine (K2.out _).mono ?_
      rintro e w1 ⟨rfl, rfl⟩
      clear K2
      go_wp2
      go_roundw
      case rel => exact ⟨k + 1, by omega, by go_num, hbl2, trivial⟩
      case measure => simp [intOf]; omega
    · have hfr : front5 s = k := by
        unfold front5
        refine takeWhile_at blankB _ k (by rw [← HSL.out]; exact hk) (fun j h hj => hbl.out j (by rw [HSL.out]; exact h) hj) (fun h => ?_)
        have h2 : k < s.size := by rw [HSL.out]; exact h
        by_cases hb : blankB s[k] = true
        · exact absurd ⟨h2, h2, hb⟩ hlt
        · have hb' : blankB s[k] = false := by simpa using hb
          exact hb'
      have HFR := Lib.hid hfr
      clear hbl hfr
      -- leaves the first loop
      by_cases h2 : k < s.size
      · have hb : blankB s[k] = false := by
          by_cases hb : blankB s[k] = true
          · exact absurd ⟨h2, h2, hb⟩ hlt
          · simpa using hb
        have K2 := Lib.hid (fun w => blank_any s[k] w)
        rw [hb] at K2
        clear hlt hb
        go_wp2_with fail
        refine (K2.out _).mono ?_
        rintro e w1 ⟨rfl, rfl⟩
        clear K2
        go_wp2
        go_loopw [6] (fun b wr => ∃ m : Nat, k ≤ m ∧ m ≤ s.size ∧ b = .int .i64 m ∧ Hid (back5 d4 s k s.size = back5 d4 s k m) ∧ Hid (DialAt wr w.heap.size ⟨d0, d1, d2, d3, d4, d5⟩) ∧ Below w.heap.size w wr ∧ w.heap.size < wr.heap.size) (fun b _ => (intOf b).toNat)
        case atStart => exact ⟨s.size, hk, Nat.le_refl _, rfl, rfl, HN, hb0, hw0⟩
        case round =>
          obtain ⟨m, hkm, hms, rfl, hbk, hD, hb, hwl⟩ := hrel
          clear hb0 HN
          by_cases hmk : k < m
          · obtain ⟨n, rfl⟩ : ∃ n, m = n + 1 := ⟨m - 1, by omega⟩
            obtain ⟨c0, c1, c2, c3, c4, c5⟩ := hD.out.cells
            simp only at c0 c1 c2 c3 c4 c5
            have K3 := Lib.hid (fun w => K1.out n w (by omega))
            have e1 : ((n + 1 : Nat) : Int) - 1 = (n : Int) := by omega
            cases hbn : blank5 d4 s n
            · have hfin : Hid (s.extract k (n + 1) = r) := HT.out k (n + 1) HFR.out (by rw [hbk.out, back5_no hbn])
              rw [hbn] at K3
              have q1 : (k : Int) ≤ (n : Int) + 1 := by omega
              have q2 : (n : Int) + 1 ≤ (s.size : Int) := by omega
              clear hbk hbn
              go_wp2_with fail
              refine (K3.out _).mono ?_
              rintro e w2 ⟨rfl, hb2⟩
              have hb3 := hb.trans (hb2.mono hb.size)
              clear K3 hb2 hb
              go_wp2
              go_ret
              exact ⟨by rw [← hfin.out]; rfl, hb3⟩
            · have hbk2 : Hid (back5 d4 s k s.size = back5 d4 s k n) := by unfold Hid; rw [hbk.out, back5_yes hmk hbn]
              rw [hbn] at K3
              clear hbk hbn
              go_wp2_with fail
              refine (K3.out _).mono ?_
              rintro e w2 ⟨rfl, hb2⟩
              have hb3 := hb.trans (hb2.mono hb.size)
              have hD2 := Lib.hid (hD.out.over hb2 hwl)
              have hwl2 := Nat.lt_of_lt_of_le hwl hb2.size
              clear K3 hb2 hb hD c0 c1 c2 c3 c4 c5
              go_wp2
              go_roundw
              case rel => exact ⟨n, by omega, by omega, by go_num, hbk2, hD2, hb3, hwl2⟩
              case measure => simp [intOf]
          · obtain rfl : k = m := by omega
            have hfin : Hid (ByteArray.empty = r) := by
              have := HT.out k k HFR.out (by rw [hbk.out, back5_end])
              rw [extract_none] at this
              exact this
            have q2 : (k : Int) ≤ (s.size : Int) := by omega
            clear hbk
            go_wp2
            go_ret
            exact ⟨by rw [← hfin.out]; rfl, hb⟩
      · clear hlt
        go_wp2
        go_loopw [6] (fun b wr => ∃ m : Nat, k ≤ m ∧ m ≤ s.size ∧ b = .int .i64 m ∧ Hid (back5 d4 s k s.size = back5 d4 s k m) ∧ Hid (DialAt wr w.heap.size ⟨d0, d1, d2, d3, d4, d5⟩) ∧ Below w.heap.size w wr ∧ w.heap.size < wr.heap.size) (fun b _ => (intOf b).toNat)
        case atStart => exact ⟨s.size, hk, Nat.le_refl _, rfl, rfl, HN, hb0, hw0⟩
        case round =>
          obtain ⟨m, hkm, hms, rfl, hbk, hD, hb, hwl⟩ := hrel
          clear hb0 HN
          obtain rfl : k = m := by omega
          have hfin : Hid (ByteArray.empty = r) := by
            have := HT.out k k HFR.out (by rw [hbk.out, back5_end])
            rw [extract_none] at this
            exact this
          have q2 : (k : Int) ≤ (s.size : Int) := by omega
          clear hbk
          go_wp2
          go_ret
          exact ⟨by rw [← hfin.out]; rfl, hb⟩

theorem findIdx_range (p : Nat → Bool) (n i : Nat) (hi : i ≤ n) (h1 : ∀ j, j < i → p j = false) (h2 : i < n → p i = true) : (List.range n).findIdx p = i := by
  by_cases h : i < n
  · have hl : i < (List.range n).length := by simpa using h
    rw [List.findIdx_eq hl]
    refine ⟨by simpa using h2 h, fun j hj => by simpa using h1 j hj⟩
  · obtain rfl : i = n := by omega
    have : (List.range i).findIdx p = (List.range i).length := by
      rw [List.findIdx_eq_length]
      intro x hx
      exact h1 x (by simpa using hx)
    simpa using this
/-- a note begins at place i -/
def note5 (d : DialectD) (s : ByteArray) (i : Nat) : Bool := if h : 1 ≤ i ∧ i < s.size then hasB d.notes (s[i]'h.2) && blank5 d.esc s (i - 1) else false
/-- where a value without quotes ends -/
def cut5 (d : DialectD) (s : ByteArray) : Nat := if d.inl then (List.range s.size).findIdx (note5 d s) else s.size
/-- what Bare answers -/
def bareT (d : DialectD) (s : ByteArray) : ByteArray × Bool := unT d.esc (trim5 d.esc (s.extract 0 (cut5 d s)))
theorem extract_all (s : ByteArray) : s.extract 0 s.size = s := by
  apply ByteArray.ext
  rw [ByteArray.data_extract]
  show s.data.extract 0 s.data.size = s.data
  simp
theorem bareT_size (d : DialectD) (s : ByteArray) : (bareT d s).1.size ≤ s.size := by
  unfold bareT
  refine Nat.le_trans (unT_size _ _) (Nat.le_trans (trim5_size _ _) ?_)
  rw [ByteArray.size_extract]
  omega

set_option maxRecDepth 100000 in
set_option maxHeartbeats 3200000 in
theorem bare_spec (d : DialectD) (s : ByteArray) (w : World) (hs : s.size ≤ 100000000) (hn : d.notes.size ≤ 100000000) :
    Calls Tryd.prog 10 #[.string s, dialectV d] w fun e w' => e = .returned (.tuple #[.string (bareT d s).1, .bool (bareT d s).2]) ∧ Below w.heap.size w w' := by
  have K1 := Lib.hid (fun (i : Nat) (w : World) (hi : i < s.size) => blank5_spec d s i w hs hi)
  have K0 := Lib.hid (fun (i : Nat) (w : World) (hi : i < s.size) => has_any d.notes s[i] w (by unfold maxLen; omega))
  have HN := Lib.hid (dialAt_new w d)
  have HA : Hid (d.inl = false → bareT d s = unT d.esc (trim5 d.esc s)) := by
    intro h
    unfold bareT cut5
    rw [h]
    simp only [Bool.false_eq_true, if_false]
    rw [extract_all]
  have HB : Hid (d.inl = true → ∀ i, i ≤ s.size → (∀ j, j < i → note5 d s j = false) → (i < s.size → note5 d s i = true) → bareT d s = unT d.esc (trim5 d.esc (s.extract 0 i))) := by
    intro h i hi h1 h2
    unfold bareT cut5
    rw [h]
    simp only [if_true]
    rw [findIdx_range _ _ i hi h1 h2]
  have HNA : Hid (∀ i (h1 : 1 ≤ i) (h : i < s.size), note5 d s i = (hasB d.notes s[i] && blank5 d.esc s (i - 1))) := by
    intro i h1 h
    unfold note5
    rw [dif_pos ⟨h1, h⟩]
  have HN0 : Hid (note5 d s 0 = false) := by unfold Hid note5; rw [dif_neg (fun h => by omega)]
  obtain ⟨d0, d1, d2, d3, d4, d5⟩ := d
  unfold dialectV at *
  simp only at K1 K0 HN HA HB HNA hn ⊢
  generalize hNN : note5 ⟨d0, d1, d2, d3, d4, d5⟩ s = note at *
  clear hNN
  generalize bareT ⟨d0, d1, d2, d3, d4, d5⟩ s = r at *
  have hb0 := (Below.refl w.heap.size w).alloc (Nat.le_refl _) (.cells #[.string d0, .string d1, .bool d2, .bool d3, .bool d4, .int .i64 d5] 25)
  have hw0 : w.heap.size < (w.alloc (.cells #[.string d0, .string d1, .bool d2, .bool d3, .bool d4, .int .i64 d5] 25)).heap.size := by simp
  go_enter Tryd.func10, Tryd.ntmps10
  go_wp2
  generalize w.alloc (.cells #[.string d0, .string d1, .bool d2, .bool d3, .bool d4, .int .i64 d5] 25) = W0 at *
  go_loopw [0, 6] (fun sv i wr => ∃ k : Nat, 1 ≤ k ∧ (k ≤ s.size ∨ k = 1) ∧ sv = .string s ∧ i = .int .i64 k ∧ Hid (∀ j, j < k → note j = false) ∧ Hid (DialAt wr w.heap.size ⟨d0, d1, d2, d3, d4, d5⟩) ∧ Below w.heap.size w wr ∧ w.heap.size < wr.heap.size) (fun _ i _ => s.size - (intOf i).toNat)
  case atStart => exact ⟨1, Nat.le_refl _, .inr rfl, rfl, rfl, fun j hj => (show j = 0 by omega) ▸ HN0.out, HN, hb0, hw0⟩
  case round =>
    obtain ⟨k, hk1, hks, rfl, rfl, hno, hD, hb, hwl⟩ := hrel
    clear hb0 HN hw0
    by_cases hlt : k < s.size
    · cases d2
      · -- no notes behind values
        have HTT : Hid (r = unT d4 (trim5 d4 s)) := HA.out rfl
        have htt := hs
        have HDD := hD
        have HBB := Lib.hid hb
        obtain ⟨c0, c1, c2, c3, c4, c5⟩ := hD.out.cells
        simp only at c2
        clear hno hD hb HA HB HNA K0 K1 c0 c1 c3 c4 c5
        go_wp2_with fail
        clear c2
        have HSZ : Hid ((trim5 d4 s).size ≤ 100000000) := Nat.le_trans (trim5_size d4 s) htt
        have KA : Hid (∀ q os, Calls Tryd.prog 32 #[.string s, .agg #[.string d0, .string d1, .bool false, .bool d3, .bool d4, .int .i64 d5]] (grow (redrawn wr q) os) fun e w' => e = .returned (.string (trim5 d4 s)) ∧ ∃ p : Regrown, w' = grow (redrawn wr p.d) p.os) := by
          intro q os
          exact Calls.regrown_of (trim5_spec ⟨d0, d1, false, d3, d4, d5⟩ s _ htt)
        have KB : Hid (∀ q os, Calls Tryd.prog 27 #[.string (trim5 d4 s), .agg #[.string d0, .string d1, .bool false, .bool d3, .bool d4, .int .i64 d5]] (grow (redrawn wr q) os) fun e w' => e = .returned (.tuple #[.string (unT d4 (trim5 d4 s)).1, .bool (unT d4 (trim5 d4 s)).2]) ∧ ∃ p : Regrown, w' = grow (redrawn wr p.d) p.os) := by
          intro q os
          exact Calls.regrown_of (unescape_spec ⟨d0, d1, false, d3, d4, d5⟩ (trim5 d4 s) _ HSZ.out)
        obtain ⟨c0, c1, c2, c3, c4, c5⟩ := HDD.out.cells
        simp only at c0 c1 c2 c3 c4 c5
        have x0 := cell_regrown c0
        have x1 := cell_regrown c1
        have x2 := cell_regrown c2
        have x3 := cell_regrown c3
        have x4 := cell_regrown c4
        have x5 := cell_regrown c5
        clear c0 c1 c2 c3 c4 c5
        generalize trim5 d4 s = tm at *
        generalize unT d4 tm = ut at *
        obtain ⟨ua, ub⟩ := ut
        simp only at KB
        go_wp2_with fail
        refine wp_region_quiet_below (by kernel_rfl) (by kernel_rfl) ?_
        repeat (go_big_quiet_step (first | with_reducible exact KA.out _ _ | with_reducible exact KB.out _ _))
        refine wpQuiet_nil ?_
        intro _ hw'
        obtain ⟨⟨dq9, osq9⟩, hw''⟩ := hw'
        subst hw''
        have hb9 := HBB.out.trans ((below_regrown wr dq9 osq9).mono HBB.out.size)
        clear KA KB
        go_wp2
        go_ret2
        exact ⟨by rw [HTT.out]; rfl, hb9⟩
      · have hna := HNA.out k hk1 hlt
        obtain ⟨c0, c1, c2, c3, c4, c5⟩ := hD.out.cells
        simp only at c0 c1 c2 c3 c4 c5
        have x0 := cell_regrown c0
        have x1 := cell_regrown c1
        have x2 := cell_regrown c2
        have x3 := cell_regrown c3
        have x4 := cell_regrown c4
        have x5 := cell_regrown c5
        have KA : Hid (∀ q os, Calls Tryd.prog 30 #[.string d0, .int .u8 (s[k].toNat : Int)] (grow (redrawn wr q) os) fun e w' => e = .returned (.bool (hasB d0 s[k])) ∧ ∃ p : Regrown, w' = grow (redrawn wr p.d) p.os) := by
          intro q os
          refine Calls.regrown_of ((K0.out k _ hlt).mono ?_)
          rintro e w' ⟨rfl, rfl⟩
          exact ⟨rfl, Below.refl _ _⟩
        have KB : Hid (∀ q os, Calls Tryd.prog 31 #[.string s, .int .i64 ((k : Int) - 1), .agg #[.string d0, .string d1, .bool true, .bool d3, .bool d4, .int .i64 d5]] (grow (redrawn wr q) os) fun e w' => e = .returned (.bool (blank5 d4 s (k - 1))) ∧ ∃ p : Regrown, w' = grow (redrawn wr p.d) p.os) := by
          intro q os
          have := K1.out (k - 1) (grow (redrawn wr q) os) (by omega)
          rw [show ((k - 1 : Nat) : Int) = (k : Int) - 1 by omega] at this
          exact Calls.regrown_of this
        have hkz2 : (k : Int) < (s.size : Int) := by omega
        have HNA2 := Lib.hid hna
        clear hna
        cases h1 : hasB d0 s[k] <;> cases h2 : blank5 d4 s (k - 1) <;> rw [h1] at KA HNA2 <;> rw [h2] at KB HNA2 <;> clear h1 h2
        all_goals
          go_wp2_with fail
          refine wp_region_quiet_below (by kernel_rfl) (by kernel_rfl) ?_
          repeat (go_big_quiet_step (first | with_reducible exact KA.out _ _ | with_reducible exact KB.out _ _))
          refine wpQuiet_nil ?_
          intro _ hw'
          obtain ⟨⟨dq, osq⟩, hw''⟩ := hw'
          subst hw''
          have hbq := below_regrown wr dq osq
          have hb2 := hb.trans (hbq.mono hb.size)
          have hD2 := Lib.hid (hD.out.over hbq hwl)
          have hwl2 := Nat.lt_of_lt_of_le hwl hbq.size
          clear KA KB c0 c1 c2 c3 c4 c5 x0 x1 x2 x3 x4 x5 hbq hb hD
          generalize grow (redrawn wr dq) osq = w2 at *
        · have hno2 : Hid (∀ j, j < k + 1 → note j = false) := by
            intro j hj
            by_cases e : j = k
            · subst e; exact HNA2.out
            · exact hno.out j (by omega)
          clear hno HNA2
          go_wp2
          go_roundw
          case rel => exact ⟨k + 1, by omega, .inl (by omega), rfl, by go_num, hno2, hD2, hb2, hwl2⟩
          case measure => simp [intOf]; omega
        · have hno2 : Hid (∀ j, j < k + 1 → note j = false) := by
            intro j hj
            by_cases e : j = k
            · subst e; exact HNA2.out
            · exact hno.out j (by omega)
          clear hno HNA2
          go_wp2
          go_roundw
          case rel => exact ⟨k + 1, by omega, .inl (by omega), rfl, by go_num, hno2, hD2, hb2, hwl2⟩
          case measure => simp [intOf]; omega
        · have hno2 : Hid (∀ j, j < k + 1 → note j = false) := by
            intro j hj
            by_cases e : j = k
            · subst e; exact HNA2.out
            · exact hno.out j (by omega)
          clear hno HNA2
          go_wp2
          go_roundw
          case rel => exact ⟨k + 1, by omega, .inl (by omega), rfl, by go_num, hno2, hD2, hb2, hwl2⟩
          case measure => simp [intOf]; omega
        · have HTT : Hid (r = unT d4 (trim5 d4 (s.extract 0 k))) := HB.out trivial k (by omega) hno.out (fun _ => HNA2.out)
          have htt : (s.extract 0 k).size ≤ 100000000 := by rw [ByteArray.size_extract]; omega
          have HDD := hD2
          have HBB := Lib.hid hb2
          have q2 : (k : Int) ≤ (s.size : Int) := by omega
          clear hno hD2 hb2 HA HB HNA HNA2 K0 K1
          go_wp2_with fail
          have HSZ : Hid ((trim5 d4 (s.extract 0 k)).size ≤ 100000000) := Nat.le_trans (trim5_size d4 (s.extract 0 k)) htt
          have KA : Hid (∀ q os, Calls Tryd.prog 32 #[.string (s.extract 0 k), .agg #[.string d0, .string d1, .bool true, .bool d3, .bool d4, .int .i64 d5]] (grow (redrawn w2 q) os) fun e w' => e = .returned (.string (trim5 d4 (s.extract 0 k))) ∧ ∃ p : Regrown, w' = grow (redrawn w2 p.d) p.os) := by
            intro q os
            exact Calls.regrown_of (trim5_spec ⟨d0, d1, true, d3, d4, d5⟩ (s.extract 0 k) _ htt)
          have KB : Hid (∀ q os, Calls Tryd.prog 27 #[.string (trim5 d4 (s.extract 0 k)), .agg #[.string d0, .string d1, .bool true, .bool d3, .bool d4, .int .i64 d5]] (grow (redrawn w2 q) os) fun e w' => e = .returned (.tuple #[.string (unT d4 (trim5 d4 (s.extract 0 k))).1, .bool (unT d4 (trim5 d4 (s.extract 0 k))).2]) ∧ ∃ p : Regrown, w' = grow (redrawn w2 p.d) p.os) := by
            intro q os
            exact Calls.regrown_of (unescape_spec ⟨d0, d1, true, d3, d4, d5⟩ (trim5 d4 (s.extract 0 k)) _ HSZ.out)
          obtain ⟨c0, c1, c2, c3, c4, c5⟩ := HDD.out.cells
          simp only at c0 c1 c2 c3 c4 c5
          have x0 := cell_regrown c0
          have x1 := cell_regrown c1
          have x2 := cell_regrown c2
          have x3 := cell_regrown c3
          have x4 := cell_regrown c4
          have x5 := cell_regrown c5
          clear c0 c1 c2 c3 c4 c5
          generalize trim5 d4 (s.extract 0 k) = tm at *
          generalize unT d4 tm = ut at *
          obtain ⟨ua, ub⟩ := ut
          simp only at KB
          go_wp2_with fail
          refine wp_region_quiet_below (by kernel_rfl) (by kernel_rfl) ?_
          repeat (go_big_quiet_step (first | with_reducible exact KA.out _ _ | with_reducible exact KB.out _ _))
          refine wpQuiet_nil ?_
          intro _ hw'
          obtain ⟨⟨dq9, osq9⟩, hw''⟩ := hw'
          subst hw''
          have hb9 := HBB.out.trans ((below_regrown w2 dq9 osq9).mono HBB.out.size)
          clear KA KB
          go_wp2
          go_ret2
          exact ⟨by rw [HTT.out]; rfl, hb9⟩
    · have HTT : Hid (r = unT d4 (trim5 d4 s)) := by
        cases d2
        · exact HA.out rfl
        · have := HB.out rfl s.size (Nat.le_refl _) (fun j hj => hno.out j (by omega)) (fun h => absurd h (Nat.lt_irrefl _))
          rw [extract_all] at this
          exact this
      have htt := hs
      have HDD := hD
      have HBB := Lib.hid hb
      clear hno hD hb HA HB HNA K0 K1
      go_wp2_with fail
      have HSZ : Hid ((trim5 d4 s).size ≤ 100000000) := Nat.le_trans (trim5_size d4 s) htt
      have KA : Hid (∀ q os, Calls Tryd.prog 32 #[.string s, .agg #[.string d0, .string d1, .bool d2, .bool d3, .bool d4, .int .i64 d5]] (grow (redrawn wr q) os) fun e w' => e = .returned (.string (trim5 d4 s)) ∧ ∃ p : Regrown, w' = grow (redrawn wr p.d) p.os) := by
        intro q os
        exact Calls.regrown_of (trim5_spec ⟨d0, d1, d2, d3, d4, d5⟩ s _ htt)
      have KB : Hid (∀ q os, Calls Tryd.prog 27 #[.string (trim5 d4 s), .agg #[.string d0, .string d1, .bool d2, .bool d3, .bool d4, .int .i64 d5]] (grow (redrawn wr q) os) fun e w' => e = .returned (.tuple #[.string (unT d4 (trim5 d4 s)).1, .bool (unT d4 (trim5 d4 s)).2]) ∧ ∃ p : Regrown, w' = grow (redrawn wr p.d) p.os) := by
        intro q os
        exact Calls.regrown_of (unescape_spec ⟨d0, d1, d2, d3, d4, d5⟩ (trim5 d4 s) _ HSZ.out)
      obtain ⟨c0, c1, c2, c3, c4, c5⟩ := HDD.out.cells
      simp only at c0 c1 c2 c3 c4 c5
      have x0 := cell_regrown c0
      have x1 := cell_regrown c1
      have x2 := cell_regrown c2
      have x3 := cell_regrown c3
      have x4 := cell_regrown c4
      have x5 := cell_regrown c5
      clear c0 c1 c2 c3 c4 c5
      generalize trim5 d4 s = tm at *
      generalize unT d4 tm = ut at *
      obtain ⟨ua, ub⟩ := ut
      simp only at KB
      go_wp2_with fail
      refine wp_region_quiet_below (by kernel_rfl) (by kernel_rfl) ?_
      repeat (go_big_quiet_step (first | with_reducible exact KA.out _ _ | with_reducible exact KB.out _ _))
      refine wpQuiet_nil ?_
      intro _ hw'
      obtain ⟨⟨dq9, osq9⟩, hw''⟩ := hw'
      subst hw''
      have hb9 := HBB.out.trans ((below_regrown wr dq9 osq9).mono HBB.out.size)
      clear KA KB
      go_wp2
      go_ret2
      exact ⟨by rw [HTT.out]; rfl, hb9⟩

end Go.Proofs.YtkhkpjnpjgnckaaDoor
