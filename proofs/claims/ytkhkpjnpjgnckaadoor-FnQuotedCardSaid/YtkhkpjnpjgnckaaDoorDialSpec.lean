/- A right Dialect: the model's contract of DialectOk. -/
import Derived.Test.YtkhkpjnpjgnckaaDoorProg
import Derived.Test.YtkhkpjnpjgnckaaDoorPlain
import Derived.Test.YtkhkpjnpjgnckaaDoorHex
import Derived.Test.YtkhkpjnpjgnckaaDoorCut
import Derived.Test.YtkhkpjnpjgnckaaDoorDialectRows
import Derived.WalkKit
import Derived.WalkLawsBesides
import Derived.BigQuiet
import Derived.Deep.QuietTactic
import Derived.Lib.QuietBelow
import Derived.Laws.IdiomStrings
import Derived.Lib.Hide
import Derived.IntWalk
namespace Go.Proofs.YtkhkpjnpjgnckaaDoor
open Go.RowKit Go.Sort
set_option linter.unusedVariables false

/-- the byte at k is one of those, and none of those ahead -/
def ofAt (s u : ByteArray) (k : Nat) : Bool := if h : k < s.size then hasB u s[k] && !hasB (s.extract 0 k) s[k] else true
/-- so it is for the first k -/
def ofTo (s u : ByteArray) : Nat → Bool
  | 0 => true
  | k + 1 => ofTo s u k && ofAt s u k
theorem ofTo_false {s u : ByteArray} {k : Nat} (h : ofTo s u (k + 1) = false) : ∀ m, k + 1 ≤ m → ofTo s u m = false := by
  intro m hm
  induction m with
  | zero => omega
  | succ m ih =>
    by_cases e : m = k
    · subst e; exact h
    · simp only [ofTo]
      rw [ih (by omega)]
      rfl
/-- a text of some bytes of another, none twice, and not too many -/
def ofWith (s u : ByteArray) (m : Int) : Bool := ofTo s u s.size && Pl.inB s.size 1 m

set_option maxHeartbeats 1600000 in
theorem of_spec (s u : ByteArray) (m : Int) (w : World) (hs : s.size ≤ 1048576) (hu : u.size ≤ 1048576) :
    Calls Tryd.prog 35 #[.string s, .string u, .int .i64 m] w fun e w' => e = .returned (.bool (ofWith s u m)) ∧ Below w.heap.size w w' := by
  go_enter Tryd.func35, Tryd.ntmps35
  go_wp2
  go_loopw [7] (fun i wr => ∃ k : Nat, k ≤ s.size ∧ i = .int .i64 k ∧ Hid (ofTo s u k = true) ∧ Below w.heap.size w wr) (fun i _ => s.size - (intOf i).toNat)
  case atStart => exact ⟨0, Nat.zero_le _, rfl, rfl, Below.refl _ _⟩
  case round =>
    obtain ⟨k, hk, rfl, hok, hb⟩ := hrel
    by_cases hlt : k < s.size
    · have hat : ofAt s u k = (hasB u s[k] && !hasB (s.extract 0 k) s[k]) := by unfold ofAt; rw [dif_pos hlt]
      have hstep : ofTo s u (k + 1) = (hasB u s[k] && !hasB (s.extract 0 k) s[k]) := by simp only [ofTo]; rw [hok.out, hat]; rfl
      have HST := Lib.hid hstep
      clear hat hstep
      have hex : (s.extract 0 k).size ≤ maxLen := by rw [ByteArray.size_extract]; unfold maxLen; omega
      have K1 : Hid (∀ d os, Calls Tryd.prog 30 #[.string u, .int .u8 (s[k].toNat : Int)] (grow (redrawn wr d) os) fun e w' => e = .returned (.bool (hasB u s[k])) ∧ ∃ p : Regrown, w' = grow (redrawn wr p.d) p.os) := by
        intro d os
        refine Calls.regrown_of ((has_any u s[k] _ (by unfold maxLen; omega)).mono ?_)
        rintro e w' ⟨rfl, rfl⟩
        exact ⟨rfl, Below.refl _ _⟩
      have K2 : Hid (∀ d os, Calls Tryd.prog 30 #[.string (s.extract 0 k), .int .u8 (s[k].toNat : Int)] (grow (redrawn wr d) os) fun e w' => e = .returned (.bool (hasB (s.extract 0 k) s[k])) ∧ ∃ p : Regrown, w' = grow (redrawn wr p.d) p.os) := by
        intro d os
        refine Calls.regrown_of ((has_any (s.extract 0 k) s[k] _ hex).mono ?_)
        rintro e w' ⟨rfl, rfl⟩
        exact ⟨rfl, Below.refl _ _⟩
      have hkz : (k : Int) ≤ (s.size : Int) := by omega
      have hkz2 : (k : Int) < (s.size : Int) := by omega
      clear hex
      cases h1 : hasB u s[k] <;> cases h2 : hasB (s.extract 0 k) s[k] <;> rw [h1] at K1 HST <;> rw [h2] at K2 HST <;> clear h1 h2
      all_goals
        go_wp2_with fail
        refine wp_region_quiet_below (by kernel_rfl) (by kernel_rfl) ?_
        repeat (go_big_quiet_step (first | with_reducible exact K1.out _ _ | with_reducible exact K2.out _ _))
        refine wpQuiet_nil ?_
        intro _ hw'
        obtain ⟨⟨dq, osq⟩, hw''⟩ := hw'
        subst hw''
        have hb2 := hb.trans ((below_regrown wr dq osq).mono hb.size)
      · have HF : Hid (ofWith s u m = false) := by
          unfold Hid ofWith
          rw [ofTo_false (k := k) HST.out s.size (by omega)]
          rfl
        clear HST hok
        go_wp2
        go_ret
        exact ⟨by rw [HF.out]; rfl, hb2⟩
      · have HF : Hid (ofWith s u m = false) := by
          unfold Hid ofWith
          rw [ofTo_false (k := k) HST.out s.size (by omega)]
          rfl
        clear HST hok
        go_wp2
        go_ret
        exact ⟨by rw [HF.out]; rfl, hb2⟩
      · have hok2 : Hid (ofTo s u (k + 1) = true) := HST.out
        clear HST hok
        go_wp2
        go_roundw
        case rel => exact ⟨k + 1, by omega, by go_num, hok2, hb2⟩
        case measure => simp [intOf]; omega
      · have HF : Hid (ofWith s u m = false) := by
          unfold Hid ofWith
          rw [ofTo_false (k := k) HST.out s.size (by omega)]
          rfl
        clear HST hok
        go_wp2
        go_ret
        exact ⟨by rw [HF.out]; rfl, hb2⟩
    · obtain rfl : k = s.size := by omega
      have HF : Hid (ofWith s u m = Pl.inB s.size 1 m) := by unfold Hid ofWith; rw [hok.out]; rfl
      clear hok
      go_wp2_with fail
      refine (in_any _ _ _ _).mono ?_
      rintro e w' ⟨rfl, rfl⟩
      go_wp2
      go_ret
      exact ⟨by rw [HF.out]; rfl, hb⟩

abbrev notesB : ByteArray := ⟨#[35, 59, 33]⟩
abbrev sepsB : ByteArray := ⟨#[61, 58]⟩
/-- a right one -/
def dialOk (d : DialectD) : Bool := ofWith d.notes notesB 3 && ofWith d.seps sepsB 2 && Pl.inB d.join 0 2
theorem dialOk_size {d : DialectD} (h : dialOk d = true) : 1 ≤ d.notes.size ∧ d.notes.size ≤ 3 ∧ 1 ≤ d.seps.size ∧ d.seps.size ≤ 2 ∧ 0 ≤ d.join ∧ d.join ≤ 2 := by
  unfold dialOk ofWith at h
  simp only [Bool.and_eq_true, Pl.inB, decide_eq_true_eq] at h
  omega

set_option maxHeartbeats 1600000 in
theorem dialectOk_spec (d : DialectD) (w : World) (h1 : d.notes.size ≤ 1048576) (h2 : d.seps.size ≤ 1048576) :
    Calls Tryd.prog 13 #[dialectV d] w fun e w' => e = .returned (.bool (dialOk d)) ∧ Below w.heap.size w w' := by
  have K1 := Lib.hid (fun w => of_spec d.notes notesB 3 w h1 (by decide))
  have K2 := Lib.hid (fun w => of_spec d.seps sepsB 2 w h2 (by decide))
  have K3 := Lib.hid (fun w => in_any d.join 0 2 w)
  unfold dialOk
  obtain ⟨d0, d1, d2, d3, d4, d5⟩ := d
  unfold dialectV
  simp only at K1 K2 K3 ⊢
  clear h1 h2
  have hb0 := (Below.refl w.heap.size w).alloc (Nat.le_refl _) (.cells #[.string d0, .string d1, .bool d2, .bool d3, .bool d4, .int .i64 d5] 25)
  have c1 : (w.alloc (.cells #[.string d0, .string d1, .bool d2, .bool d3, .bool d4, .int .i64 d5] 25)).cell? ⟨w.heap.size, 1, none⟩ = some (.string d1) := by simp
  have c5 : (w.alloc (.cells #[.string d0, .string d1, .bool d2, .bool d3, .bool d4, .int .i64 d5] 25)).cell? ⟨w.heap.size, 5, none⟩ = some (.int .i64 d5) := by simp
  have hw0 : w.heap.size < (w.alloc (.cells #[.string d0, .string d1, .bool d2, .bool d3, .bool d4, .int .i64 d5] 25)).heap.size := by simp
  generalize ofWith d0 notesB 3 = r1 at *
  generalize ofWith d1 sepsB 2 = r2 at *
  generalize Pl.inB d5 0 2 = r3 at *
  go_enter Tryd.func13, Tryd.ntmps13
  go_wp2_with fail
  refine (K1.out _).mono ?_
  rintro e w1 ⟨rfl, hb1⟩
  have hb1' := hb0.trans (hb1.mono (by simp))
  have c1' := (hb1.cell (p := ⟨w.heap.size, 1, none⟩) hw0).trans c1
  have c5' := (hb1.cell (p := ⟨w.heap.size, 5, none⟩) hw0).trans c5
  have hw1 := Nat.lt_of_lt_of_le hw0 hb1.size
  clear hb1 hb0 c1 c5 K1 hw0
  cases r1
  · go_wp2
    go_ret
    exact ⟨rfl, hb1'⟩
  · go_wp2_with fail
    refine (K2.out _).mono ?_
    rintro e w2 ⟨rfl, hb2⟩
    have hb2' := hb1'.trans (hb2.mono hb1'.size)
    have c5'' := (hb2.cell (p := ⟨w.heap.size, 5, none⟩) hw1).trans c5'
    clear hb2 hb1' c1' c5' K2
    cases r2
    · go_wp2
      go_ret
      exact ⟨rfl, hb2'⟩
    · go_wp2_with fail
      refine (K3.out _).mono ?_
      rintro e w3 ⟨rfl, rfl⟩
      cases r3
      all_goals
        go_wp2
        go_ret
        exact ⟨rfl, hb2'⟩

end Go.Proofs.YtkhkpjnpjgnckaaDoor
