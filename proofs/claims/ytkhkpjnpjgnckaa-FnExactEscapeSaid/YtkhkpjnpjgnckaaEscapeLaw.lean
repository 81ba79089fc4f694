/- The walk of the exact law of Escape. -/
import Derived.Test.YtkhkpjnpjgnckaaProg
import Derived.Test.YtkhkpjnpjgnckaaPlain
import Derived.Test.YtkhkpjnpjgnckaaDialectRows
import Derived.Test.YtkhkpjnpjgnckaaDialectArg
import Derived.Test.YtkhkpjnpjgnckaaDialectIn
import Derived.Test.YtkhkpjnpjgnckaaEscSpec
import Derived.Test.YtkhkpjnpjgnckaaEscImpl
import Derived.WalkKit
import Derived.WalkLawsBesides
import Derived.Laws.IdiomStrings
import Derived.Lib.Hide
import Derived.IntWalk
namespace Go.Proofs.Ytkhkpjnpjgnckaa
open Go.RowKit
set_option linter.unusedVariables false

set_option maxRecDepth 100000 in
set_option maxHeartbeats 3200000 in
theorem fnExactEscape_walk (s : ByteArray) (d : DialectD) (w : World) (m : s.size ≤ maxLen) (hx : fitsDialect d) :
    Calls Try.prog 3 #[.string s, dialectV d] w fun e w' => e = .returned (.bool true) ∧ Below w.heap.size w w' := by
  have KS := Lib.hid (fun w => szDialect_any d 1048576 w (by decide) (by decide) hx)
  have KT := Lib.hid (fun w => toDialect_any d w)
  have hz : Hid (sizeDialect d = d.notes.size + d.seps.size) := rfl
  clear hx
  have K : Hid (d.notes.size ≤ 1048576 → d.seps.size ≤ 1048576 → s.size ≤ 1048576 → (∀ w, Calls Try.prog 6 #[.string s, dialectV d] w fun e w' => e = .returned (.string (escT d s)) ∧ Below w.heap.size w w') ∧ (∀ w, Calls Try.prog 8 #[.string s, dialectV d] w fun e w' => e = .returned (.string (escT d s)) ∧ Below w.heap.size w w')) :=
    fun h1 h2 hs => ⟨fun w => escape_spec d s w (by omega) (by omega), fun w => escape_impl d s w hs⟩
  obtain ⟨d0, d1, d2, d3, d4, d5⟩ := d
  unfold dialectV at *
  simp only at KS KT K hz ⊢
  have hb0 := (Below.refl w.heap.size w).alloc (Nat.le_refl _) (.cells #[.string d0, .string d1, .bool d2, .bool d3, .bool d4, .int .i64 d5] 23)
  have hbx := hb0
  clear hbx
  by_cases sz : (s.size : Int) ≤ 1048576
  · skip
    go_enter Try.func3, Try.ntmps3
    go_wp2_with fail
    refine (KS.out _).mono ?_
    rintro e w1 ⟨rfl, hb1⟩
    have hh0 : w.heap.size < (w.alloc (.cells #[.string d0, .string d1, .bool d2, .bool d3, .bool d4, .int .i64 d5] 23)).heap.size := by simp
    have c0 := (hb1.cell (p := ⟨w.heap.size, 0, none⟩) hh0).trans (show _ = some (.string d0) by simp)
    have c1 := (hb1.cell (p := ⟨w.heap.size, 1, none⟩) hh0).trans (show _ = some (.string d1) by simp)
    have c2 := (hb1.cell (p := ⟨w.heap.size, 2, none⟩) hh0).trans (show _ = some (.bool d2) by simp)
    have c3 := (hb1.cell (p := ⟨w.heap.size, 3, none⟩) hh0).trans (show _ = some (.bool d3) by simp)
    have c4 := (hb1.cell (p := ⟨w.heap.size, 4, none⟩) hh0).trans (show _ = some (.bool d4) by simp)
    have c5 := (hb1.cell (p := ⟨w.heap.size, 5, none⟩) hh0).trans (show _ = some (.int .i64 d5) by simp)
    have hw1 := Nat.lt_of_lt_of_le hh0 hb1.size
    have hB1 := hb0.trans (hb1.mono hb0.size)
    clear hb1 KS hb0 hh0
    rw [hz.out]
    by_cases q : d0.size + d1.size ≤ 1048576
    · rw [if_neg (by omega)]
      have hq0 : decide (1048576 - ((d0.size + d1.size : Nat) : Int) < 0) = false := by simp; omega
      have hq1 : ¬ (1048576 - ((d0.size + d1.size : Nat) : Int) < 0) := by omega
      obtain ⟨K1, K2⟩ := K.out (by omega) (by omega) (by omega)
      have K1 := Lib.hid K1
      have K2 := Lib.hid K2
      clear K hz
      have hzz : 0 ≤ 1048576 - ((d0.size + d1.size : Nat) : Int) := by omega
      have hzz2 : 1048576 - ((d0.size + d1.size : Nat) : Int) ≤ 1048576 := by omega
      generalize 1048576 - ((d0.size + d1.size : Nat) : Int) = z at *
      generalize escT { notes := d0, seps := d1, inl := d2, quo := d3, esc := d4, join := d5 } s = r1 at *
      have hrr : (r1.toList == r1.toList) = true := by simp
      have hrn : (r1.toList != r1.toList) = false := by simp
      go_wp2_with fail
      refine (KT.out _).mono ?_
      rintro e w2 ⟨rfl, hb2⟩
      replace c0 := (hb2.cell (p := ⟨w.heap.size, 0, none⟩) hw1).trans c0
      replace c1 := (hb2.cell (p := ⟨w.heap.size, 1, none⟩) hw1).trans c1
      replace c2 := (hb2.cell (p := ⟨w.heap.size, 2, none⟩) hw1).trans c2
      replace c3 := (hb2.cell (p := ⟨w.heap.size, 3, none⟩) hw1).trans c3
      replace c4 := (hb2.cell (p := ⟨w.heap.size, 4, none⟩) hw1).trans c4
      replace c5 := (hb2.cell (p := ⟨w.heap.size, 5, none⟩) hw1).trans c5
      have hw2 := Nat.lt_of_lt_of_le hw1 hb2.size
      have hB2 := hB1.trans (hb2.mono hB1.size)
      clear hb2 hB1
      go_wp2_with fail
      refine (K1.out _).mono ?_
      rintro e w3 ⟨rfl, hb3⟩
      replace c0 := (hb3.cell (p := ⟨w.heap.size, 0, none⟩) hw2).trans c0
      replace c1 := (hb3.cell (p := ⟨w.heap.size, 1, none⟩) hw2).trans c1
      replace c2 := (hb3.cell (p := ⟨w.heap.size, 2, none⟩) hw2).trans c2
      replace c3 := (hb3.cell (p := ⟨w.heap.size, 3, none⟩) hw2).trans c3
      replace c4 := (hb3.cell (p := ⟨w.heap.size, 4, none⟩) hw2).trans c4
      replace c5 := (hb3.cell (p := ⟨w.heap.size, 5, none⟩) hw2).trans c5
      have hw3 := Nat.lt_of_lt_of_le hw2 hb3.size
      have hB3 := hB2.trans (hb3.mono hB2.size)
      clear hb3 hB2
      go_wp2_with fail
      refine (KT.out _).mono ?_
      rintro e w4 ⟨rfl, hb4⟩
      replace c0 := (hb4.cell (p := ⟨w.heap.size, 0, none⟩) hw3).trans c0
      replace c1 := (hb4.cell (p := ⟨w.heap.size, 1, none⟩) hw3).trans c1
      replace c2 := (hb4.cell (p := ⟨w.heap.size, 2, none⟩) hw3).trans c2
      replace c3 := (hb4.cell (p := ⟨w.heap.size, 3, none⟩) hw3).trans c3
      replace c4 := (hb4.cell (p := ⟨w.heap.size, 4, none⟩) hw3).trans c4
      replace c5 := (hb4.cell (p := ⟨w.heap.size, 5, none⟩) hw3).trans c5
      have hw4 := Nat.lt_of_lt_of_le hw3 hb4.size
      have hB4 := hB3.trans (hb4.mono hB3.size)
      clear hb4 hB3
      go_wp2_with fail
      refine (K2.out _).mono ?_
      rintro e w5 ⟨rfl, hb5⟩
      have hB5 := hB4.trans (hb5.mono hB4.size)
      clear hb5 hB4
      go_wp2
      go_ret
      exact ⟨rfl, hB5⟩
    · rw [if_pos (by omega)]
      go_wp2
      go_ret
      exact ⟨rfl, hB1⟩
  · go_enter Try.func3, Try.ntmps3
    go_wp2
    go_ret
    exact ⟨rfl, hb0⟩

end Go.Proofs.Ytkhkpjnpjgnckaa
