/- A bare value: the program's small functions. -/
import Derived.Test.YtkhkpjnpjgnckaaGreatDoorProg
import Derived.Test.YtkhkpjnpjgnckaaGreatDoorPlain
import Derived.Test.YtkhkpjnpjgnckaaGreatDoorCut
import Derived.Test.YtkhkpjnpjgnckaaGreatDoorTrim
import Derived.Test.YtkhkpjnpjgnckaaGreatDoorTrimLeft
import Derived.Test.YtkhkpjnpjgnckaaGreatDoorTail
import Derived.Test.YtkhkpjnpjgnckaaGreatDoorDialectRows
import Derived.Test.YtkhkpjnpjgnckaaGreatDoorQuotSpec
import Derived.WalkKit
import Derived.WalkLawsBesides
import Derived.BigQuiet
import Derived.Deep.QuietTactic
import Derived.Lib.QuietBelow
import Derived.Laws.IdiomStrings
import Derived.Lib.Hide
import Derived.IntWalk
set_option maxRecDepth 100000
namespace Go.Proofs.YtkhkpjnpjgnckaaGreatDoor
open Go.RowKit Go.Sort
set_option linter.unusedVariables false

abbrev blanksB : ByteArray := ⟨#[32, 9]⟩
theorem isBlankD_any (c : UInt8) (w : World) :
    Calls Tryz.prog 143 #[.int .u8 (c.toNat : Int)] w fun e w' => e = .returned (.bool (blankB c)) ∧ w = w' := by
  have h : Hid (hasB blanksB c = blankB c) := blank_set c
  go_enter Tryz.func143, Tryz.ntmps143
  go_wp2_with fail
  refine (hasByte_any blanksB c _).mono ?_
  rintro e w' ⟨rfl, rfl⟩
  rw [h.out]
  go_wp2
  go_ret
  exact ⟨rfl, rfl⟩

theorem ascii_blanks : ∀ (j : Nat) (b : UInt8), blanksB.data.toList[j]? = some b → b.toNat < 128 := by
  intro j b h
  match j, h with
  | 0, h => simp at h; subst h; decide
  | 1, h => simp at h; subst h; decide
theorem dropWhile_len (p : UInt8 → Bool) (l : List UInt8) : l.dropWhile p = l.drop (l.takeWhile p).length := by
  induction l with
  | nil => rfl
  | cons c l ih =>
    cases h : p c
    · simp [List.dropWhile_cons, List.takeWhile_cons, h]
    · simp [List.dropWhile_cons, List.takeWhile_cons, h, ih]
/-- what stands behind the blanks at the start -/
def start5 (s : ByteArray) : ByteArray := s.extract (front5 s) s.size
theorem start5_list (s : ByteArray) : (⟨(Lib.trimLeftS s.data.toList [32, 9]).toArray⟩ : ByteArray) = start5 s := by
  unfold start5 front5
  rw [Lib.extract_eq]
  congr 2
  unfold Lib.trimLeftS
  have hp : (fun x => List.contains [32, 9] x) = blankB := by funext x; exact blank_set x
  rw [hp, dropWhile_len]
  rw [Lib.size_eq, List.take_of_length_le (by simp)]
theorem start5_size (s : ByteArray) : (start5 s).size = s.size - front5 s := by
  unfold start5
  rw [ByteArray.size_extract]
  omega
theorem trimStart_impl (s : ByteArray) (w : World) :
    Calls Tryz.prog 63 #[.string s] w fun e w' => e = .returned (.string (start5 s)) ∧ Below w.heap.size w w' := by
  have h := Lib.hid (start5_list s)
  go_enter Tryz.func63, Tryz.ntmps63
  go_wp2_with fail
  refine (Any.strings_TrimLeft_laid lays161 (by kernel_rfl) s blanksB w (by decide) ascii_blanks).mono ?_
  rintro e w2 ⟨rfl, hb⟩
  have h2 : Hid ((⟨(Lib.trimLeftS s.data.toList blanksB.data.toList).toArray⟩ : ByteArray) = start5 s) := h.out
  rw [h2.out]
  clear h h2
  go_wp2
  go_ret
  exact ⟨rfl, hb⟩

/-- a byte that a byte 92 ahead of it turns -/
def esc5 (e : Bool) (s : ByteArray) (i : Nat) : Bool := e && tailN (s.extract 0 i) % 2 == 1
set_option maxHeartbeats 1600000 in
theorem isEscaped_impl (d : DialectD) (s : ByteArray) (i : Nat) (w : World) (hs : s.size ≤ 1048576) (hi : i ≤ s.size) :
    Calls Tryz.prog 139 #[dialectV d, .string s, .int .i64 (i : Int)] w fun e w' => e = .returned (.bool (esc5 d.esc s i)) ∧ Below w.heap.size w w' := by
  have HV : Hid (esc5 d.esc s i = (d.esc && tailN (s.extract 0 i) % 2 == 1)) := rfl
  generalize esc5 d.esc s i = r at *
  have hex : (s.extract 0 i).size ≤ 1048576 := by rw [ByteArray.size_extract]; omega
  have K2 := Lib.hid (fun w => tail_impl (s.extract 0 i) w (by unfold maxLen; omega))
  have htl : tailN (s.extract 0 i) ≤ 1048576 := Nat.le_trans (tailN_le _) hex
  have hiz : (i : Int) ≤ (s.size : Int) := by omega
  obtain ⟨d0, d1, d2, d3, d4, d5⟩ := d
  unfold dialectV
  simp only at HV ⊢
  have hb0 := (Below.refl w.heap.size w).alloc (Nat.le_refl _) (.cells #[.string d0, .string d1, .bool d2, .bool d3, .bool d4, .int .i64 d5] 25)
  generalize tailN (s.extract 0 i) = tn at *
  clear hex
  cases d4
  · have HD : Hid (r = false) := HV.out
    clear HV
    go_enter Tryz.func139, Tryz.ntmps139
    go_wp2
    go_ret
    exact ⟨by rw [HD.out]; rfl, hb0⟩
  · have HD : Hid (r = (((tn : Int) % 2) == 1)) := by
      unfold Hid
      rw [HV.out]
      rcases (show tn % 2 = 0 ∨ tn % 2 = 1 by omega) with h | h
      · rw [h, show (tn : Int) % 2 = 0 by omega]; rfl
      · rw [h, show (tn : Int) % 2 = 1 by omega]; rfl
    clear HV
    go_enter Tryz.func139, Tryz.ntmps139
    go_wp2_with fail
    refine (K2.out _).mono ?_
    rintro e w1 ⟨rfl, hb1⟩
    have hb2 := hb0.trans (hb1.mono hb0.size)
    clear hb1
    go_wp2
    go_ret
    exact ⟨by rw [HD.out]; rfl, hb2⟩

/-- a text that ends with a blank that is not meant -/
def ends5 (e : Bool) (s : ByteArray) : Bool := if h : 0 < s.size then blankB (s[s.size - 1]'(by omega)) && !esc5 e s (s.size - 1) else false
set_option maxHeartbeats 1600000 in
theorem endsWith_impl (d : DialectD) (s : ByteArray) (w : World) (hs : s.size ≤ 1048576) :
    Calls Tryz.prog 157 #[dialectV d, .string s] w fun e w' => e = .returned (.bool (ends5 d.esc s)) ∧ Below w.heap.size w w' := by
  by_cases hz : 0 < s.size
  · have HV : Hid (ends5 d.esc s = (blankB (s[s.size - 1]'(by omega)) && !esc5 d.esc s (s.size - 1))) := by unfold Hid ends5; rw [dif_pos hz]
    obtain ⟨k, hk⟩ : ∃ k, s.size = k + 1 := ⟨s.size - 1, by omega⟩
    have K1 := Lib.hid (fun w => isBlankD_any (s[k]'(by omega)) w)
    have K2 := Lib.hid (fun w => isEscaped_impl d s k w hs (by omega))
    have HV2 : Hid (ends5 d.esc s = (blankB (s[k]'(by omega)) && !esc5 d.esc s k)) := by
      have h := HV.out
      simp only [hk, Nat.add_sub_cancel] at h
      exact h
    clear HV
    have hkz : (s.size : Int) - 1 = (k : Int) := by omega
    have hkz2 : (k : Int) < (s.size : Int) := by omega
    generalize ends5 d.esc s = r at *
    generalize esc5 d.esc s k = ev at *
    obtain ⟨d0, d1, d2, d3, d4, d5⟩ := d
    unfold dialectV at *
    have hb0 := (Below.refl w.heap.size w).alloc (Nat.le_refl _) (.cells #[.string d0, .string d1, .bool d2, .bool d3, .bool d4, .int .i64 d5] 25)
    have hN : Hid (((k : Int)).toNat = k) := by unfold Hid; omega
    generalize hbl : blankB (s[k]'(by omega)) = bl at *
    clear hbl
    cases bl
    · have HD : Hid (r = false) := HV2.out
      clear HV2 K2
      go_enter Tryz.func157, Tryz.ntmps157
      go_wp2_with fail
      refine (K1.out _).mono ?_
      rintro e w1 ⟨rfl, rfl⟩
      go_wp2
      go_ret
      exact ⟨by rw [HD.out]; rfl, hb0⟩
    · have HD : Hid (r = !ev) := HV2.out
      clear HV2
      go_enter Tryz.func157, Tryz.ntmps157
      go_wp2_with fail
      refine (K1.out _).mono ?_
      rintro e w1 ⟨rfl, rfl⟩
      go_wp2_with fail
      refine (K2.out _).mono ?_
      rintro e w1 ⟨rfl, hb1⟩
      have hb2 := hb0.trans (hb1.mono hb0.size)
      clear hb1
      go_wp2
      go_ret
      exact ⟨by rw [HD.out]; rfl, hb2⟩
  · have HV : Hid (ends5 d.esc s = false) := by unfold Hid ends5; rw [dif_neg hz]
    have hz2 : (s.size : Int) = 0 := by omega
    obtain ⟨d0, d1, d2, d3, d4, d5⟩ := d
    unfold dialectV at *
    have hb0 := (Below.refl w.heap.size w).alloc (Nat.le_refl _) (.cells #[.string d0, .string d1, .bool d2, .bool d3, .bool d4, .int .i64 d5] 25)
    go_enter Tryz.func157, Tryz.ntmps157
    go_wp2
    go_ret
    exact ⟨by rw [HV.out]; rfl, hb0⟩

end Go.Proofs.YtkhkpjnpjgnckaaGreatDoor
