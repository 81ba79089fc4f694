/- Names of variables: the program's NameOk. -/
import Derived.Test.YtkhkpjnpjgnckaaGreatDoorProg
import Derived.Test.YtkhkpjnpjgnckaaGreatDoorPlain
import Derived.Test.YtkhkpjnpjgnckaaGreatDoorCut
import Derived.Test.YtkhkpjnpjgnckaaGreatDoorEnvOne
import Derived.WalkKit
import Derived.WalkLawsBesides
import Derived.Lib.Hide
import Derived.IntWalk
import Derived.Outline
set_option maxRecDepth 100000
namespace Go.Proofs.YtkhkpjnpjgnckaaGreatDoor
open Go.RowKit Go.Sort
set_option linter.unusedVariables false

abbrev digitsN : ByteArray := ⟨#[48, 49, 50, 51, 52, 53, 54, 55, 56, 57]⟩
abbrev namesN : ByteArray := ⟨#[48, 49, 50, 51, 52, 53, 54, 55, 56, 57, 95, 65, 66, 67, 68, 69, 70, 71, 72, 73, 74, 75, 76, 77, 78, 79, 80, 81, 82, 83, 84, 85, 86, 87, 88, 89, 90, 97, 98, 99, 100, 101, 102, 103, 104, 105, 106, 107, 108, 109, 110, 111, 112, 113, 114, 115, 116, 117, 118, 119, 120, 121, 122]⟩
theorem bytes_all {p q : UInt8 → Bool} (h : (List.range 256).all (fun n => p n.toUInt8 == q n.toUInt8) = true) (c : UInt8) : p c = q c := by
  have h1 := List.all_eq_true.1 h c.toNat (by have := c.toNat_lt; simp; omega)
  have e : c.toNat.toUInt8 = c := by simp
  rw [e] at h1
  simpa using h1
theorem digits_has (c : UInt8) : hasB digitsN c = digitB c := bytes_all (p := hasB digitsN) (q := digitB) (by decide +kernel) c
theorem names_has (c : UInt8) : hasB namesN c = (letterB c || c == 95 || digitB c) := bytes_all (p := hasB namesN) (q := fun c => letterB c || c == 95 || digitB c) (by decide +kernel) c
theorem letter_digit (c : UInt8) : ((letterB c || c == 95) && digitB c) = false := bytes_all (p := fun c => (letterB c || c == 95) && digitB c) (q := fun _ => false) (by decide +kernel) c
/-- only bytes of names, up to a place -/
def bytesN (s : ByteArray) : Nat → Bool
  | 0 => true
  | k + 1 => bytesN s k && (if h : k < s.size then hasB namesN s[k] else true)
theorem bytesN_false {s : ByteArray} {k : Nat} (h : bytesN s k = false) : ∀ m, k ≤ m → bytesN s m = false := by
  intro m hm
  induction m with
  | zero => have : k = 0 := by omega
            rw [this] at h; cases h
  | succ m ih =>
    by_cases e : k = m + 1
    · rw [← e]; exact h
    · show (bytesN s m && _) = false
      rw [ih (by omega)]; rfl
theorem bytes_names (s : ByteArray) (h0 : 0 < s.size) : ∀ k, nameTo s (k + 1) = (bytesN s (k + 1) && !digitB s[0]) := by
  have hld := letter_digit s[0]
  have hn := names_has s[0]
  intro k
  induction k with
  | zero =>
    show (true && nameAt s 0) = ((true && (if h : 0 < s.size then hasB namesN s[0] else true)) && !digitB s[0])
    unfold nameAt
    rw [dif_pos h0, dif_pos h0, hn]
    generalize letterB s[0] = a at *
    generalize (s[0] == 95) = b at *
    generalize digitB s[0] = d at *
    revert hld
    cases a <;> cases b <;> cases d <;> decide
  | succ k ih =>
    show (nameTo s (k + 1) && nameAt s (k + 1)) = ((bytesN s (k + 1) && (if h : k + 1 < s.size then hasB namesN s[k + 1] else true)) && !digitB s[0])
    rw [ih]
    unfold nameAt
    by_cases h : k + 1 < s.size
    · simp only [dif_pos h, names_has]
      have e : decide (0 < k + 1) = true := by simp
      rw [e]
      generalize bytesN s (k + 1) = a
      generalize digitB s[0] = d
      generalize (letterB s[k + 1] || s[k + 1] == 95) = b
      generalize digitB s[k + 1] = f
      cases a <;> cases d <;> cases b <;> cases f <;> decide
    · simp only [dif_neg h, Bool.and_true]
theorem name_bytes (s : ByteArray) (h0 : 0 < s.size) : nameB s = ((decide ((1 : Int) ≤ s.size) && decide ((s.size : Int) ≤ 40)) && (bytesN s s.size && !digitB s[0])) := by
  unfold nameB
  obtain ⟨k, hk⟩ : ∃ k, s.size = k + 1 := ⟨s.size - 1, by omega⟩
  have := bytes_names s h0 k
  rw [← hk] at this
  rw [this, Bool.and_comm]

set_option maxHeartbeats 1600000 in
theorem nameOk_impl (s : ByteArray) (w : World) (hs : s.size ≤ 1048576) :
    Calls Tryz.prog 68 #[.string s] w fun e w' => e = .returned (.bool (nameB s)) ∧ Below w.heap.size w w' := by
  have H0 : Hid (∀ h : 0 < s.size, nameB s = ((decide ((1 : Int) ≤ s.size) && decide ((s.size : Int) ≤ 40)) && (bytesN s s.size && !digitB s[0]))) := fun h => name_bytes s h
  have HE : Hid (s.size = 0 → nameB s = false) := by
    intro h
    unfold nameB
    rw [h]
    rfl
  generalize nameB s = r at *
  go_enter Tryz.func68, Tryz.ntmps68
  go_wp2
  go_loopw [6] (fun i wr => ∃ k : Nat, k ≤ s.size ∧ i = .int .i64 k ∧ Hid (bytesN s k = true) ∧ Below w.heap.size w wr) (fun i _ => s.size - (intOf i).toNat)
  case atStart => exact ⟨0, Nat.zero_le _, rfl, rfl, Below.refl _ _⟩
  case round =>
    obtain ⟨k, hk, rfl, hn, hb⟩ := hrel
    by_cases hlt : k < s.size
    · have hki : (k : Int) < (s.size : Int) := by omega
      have KD := Lib.hid (fun w => hasByte_any namesN s[k] w)
      have HB : Hid (bytesN s (k + 1) = hasB namesN s[k]) := by
        show (bytesN s k && _) = _
        rw [hn.out, dif_pos hlt]
        rfl
      generalize hasB namesN s[k] = b at *
      cases b
      · have HF : Hid (r = false) := by
          unfold Hid
          rw [H0.out (by omega), bytesN_false HB.out s.size (by omega)]
          simp
        clear HB hn H0 HE
        go_wp2_with fail
        refine (KD.out _).mono ?_
        rintro e w1 ⟨rfl, rfl⟩
        go_wp2
        go_ret
        exact ⟨by rw [HF.out]; rfl, hb⟩
      · clear hn
        go_wp2_with fail
        refine (KD.out _).mono ?_
        rintro e w1 ⟨rfl, rfl⟩
        go_wp2
        go_roundw
        case rel => exact ⟨k + 1, by omega, by go_num, HB, hb⟩
        case measure => simp [intOf]; omega
    · obtain rfl : k = s.size := by omega
      have hki : ¬ (s.size : Int) < (s.size : Int) := by omega
      by_cases h0 : 0 < s.size
      · have h1 : (1 : Int) ≤ (s.size : Int) := by omega
        have h0z : (0 : Int) < (s.size : Int) := by omega
        have KD := Lib.hid (fun w => hasByte_any digitsN s[0] w)
        rw [digits_has] at KD
        have HF0 : Hid (r = (decide ((s.size : Int) ≤ 40) && !digitB s[0])) := by
          unfold Hid
          rw [H0.out h0, hn.out, decide_eq_true h1]
          simp
        clear hn H0 HE
        generalize digitB s[0] = d at *
        by_cases h40 : (s.size : Int) ≤ 40
        · have HF : Hid (r = !d) := by unfold Hid; rw [HF0.out, decide_eq_true h40]; rfl
          clear HF0
          go_wp2_with fail
          refine (KD.out _).mono ?_
          rintro e w1 ⟨rfl, rfl⟩
          go_wp2
          go_ret
          exact ⟨by rw [HF.out]; rfl, hb⟩
        · have HF : Hid (r = false) := by unfold Hid; rw [HF0.out, decide_eq_false h40]; rfl
          clear HF0 KD
          go_wp2
          go_ret
          exact ⟨by rw [HF.out]; rfl, hb⟩
      · have hz : (s.size : Int) = 0 := by omega
        have HF := Lib.hid (HE.out (by omega))
        have h1 : ¬ (1 : Int) ≤ (s.size : Int) := by omega
        clear hn H0 HE
        go_wp2
        go_ret
        exact ⟨by rw [HF.out]; rfl, hb⟩

end Go.Proofs.YtkhkpjnpjgnckaaGreatDoor
