/- Environment files: leading blanks, names. The model's l08Lead, l01Letter, l01Digit, NameOk. -/
import Derived.Test.YthljlkngmfbeoaaProg
import Derived.Test.YthljlkngmfbeoaaPlain
import Derived.Test.YthljlkngmfbeoaaTrim
import Derived.WalkKit
import Derived.WalkLawsBesides
import Derived.BigQuiet
import Derived.Deep.QuietTactic
import Derived.Lib.QuietBelow
import Derived.Laws.IdiomStrings
import Derived.Lib.Hide
import Derived.IntWalk
set_option maxRecDepth 100000
namespace Go.Proofs.Ythljlkngmfbeoaa
open Go.RowKit Go.Sort
set_option linter.unusedVariables false
set_option linter.unusedSimpArgs false

theorem text_noneE (x : ByteArray) (h : x.size = 0) : (x.toList == []) = true ∧ x.toList.isEmpty = true := by
  have : x.toList = [] := by
    rw [Lib.toList_data]
    apply List.eq_nil_of_length_eq_zero
    rw [← Lib.size_eq]
    exact h
  rw [this]
  exact ⟨rfl, rfl⟩
theorem text_someE (x : ByteArray) (h : 0 < x.size) : (x.toList == []) = false ∧ x.toList.isEmpty = false := by
  rw [Lib.toList_data]
  cases hl : x.data.toList with
  | nil =>
    have h2 := Lib.size_eq x
    rw [hl, List.length_nil] at h2
    omega
  | cons c t => exact ⟨rfl, rfl⟩
theorem head_tailE (z : ByteArray) (h : 0 < z.size) : z.data.toList = z[0] :: (z.extract 1 z.size).data.toList := by
  have hl : 0 < z.data.toList.length := by rw [← Lib.size_eq]; exact h
  have h1 : (z.extract 1 z.size).data.toList = z.data.toList.drop 1 := by
    rw [Lib.extract_eq]
    simp only [Lib.size_eq]
    rw [List.take_of_length_le (by simp)]
  rw [h1]
  conv => lhs; rw [← List.drop_zero (l := z.data.toList), List.drop_eq_getElem_cons hl]
  rfl
/-- a text without the gaps at its beginning -/
def leadE (s : ByteArray) : ByteArray := ⟨(s.data.toList.dropWhile blankB).toArray⟩
theorem leadE_none (z : ByteArray) (h : z.size = 0) : leadE z = z := by
  have : z.data.toList = [] := by apply List.eq_nil_of_length_eq_zero; rw [← Lib.size_eq]; exact h
  apply ByteArray.ext
  apply Array.toList_inj.1
  show z.data.toList.dropWhile blankB = z.data.toList
  rw [this]
  rfl
theorem leadE_here (z : ByteArray) (h : 0 < z.size) (hb : blankB z[0] = false) : leadE z = z := by
  apply ByteArray.ext
  apply Array.toList_inj.1
  show z.data.toList.dropWhile blankB = z.data.toList
  rw [head_tailE z h, List.dropWhile_cons_of_neg (by simp [hb])]
theorem leadE_on (z : ByteArray) (h : 0 < z.size) (hb : blankB z[0] = true) : leadE (z.extract 1 z.size) = leadE z := by
  apply ByteArray.ext
  apply Array.toList_inj.1
  show (z.extract 1 z.size).data.toList.dropWhile blankB = z.data.toList.dropWhile blankB
  rw [head_tailE z h, List.dropWhile_cons_of_pos hb]
theorem leadE_size (z : ByteArray) : (leadE z).size ≤ z.size := by
  rw [Lib.size_eq, Lib.size_eq]
  exact (List.dropWhile_sublist _).length_le
def textLenE (v : Value) : Nat := match v with | .string z => z.size | _ => 0
/-- letters and digits -/
def letterB (c : UInt8) : Bool := (decide (65 ≤ (c.toNat : Int)) && decide ((c.toNat : Int) ≤ 90)) || (decide (97 ≤ (c.toNat : Int)) && decide ((c.toNat : Int) ≤ 122))
def digitB (c : UInt8) : Bool := decide (48 ≤ (c.toNat : Int)) && decide ((c.toNat : Int) ≤ 57)
theorem in_anyE (x a b : Int) (w : World) :
    Calls Try.prog 8 #[.int .i64 x, .int .i64 a, .int .i64 b] w fun e w' => e = .returned (.bool (decide (a ≤ x) && decide (x ≤ b))) ∧ w = w' := by
  by_cases h1 : a ≤ x
  · by_cases h2 : x ≤ b
    · have e1 : decide (a ≤ x) = true := decide_eq_true h1
      have e2 : decide (x ≤ b) = true := decide_eq_true h2
      have hv : Hid ((decide (a ≤ x) && decide (x ≤ b)) = true) := by unfold Hid; rw [e1, e2]; rfl
      go_enter Try.func8, Try.ntmps8
      go_wp2
      go_ret
      exact ⟨by first | rfl | (rw [hv.out]; rfl), rfl⟩
    · have e1 : decide (a ≤ x) = true := decide_eq_true h1
      have e2 : decide (x ≤ b) = false := decide_eq_false h2
      have hv : Hid ((decide (a ≤ x) && decide (x ≤ b)) = false) := by unfold Hid; rw [e1, e2]; rfl
      go_enter Try.func8, Try.ntmps8
      go_wp2
      go_ret
      exact ⟨by first | rfl | (rw [hv.out]; rfl), rfl⟩
  · have e1 : decide (a ≤ x) = false := decide_eq_false h1
    have hv : Hid ((decide (a ≤ x) && decide (x ≤ b)) = false) := by unfold Hid; rw [e1]; rfl
    go_enter Try.func8, Try.ntmps8
    go_wp2
    go_ret
    exact ⟨by first | rfl | (rw [hv.out]; rfl), rfl⟩
theorem digit_anyE (c : UInt8) (w : World) :
    Calls Try.prog 7 #[.int .u8 c.toNat] w fun e w' => e = .returned (.bool (digitB c)) ∧ w = w' := by
  have K := Lib.hid (fun w => in_anyE (c.toNat : Int) 48 57 w)
  have hlt := c.toNat_lt
  have hw : IntKind.i64.wrap (c.toNat : Int) = (c.toNat : Int) := IntWalk.i64_in _ (by omega)
  have HV : Hid (digitB c = (decide (48 ≤ (c.toNat : Int)) && decide ((c.toNat : Int) ≤ 57))) := rfl
  go_enter Try.func7, Try.ntmps7
  go_wp2_with fail
  refine (K.out _).mono ?_
  rintro e w1 ⟨rfl, rfl⟩
  rw [← HV.out]
  go_wp2
  go_ret
  exact ⟨rfl, rfl⟩
theorem letter_anyE (c : UInt8) (w : World) :
    Calls Try.prog 6 #[.int .u8 c.toNat] w fun e w' => e = .returned (.bool (letterB c)) ∧ w = w' := by
  have K := Lib.hid (fun w => in_anyE (c.toNat : Int) 65 90 w)
  have K2 := Lib.hid (fun w => in_anyE (c.toNat : Int) 97 122 w)
  have hlt := c.toNat_lt
  have hw : IntKind.i64.wrap (c.toNat : Int) = (c.toNat : Int) := IntWalk.i64_in _ (by omega)
  have HV : Hid (letterB c = ((decide (65 ≤ (c.toNat : Int)) && decide ((c.toNat : Int) ≤ 90)) || (decide (97 ≤ (c.toNat : Int)) && decide ((c.toNat : Int) ≤ 122)))) := rfl
  generalize (decide (65 ≤ (c.toNat : Int)) && decide ((c.toNat : Int) ≤ 90)) = b1 at *
  generalize (decide (97 ≤ (c.toNat : Int)) && decide ((c.toNat : Int) ≤ 122)) = b2 at *
  go_enter Try.func6, Try.ntmps6
  go_wp2_with fail
  refine (K.out _).mono ?_
  rintro e w1 ⟨rfl, rfl⟩
  cases b1
  · go_wp2_with fail
    refine (K2.out _).mono ?_
    rintro e w1 ⟨rfl, rfl⟩
    go_wp2
    go_ret
    exact ⟨by rw [HV.out]; rfl, rfl⟩
  · go_wp2
    go_ret
    exact ⟨by rw [HV.out]; rfl, rfl⟩

/-- a name's bytes, from a place on -/
def nameAt (s : ByteArray) (k : Nat) : Bool := if h : k < s.size then letterB s[k] || s[k] == 95 || (decide (0 < k) && digitB s[k]) else true
def nameTo (s : ByteArray) : Nat → Bool
  | 0 => true
  | k + 1 => nameTo s k && nameAt s k
theorem nameTo_false {s : ByteArray} {k : Nat} (h : nameTo s (k + 1) = false) : ∀ m, k + 1 ≤ m → nameTo s m = false := by
  intro m hm
  induction m with
  | zero => omega
  | succ m ih =>
    by_cases e : m = k
    · rw [e]; exact h
    · show (nameTo s m && nameAt s m) = false
      rw [ih (by omega)]; rfl
/-- is it a name -/
def nameB (s : ByteArray) : Bool := nameTo s s.size && (decide (1 ≤ (s.size : Int)) && decide ((s.size : Int) ≤ 40))
set_option maxHeartbeats 1600000 in
theorem nameOk_spec (s : ByteArray) (w : World) (hs : s.size ≤ 1048576) :
    Calls Try.prog 4 #[.string s] w fun e w' => e = .returned (.bool (nameB s)) ∧ Below w.heap.size w w' := by
  have KI := Lib.hid (fun w => in_anyE (s.size : Int) 1 40 w)
  go_enter Try.func4, Try.ntmps4
  go_wp2
  go_loopw [3] (fun i wr => ∃ k : Nat, k ≤ s.size ∧ i = .int .i64 k ∧ nameTo s k = true ∧ Below w.heap.size w wr) (fun i _ => s.size - (intOf i).toNat)
  case atStart => exact ⟨0, Nat.zero_le _, rfl, rfl, Below.refl _ _⟩
  case round =>
    obtain ⟨k, hk, rfl, hn, hb⟩ := hrel
    by_cases hlt : k < s.size
    · have hki : (k : Int) < (s.size : Int) := by omega
      have KL := Lib.hid (fun w => letter_anyE s[k] w)
      have KD := Lib.hid (fun w => digit_anyE s[k] w)
      have HN1 : Hid (nameTo s (k + 1) = nameAt s k) := by show (nameTo s k && nameAt s k) = _; rw [hn]; rfl
      have HV : Hid (nameAt s k = (letterB s[k] || s[k] == 95 || (decide (0 < k) && digitB s[k]))) := by unfold Hid nameAt; rw [dif_pos hlt]
      have h95 : ∀ b, (s[k] == 95) = b → ((s[k].toNat : Int) != 95) = !b := by
        intro b h
        rw [← h]
        by_cases e : s[k] = 95
        · rw [e]; rfl
        · have : ((s[k].toNat : Int) == 95) = false := by rw [beq_eq_false_iff_ne]; intro e2; exact e (UInt8.toNat_inj.1 (Int.ofNat_inj.1 e2))
          rw [bne, this]; simp [e]
      have hz : ((k : Int) == 0) = !decide (0 < k) := by
        by_cases e : 0 < k
        · rw [decide_eq_true e, beq_eq_false_iff_ne.2 (by omega)]; rfl
        · have : k = 0 := by omega
          rw [this]; rfl
      obtain ⟨b2, hb2⟩ : ∃ b, (s[k] == 95) = b := ⟨_, rfl⟩
      have h96 := h95 b2 hb2
      rw [hb2] at HV
      generalize letterB s[k] = b1 at *
      generalize digitB s[k] = b4 at *
      obtain ⟨b3, hb3⟩ : ∃ b, decide (0 < k) = b := ⟨_, rfl⟩
      rw [hb3] at HV hz
      generalize hna : nameAt s k = q at *
      have HF : Hid (q = false → nameB s = false) := by
        intro h
        unfold nameB
        rw [nameTo_false (k := k) (by rw [HN1.out, h]) s.size (by omega)]
        rfl
      clear h95 hb2 hna hb3
      cases b1 <;> cases b2 <;> cases b3 <;> cases b4
      all_goals
        have HQ := Lib.hid HV.out
        simp only [Bool.or_true, Bool.or_false, Bool.true_or, Bool.false_or, Bool.and_true, Bool.and_false, Bool.true_and, Bool.false_and, Bool.or_self, Bool.and_self] at HQ
        simp only [Bool.not_true, Bool.not_false] at h96 hz
        clear HV
        go_wp2_with fail
        refine (KL.out _).mono ?_
        rintro e w1 ⟨rfl, rfl⟩
        first
          | (go_wp2_with fail
             refine (KD.out _).mono ?_
             rintro e w2 ⟨rfl, rfl⟩
             first
               | (go_wp2
                  go_roundw
                  case rel => exact ⟨k + 1, by omega, by go_num, by rw [HN1.out, HQ.out], hb⟩
                  case measure => simp [intOf]; omega)
               | (go_wp2
                  go_ret
                  exact ⟨by rw [HF.out HQ.out]; rfl, hb⟩))
          | (go_wp2
             go_roundw
             case rel => exact ⟨k + 1, by omega, by go_num, by rw [HN1.out, HQ.out], hb⟩
             case measure => simp [intOf]; omega)
          | (go_wp2
             go_ret
             exact ⟨by rw [HF.out HQ.out]; rfl, hb⟩)
    · obtain rfl : k = s.size := by omega
      have hki : ¬ (s.size : Int) < (s.size : Int) := by omega
      have HV : Hid (nameB s = (decide (1 ≤ (s.size : Int)) && decide ((s.size : Int) ≤ 40))) := by unfold Hid nameB; rw [hn]; rfl
      go_wp2_with fail
      refine (KI.out _).mono ?_
      rintro e w1 ⟨rfl, rfl⟩
      rw [← HV.out]
      go_wp2
      go_ret
      exact ⟨rfl, hb⟩

end Go.Proofs.Ythljlkngmfbeoaa
