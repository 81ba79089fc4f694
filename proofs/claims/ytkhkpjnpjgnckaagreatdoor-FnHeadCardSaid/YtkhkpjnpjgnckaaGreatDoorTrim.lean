/- The contracts of Trim. -/
import Derived.Test.YtkhkpjnpjgnckaaGreatDoorProg
import Derived.Test.YtkhkpjnpjgnckaaGreatDoorPlain
import Derived.WalkKit
import Derived.WalkLawsBesides
import Derived.Lib.SlTrimSet
import Derived.Lib.Hide
import Derived.IntWalk
namespace Go.Proofs.YtkhkpjnpjgnckaaGreatDoor
open Go.RowKit
set_option linter.unusedVariables false

/-- a space or a tab -/
def blankB (c : UInt8) : Bool := c == 32 || c == 9
theorem blank_set (c : UInt8) : ([32, 9] : List UInt8).contains c = blankB c := by
  unfold blankB
  simp only [List.contains_cons, List.contains_nil, Bool.or_false]
theorem blank_any (c : UInt8) (w : World) :
    Calls Tryz.prog 90 #[.int .u8 c.toNat] w fun e w' => e = .returned (.bool (blankB c)) ∧ w = w' := by
  by_cases h1 : c = 32
  · have hb : ((c.toNat : Int) == 32) = true := by rw [h1]; rfl
    have h3 : Hid (blankB c = true) := by unfold Hid blankB; rw [h1]; rfl
    clear h1
    go_enter Tryz.func90, Tryz.ntmps90
    go_wp2
    go_ret
    exact ⟨by rw [h3.out]; rfl, rfl⟩
  · have hb : ((c.toNat : Int) == 32) = false := by
      rw [beq_eq_false_iff_ne]; intro e; apply h1; apply UInt8.toNat_inj.1; exact Int.ofNat_inj.1 e
    by_cases h2 : c = 9
    · have hb2 : ((c.toNat : Int) == 9) = true := by rw [h2]; rfl
      have h3 : Hid (blankB c = true) := by unfold Hid blankB; rw [h2]; rfl
      clear h1 h2
      go_enter Tryz.func90, Tryz.ntmps90
      go_wp2
      go_ret
      exact ⟨by rw [h3.out]; rfl, rfl⟩
    · have hb2 : ((c.toNat : Int) == 9) = false := by
        rw [beq_eq_false_iff_ne]; intro e; apply h2; apply UInt8.toNat_inj.1; exact Int.ofNat_inj.1 e
      have h3 : Hid (blankB c = false) := by unfold Hid blankB; simp [h1, h2]
      clear h1 h2
      go_enter Tryz.func90, Tryz.ntmps90
      go_wp2
      go_ret
      exact ⟨by rw [h3.out]; rfl, rfl⟩

def PreB (s : ByteArray) (k : Nat) : Prop := ∀ j (h : j < s.size), j < k → blankB s[j] = true
def SufB (s : ByteArray) (k : Nat) : Prop := ∀ j (h : j < s.size), k ≤ j → blankB s[j] = true
theorem preB_zero (s : ByteArray) : PreB s 0 := fun j _ h => by omega
theorem preB_succ {s : ByteArray} {k : Nat} (h : PreB s k) (hk : k < s.size) (hb : blankB s[k] = true) : PreB s (k + 1) := by
  intro j hj hjk
  by_cases e : j = k
  · subst e; exact hb
  · exact h j hj (by omega)
theorem sufB_end (s : ByteArray) : SufB s s.size := fun j h h2 => by omega
theorem sufB_pred {s : ByteArray} {k : Nat} (h : SufB s (k + 1)) (hk : k < s.size) (hb : blankB s[k] = true) : SufB s k := by
  intro j hj hjk
  by_cases e : j = k
  · subst e; exact hb
  · exact h j hj (by omega)

/-- a text without the blanks at its ends -/
def trimL (l : List UInt8) : List UInt8 := Lib.trimS l [32, 9]
theorem at_some {s : ByteArray} {j : Nat} {b : UInt8} (h : s.data.toList[j]? = some b) : ∃ hj : j < s.size, s[j] = b := by
  obtain ⟨hj, e⟩ := List.getElem?_eq_some_iff.1 h
  exact ⟨by simpa using hj, e⟩
theorem trim_cut {s : ByteArray} {a b : Nat} (hab : a ≤ b) (hb : b ≤ s.size) (h1 : PreB s a) (h2 : SufB s b) (h3 : a < b → ∀ (ha : a < s.size) (hb : b - 1 < s.size), blankB s[a] = false ∧ blankB s[b - 1] = false) :
    (⟨(trimL s.data.toList).toArray⟩ : ByteArray) = s.extract a b := by
  have hl : s.data.toList.length = s.size := by simp
  rw [Lib.extract_eq]
  congr 2
  unfold trimL Lib.trimS
  by_cases e : a = b
  · subst e
    rw [Lib.trimRightS_take s.data.toList [32, 9] 0 (by omega) (fun j x _ hx => by
      obtain ⟨hj, rfl⟩ := at_some hx
      rw [blank_set]
      by_cases hja : j < a
      · exact h1 j hj hja
      · exact h2 j hj (by omega)) (fun _ h _ => by omega)]
    simp [Lib.trimLeftS]
  · have hlt : a < b := by omega
    obtain ⟨n1, n2⟩ := h3 hlt (by omega) (by omega)
    rw [Lib.trimRightS_take s.data.toList [32, 9] b (by omega) (fun j x hj hx => by
      obtain ⟨hj', rfl⟩ := at_some hx
      rw [blank_set]
      exact h2 j hj' hj) (fun x _ hx => by
      obtain ⟨hj', rfl⟩ := at_some hx
      rw [blank_set]
      exact n2)]
    rw [Lib.trimLeftS_drop (s.data.toList.take b) [32, 9] a (by simp; omega) (fun j x hj hx => by
      rw [List.getElem?_take, if_pos (by omega)] at hx
      obtain ⟨hj', rfl⟩ := at_some hx
      rw [blank_set]
      exact h1 j hj' hj) (fun x hx => by
      rw [List.getElem?_take, if_pos (by omega)] at hx
      obtain ⟨hj', rfl⟩ := at_some hx
      rw [blank_set]
      exact n1)]
    rw [List.drop_take]

set_option maxRecDepth 100000 in
set_option maxHeartbeats 800000 in
theorem trim_spec (s : ByteArray) (w : World) (hs : s.size ≤ maxLen) :
    Calls Tryz.prog 88 #[.string s] w fun e w' => e = .returned (.string ⟨(trimL s.data.toList).toArray⟩) ∧ w = w' := by
  unfold maxLen at hs
  go_enter Tryz.func88, Tryz.ntmps88
  go_wp2
  go_loop [3] (fun x => ∃ a : Nat, a ≤ s.size ∧ x = .int .i64 a ∧ PreB s a) (fun x => s.size - (intOf x).toNat)
  case atStart => exact ⟨0, Nat.zero_le _, rfl, preB_zero _⟩
  case round =>
    obtain ⟨a, ha, rfl, hpre⟩ := hrel
    have fin : a < s.size → ∀ (h : a < s.size), blankB s[a] = false → True := fun _ _ _ => trivial
    clear fin
    by_cases hlt : a < s.size
    · cases hb : blankB s[a]
      · have HN := Lib.hid hb
        clear hb
        go_wp2_with fail
        refine (blank_any s[a] _).mono ?_
        rintro e w' ⟨rfl, rfl⟩
        rw [HN.out]
        go_wp2
        go_loop [4] (fun y => ∃ b : Nat, a < b ∧ b ≤ s.size ∧ y = .int .i64 b ∧ SufB s b) (fun y => (intOf y).toNat)
        case atStart => exact ⟨s.size, hlt, Nat.le_refl _, rfl, sufB_end _⟩
        case round =>
          obtain ⟨b, hab, hbs, rfl, hsuf⟩ := hrel
          obtain ⟨c, rfl⟩ : ∃ c, b = c + 1 := ⟨b - 1, by omega⟩
          have hc : c < s.size := by omega
          have hcast : (((c + 1 : Nat)) : Int) = (c : Int) + 1 := by omega
          rw [hcast]
          cases hbl : blankB s[c]
          · have HF : Hid ((⟨(trimL s.data.toList).toArray⟩ : ByteArray) = s.extract a (c + 1)) := trim_cut (by omega) hbs hpre hsuf (fun _ _ _ => ⟨HN.out, hbl⟩)
            have HB := Lib.hid hbl
            clear hbl hcast
            go_wp2_with fail
            refine (blank_any s[c] _).mono ?_
            rintro e w' ⟨rfl, rfl⟩
            rw [HB.out]
            have q1 : (a : Int) ≤ (c : Int) + 1 := by omega
            have q2 : (c : Int) + 1 ≤ (s.size : Int) := by omega
            have q3 : ((c : Int) + 1).toNat = c + 1 := by omega
            have q4 : 0 ≤ (c : Int) + 1 := by omega
            go_wp2
            go_ret
            exact ⟨by rw [HF.out]; rfl, rfl⟩
          · have hac : a < c := by
              rcases Nat.lt_or_ge a c with h | h
              · exact h
              · exfalso
                have e : a = c := by omega
                subst e
                rw [HN.out] at hbl
                cases hbl
            have hsuf2 := sufB_pred hsuf hc hbl
            have HB := Lib.hid hbl
            clear hbl hcast hsuf
            go_wp2_with fail
            refine (blank_any s[c] _).mono ?_
            rintro e w' ⟨rfl, rfl⟩
            rw [HB.out]
            go_wp2
            go_round
            case rel => exact ⟨c, hac, by omega, by go_num, hsuf2⟩
            case measure => simp [intOf]
      · have hpre2 := preB_succ hpre hlt hb
        have HB := Lib.hid hb
        clear hb hpre
        go_wp2_with fail
        refine (blank_any s[a] _).mono ?_
        rintro e w' ⟨rfl, rfl⟩
        rw [HB.out]
        go_wp2
        go_round
        case rel => exact ⟨a + 1, by omega, by go_num, hpre2⟩
        case measure => simp [intOf]; omega
    · obtain rfl : a = s.size := by omega
      have HF : Hid ((⟨(trimL s.data.toList).toArray⟩ : ByteArray) = ByteArray.empty) := (trim_cut (Nat.le_refl _) (Nat.le_refl _) hpre (sufB_end _) (fun h => by omega)).trans (by simp)
      clear hpre
      go_wp2_with fail
      refine wp_loop_rounds 1 ?_
      rw [rounds_succ]
      go_wp2
      go_ret
      exact ⟨by rw [HF.out]; rfl, rfl⟩

end Go.Proofs.YtkhkpjnpjgnckaaGreatDoor
