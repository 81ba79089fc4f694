/- Settings for a shell: the model's EnvEscape. -/
import Derived.Test.YtkhkpjnpjgnckaaGreatDoorProg
import Derived.Test.YtkhkpjnpjgnckaaGreatDoorPlain
import Derived.Test.YtkhkpjnpjgnckaaGreatDoorEnvOne
import Derived.Test.YtkhkpjnpjgnckaaGreatDoorEnvEscPure
import Derived.WalkKit
import Derived.WalkLawsBesides
import Derived.OwnWalk
import Derived.Maps.AppendAt
import Derived.Laws.IdiomStrings
import Derived.Lib.Hide
import Derived.IntWalk
import Derived.Outline
set_option maxRecDepth 100000
namespace Go.Proofs.YtkhkpjnpjgnckaaGreatDoor
open Go.RowKit
set_option linter.unusedVariables false

theorem escVL_succ (s : ByteArray) (k : Nat) (h : k < s.size) : escVL (s.data.toList.take (k + 1)) = escVL (s.data.toList.take k) ++ escVC s[k] := by
  rw [Pl.take_snoc s k h]
  simp [escVL]
set_option maxHeartbeats 1600000 in
theorem envEscape_spec (s : ByteArray) (w : World) (hs : s.size ≤ 100000000) :
    Calls Tryz.prog 38 #[.string s] w fun e w' => e = .returned (.string (escVT s)) ∧ Below w.heap.size w w' := by
  obtain ⟨i0, hi, hz0, hz1, hz2⟩ := info_parts info_byteV
  have HSL := Lib.hid (Lib.size_eq s)
  have HR : Hid (escVT s = ⟨(escVL s.data.toList).toArray⟩) := rfl
  generalize escVT s = r at *
  go_enter Tryz.func38, Tryz.ntmps38
  go_wp2
  go_loopw [3, 4] (fun v i wr => ∃ (k : Nat) (l : List UInt8), k ≤ s.size ∧ i = .int .i64 k ∧ l.length ≤ 2 * k ∧ Hid (l = escVL (s.data.toList.take k)) ∧ wr.ownsRow w.heap.size 5 1 v l.length (Lib.byteCells l) ∧ Below w.heap.size w wr) (fun _ i _ => s.size - (intOf i).toNat)
  case atStart => exact ⟨0, [], Nat.zero_le _, rfl, Nat.le_refl _, rfl, World.ownsRow_lit w #[] 0 (Nat.le_refl _) (Nat.zero_le _) rfl, (Below.refl _ _).alloc (Nat.le_refl _) _⟩
  case round =>
    obtain ⟨k, l, hk, rfl, hl, hat, hown, hb⟩ := hrel
    have hwr := hb.size
    by_cases hlt : k < s.size
    · have hki : (k : Int) < (s.size : Int) := by omega
      have HA : Hid (∀ m, escVC s[k] = m → l ++ m = escVL (s.data.toList.take (k + 1))) := fun m h => by rw [escVL_succ s k hlt, ← h, ← hat.out]
      have hes : escVC s[k] = (if s[k] = 10 then [92, 110] else if s[k] = 9 then [92, 116] else if s[k] = 13 then [92, 114] else if s[k] = 92 ∨ s[k] = 34 ∨ s[k] = 36 then [92, s[k]] else [s[k]]) := rfl
      clear hat
      by_cases q1 : s[k] = 10
      · have e1 : ((s[k].toNat : Int) == 10) = true := byte_isE (d := 10) q1
        have hat2 := Lib.hid (HA.out [92, 110] (by rw [hes, if_pos q1]))
        clear HA hes
        go_wp2_with (at_builtin; refine wpList_append_own _ rfl _ _ 22 rfl w.heap.size 5 i0 (.int .u8 0) 1 1 Tryz.underlying22 hi hz0 hz1 hz2 rfl (by decide) _ _ _ rfl (hown.alloc _) ⟨wr.heap.size, 0, none⟩ 2 2 [.int .u8 92, .int .u8 110] rfl rfl (cell_two_newV _ _ _ _) (by simp [Value.oneCell']) (by unfold maxLen; omega) (by omega) (by simp; omega) ?_; intro v1 w1 hown' hgrow _)
        obtain ⟨ho2, hb2⟩ := own_stepV (m := [92, 110]) hb (Nat.le_refl _) hwr hown hown' hgrow
        clear hown' hgrow hown hb
        go_wp2
        go_roundw
        case rel => exact ⟨k + 1, l ++ [92, 110], by omega, by go_num, by simp; omega, hat2, ho2, hb2⟩
        case measure => simp [intOf]; omega
      have e1 : ((s[k].toNat : Int) == 10) = false := byte_noE (d := 10) q1
      rw [if_neg q1] at hes
      clear q1
      by_cases q2 : s[k] = 9
      · have e2 : ((s[k].toNat : Int) == 9) = true := byte_isE (d := 9) q2
        have hat2 := Lib.hid (HA.out [92, 116] (by rw [hes, if_pos q2]))
        clear HA hes
        go_wp2_with (at_builtin; refine wpList_append_own _ rfl _ _ 22 rfl w.heap.size 5 i0 (.int .u8 0) 1 1 Tryz.underlying22 hi hz0 hz1 hz2 rfl (by decide) _ _ _ rfl (hown.alloc _) ⟨wr.heap.size, 0, none⟩ 2 2 [.int .u8 92, .int .u8 116] rfl rfl (cell_two_newV _ _ _ _) (by simp [Value.oneCell']) (by unfold maxLen; omega) (by omega) (by simp; omega) ?_; intro v1 w1 hown' hgrow _)
        obtain ⟨ho2, hb2⟩ := own_stepV (m := [92, 116]) hb (Nat.le_refl _) hwr hown hown' hgrow
        clear hown' hgrow hown hb
        go_wp2
        go_roundw
        case rel => exact ⟨k + 1, l ++ [92, 116], by omega, by go_num, by simp; omega, hat2, ho2, hb2⟩
        case measure => simp [intOf]; omega
      have e2 : ((s[k].toNat : Int) == 9) = false := byte_noE (d := 9) q2
      rw [if_neg q2] at hes
      clear q2
      by_cases q3 : s[k] = 13
      · have e3 : ((s[k].toNat : Int) == 13) = true := byte_isE (d := 13) q3
        have hat2 := Lib.hid (HA.out [92, 114] (by rw [hes, if_pos q3]))
        clear HA hes
        go_wp2_with (at_builtin; refine wpList_append_own _ rfl _ _ 22 rfl w.heap.size 5 i0 (.int .u8 0) 1 1 Tryz.underlying22 hi hz0 hz1 hz2 rfl (by decide) _ _ _ rfl (hown.alloc _) ⟨wr.heap.size, 0, none⟩ 2 2 [.int .u8 92, .int .u8 114] rfl rfl (cell_two_newV _ _ _ _) (by simp [Value.oneCell']) (by unfold maxLen; omega) (by omega) (by simp; omega) ?_; intro v1 w1 hown' hgrow _)
        obtain ⟨ho2, hb2⟩ := own_stepV (m := [92, 114]) hb (Nat.le_refl _) hwr hown hown' hgrow
        clear hown' hgrow hown hb
        go_wp2
        go_roundw
        case rel => exact ⟨k + 1, l ++ [92, 114], by omega, by go_num, by simp; omega, hat2, ho2, hb2⟩
        case measure => simp [intOf]; omega
      have e3 : ((s[k].toNat : Int) == 13) = false := byte_noE (d := 13) q3
      rw [if_neg q3] at hes
      clear q3
      by_cases q4 : s[k] = 92
      · have e4 : ((s[k].toNat : Int) == 92) = true := byte_isE (d := 92) q4
        have hat2 := Lib.hid (HA.out [92, s[k]] (by rw [hes, if_pos (.inl q4)]))
        clear HA hes q4
        go_wp2_with (at_builtin; refine wpList_append_own _ rfl _ _ 22 rfl w.heap.size 5 i0 (.int .u8 0) 1 1 Tryz.underlying22 hi hz0 hz1 hz2 rfl (by decide) _ _ _ rfl (hown.alloc _) ⟨wr.heap.size, 0, none⟩ 2 2 [.int .u8 92, .int .u8 (s[k].toNat : Int)] rfl rfl (cell_two_newV _ _ _ _) (by simp [Value.oneCell']) (by unfold maxLen; omega) (by omega) (by simp; omega) ?_; intro v1 w1 hown' hgrow _)
        obtain ⟨ho2, hb2⟩ := own_stepV (m := [92, s[k]]) hb (Nat.le_refl _) hwr hown hown' hgrow
        clear hown' hgrow hown hb
        go_wp2
        go_roundw
        case rel => exact ⟨k + 1, l ++ [92, s[k]], by omega, by go_num, by simp; omega, hat2, ho2, hb2⟩
        case measure => simp [intOf]; omega
      have e4 : ((s[k].toNat : Int) == 92) = false := byte_noE (d := 92) q4
      by_cases q5 : s[k] = 34
      · have e5 : ((s[k].toNat : Int) == 34) = true := byte_isE (d := 34) q5
        have hat2 := Lib.hid (HA.out [92, s[k]] (by rw [hes, if_pos (.inr (.inl q5))]))
        clear HA hes q5
        go_wp2_with (at_builtin; refine wpList_append_own _ rfl _ _ 22 rfl w.heap.size 5 i0 (.int .u8 0) 1 1 Tryz.underlying22 hi hz0 hz1 hz2 rfl (by decide) _ _ _ rfl (hown.alloc _) ⟨wr.heap.size, 0, none⟩ 2 2 [.int .u8 92, .int .u8 (s[k].toNat : Int)] rfl rfl (cell_two_newV _ _ _ _) (by simp [Value.oneCell']) (by unfold maxLen; omega) (by omega) (by simp; omega) ?_; intro v1 w1 hown' hgrow _)
        obtain ⟨ho2, hb2⟩ := own_stepV (m := [92, s[k]]) hb (Nat.le_refl _) hwr hown hown' hgrow
        clear hown' hgrow hown hb
        go_wp2
        go_roundw
        case rel => exact ⟨k + 1, l ++ [92, s[k]], by omega, by go_num, by simp; omega, hat2, ho2, hb2⟩
        case measure => simp [intOf]; omega
      have e5 : ((s[k].toNat : Int) == 34) = false := byte_noE (d := 34) q5
      by_cases q6 : s[k] = 36
      · have e6 : ((s[k].toNat : Int) == 36) = true := byte_isE (d := 36) q6
        have hat2 := Lib.hid (HA.out [92, s[k]] (by rw [hes, if_pos (.inr (.inr q6))]))
        clear HA hes q6
        go_wp2_with (at_builtin; refine wpList_append_own _ rfl _ _ 22 rfl w.heap.size 5 i0 (.int .u8 0) 1 1 Tryz.underlying22 hi hz0 hz1 hz2 rfl (by decide) _ _ _ rfl (hown.alloc _) ⟨wr.heap.size, 0, none⟩ 2 2 [.int .u8 92, .int .u8 (s[k].toNat : Int)] rfl rfl (cell_two_newV _ _ _ _) (by simp [Value.oneCell']) (by unfold maxLen; omega) (by omega) (by simp; omega) ?_; intro v1 w1 hown' hgrow _)
        obtain ⟨ho2, hb2⟩ := own_stepV (m := [92, s[k]]) hb (Nat.le_refl _) hwr hown hown' hgrow
        clear hown' hgrow hown hb
        go_wp2
        go_roundw
        case rel => exact ⟨k + 1, l ++ [92, s[k]], by omega, by go_num, by simp; omega, hat2, ho2, hb2⟩
        case measure => simp [intOf]; omega
      have e6 : ((s[k].toNat : Int) == 36) = false := byte_noE (d := 36) q6
      have hat2 := Lib.hid (HA.out [s[k]] (by rw [hes, if_neg (fun h => h.elim q4 (fun h => h.elim q5 q6))]))
      clear HA hes q4 q5 q6
      go_wp2_with (at_builtin; refine wpList_append_own _ rfl _ _ 22 rfl w.heap.size 5 i0 (.int .u8 0) 1 1 Tryz.underlying22 hi hz0 hz1 hz2 rfl (by decide) _ _ _ rfl (hown.alloc _) ⟨wr.heap.size, 0, none⟩ 1 1 [.int .u8 (s[k].toNat : Int)] rfl rfl (cell_one_newV _ _ _) (by simp [Value.oneCell']) (by unfold maxLen; omega) (by omega) (by simp; omega) ?_; intro v1 w1 hown' hgrow _)
      obtain ⟨ho2, hb2⟩ := own_stepV (m := [s[k]]) hb (Nat.le_refl _) hwr hown hown' hgrow
      clear hown' hgrow hown hb
      go_wp2
      go_roundw
      case rel => exact ⟨k + 1, l ++ [s[k]], by omega, by go_num, by simp; omega, hat2, ho2, hb2⟩
      case measure => simp [intOf]; omega
    · obtain rfl : k = s.size := by omega
      have hcv := text_of_ownV wr _ _ _ l hown rfl
      have HF : Hid (r = ⟨l.toArray⟩) := by unfold Hid; rw [HR.out, hat.out, HSL.out, List.take_length]
      clear hat hown HR
      go_wp2
      go_ret
      exact ⟨by rw [HF.out]; rfl, hb⟩

end Go.Proofs.YtkhkpjnpjgnckaaGreatDoor
