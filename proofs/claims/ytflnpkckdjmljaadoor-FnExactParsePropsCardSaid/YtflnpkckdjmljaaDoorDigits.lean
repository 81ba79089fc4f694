/- Contracts of the functions that read digits. -/
import Derived.Test.YtflnpkckdjmljaaDoorProg
import Derived.Test.YtflnpkckdjmljaaDoorPlain
import Derived.Test.YtflnpkckdjmljaaDoorHex
import Derived.WalkKit
import Derived.WalkLawsBesides
import Derived.BigQuiet
import Derived.Deep.QuietTactic
import Derived.Lib.Hide
import Derived.IntWalk
import Derived.Laws.RangeAny
namespace Go.Proofs.YtflnpkckdjmljaaDoor
open Go.RowKit
set_option linter.unusedVariables false

theorem dv_any (r : Int) (w : World) (h0 : 0 ≤ r) :
    Calls Tryd.prog 131 #[.int .i32 r] w fun e w' => e = .returned (.int .i64 (Pl.dv r)) ∧ w = w' := by
  have key : (48 ≤ r ∧ r ≤ 57) ∨ (97 ≤ r ∧ r ≤ 102) ∨ (65 ≤ r ∧ r ≤ 70) ∨ (r < 48) ∨ (58 ≤ r ∧ r < 65) ∨ (71 ≤ r ∧ r < 97) ∨ (103 ≤ r) := by omega
  rcases key with h | h | h | h | h | h | h
  · have h3 : Hid (Pl.dv r = r - 48) := by unfold Hid Pl.dv; rw [if_pos h]
    obtain ⟨ha, hb⟩ := h
    go_enter Tryd.func131, Tryd.ntmps131
    go_wp2
    go_ret
    exact ⟨by rw [h3.out]; rfl, rfl⟩
  · have h3 : Hid (Pl.dv r = r - 87) := by unfold Hid Pl.dv; rw [if_neg (by omega), if_pos h]
    obtain ⟨ha, hb⟩ := h
    go_enter Tryd.func131, Tryd.ntmps131
    go_wp2
    go_ret
    exact ⟨by rw [h3.out]; go_num, rfl⟩
  · have h3 : Hid (Pl.dv r = r - 55) := by unfold Hid Pl.dv; rw [if_neg (by omega), if_neg (by omega), if_pos h]
    obtain ⟨ha, hb⟩ := h
    go_enter Tryd.func131, Tryd.ntmps131
    go_wp2
    go_ret
    exact ⟨by rw [h3.out]; go_num, rfl⟩
  all_goals
    have h3 : Hid (Pl.dv r = -1) := by unfold Hid Pl.dv; rw [if_neg (by omega), if_neg (by omega), if_neg (by omega)]
    go_enter Tryd.func131, Tryd.ntmps131
    go_wp2
    go_ret
    exact ⟨by rw [h3.out]; rfl, rfl⟩


theorem dig_dv_10 (c : UInt8) (h : Pl.okB 10 c = true) : Pl.dv (c.toNat : Int) = (Pl.dig c : Int) ∧ Pl.dig c < 10 := by
  have h2 : Pl.dig c < 10 := by simpa [Pl.okB] using h
  refine ⟨?_, h2⟩
  unfold Pl.dig at h2 ⊢
  unfold Pl.dv
  split at h2
  · rw [if_pos (by omega), if_pos (by omega)]; omega
  · split at h2
    · rw [if_neg (by omega), if_pos (by omega), if_neg (by omega), if_pos (by omega)]; omega
    · split at h2
      · rw [if_neg (by omega), if_neg (by omega), if_pos (by omega), if_neg (by omega), if_neg (by omega), if_pos (by omega)]; omega
      · omega
theorem dig_bad_10 (c : UInt8) (h : Pl.okB 10 c = false) : Pl.dv (c.toNat : Int) < 0 ∨ 10 ≤ Pl.dv (c.toNat : Int) := by
  have h2 : ¬ Pl.dig c < 10 := by simpa [Pl.okB] using h
  unfold Pl.dig at h2
  unfold Pl.dv
  split at h2
  · rw [if_pos (by omega)]; omega
  · split at h2
    · rw [if_neg (by omega), if_pos (by omega)]; omega
    · split at h2
      · rw [if_neg (by omega), if_neg (by omega), if_pos (by omega)]; omega
      · rw [if_neg (by omega), if_neg (by omega), if_neg (by omega)]; omega
theorem high_bad_10 (c : UInt8) (h : 128 ≤ c.toNat) : Pl.okB 10 c = false := by
  unfold Pl.okB Pl.dig
  rw [if_neg (by omega), if_neg (by omega), if_neg (by omega)]
  decide

set_option maxHeartbeats 800000 in
theorem readDigits_10 (s : ByteArray) (w : World) :
    Calls Tryd.prog 130 #[.string s, .int .i64 10, .int .i64 18] w fun e w' =>
      e = .returned (.tuple #[.int .i64 ((Pl.readN 10 18 s.data.toList).getD 0 : Nat), .bool (Pl.readN 10 18 s.data.toList).isSome]) ∧ Below w.heap.size w w' := by
  by_cases hl : s.size < 1 ∨ 18 < s.size
  · have h3 := Lib.hid (Pl.readN_len 10 18 s hl)
    rcases hl with hl | hl
    · have hs : (s.size : Int) < 1 := by omega
      go_enter Tryd.func130, Tryd.ntmps130
      go_wp2
      go_ret2
      exact ⟨by rw [h3.out]; rfl, Below.refl _ _⟩
    · have hs : (18 : Int) < s.size := by omega
      go_enter Tryd.func130, Tryd.ntmps130
      go_wp2
      go_ret2
      exact ⟨by rw [h3.out]; rfl, Below.refl _ _⟩
  · have hl1 : 1 ≤ (s.size : Int) := by omega
    have hl2 : (s.size : Int) ≤ 18 := by omega
    clear hl
    go_enter Tryd.func130, Tryd.ntmps130
    go_wp2
    go_loopw [8] (fun n w' => ∃ k v : Nat, k ≤ s.size ∧ w' = w.iter s k ∧ n = .int .i64 v ∧ Pl.Upto 10 s k v) (fun _ w' => s.size - w'.iterPos w.heap.size)
    case atStart => exact ⟨0, 0, Nat.zero_le _, rfl, rfl, Pl.upto_zero _ _⟩
    case round =>
      obtain ⟨k, v, hk, rfl, rfl, hu⟩ := hrel
      by_cases hp : k < s.size
      · cases ho : Pl.okB 10 s[k]
        · have h3 := Lib.hid (Pl.readN_bad 10 18 s k hp ho)
          have hn0 : 0 ≤ ((Utf8.decode s k).1 : Int) := by omega
          have hbad : Pl.dv (Utf8.decode s k).1 < 0 ∨ 10 ≤ Pl.dv (Utf8.decode s k).1 := by
            by_cases hc : s[k].toNat < 128
            · rw [decode_ascii s k hp hc]; exact dig_bad_10 _ ho
            · have := (decode_high s k hp (by omega)).1
              left
              unfold Pl.dv
              rw [if_neg (by omega), if_neg (by omega), if_neg (by omega)]
              decide
          have hnx : ∀ ty, (Instr.next (.pointer (some ⟨w.heap.size, 0, none⟩)) true ty).run Tryd.prog (w.iter s k) = _ := fun ty => run_next_any w s k ty hp
          clear hu ho
          generalize Utf8.decode s k = dd at *
          go_wp2_with fail
          refine (dv_any _ _ hn0).mono ?_
          rintro e w' ⟨rfl, rfl⟩
          generalize Pl.dv dd.1 = x at *
          rcases hbad with hbad | hbad
          · go_wp2
            go_ret2
            exact ⟨by rw [h3.out]; rfl, (Below.refl _ _).alloc (Nat.le_refl _) _⟩
          · by_cases hx0 : x < 0
            all_goals
              go_wp2
              go_ret2
              exact ⟨by rw [h3.out]; rfl, (Below.refl _ _).alloc (Nat.le_refl _) _⟩
        · have hu2 := Pl.upto_succ hu hp ho
          have hlt2 := Pl.upto_lt hu2 (by omega)
          have hle2 : 10 ^ (k + 1) ≤ 10 ^ 18 := Nat.pow_le_pow_right (by decide) (by omega)
          have hvb : (v * 10 + Pl.dig s[k]) < 1000000000000000000 := Nat.lt_of_lt_of_le hlt2 hle2
          obtain ⟨hd1, hd2⟩ := dig_dv_10 _ ho
          have hc : s[k].toNat < 128 := by
            rcases Nat.lt_or_ge s[k].toNat 128 with h | h
            · exact h
            · rw [high_bad_10 _ h] at ho; cases ho
          have hnx : ∀ ty, (Instr.next (.pointer (some ⟨w.heap.size, 0, none⟩)) true ty).run Tryd.prog (w.iter s k) = _ := fun ty => run_next_ascii w s k ty hp hc
          have HD := Lib.hid hd1
          clear hu ho hlt2 hle2 hd1
          have hn0 : 0 ≤ (s[k].toNat : Int) := by omega
          go_wp2_with fail
          refine (dv_any _ _ hn0).mono ?_
          rintro e w' ⟨rfl, rfl⟩
          rw [HD.out]
          generalize Pl.dig s[k] = x at *
          go_wp2
          go_roundw
          case rel => exact ⟨k + 1, v * 10 + x, by omega, rfl, by go_num, hu2⟩
          case measure => simp; omega
      · obtain rfl : k = s.size := by omega
        have h3 := Lib.hid (Pl.upto_all (most := 18) hu (by omega) (by omega))
        clear hu
        have hnx : ∀ ty, (Instr.next (.pointer (some ⟨w.heap.size, 0, none⟩)) true ty).run Tryd.prog (w.iter s s.size) = _ := fun ty => run_next_end w s s.size ty hp
        go_wp2
        go_ret2
        exact ⟨by rw [h3.out]; rfl, (Below.refl _ _).alloc (Nat.le_refl _) _⟩

theorem dig_dv_16 (c : UInt8) (h : Pl.okB 16 c = true) : Pl.dv (c.toNat : Int) = (Pl.dig c : Int) ∧ Pl.dig c < 16 := by
  have h2 : Pl.dig c < 16 := by simpa [Pl.okB] using h
  refine ⟨?_, h2⟩
  unfold Pl.dig at h2 ⊢
  unfold Pl.dv
  split at h2
  · rw [if_pos (by omega), if_pos (by omega)]; omega
  · split at h2
    · rw [if_neg (by omega), if_pos (by omega), if_neg (by omega), if_pos (by omega)]; omega
    · split at h2
      · rw [if_neg (by omega), if_neg (by omega), if_pos (by omega), if_neg (by omega), if_neg (by omega), if_pos (by omega)]; omega
      · omega
theorem dig_bad_16 (c : UInt8) (h : Pl.okB 16 c = false) : Pl.dv (c.toNat : Int) < 0 ∨ 16 ≤ Pl.dv (c.toNat : Int) := by
  have h2 : ¬ Pl.dig c < 16 := by simpa [Pl.okB] using h
  unfold Pl.dig at h2
  unfold Pl.dv
  split at h2
  · rw [if_pos (by omega)]; omega
  · split at h2
    · rw [if_neg (by omega), if_pos (by omega)]; omega
    · split at h2
      · rw [if_neg (by omega), if_neg (by omega), if_pos (by omega)]; omega
      · rw [if_neg (by omega), if_neg (by omega), if_neg (by omega)]; omega
theorem high_bad_16 (c : UInt8) (h : 128 ≤ c.toNat) : Pl.okB 16 c = false := by
  unfold Pl.okB Pl.dig
  rw [if_neg (by omega), if_neg (by omega), if_neg (by omega)]
  decide

set_option maxHeartbeats 800000 in
theorem readDigits_16 (s : ByteArray) (w : World) :
    Calls Tryd.prog 130 #[.string s, .int .i64 16, .int .i64 8] w fun e w' =>
      e = .returned (.tuple #[.int .i64 ((Pl.readN 16 8 s.data.toList).getD 0 : Nat), .bool (Pl.readN 16 8 s.data.toList).isSome]) ∧ Below w.heap.size w w' := by
  by_cases hl : s.size < 1 ∨ 8 < s.size
  · have h3 := Lib.hid (Pl.readN_len 16 8 s hl)
    rcases hl with hl | hl
    · have hs : (s.size : Int) < 1 := by omega
      go_enter Tryd.func130, Tryd.ntmps130
      go_wp2
      go_ret2
      exact ⟨by rw [h3.out]; rfl, Below.refl _ _⟩
    · have hs : (8 : Int) < s.size := by omega
      go_enter Tryd.func130, Tryd.ntmps130
      go_wp2
      go_ret2
      exact ⟨by rw [h3.out]; rfl, Below.refl _ _⟩
  · have hl1 : 1 ≤ (s.size : Int) := by omega
    have hl2 : (s.size : Int) ≤ 8 := by omega
    clear hl
    go_enter Tryd.func130, Tryd.ntmps130
    go_wp2
    go_loopw [8] (fun n w' => ∃ k v : Nat, k ≤ s.size ∧ w' = w.iter s k ∧ n = .int .i64 v ∧ Pl.Upto 16 s k v) (fun _ w' => s.size - w'.iterPos w.heap.size)
    case atStart => exact ⟨0, 0, Nat.zero_le _, rfl, rfl, Pl.upto_zero _ _⟩
    case round =>
      obtain ⟨k, v, hk, rfl, rfl, hu⟩ := hrel
      by_cases hp : k < s.size
      · cases ho : Pl.okB 16 s[k]
        · have h3 := Lib.hid (Pl.readN_bad 16 8 s k hp ho)
          have hn0 : 0 ≤ ((Utf8.decode s k).1 : Int) := by omega
          have hbad : Pl.dv (Utf8.decode s k).1 < 0 ∨ 16 ≤ Pl.dv (Utf8.decode s k).1 := by
            by_cases hc : s[k].toNat < 128
            · rw [decode_ascii s k hp hc]; exact dig_bad_16 _ ho
            · have := (decode_high s k hp (by omega)).1
              left
              unfold Pl.dv
              rw [if_neg (by omega), if_neg (by omega), if_neg (by omega)]
              decide
          have hnx : ∀ ty, (Instr.next (.pointer (some ⟨w.heap.size, 0, none⟩)) true ty).run Tryd.prog (w.iter s k) = _ := fun ty => run_next_any w s k ty hp
          clear hu ho
          generalize Utf8.decode s k = dd at *
          go_wp2_with fail
          refine (dv_any _ _ hn0).mono ?_
          rintro e w' ⟨rfl, rfl⟩
          generalize Pl.dv dd.1 = x at *
          rcases hbad with hbad | hbad
          · go_wp2
            go_ret2
            exact ⟨by rw [h3.out]; rfl, (Below.refl _ _).alloc (Nat.le_refl _) _⟩
          · by_cases hx0 : x < 0
            all_goals
              go_wp2
              go_ret2
              exact ⟨by rw [h3.out]; rfl, (Below.refl _ _).alloc (Nat.le_refl _) _⟩
        · have hu2 := Pl.upto_succ hu hp ho
          have hlt2 := Pl.upto_lt hu2 (by omega)
          have hle2 : 16 ^ (k + 1) ≤ 16 ^ 8 := Nat.pow_le_pow_right (by decide) (by omega)
          have hvb : (v * 16 + Pl.dig s[k]) < 4294967296 := Nat.lt_of_lt_of_le hlt2 hle2
          obtain ⟨hd1, hd2⟩ := dig_dv_16 _ ho
          have hc : s[k].toNat < 128 := by
            rcases Nat.lt_or_ge s[k].toNat 128 with h | h
            · exact h
            · rw [high_bad_16 _ h] at ho; cases ho
          have hnx : ∀ ty, (Instr.next (.pointer (some ⟨w.heap.size, 0, none⟩)) true ty).run Tryd.prog (w.iter s k) = _ := fun ty => run_next_ascii w s k ty hp hc
          have HD := Lib.hid hd1
          clear hu ho hlt2 hle2 hd1
          have hn0 : 0 ≤ (s[k].toNat : Int) := by omega
          go_wp2_with fail
          refine (dv_any _ _ hn0).mono ?_
          rintro e w' ⟨rfl, rfl⟩
          rw [HD.out]
          generalize Pl.dig s[k] = x at *
          go_wp2
          go_roundw
          case rel => exact ⟨k + 1, v * 16 + x, by omega, rfl, by go_num, hu2⟩
          case measure => simp; omega
      · obtain rfl : k = s.size := by omega
        have h3 := Lib.hid (Pl.upto_all (most := 8) hu (by omega) (by omega))
        clear hu
        have hnx : ∀ ty, (Instr.next (.pointer (some ⟨w.heap.size, 0, none⟩)) true ty).run Tryd.prog (w.iter s s.size) = _ := fun ty => run_next_end w s s.size ty hp
        go_wp2
        go_ret2
        exact ⟨by rw [h3.out]; rfl, (Below.refl _ _).alloc (Nat.le_refl _) _⟩

end Go.Proofs.YtflnpkckdjmljaaDoor
