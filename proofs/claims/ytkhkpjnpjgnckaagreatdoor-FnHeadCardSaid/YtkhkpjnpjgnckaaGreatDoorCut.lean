/- The library's contract of strings.IndexByte at this program, in plain words. -/
import Derived.Shelf.Small.Strs
import Derived.Test.YtkhkpjnpjgnckaaGreatDoorProg
import Derived.Test.YtkhkpjnpjgnckaaGreatDoorPlain
import Derived.WalkKit
import Derived.WalkLawsBesides
import Derived.BigQuiet
import Derived.Deep.QuietTactic
import Derived.Lib.Hide
import Derived.IntWalk
namespace Go.Proofs.YtkhkpjnpjgnckaaGreatDoor
open Go.Shelf
def lays137_ren : Go.Shelf.Ren := ⟨fun | 137 => 96 | 217 => 131 | 266 => 163 | n => n, fun | 9 => 9 | 5 => 5 | 3 => 3 | n => n, fun | n => n⟩
theorem lays137 : Go.Proofs.Lays.n137 Tryz.prog lays137_ren := {
  mixed := by kernel_rfl
  f137 := Tryz.func96.trans (congrArg some (by kernel_rfl))
  f217 := Tryz.func131.trans (congrArg some (by kernel_rfl))
  f266 := Tryz.func163.trans (congrArg some (by kernel_rfl))
  t3 := Tryz.underlying3
  a3 := Tryz.isAgg3
  z3 := Tryz.sizeOf3
  v3 := Tryz.zeroValue3
  t5 := Tryz.underlying5
  a5 := Tryz.isAgg5
  z5 := Tryz.sizeOf5
  v5 := Tryz.zeroValue5
  t9 := Tryz.underlying9
  a9 := Tryz.isAgg9
  z9 := Tryz.sizeOf9
  v9 := Tryz.zeroValue9 }
open Go.RowKit in
theorem indexByte_lib (s : ByteArray) (c : Int) (w : World) :
    Calls Tryz.prog 96 #[.string s, .int .u8 c] w fun e w' => e = .returned (.int .i64 (Lib.indexByte s.data.toList c.toNat.toUInt8)) ∧ w' = w := Any.strings_IndexByte lays137 s c w
end Go.Proofs.YtkhkpjnpjgnckaaGreatDoor

/- Contracts of the functions that look for a byte, and of CutAt. -/
namespace Go.Proofs.YtkhkpjnpjgnckaaGreatDoor
open Go.RowKit
set_option linter.unusedVariables false

theorem indexByte_has (l : List UInt8) (c : UInt8) : (-1 ≤ Lib.indexByte l c) ∧ (decide (0 ≤ Lib.indexByte l c) = l.contains c) := by
  induction l with
  | nil => simp [Lib.indexByte]
  | cons b l ih =>
    obtain ⟨h1, h2⟩ := ih
    unfold Lib.indexByte
    by_cases h : b = c
    · subst h; simp
    · have h' : (b == c) = false := by simpa using h
      have h'' : ¬ c = b := fun e => h e.symm
      rw [if_neg (by simp [h'])]
      by_cases h3 : Lib.indexByte l c = -1
      · rw [if_pos (by simp [h3])]
        rw [h3] at h2
        simp at h2
        simp [h'', h2]
      · rw [if_neg (by simp [h3])]
        have h4 : 0 ≤ Lib.indexByte l c := by omega
        have h5 : l.contains c = true := by rw [← h2]; simpa using h4
        refine ⟨by omega, ?_⟩
        rw [List.contains_cons, h5]
        simp
        omega

/-- whether a byte is one of a text's -/
def hasB (s : ByteArray) (c : UInt8) : Bool := s.data.toList.contains c

theorem hasByte_any (s : ByteArray) (c : UInt8) (w : World) :
    Calls Tryz.prog 64 #[.string s, .int .u8 c.toNat] w fun e w' => e = .returned (.bool (hasB s c)) ∧ w = w' := by
  have hc : ((c.toNat : Int)).toNat.toUInt8 = c := by simp
  have h := indexByte_has s.data.toList c
  go_enter Tryz.func64, Tryz.ntmps64
  go_wp2_with fail
  refine (indexByte_lib s _ _).mono ?_
  rintro e w' ⟨rfl, rfl⟩
  rw [hc]
  generalize Lib.indexByte s.data.toList c = x at *
  have H : Hid (decide (0 ≤ x) = hasB s c) := h.2
  clear h hc
  go_wp2
  all_goals
    go_ret
    exact ⟨by rw [← H.out]; first | rfl | simp_all, rfl⟩

/-- no byte of the first k is one of those -/
def NoHit (any : UInt8 → Bool) (s : ByteArray) (k : Nat) : Prop := ∀ j (h : j < s.size), j < k → any s[j] = false
def firstIn (any : UInt8 → Bool) (s : ByteArray) : Nat := s.data.toList.findIdx any
theorem noHit_zero (any : UInt8 → Bool) (s : ByteArray) : NoHit any s 0 := fun j _ h => by omega
theorem noHit_succ {any : UInt8 → Bool} {s : ByteArray} {k : Nat} (h : NoHit any s k) (hk : k < s.size) (hb : any s[k] = false) : NoHit any s (k + 1) := by
  intro j hj hjk
  by_cases e : j = k
  · subst e; exact hb
  · exact h j hj (by omega)
theorem firstIn_hit {any : UInt8 → Bool} {s : ByteArray} {k : Nat} (h : NoHit any s k) (hk : k < s.size) (hb : any s[k] = true) : firstIn any s = k := by
  unfold firstIn
  rw [List.findIdx_eq (by simpa using hk)]
  exact ⟨hb, fun j hj => h j (by omega) hj⟩
theorem firstIn_end {any : UInt8 → Bool} {s : ByteArray} (h : NoHit any s s.size) : firstIn any s = s.size := by
  unfold firstIn
  have e : s.size = s.data.toList.length := by simp
  rw [e, List.findIdx_eq_length]
  intro c hc
  obtain ⟨j, hj, rfl⟩ := List.getElem_of_mem hc
  have hj' : j < s.size := by omega
  exact h j hj' hj'

theorem has_any (s : ByteArray) (c : UInt8) (w : World) (hs : s.size ≤ maxLen) :
    Calls Tryz.prog 52 #[.string s, .int .u8 c.toNat] w fun e w' => e = .returned (.bool (hasB s c)) ∧ w = w' := by
  unfold maxLen at hs
  go_enter Tryz.func52, Tryz.ntmps52
  go_wp2
  go_loop [5] (fun i => ∃ k : Nat, k ≤ s.size ∧ i = .int .i64 k ∧ NoHit (· == c) s k) (fun i => s.size - (intOf i).toNat)
  case atStart => exact ⟨0, Nat.zero_le _, rfl, noHit_zero _ _⟩
  case round =>
    obtain ⟨k, hk, rfl, hn⟩ := hrel
    by_cases hp : k < s.size
    · by_cases he : s[k] = c
      · have hb : ((s[k].toNat : Int) == (c.toNat : Int)) = true := by rw [he]; simp
        have h3 : Hid (hasB s c = true) := by
          unfold Hid hasB
          rw [List.contains_iff_mem, ← he]
          have e : s[k] = s.data.toList[k]'(by simpa using hp) := rfl
          rw [e]; exact List.getElem_mem _
        clear hn he
        go_wp2
        go_ret
        exact ⟨by rw [h3.out]; rfl, rfl⟩
      · have hb : ((s[k].toNat : Int) == (c.toNat : Int)) = false := by
          rw [beq_eq_false_iff_ne]; intro e; exact he (UInt8.toNat_inj.1 (Int.ofNat_inj.1 e))
        have hn2 := noHit_succ hn hp (by simpa using he)
        clear hn he
        go_wp2
        go_round
        case rel => exact ⟨k + 1, by omega, by go_num, hn2⟩
        case measure => simp [intOf]; omega
    · obtain rfl : k = s.size := by omega
      have h3 : Hid (hasB s c = false) := by
        unfold Hid hasB
        rw [← Bool.not_eq_true, List.contains_iff_mem]
        intro hm
        obtain ⟨j, hj, he⟩ := List.getElem_of_mem hm
        have hj' : j < s.size := by simpa using hj
        have := hn j hj' hj'
        have e2 : s[j] = c := he
        rw [e2] at this
        simp at this
      clear hn
      go_wp2
      go_ret
      exact ⟨by rw [h3.out]; rfl, rfl⟩

def cutRes (s : ByteArray) (k : Nat) : Value :=
  if k < s.size then .tuple #[.string (s.extract 0 k), .string (s.extract (k + 1) s.size), .bool true] else .tuple #[.string s, .string ⟨#[]⟩, .bool false]

set_option maxHeartbeats 400000 in
theorem cutAt_spec (s t : ByteArray) (w : World) (hs : s.size ≤ 1048576) (ht : t.size ≤ 1048576) :
    Calls Tryz.prog 91 #[.string s, .string t] w fun e w' => e = .returned (cutRes s (firstIn (hasB t) s)) ∧ ∃ n, w' = w.drewN n := by
  go_enter Tryz.func91, Tryz.ntmps91
  go_wp2
  go_loop [7] (fun i => ∃ k : Nat, k ≤ s.size ∧ i = .int .i64 k ∧ NoHit (hasB t) s k) (fun i => s.size - (intOf i).toNat)
  case atStart => exact ⟨0, Nat.zero_le _, rfl, noHit_zero _ _⟩
  case round =>
    obtain ⟨k, hk, rfl, hn⟩ := hrel
    by_cases hp : k < s.size
    · cases he : hasB t s[k]
      · have hn2 := noHit_succ hn hp he
        have HE := Lib.hid he
        clear hn he
        go_wp2_with fail
        refine (has_any t s[k] _ (by unfold maxLen; omega)).mono ?_
        rintro e w' ⟨rfl, rfl⟩
        rw [HE.out]
        go_wp2
        go_round
        case rel => exact ⟨k + 1, by omega, by go_num, hn2⟩
        case measure => simp [intOf]; omega
      · have h3 : Hid (cutRes s (firstIn (hasB t) s) = .tuple #[.string (s.extract 0 k), .string (s.extract (k + 1) s.size), .bool true]) := by
          unfold Hid cutRes; rw [firstIn_hit hn hp he, if_pos hp]
        have HE := Lib.hid he
        clear hn he
        go_wp2_with fail
        refine (has_any t s[k] _ (by unfold maxLen; omega)).mono ?_
        rintro e w' ⟨rfl, rfl⟩
        rw [HE.out]
        go_wp2_with fail
        go_quiet (fail)
        go_wp2
        go_ret3
        exact ⟨by rw [h3.out]; rfl, nq, rfl⟩
    · obtain rfl : k = s.size := by omega
      have h3 : Hid (cutRes s (firstIn (hasB t) s) = .tuple #[.string s, .string ⟨#[]⟩, .bool false]) := by
        unfold Hid cutRes; rw [firstIn_end hn, if_neg (by omega)]
      clear hn
      go_wp2
      go_ret3
      exact ⟨by rw [h3.out]; rfl, 0, rfl⟩

set_option maxHeartbeats 400000 in
theorem cutAt_impl (s t : ByteArray) (w : World) (hs : s.size ≤ 1048576) (ht : t.size ≤ 1048576) :
    Calls Tryz.prog 65 #[.string s, .string t] w fun e w' => e = .returned (cutRes s (firstIn (hasB t) s)) ∧ ∃ n, w' = w.drewN n := by
  go_enter Tryz.func65, Tryz.ntmps65
  go_wp2
  go_loop [10] (fun i => ∃ k : Nat, k ≤ s.size ∧ i = .int .i64 k ∧ NoHit (hasB t) s k) (fun i => s.size - (intOf i).toNat)
  case atStart => exact ⟨0, Nat.zero_le _, rfl, noHit_zero _ _⟩
  case round =>
    obtain ⟨k, hk, rfl, hn⟩ := hrel
    by_cases hp : k < s.size
    · cases he : hasB t s[k]
      · have hn2 := noHit_succ hn hp he
        have HE := Lib.hid he
        clear hn he
        go_wp2_with fail
        refine (hasByte_any t s[k] _).mono ?_
        rintro e w' ⟨rfl, rfl⟩
        rw [HE.out]
        go_wp2
        go_round
        case rel => exact ⟨k + 1, by omega, by go_num, hn2⟩
        case measure => simp [intOf]; omega
      · have h3 : Hid (cutRes s (firstIn (hasB t) s) = .tuple #[.string (s.extract 0 k), .string (s.extract (k + 1) s.size), .bool true]) := by
          unfold Hid cutRes; rw [firstIn_hit hn hp he, if_pos hp]
        have HE := Lib.hid he
        clear hn he
        go_wp2_with fail
        refine (hasByte_any t s[k] _).mono ?_
        rintro e w' ⟨rfl, rfl⟩
        rw [HE.out]
        go_wp2_with fail
        go_quiet (fail)
        go_wp2
        go_ret3
        exact ⟨by rw [h3.out]; rfl, nq, rfl⟩
    · obtain rfl : k = s.size := by omega
      have h3 : Hid (cutRes s (firstIn (hasB t) s) = .tuple #[.string s, .string ⟨#[]⟩, .bool false]) := by
        unfold Hid cutRes; rw [firstIn_end hn, if_neg (by omega)]
      clear hn
      go_wp2
      go_ret3
      exact ⟨by rw [h3.out]; rfl, 0, rfl⟩

theorem cutRes_form (s : ByteArray) (k : Nat) : ∃ a b o, cutRes s k = .tuple #[.string a, .string b, .bool o] := by
  unfold cutRes
  split <;> exact ⟨_, _, _, rfl⟩

end Go.Proofs.YtkhkpjnpjgnckaaGreatDoor
