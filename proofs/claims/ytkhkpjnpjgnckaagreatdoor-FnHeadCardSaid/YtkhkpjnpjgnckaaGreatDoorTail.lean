/- Bytes 92 at the end of a text: the contracts of Tail, and the walks of its laws. -/
import Derived.Test.YtkhkpjnpjgnckaaGreatDoorProg
import Derived.Test.YtkhkpjnpjgnckaaGreatDoorPlain
import Derived.Test.YtkhkpjnpjgnckaaGreatDoorTrimRight
import Derived.Test.YtkhkpjnpjgnckaaGreatDoorDraw
import Derived.Test.YtkhkpjnpjgnckaaGreatDoorDrawNum
import Derived.WalkKit
import Derived.WalkLawsBesides
import Derived.Lib.Hide
import Derived.IntWalk
namespace Go.Proofs.YtkhkpjnpjgnckaaGreatDoor
open Go.RowKit
set_option linter.unusedVariables false

def tailN (s : ByteArray) : Nat := (s.data.toList.reverse.takeWhile (· == 92)).length
theorem tw_len (p : UInt8 → Bool) : ∀ (rl : List UInt8) (n : Nat), n ≤ rl.length → (∀ j (h : j < rl.length), j < n → p rl[j] = true) → (∀ h : n < rl.length, p rl[n] = false) → (rl.takeWhile p).length = n := by
  intro rl
  induction rl with
  | nil => intro n hn _ _; simp at hn; subst hn; rfl
  | cons c rl ih =>
    intro n hn h1 h2
    cases n with
    | zero =>
      have := h2 (by simp)
      simp at this
      simp [this]
    | succ n =>
      have h3 := h1 0 (by simp) (by omega)
      simp at h3
      simp only [List.takeWhile_cons, h3, if_true, List.length_cons]
      congr 1
      exact ih n (by simpa using hn) (fun j h hj => by have := h1 (j + 1) (by simpa using h) (by omega); simpa using this) (fun h => by have := h2 (by simpa using h); simpa using this)
theorem rev_at (s : ByteArray) (j : Nat) (h : j < s.size) : s.data.toList.reverse[j]'(by simpa using h) = s[s.size - 1 - j]'(by omega) := by
  rw [List.getElem_reverse]
  rfl
/-- n bytes 92 stand at the end -/
def Tailed (s : ByteArray) (n : Nat) : Prop := ∀ j (h : j < s.size), j < n → s[s.size - 1 - j]'(by omega) = 92
theorem tailed_succ {s : ByteArray} {n : Nat} (h : Tailed s n) (hn : n < s.size) (he : s[s.size - 1 - n]'(by omega) = 92) : Tailed s (n + 1) := by
  intro j hj hjn
  by_cases e : j = n
  · subst e; exact he
  · exact h j hj (by omega)
theorem tailed_end {s : ByteArray} {n : Nat} (h : Tailed s n) (hn : n ≤ s.size) (he : ∀ h : n < s.size, s[s.size - 1 - n]'(by omega) ≠ 92) : tailN s = n := by
  unfold tailN
  refine tw_len _ _ n (by simpa using hn) (fun j hj hjn => ?_) (fun hl => ?_)
  · have hj' : j < s.size := by simpa using hj
    rw [rev_at s j hj', h j hj' hjn]; rfl
  · have hl' : n < s.size := by simpa using hl
    rw [rev_at s n hl']
    simpa using he hl'
theorem trimR_len (s : ByteArray) : (Lib.trimRightS s.data.toList [92]).length + tailN s = s.size := by
  unfold Lib.trimRightS tailN
  rw [List.length_reverse]
  have hp : (fun x => List.contains [92] x) = (fun x : UInt8 => x == 92) := by
    funext x
    simp [List.contains_cons]
    by_cases h : x = 92 <;> simp [h]
  rw [hp]
  have := congrArg List.length (List.takeWhile_append_dropWhile (p := fun x : UInt8 => x == 92) (l := s.data.toList.reverse))
  rw [List.length_append, List.length_reverse, ← Lib.size_eq] at this
  omega

theorem tailN_le (s : ByteArray) : tailN s ≤ s.size := by
  have := trimR_len s
  omega
theorem tailN_snoc (s : ByteArray) (t : ByteArray) (l : List UInt8) (ht : t.data.toList = s.data.toList ++ l) : tailN t = ((s.data.toList ++ l).reverse.takeWhile (· == 92)).length := by
  unfold tailN; rw [ht]
theorem tail_more (s : ByteArray) : tailN (s ++ ⟨#[92]⟩) = tailN s + 1 := by
  unfold tailN
  simp [List.takeWhile_cons]
theorem tail_none (s : ByteArray) : tailN (s ++ ⟨#[120]⟩) = 0 := by
  unfold tailN
  simp [List.takeWhile_cons]
theorem tail_two (s : ByteArray) : tailN (s ++ ⟨#[120, 92, 92]⟩) = 2 := by
  unfold tailN
  simp [List.takeWhile_cons]

theorem tail_spec (s : ByteArray) (w : World) (hs : s.size ≤ maxLen) :
    Calls Tryz.prog 151 #[.string s] w fun e w' => e = .returned (.int .i64 ((tailN s : Nat) : Int)) ∧ w = w' := by
  unfold maxLen at hs
  go_enter Tryz.func151, Tryz.ntmps151
  go_wp2
  go_loop [3] (fun i => ∃ k : Nat, k ≤ s.size ∧ i = .int .i64 k ∧ Hid (Tailed s k)) (fun i => s.size - (intOf i).toNat)
  case atStart => exact ⟨0, Nat.zero_le _, rfl, fun j _ h => by omega⟩
  case round =>
    obtain ⟨k, hk, rfl, hn⟩ := hrel
    by_cases hp : k < s.size
    · have q1 : (0 : Int) ≤ (s.size : Int) - 1 - (k : Int) := by omega
      have q2 : (s.size : Int) - 1 - (k : Int) < (s.size : Int) := by omega
      have q3 : ((s.size : Int) - 1 - (k : Int)).toNat = s.size - 1 - k := by omega
      have hlt : s.size - 1 - k < s.size := by omega
      by_cases he : s[s.size - 1 - k]'(by omega) = 92
      · have hb : ((s[s.size - 1 - k].toNat : Int) == 92) = true := by rw [he]; rfl
        have hn2 : Hid (Tailed s (k + 1)) := tailed_succ hn.out hp he
        clear hn he
        go_wp2
        go_round
        case rel => exact ⟨k + 1, by omega, by go_num, hn2⟩
        case measure => simp [intOf]; omega
      · have hb : ((s[s.size - 1 - k].toNat : Int) == 92) = false := by
          rw [beq_eq_false_iff_ne]; intro e; exact he (UInt8.toNat_inj.1 (Int.ofNat_inj.1 e))
        have hfin : Hid (tailN s = k) := tailed_end hn.out hk (fun _ => he)
        clear hn he
        go_wp2
        go_ret
        exact ⟨by rw [hfin.out]; rfl, rfl⟩
    · obtain rfl : k = s.size := by omega
      have hfin : Hid (tailN s = s.size) := tailed_end hn.out hk (fun h => absurd h (by omega))
      clear hn
      go_wp2
      go_ret
      exact ⟨by rw [hfin.out]; rfl, rfl⟩

theorem ascii_one : ∀ (j : Nat) b, (⟨#[92]⟩ : ByteArray).data.toList[j]? = some b → b.toNat < 128 := by
  intro j b h
  have : b ∈ ([92] : List UInt8) := List.mem_of_getElem? h
  simp only [List.mem_cons, List.not_mem_nil, or_false] at this
  subst this
  decide

theorem tail_impl (s : ByteArray) (w : World) (hs : s.size ≤ maxLen) :
    Calls Tryz.prog 116 #[.string s] w fun e w' => e = .returned (.int .i64 ((tailN s : Nat) : Int)) ∧ Below w.heap.size w w' := by
  unfold maxLen at hs
  have hl := trimR_len s
  go_enter Tryz.func116, Tryz.ntmps116
  go_wp2_with fail
  refine (Any.strings_TrimRight_laid lays162 (by kernel_rfl) s ⟨#[92]⟩ w (by omega) (by decide) ascii_one).mono ?_
  rintro e w2 ⟨rfl, hb⟩
  rw [show (⟨#[92]⟩ : ByteArray).data.toList = [92] from rfl]
  have hz : (⟨(Lib.trimRightS s.data.toList [92]).toArray⟩ : ByteArray).size = (Lib.trimRightS s.data.toList [92]).length := by
    show (Lib.trimRightS s.data.toList [92]).toArray.size = _
    rw [List.size_toArray]
  generalize (⟨(Lib.trimRightS s.data.toList [92]).toArray⟩ : ByteArray) = t at *
  generalize (Lib.trimRightS s.data.toList [92]).length = n at *
  have hz2 : ((tailN s : Nat) : Int) = (s.size : Int) - (t.size : Int) := by omega
  have HZ := Lib.hid hz2
  have hle : (t.size : Int) ≤ (s.size : Int) := by omega
  clear hz2 hl hz
  go_wp2
  go_ret
  exact ⟨by rw [HZ.out]; rfl, hb⟩

def SomeTail (w : World) (e : Ending) (w' : World) : Prop := ∃ s : ByteArray, s.size ≤ 3 ∧ e = .returned (.string s) ∧ Below w.heap.size w w'
end Go.Proofs.YtkhkpjnpjgnckaaGreatDoor
