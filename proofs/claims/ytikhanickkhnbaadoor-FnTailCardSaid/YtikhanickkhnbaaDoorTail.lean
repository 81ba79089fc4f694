/- Bytes 92 at the end of a text: the contracts of Tail, and the walks of its laws. -/
import Derived.Test.YtikhanickkhnbaaDoorProg
import Derived.Test.YtikhanickkhnbaaDoorPlain
import Derived.Test.YtikhanickkhnbaaDoorTrimRight
import Derived.Test.YtikhanickkhnbaaDoorDraw
import Derived.Test.YtikhanickkhnbaaDoorDrawNum
import Derived.WalkKit
import Derived.WalkLawsBesides
import Derived.Lib.Hide
import Derived.IntWalk
namespace Go.Proofs.YtikhanickkhnbaaDoor
open Go.RowKit
set_option linter.unusedVariables false

def tailN (s : ByteArray) : Nat := (s.data.toList.reverse.takeWhile (· == 92)).length
theorem tw_len (p : UInt8 → Bool) : ∀ (rl : List UInt8) (n : Nat), n ≤ rl.length → (∀ j (h : j < rl.length), j < n → p rl[j] = true) → (∀ h : n < rl.length, p rl[n] = false) → (rl.takeWhile p).length = n := by
  intro rl
  induction rl with
  | nil => intro n hn _ _; simp at hn; subst hn; rfl
  | cons c rl ih =>
    intro n hn h1 h2
    cases n with
    | zero =>
      have := h2 (by simp)
      simp at this
      simp [this]
    | succ n =>
      have h3 := h1 0 (by simp) (by omega)
      simp at h3
      simp only [List.takeWhile_cons, h3, if_true, List.length_cons]
      congr 1
      exact ih n (by simpa using hn) (fun j h hj => by have := h1 (j + 1) (by simpa using h) (by omega); simpa using this) (fun h => by have := h2 (by simpa using h); simpa using this)
theorem rev_at (s : ByteArray) (j : Nat) (h : j < s.size) : s.data.toList.reverse[j]'(by simpa using h) = s[s.size - 1 - j]'(by omega) := by
  rw [List.getElem_reverse]
  rfl
/-- n bytes 92 stand at the end -/
def Tailed (s : ByteArray) (n : Nat) : Prop := ∀ j (h : j < s.size), j < n → s[s.size - 1 - j]'(by omega) = 92
theorem tailed_succ {s : ByteArray} {n : Nat} (h : Tailed s n) (hn : n < s.size) (he : s[s.size - 1 - n]'(by omega) = 92) : Tailed s (n + 1) := by
  intro j hj hjn
  by_cases e : j = n
  · subst e; exact he
  · exact h j hj (by omega)
theorem tailed_end {s : ByteArray} {n : Nat} (h : Tailed s n) (hn : n ≤ s.size) (he : ∀ h : n < s.size, s[s.size - 1 - n]'(by omega) ≠ 92) : tailN s = n := by
  unfold tailN
  refine tw_len _ _ n (by simpa using hn) (fun j hj hjn => ?_) (fun hl => ?_)
  · have hj' : j < s.size := by simpa using hj
    rw [rev_at s j hj', h j hj' hjn]; rfl
  · have hl' : n < s.size := by simpa using hl
    rw [rev_at s n hl']
    simpa using he hl'
theorem trimR_len (s : ByteArray) : (Lib.trimRightS s.data.toList [92]).length + tailN s = s.size := by
  unfold Lib.trimRightS tailN
  rw [List.length_reverse]
  have hp : (fun x => List.contains [92] x) = (fun x : UInt8 => x == 92) := by
    funext x
    simp [List.contains_cons]
    by_cases h : x = 92 <;> simp [h]
  rw [hp]
  have := congrArg List.length (List.takeWhile_append_dropWhile (p := fun x : UInt8 => x == 92) (l := s.data.toList.reverse))
  rw [List.length_append, List.length_reverse, ← Lib.size_eq] at this
  omega

theorem tailN_le (s : ByteArray) : tailN s ≤ s.size := by
  have := trimR_len s
  omega
theorem tailN_snoc (s : ByteArray) (t : ByteArray) (l : List UInt8) (ht : t.data.toList = s.data.toList ++ l) : tailN t = ((s.data.toList ++ l).reverse.takeWhile (· == 92)).length := by
  unfold tailN; rw [ht]
theorem tail_more (s : ByteArray) : tailN (s ++ ⟨#[92]⟩) = tailN s + 1 := by
  unfold tailN
  simp [List.takeWhile_cons]
theorem tail_none (s : ByteArray) : tailN (s ++ ⟨#[120]⟩) = 0 := by
  unfold tailN
  simp [List.takeWhile_cons]
theorem tail_two (s : ByteArray) : tailN (s ++ ⟨#[120, 92, 92]⟩) = 2 := by
  unfold tailN
  simp [List.takeWhile_cons]

theorem tail_spec (s : ByteArray) (w : World) (hs : s.size ≤ maxLen) :
    Calls Tryd.prog 14 #[.string s] w fun e w' => e = .returned (.int .i64 ((tailN s : Nat) : Int)) ∧ w = w' := by
  unfold maxLen at hs
  go_enter Tryd.func14, Tryd.ntmps14
  go_wp2
  go_loop [3] (fun i => ∃ k : Nat, k ≤ s.size ∧ i = .int .i64 k ∧ Hid (Tailed s k)) (fun i => s.size - (intOf i).toNat)
  case atStart => exact ⟨0, Nat.zero_le _, rfl, fun j _ h => by omega⟩
  case round =>
    obtain ⟨k, hk, rfl, hn⟩ := hrel
    by_cases hp : k < s.size
    · have q1 : (0 : Int) ≤ (s.size : Int) - 1 - (k : Int) := by omega
      have q2 : (s.size : Int) - 1 - (k : Int) < (s.size : Int) := by omega
      have q3 : ((s.size : Int) - 1 - (k : Int)).toNat = s.size - 1 - k := by omega
      have hlt : s.size - 1 - k < s.size := by omega
      by_cases he : s[s.size - 1 - k]'(by omega) = 92
      · have hb : ((s[s.size - 1 - k].toNat : Int) == 92) = true := by rw [he]; rfl
        have hn2 : Hid (Tailed s (k + 1)) := tailed_succ hn.out hp he
        clear hn he
        go_wp2
        go_round
        case rel => exact ⟨k + 1, by omega, by go_num, hn2⟩
        case measure => simp [intOf]; omega
      · have hb : ((s[s.size - 1 - k].toNat : Int) == 92) = false := by
          rw [beq_eq_false_iff_ne]; intro e; exact he (UInt8.toNat_inj.1 (Int.ofNat_inj.1 e))
        have hfin : Hid (tailN s = k) := tailed_end hn.out hk (fun _ => he)
        clear hn he
        go_wp2
        go_ret
        exact ⟨by rw [hfin.out]; rfl, rfl⟩
    · obtain rfl : k = s.size := by omega
      have hfin : Hid (tailN s = s.size) := tailed_end hn.out hk (fun h => absurd h (by omega))
      clear hn
      go_wp2
      go_ret
      exact ⟨by rw [hfin.out]; rfl, rfl⟩

theorem ascii_one : ∀ (j : Nat) b, (⟨#[92]⟩ : ByteArray).data.toList[j]? = some b → b.toNat < 128 := by
  intro j b h
  have : b ∈ ([92] : List UInt8) := List.mem_of_getElem? h
  simp only [List.mem_cons, List.not_mem_nil, or_false] at this
  subst this
  decide

theorem tail_impl (s : ByteArray) (w : World) (hs : s.size ≤ maxLen) :
    Calls Tryd.prog 13 #[.string s] w fun e w' => e = .returned (.int .i64 ((tailN s : Nat) : Int)) ∧ Below w.heap.size w w' := by
  unfold maxLen at hs
  have hl := trimR_len s
  go_enter Tryd.func13, Tryd.ntmps13
  go_wp2_with fail
  refine (Any.strings_TrimRight_laid lays162 (by kernel_rfl) s ⟨#[92]⟩ w (by omega) (by decide) ascii_one).mono ?_
  rintro e w2 ⟨rfl, hb⟩
  rw [show (⟨#[92]⟩ : ByteArray).data.toList = [92] from rfl]
  have hz : (⟨(Lib.trimRightS s.data.toList [92]).toArray⟩ : ByteArray).size = (Lib.trimRightS s.data.toList [92]).length := by
    show (Lib.trimRightS s.data.toList [92]).toArray.size = _
    rw [List.size_toArray]
  generalize (⟨(Lib.trimRightS s.data.toList [92]).toArray⟩ : ByteArray) = t at *
  generalize (Lib.trimRightS s.data.toList [92]).length = n at *
  have hz2 : ((tailN s : Nat) : Int) = (s.size : Int) - (t.size : Int) := by omega
  have HZ := Lib.hid hz2
  have hle : (t.size : Int) ≤ (s.size : Int) := by omega
  clear hz2 hl hz
  go_wp2
  go_ret
  exact ⟨by rw [HZ.out]; rfl, hb⟩

theorem fnExactTail_walk (a0 : ByteArray) (w0 : a0.size ≤ maxLen) (w : World) :
    Calls Tryd.prog 5 #[.string a0] w fun e w' => e = .returned (.bool true) ∧ Below w.heap.size w w' := by
  by_cases h0 : a0.size ≤ 1048576
  · have K1 := Lib.hid (fun w => tail_spec a0 w w0)
    have K2 := Lib.hid (fun w => tail_impl a0 w w0)
    generalize tailN a0 = n at *
    have hn : ((n : Int) != (n : Int)) = false := by simp
    go_enter Tryd.func5, Tryd.ntmps5
    go_wp2_with fail
    refine (K1.out _).mono ?_
    rintro e w2 ⟨rfl, rfl⟩
    go_wp2_with fail
    refine (K2.out _).mono ?_
    rintro e w3 ⟨rfl, hb⟩
    go_wp2
    go_ret
    exact ⟨rfl, hb⟩
  · go_enter Tryd.func5, Tryd.ntmps5
    go_wp2
    go_ret
    exact ⟨rfl, Below.refl _ _⟩

def SomeTail (w : World) (e : Ending) (w' : World) : Prop := ∃ s : ByteArray, s.size ≤ 3 ∧ e = .returned (.string s) ∧ Below w.heap.size w w'
theorem drawTail (w : World) (a : Option Addr) (len cap : Nat) (hlen : len ≤ 1048576) (hB : BytesIn w a len) (hlow : ∀ x, a = some x → len ≠ 0 → x.block < w.heap.size) :
    Calls Tryd.prog 15 #[.slice a len cap] w (SomeTail w) := by
  go_enter Tryd.func15, Tryd.ntmps15
  go_wp2_with fail
  refine (new_draw w a len cap hlen hB hlow).mono ?_
  rintro e w1 ⟨rfl, hC1, hb1⟩
  clear hB hlow
  have hlt1 := hC1.lt
  go_wp2_with fail
  refine (pick_draw _ w.heap.size w.heap.size a len cap w1.heap.size 6 6 3 (by omega) (hC1.alloc _) (by decide) (by decide) (by omega) (by simp) (by refine texts_alloc w1 _ _ _ _ ?_; decide +kernel)).mono ?_
  rintro e w2 ⟨s, hs, rfl, hC2, hg2⟩
  have hb2 := (hb1.alloc (by omega) _).trans (grownBy_below hg2 (Nat.le_refl _) (by simp; omega))
  clear hC1 hg2 hb1 hlt1 hC2
  go_wp2
  go_ret
  exact ⟨s, hs, rfl, hb2⟩

set_option maxHeartbeats 1600000 in
theorem fnTail_walk (a0 : Option Addr) (len0 cap0 : Nat) (w : World) (hB : BytesIn w a0 len0) (hlow : ∀ x, a0 = some x → len0 ≠ 0 → x.block < w.heap.size) :
    Calls Tryd.prog 4 #[.slice a0 len0 cap0] w fun e w' => e = .returned (.bool true) ∧ Below w.heap.size w w' := by
  by_cases h0 : len0 ≤ 1048576
  · go_enter Tryd.func4, Tryd.ntmps4
    go_wp2_with fail
    refine (big_no _ _ _ _ h0).mono ?_
    rintro e w1 ⟨rfl, rfl⟩
    go_wp2_with fail
    refine (drawTail w a0 len0 cap0 h0 hB hlow).mono ?_
    rintro e w2 ⟨s, hs, rfl, hb2⟩
    clear hB hlow
    have hle := tailN_le s
    have K1 := Lib.hid (fun w => tail_impl s w (by unfold maxLen; omega))
    have K2 := Lib.hid (fun w => tail_spec s w (by unfold maxLen; omega))
    have z1 : (⟨#[92]⟩ : ByteArray).size = 1 := rfl
    have z2 : (⟨#[120]⟩ : ByteArray).size = 1 := rfl
    have z3 : (⟨#[120, 92, 92]⟩ : ByteArray).size = 3 := rfl
    have K3 := Lib.hid (fun w => tail_impl (s ++ ⟨#[92]⟩) w (by rw [ByteArray.size_append]; unfold maxLen; omega))
    have K4 := Lib.hid (fun w => tail_impl (s ++ ⟨#[120]⟩) w (by rw [ByteArray.size_append]; unfold maxLen; omega))
    have K5 := Lib.hid (fun w => tail_impl (s ++ ⟨#[120, 92, 92]⟩) w (by rw [ByteArray.size_append]; unfold maxLen; omega))
    rw [tail_more] at K3
    rw [tail_none] at K4
    rw [tail_two] at K5
    generalize tailN s = n at *
    clear z1 z2 z3
    have e1 : ((n : Int) == (n : Int)) = true := by simp
    have e2 : ((n : Int) + 1 == (n : Int) + 1) = true := by simp
    have ec : ((n + 1 : Nat) : Int) = (n : Int) + 1 := by omega
    rw [ec] at K3
    clear ec
    have hle2 : (n : Int) ≤ (s.size : Int) := by omega
    go_wp2_with fail
    refine (K1.out _).mono ?_
    rintro e w3 ⟨rfl, hb3⟩
    have hb3' := hb2.trans (hb3.mono hb2.size)
    clear hb2 hb3
    go_wp2_with fail
    refine (K2.out _).mono ?_
    rintro e w4 ⟨rfl, rfl⟩
    go_wp2_with fail
    refine (K3.out _).mono ?_
    rintro e w5 ⟨rfl, hb5⟩
    have hb5' := hb3'.trans (hb5.mono hb3'.size)
    clear hb3' hb5
    go_wp2_with fail
    refine (K4.out _).mono ?_
    rintro e w6 ⟨rfl, hb6⟩
    have hb6' := hb5'.trans (hb6.mono hb5'.size)
    clear hb5' hb6
    go_wp2_with fail
    refine (K5.out _).mono ?_
    rintro e w7 ⟨rfl, hb7⟩
    have hb7' := hb6'.trans (hb7.mono hb6'.size)
    clear hb6' hb7
    go_wp2
    go_ret
    exact ⟨rfl, hb7'⟩
  · go_enter Tryd.func4, Tryd.ntmps4
    go_wp2_with fail
    refine (big_yes _ _ _ _ (by omega)).mono ?_
    rintro e w1 ⟨rfl, rfl⟩
    go_wp2
    go_ret
    exact ⟨rfl, Below.refl _ _⟩

end Go.Proofs.YtikhanickkhnbaaDoor
