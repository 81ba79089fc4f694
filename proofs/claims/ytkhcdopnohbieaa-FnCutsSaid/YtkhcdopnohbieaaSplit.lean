/- The parts of a text between bytes of a kind; the contract of the model's SplitAt. -/
import Derived.Test.YtkhcdopnohbieaaProg
import Derived.Test.YtkhcdopnohbieaaPlain
import Derived.Test.YtkhcdopnohbieaaTexts
import Derived.WalkKit
import Derived.WalkLawsBesides
import Derived.OwnWalk
import Derived.Maps.AppendAt
import Derived.Lib.Hide
import Derived.IntWalk
namespace Go.Proofs.Ytkhcdopnohbieaa
open Go.RowKit
set_option linter.unusedVariables false

/-- the parts that are whole behind k bytes, and where the next one begins -/
def cutsTo (s : ByteArray) (p : UInt8 → Bool) : Nat → List ByteArray × Nat
  | 0 => ([], 0)
  | k + 1 => if h : k < s.size then (if p s[k] then ((cutsTo s p k).1 ++ [s.extract (cutsTo s p k).2 k], k + 1) else cutsTo s p k) else cutsTo s p k
theorem cutsTo_hit {s : ByteArray} {p : UInt8 → Bool} {k : Nat} (h : k < s.size) (hp : p s[k] = true) : cutsTo s p (k + 1) = ((cutsTo s p k).1 ++ [s.extract (cutsTo s p k).2 k], k + 1) := by
  simp [cutsTo, h, hp]
theorem cutsTo_miss {s : ByteArray} {p : UInt8 → Bool} {k : Nat} (h : k < s.size) (hp : p s[k] = false) : cutsTo s p (k + 1) = cutsTo s p k := by
  simp [cutsTo, h, hp]
theorem cutsTo_le (s : ByteArray) (p : UInt8 → Bool) (k : Nat) : (cutsTo s p k).2 ≤ k ∧ (cutsTo s p k).1.length ≤ k := by
  induction k with
  | zero => exact ⟨Nat.le_refl _, Nat.le_refl _⟩
  | succ k ih =>
    simp only [cutsTo]
    split
    · split
      · simp; omega
      · omega
    · omega
def partsOf (s : ByteArray) (p : UInt8 → Bool) : List ByteArray := (cutsTo s p s.size).1 ++ [s.extract (cutsTo s p s.size).2 s.size]
theorem partsOf_len (s : ByteArray) (p : UInt8 → Bool) : (partsOf s p).length ≤ s.size + 1 := by
  have := (cutsTo_le s p s.size).2
  simp [partsOf]
  omega
/-- none for the empty text -/
def splitOf (s : ByteArray) (p : UInt8 → Bool) : List ByteArray := if s.size = 0 then [] else partsOf s p

theorem info_string : (Try.prog.info? 9).map (fun i => (i.zero, i.size, i.bytes)) = some (some (.string ByteArray.empty), 1, 16) := by kernel_rfl

/-- a list of texts that the call itself made -/
def OwnTexts (w : World) (l : List ByteArray) (e : Ending) (w' : World) : Prop := ∃ v, e = .returned v ∧ w'.ownsRow w.heap.size 9 1 v l.length (l.map Value.string) ∧ Below w.heap.size w w'

theorem own_block {w : World} {base e size n : Nat} {v : Value} {xs : List Value} (h : w.ownsRow base e size v n xs) : ∀ k, v.ownBlock = some k → base ≤ k := by
  intro k hk
  rcases h.2 with ⟨rfl, _⟩ | ⟨g, cap, cur, rfl, hb, _⟩
  · cases hk
  · cases hk; exact hb
theorem own_step {w wr w1 : World} {t : Nat} {v v' : Value} {l : List ByteArray} {x : ByteArray} {o : Obj} (hb : Below w.heap.size w wr) (hown : wr.ownsRow w.heap.size t 1 v l.length (l.map Value.string))
    (hown' : w1.ownsRow w.heap.size t 1 v' (l.length + 1) (l.map Value.string ++ [.string x])) (hg : (wr.alloc o).grownBy w1 v.ownBlock) :
    w1.ownsRow w.heap.size t 1 v' (l ++ [x]).length ((l ++ [x]).map Value.string) ∧ Below w.heap.size w w1 := by
  refine ⟨by simpa using hown', ?_⟩
  exact (hb.alloc hb.size o).grown hg (by have := hb.size; simp; omega) (own_block hown)

set_option maxRecDepth 100000 in
set_option maxHeartbeats 800000 in
theorem split_spec (s : ByteArray) (c : UInt8) (w : World) (hs : s.size ≤ 1048576) :
    Calls Try.prog 17 #[.string s, .int .u8 c.toNat] w (OwnTexts w (splitOf s (· == c))) := by
  obtain ⟨i0, hi, hz0, hz1, hz2⟩ := info_parts info_string
  by_cases h0 : s.size = 0
  · have h1 : s.data.toList = [] := by apply List.eq_nil_of_length_eq_zero; simpa using h0
    have h2 : s = ⟨#[]⟩ := by apply ByteArray.ext; apply Array.toList_inj.1; exact h1
    subst h2
    clear h1 h0
    go_enter Try.func17, Try.ntmps17
    go_wp2
    go_ret
    exact ⟨_, rfl, World.ownsRow_lit w #[] 0 (Nat.le_refl _) (Nat.zero_le _) rfl, (Below.refl _ _).alloc (Nat.le_refl _) _⟩
  · have h1 : s.toList.isEmpty = false := by
      rw [Lib.toList_data]
      cases h : s.data.toList with
      | nil => exfalso; have h3 := Lib.size_eq s; rw [h, List.length_nil] at h3; omega
      | cons c t => rfl
    have h2 : (s.toList == []) = false := by
      rw [Lib.toList_data]
      cases h : s.data.toList with
      | nil => exfalso; have h3 := Lib.size_eq s; rw [h, List.length_nil] at h3; omega
      | cons c t => rfl
    go_enter Try.func17, Try.ntmps17
    go_wp2
    go_loopw [5, 6, 7] (fun v f i wr => ∃ (k ff : Nat) (l : List ByteArray), k ≤ s.size ∧ i = .int .i64 k ∧ f = .int .i64 ff ∧ ff ≤ k ∧ l.length ≤ k ∧ Hid (cutsTo s (· == c) k = (l, ff)) ∧ wr.ownsRow w.heap.size 9 1 v l.length (l.map Value.string) ∧ Below w.heap.size w wr) (fun _ _ i _ => s.size - (intOf i).toNat)
    case atStart => exact ⟨0, 0, [], Nat.zero_le _, rfl, rfl, Nat.le_refl _, Nat.le_refl _, rfl, World.ownsRow_lit w #[] 0 (Nat.le_refl _) (Nat.zero_le _) rfl, (Below.refl _ _).alloc (Nat.le_refl _) _⟩
    case round =>
      obtain ⟨k, ff, l, hk, rfl, rfl, hff, hll, hcut, hown, hb⟩ := hrel
      have hsz := hb.size
      by_cases hlt : k < s.size
      · by_cases he : s[k] = c
        · have hbb : ((s[k].toNat : Int) == (c.toNat : Int)) = true := by rw [he]; simp
          have hcut2 : Hid (cutsTo s (· == c) (k + 1) = (l ++ [s.extract ff k], k + 1)) := by
            unfold Hid
            rw [cutsTo_hit hlt (by simp [he]), hcut.out]
          have q1 : (ff : Int) ≤ (k : Int) := by omega
          have q2 : (k : Int) ≤ (s.size : Int) := by omega
          clear hcut he
          go_wp2_with (at_builtin; refine wpList_append_own _ rfl _ _ 26 rfl w.heap.size 9 i0 (.string ByteArray.empty) 1 16 Try.underlying26 hi hz0 hz1 hz2 rfl (by decide) _ _ _ rfl (hown.alloc _) ⟨wr.heap.size, 0, none⟩ 1 1 [.string (s.extract ff k)] rfl rfl (cell_one_new _ _ _) (by simp [Value.oneCell']) (by unfold maxLen; omega) (by omega) (by simp; omega) ?_; intro v' w1 hown' hgrow _)
          obtain ⟨ho2, hb2⟩ := own_step hb hown hown' hgrow
          clear hown hown' hgrow hb
          go_wp2
          go_roundw
          case rel => exact ⟨k + 1, k + 1, l ++ [s.extract ff k], by omega, by go_num, by go_num, Nat.le_refl _, by simp; omega, hcut2, ho2, hb2⟩
          case measure => simp [intOf]; omega
        · have hbb : ((s[k].toNat : Int) == (c.toNat : Int)) = false := by
            rw [beq_eq_false_iff_ne]; intro e; exact he (UInt8.toNat_inj.1 (Int.ofNat_inj.1 e))
          have hcut2 : Hid (cutsTo s (· == c) (k + 1) = (l, ff)) := by
            unfold Hid
            rw [cutsTo_miss hlt (by simpa using he), hcut.out]
          clear hcut he
          go_wp2
          go_roundw
          case rel => exact ⟨k + 1, ff, l, by omega, by go_num, rfl, by omega, by omega, hcut2, hown, hb⟩
          case measure => simp [intOf]; omega
      · obtain rfl : k = s.size := by omega
        have hfin : Hid (splitOf s (· == c) = l ++ [s.extract ff s.size]) := by
          unfold Hid splitOf partsOf
          rw [if_neg h0, hcut.out]
        have q1 : (ff : Int) ≤ (s.size : Int) := by omega
        clear hcut
        go_wp2_with (at_builtin; refine wpList_append_own _ rfl _ _ 26 rfl w.heap.size 9 i0 (.string ByteArray.empty) 1 16 Try.underlying26 hi hz0 hz1 hz2 rfl (by decide) _ _ _ rfl (hown.alloc _) ⟨wr.heap.size, 0, none⟩ 1 1 [.string (s.extract ff s.size)] rfl rfl (cell_one_new _ _ _) (by simp [Value.oneCell']) (by unfold maxLen; omega) (by omega) (by simp; omega) ?_; intro v' w1 hown' hgrow _)
        obtain ⟨ho2, hb2⟩ := own_step hb hown hown' hgrow
        clear hown hown' hgrow hb
        go_wp2
        go_ret
        exact ⟨v', rfl, by rw [hfin.out]; exact ho2, hb2⟩

end Go.Proofs.Ytkhcdopnohbieaa
