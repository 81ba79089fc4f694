/- Plain facts on bytes and lists that the contracts of this seat use; they speak of no program. -/
import Derived.WalkKit
import Derived.Lib.Strings
namespace Go.Proofs.YtkhkpjnpjgnckaaGreatDoor.Pl
open Go

/-- where k bytes are alike, the order is that of what is left -/
def LessAt (a b : List UInt8) (k : Nat) : Prop := Op.bytesLess a b = Op.bytesLess (a.drop k) (b.drop k)

theorem lessAt_zero (a b : List UInt8) : LessAt a b 0 := by simp [LessAt]

theorem drop_cons (a : List UInt8) (k : Nat) (h : k < a.length) : a.drop k = a[k] :: a.drop (k + 1) := by
  exact List.drop_eq_getElem_cons h

theorem lessAt_succ {a b : List UInt8} {k : Nat} (h : LessAt a b k) (ha : k < a.length) (hb : k < b.length) (he : a[k] = b[k]) : LessAt a b (k + 1) := by
  unfold LessAt at *
  rw [h, drop_cons a k ha, drop_cons b k hb, he]
  simp [Op.bytesLess, UInt8.lt_irrefl]

theorem lessAt_diff {a b : List UInt8} {k : Nat} (h : LessAt a b k) (ha : k < a.length) (hb : k < b.length) (he : a[k] ≠ b[k]) : Op.bytesLess a b = decide (a[k].toNat < b[k].toNat) := by
  unfold LessAt at h
  rw [h, drop_cons a k ha, drop_cons b k hb]
  simp [Op.bytesLess, he, UInt8.lt_iff_toNat_lt]

theorem lessAt_end {a b : List UInt8} {k : Nat} (h : LessAt a b k) (hk : k = a.length ∨ k = b.length) (ha : k ≤ a.length) (hb : k ≤ b.length) : Op.bytesLess a b = decide (a.length < b.length) := by
  unfold LessAt at h
  rw [h]
  rcases hk with rfl | rfl
  · rw [List.drop_length]
    by_cases e : a.length < b.length
    · rw [drop_cons b _ e]; simp [Op.bytesLess, e]
    · rw [List.drop_of_length_le (by omega)]; simp [Op.bytesLess, e]
  · rw [List.drop_length]
    have : ¬ a.length < b.length := by omega
    cases a.drop b.length <;> simp [Op.bytesLess, this]

theorem snocInd {α : Type} {P : List α → Prop} (nil : P []) (snoc : ∀ l c, P l → P (l ++ [c])) (l : List α) : P l := by
  have h : ∀ r : List α, P r.reverse := by
    intro r
    induction r with
    | nil => exact nil
    | cons a r ih => rw [List.reverse_cons]; exact snoc _ _ ih
  rw [← List.reverse_reverse l]
  exact h _

/-! hexadecimal digits -/
def hexTab : List UInt8 := [48, 49, 50, 51, 52, 53, 54, 55, 56, 57, 97, 98, 99, 100, 101, 102]
def hexD (n : Nat) : UInt8 := hexTab.getD (n % 16) 0
def hexT (n : Nat) : Nat → List UInt8
  | 0 => []
  | d + 1 => hexD (n / 16 ^ d) :: hexT n d
theorem hexT_length (n d : Nat) : (hexT n d).length = d := by
  induction d with
  | zero => rfl
  | succ d ih => simp [hexT, ih]
theorem hexT_succ (n d : Nat) : hexT n (d + 1) = hexD (n / 16 ^ d) :: hexT n d := rfl
theorem hex_step (n k : Nat) : n / 16 ^ k / 16 = n / 16 ^ (k + 1) := by
  rw [Nat.div_div_eq_div_mul, Nat.pow_succ]
theorem hexTab_at (m : Nat) (h : m < 16) : hexTab[m]'(by simpa [hexTab] using h) = hexD m := by
  unfold hexD
  rw [Nat.mod_eq_of_lt h]
  simp [List.getD, hexTab, List.getElem?_eq_getElem, h]
def padT (n d k : Nat) : List UInt8 := List.replicate (d - k) 0 ++ hexT n k
theorem padT_length {n d k : Nat} (h : k ≤ d) : (padT n d k).length = d := by simp [padT, hexT_length]; omega
theorem padT_set {n d k : Nat} (h : k < d) : (padT n d k).set (d - k - 1) (hexD (n / 16 ^ k)) = padT n d (k + 1) := by
  unfold padT
  rw [List.set_append_left _ _ (by simp; omega)]
  obtain ⟨m, rfl⟩ : ∃ m, d = k + m + 1 := ⟨d - k - 1, by omega⟩
  have e1 : k + m + 1 - k - 1 = m := by omega
  have e2 : k + m + 1 - k = m + 1 := by omega
  have e3 : k + m + 1 - (k + 1) = m := by omega
  rw [e1, e2, e3, List.replicate_succ', List.set_append_right _ _ (by simp)]
  simp [hexT]
theorem padT_zero (n d : Nat) : padT n d 0 = List.replicate d 0 := by simp [padT, hexT]
theorem padT_full (n d : Nat) : padT n d d = hexT n d := by simp [padT]

abbrev hexS : ByteArray := ⟨#[48, 49, 50, 51, 52, 53, 54, 55, 56, 57, 97, 98, 99, 100, 101, 102]⟩
theorem hexS_cut_all : ∀ r, r < 16 → hexS.extract r (r + 1) = ⟨#[hexTab.getD r 0]⟩ := by decide +kernel
theorem hexS_cut (q : Nat) : hexS.extract (q % 16) (q % 16 + 1) = ⟨#[hexD q]⟩ := hexS_cut_all _ (Nat.mod_lt _ (by decide))
theorem hexS_at_all : ∀ r, (h : r < 16) → hexS[r] = hexTab.getD r 0 := by decide +kernel
theorem hexS_at (q : Nat) : hexS[q % 16]'(Nat.mod_lt _ (by decide)) = hexD q := hexS_at_all _ (Nat.mod_lt _ (by decide))

theorem join_lists (a b : List UInt8) : (⟨a.toArray⟩ : ByteArray) ++ ⟨b.toArray⟩ = ⟨(a ++ b).toArray⟩ := by
  apply ByteArray.ext
  simp

/-- within two bounds -/
def inB (x a b : Int) : Bool := decide (a ≤ x) && decide (x ≤ b)
theorem inB_true {x a b : Int} (h1 : a ≤ x) (h2 : x ≤ b) : inB x a b = true := by simp [inB, h1, h2]
theorem inB_false {x a b : Int} (h : x < a ∨ b < x) : inB x a b = false := by
  rcases h with h | h
  · simp [inB, show ¬ a ≤ x by omega]
  · simp [inB, show ¬ x ≤ b by omega]

def hexOf (n d : Int) : List UInt8 := if n < 0 ∨ d < 1 ∨ 8 < d then [] else hexT n.toNat d.toNat

/-! digits and numbers -/
def dig (c : UInt8) : Nat := if 48 ≤ c.toNat ∧ c.toNat ≤ 57 then c.toNat - 48 else if 97 ≤ c.toNat ∧ c.toNat ≤ 102 then c.toNat - 87 else if 65 ≤ c.toNat ∧ c.toNat ≤ 70 then c.toNat - 55 else 99
def dv (r : Int) : Int := if 48 ≤ r ∧ r ≤ 57 then r - 48 else if 97 ≤ r ∧ r ≤ 102 then r - 87 else if 65 ≤ r ∧ r ≤ 70 then r - 55 else -1
def okB (base : Nat) (c : UInt8) : Bool := decide (dig c < base)
def num (base : Nat) (l : List UInt8) : Nat := l.foldl (fun n c => n * base + dig c) 0
theorem num_snoc (base : Nat) (l : List UInt8) (c : UInt8) : num base (l ++ [c]) = num base l * base + dig c := by simp [num]
theorem num_lt (base : Nat) (l : List UInt8) (h : l.all (okB base) = true) : num base l < base ^ l.length := by
  induction l using snocInd with
  | nil => simp [num]
  | snoc l c ih =>
    simp only [List.all_append, List.all_cons, List.all_nil, Bool.and_true, Bool.and_eq_true] at h
    have h1 := ih h.1
    have h2 : dig c < base := by simpa [okB] using h.2
    rw [num_snoc, List.length_append, List.length_cons, List.length_nil, Nat.pow_succ]
    have : (num base l + 1) * base ≤ base ^ l.length * base := Nat.mul_le_mul_right _ h1
    rw [Nat.add_mul] at this
    omega
def readN (base most : Nat) (l : List UInt8) : Option Nat := if 1 ≤ l.length ∧ l.length ≤ most ∧ l.all (okB base) = true then some (num base l) else none
theorem take_snoc (s : ByteArray) (k : Nat) (h : k < s.size) : s.data.toList.take (k + 1) = s.data.toList.take k ++ [s[k]] := by
  rw [List.take_succ_eq_append_getElem (by simpa using h)]; rfl
theorem take_all (s : ByteArray) : s.data.toList.take s.size = s.data.toList := List.take_of_length_le (by simp)
theorem readN_bad (base most : Nat) (s : ByteArray) (k : Nat) (h : k < s.size) (hb : okB base s[k] = false) : readN base most s.data.toList = none := by
  unfold readN
  rw [if_neg]
  rintro ⟨_, _, h3⟩
  rw [List.all_eq_true] at h3
  have := h3 s[k] (by
    have e : s[k] = s.data.toList[k]'(by simpa using h) := rfl
    rw [e]; exact List.getElem_mem _)
  rw [hb] at this
  cases this
theorem readN_good (base most : Nat) (s : ByteArray) (h1 : 1 ≤ s.size) (h2 : s.size ≤ most) (h3 : s.data.toList.all (okB base) = true) : readN base most s.data.toList = some (num base s.data.toList) := by
  unfold readN
  rw [if_pos ⟨by simpa using h1, by simpa using h2, h3⟩]
theorem readN_len (base most : Nat) (s : ByteArray) (h : s.size < 1 ∨ most < s.size) : readN base most s.data.toList = none := by
  unfold readN
  rw [if_neg]
  rintro ⟨a, b, _⟩
  have e : s.data.toList.length = s.size := by simp
  omega
/-- what has been read of the first k bytes -/
def Upto (base : Nat) (s : ByteArray) (k n : Nat) : Prop := (s.data.toList.take k).all (okB base) = true ∧ n = num base (s.data.toList.take k)
theorem upto_zero (base : Nat) (s : ByteArray) : Upto base s 0 0 := ⟨by simp, by simp [num]⟩
theorem upto_succ {base : Nat} {s : ByteArray} {k n : Nat} (h : Upto base s k n) (hk : k < s.size) (ho : okB base s[k] = true) : Upto base s (k + 1) (n * base + dig s[k]) := by
  obtain ⟨h1, rfl⟩ := h
  unfold Upto
  rw [take_snoc s k hk, num_snoc]
  exact ⟨by simp [h1, ho], rfl⟩
theorem upto_lt {base : Nat} {s : ByteArray} {k n : Nat} (h : Upto base s k n) (hk : k ≤ s.size) : n < base ^ k := by
  obtain ⟨h1, rfl⟩ := h
  have := num_lt base _ h1
  rw [List.length_take] at this
  have e : min k s.data.toList.length = k := by have : s.data.toList.length = s.size := by simp
                                                omega
  rwa [e] at this
theorem upto_all {base most : Nat} {s : ByteArray} {n : Nat} (h : Upto base s s.size n) (h1 : 1 ≤ s.size) (h2 : s.size ≤ most) : readN base most s.data.toList = some n := by
  obtain ⟨h3, rfl⟩ := h
  rw [take_all] at h3 ⊢
  exact readN_good base most s h1 h2 h3

end Go.Proofs.YtkhkpjnpjgnckaaGreatDoor.Pl
