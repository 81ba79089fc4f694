/- Plain facts on bytes and lists that the contracts of this seat use; they speak of no program. -/
import Derived.WalkKit
import Derived.Lib.Strings
namespace Go.Proofs.Ytkhcdopnohbieaa.Pl
open Go

/-- where k bytes are alike, the order is that of what is left -/
def LessAt (a b : List UInt8) (k : Nat) : Prop := Op.bytesLess a b = Op.bytesLess (a.drop k) (b.drop k)

theorem lessAt_zero (a b : List UInt8) : LessAt a b 0 := by simp [LessAt]

theorem drop_cons (a : List UInt8) (k : Nat) (h : k < a.length) : a.drop k = a[k] :: a.drop (k + 1) := by
  exact List.drop_eq_getElem_cons h

theorem lessAt_succ {a b : List UInt8} {k : Nat} (h : LessAt a b k) (ha : k < a.length) (hb : k < b.length) (he : a[k] = b[k]) : LessAt a b (k + 1) := by
  unfold LessAt at *
  rw [h, drop_cons a k ha, drop_cons b k hb, he]
  simp [Op.bytesLess, UInt8.lt_irrefl]

theorem lessAt_diff {a b : List UInt8} {k : Nat} (h : LessAt a b k) (ha : k < a.length) (hb : k < b.length) (he : a[k] ≠ b[k]) : Op.bytesLess a b = decide (a[k].toNat < b[k].toNat) := by
  unfold LessAt at h
  rw [h, drop_cons a k ha, drop_cons b k hb]
  simp [Op.bytesLess, he, UInt8.lt_iff_toNat_lt]

theorem lessAt_end {a b : List UInt8} {k : Nat} (h : LessAt a b k) (hk : k = a.length ∨ k = b.length) (ha : k ≤ a.length) (hb : k ≤ b.length) : Op.bytesLess a b = decide (a.length < b.length) := by
  unfold LessAt at h
  rw [h]
  rcases hk with rfl | rfl
  · rw [List.drop_length]
    by_cases e : a.length < b.length
    · rw [drop_cons b _ e]; simp [Op.bytesLess, e]
    · rw [List.drop_of_length_le (by omega)]; simp [Op.bytesLess, e]
  · rw [List.drop_length]
    have : ¬ a.length < b.length := by omega
    cases a.drop b.length <;> simp [Op.bytesLess, this]

end Go.Proofs.Ytkhcdopnohbieaa.Pl
