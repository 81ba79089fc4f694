/- The contract of the model's search for a sign at a place. -/
import Derived.Test.YtflnpkckdjmljaaProg
import Derived.Test.YtflnpkckdjmljaaPlain
import Derived.Test.YtflnpkckdjmljaaRunePure
import Derived.Test.YtflnpkckdjmljaaRuneText
import Derived.WalkKit
import Derived.WalkLawsBesides
import Derived.BigQuiet
import Derived.Deep.QuietTactic
import Derived.Lib.QuietBelow
import Derived.Lib.Hide
import Derived.IntWalk
namespace Go.Proofs.Ytflnpkckdjmljaa
open Go.RowKit Go.Sort
set_option linter.unusedVariables false

/-- the number of j bytes from place i on, the first of which told R -/
def FS (s : ByteArray) (i R j : Nat) : Nat := foldR R ((s.data.toList.drop (i + 1)).take (j - 1))
theorem FS_one (s : ByteArray) (i R : Nat) : FS s i R 1 = R := by simp [FS, foldR]
theorem FS_succ (s : ByteArray) (i R j : Nat) (h : i + j < s.size) (hj : 1 ≤ j) : FS s i R (j + 1) = 64 * FS s i R j + s[i + j].toNat % 64 := by
  unfold FS
  obtain ⟨k, rfl⟩ : ∃ k, j = k + 1 := ⟨j - 1, by omega⟩
  have hl := Lib.size_eq s
  have hk : k < (s.data.toList.drop (i + 1)).length := by rw [List.length_drop]; omega
  rw [show k + 1 + 1 - 1 = k + 1 from rfl, show k + 1 - 1 = k from rfl, List.take_succ_eq_append_getElem hk, foldR_snoc]
  have e : (s.data.toList.drop (i + 1))[k] = s[i + (k + 1)] := by
    rw [List.getElem_drop]
    show s.data.toList[i + 1 + k]'_ = s.data[i + (k + 1)]'_
    rw [Array.getElem_toList]
    congr 1
    omega
  rw [e]
theorem foldR_lt (r : Nat) (l : List UInt8) : foldR r l + 1 ≤ (r + 1) * 64 ^ l.length := by
  induction l using Pl.snocInd with
  | nil => simp [foldR]
  | snoc l c ih =>
    rw [foldR_snoc, List.length_append, List.length_cons, List.length_nil, Nat.pow_succ, ← Nat.mul_assoc]
    omega
theorem FS_lt (s : ByteArray) (i R j : Nat) (hR : R < 256) (hj : j ≤ 4) : FS s i R j < 67108864 := by
  unfold FS
  have h1 := foldR_lt R ((s.data.toList.drop (i + 1)).take (j - 1))
  have h2 : ((s.data.toList.drop (i + 1)).take (j - 1)).length ≤ 3 := by rw [List.length_take]; omega
  have h3 : 64 ^ ((s.data.toList.drop (i + 1)).take (j - 1)).length ≤ 64 ^ 3 := Nat.pow_le_pow_right (by decide) h2
  have h4 : (R + 1) * 64 ^ ((s.data.toList.drop (i + 1)).take (j - 1)).length ≤ 256 * 64 ^ 3 := Nat.mul_le_mul (by omega) h3
  omega
theorem drop_at (s : ByteArray) (i : Nat) (h : i < s.size) : s.data.toList.drop i = s[i] :: s.data.toList.drop (i + 1) := by
  have h2 : i < s.data.toList.length := by rw [← Lib.size_eq]; exact h
  rw [List.drop_eq_getElem_cons h2]
  rfl
/-- what l03Next answers -/
def nextRes (l : List UInt8) : Value := match nextS l with
  | none => .tuple #[.int .i64 0, .int .i64 0]
  | some (r, n) => .tuple #[.int .i64 r, .int .i64 n]
theorem next_short (s : ByteArray) (i : Nat) (h : i < s.size) (hs : s.size < i + headN s[i].toNat) : nextRes (s.data.toList.drop i) = .tuple #[.int .i64 0, .int .i64 0] := by
  unfold nextRes
  rw [drop_at s i h, nextS_cons, if_pos (by rw [List.length_drop, ← Lib.size_eq]; have := headN_pos s[i].toNat; omega)]
theorem extract_toList (s : ByteArray) (a b : Nat) : (s.extract a b).data.toList = (s.data.toList.drop a).take (b - a) := by
  simp [ByteArray.data_extract, Array.toList_extract, List.extract_eq_take_drop]
theorem extract_head (s : ByteArray) (i n : Nat) (h : i < s.size) (hn : 1 ≤ n) : (s.extract i (i + n)).data.toList = s[i] :: (s.data.toList.drop (i + 1)).take (n - 1) := by
  rw [extract_toList, drop_at s i h, show i + n - i = n - 1 + 1 from by omega, List.take_succ_cons]
theorem signT_is (F : Nat) (c : UInt8) (t : List UInt8) : signT (F : Int) = c :: t ↔ (isSign F = true ∧ signB F = c :: t) := by
  unfold signT
  by_cases h : isSign F = true
  · rw [if_pos ⟨by omega, by simpa using h⟩, Int.toNat_natCast]
    exact ⟨fun e => ⟨h, e⟩, fun e => e.2⟩
  · rw [if_neg (by rintro ⟨_, h2⟩; exact h (by simpa using h2))]
    exact ⟨fun e => (by cases e), fun e => absurd e.1 h⟩
theorem next_long (s : ByteArray) (i : Nat) (h : i < s.size) (hs : i + headN s[i].toNat ≤ s.size) :
    nextS (s.data.toList.drop i) = if signT (FS s i (headR s[i].toNat) (headN s[i].toNat) : Nat) = (s.extract i (i + headN s[i].toNat)).data.toList then some (FS s i (headR s[i].toNat) (headN s[i].toNat), headN s[i].toNat) else none := by
  have hp := (headN_pos s[i].toNat).1
  rw [extract_head s i _ h hp, drop_at s i h, nextS_cons, if_neg (by rw [List.length_drop, ← Lib.size_eq]; omega)]
  unfold FS
  by_cases hh : isSign (foldR (headR s[i].toNat) ((s.data.toList.drop (i + 1)).take (headN s[i].toNat - 1))) = true ∧ signB (foldR (headR s[i].toNat) ((s.data.toList.drop (i + 1)).take (headN s[i].toNat - 1))) = s[i] :: (s.data.toList.drop (i + 1)).take (headN s[i].toNat - 1)
  · rw [if_pos hh, if_pos ((signT_is _ _ _).2 hh)]
  · rw [if_neg hh, if_neg (fun e => hh ((signT_is _ _ _).1 e))]
theorem next_yes (s : ByteArray) (i : Nat) (h : i < s.size) (hs : i + headN s[i].toNat ≤ s.size) (he : signT (FS s i (headR s[i].toNat) (headN s[i].toNat) : Nat) = (s.extract i (i + headN s[i].toNat)).data.toList) :
    nextRes (s.data.toList.drop i) = .tuple #[.int .i64 (FS s i (headR s[i].toNat) (headN s[i].toNat) : Nat), .int .i64 (headN s[i].toNat : Nat)] := by
  unfold nextRes
  rw [next_long s i h hs, if_pos he]
theorem next_no (s : ByteArray) (i : Nat) (h : i < s.size) (hs : i + headN s[i].toNat ≤ s.size) (he : signT (FS s i (headR s[i].toNat) (headN s[i].toNat) : Nat) ≠ (s.extract i (i + headN s[i].toNat)).data.toList) :
    nextRes (s.data.toList.drop i) = .tuple #[.int .i64 0, .int .i64 0] := by
  unfold nextRes
  rw [next_long s i h hs, if_neg he]
theorem beq_of_lists (l : List UInt8) (b : ByteArray) : (l == b.toList) = decide (l = b.data.toList) := by
  rw [Lib.toList_data]
  by_cases h : l = b.data.toList
  · rw [decide_eq_true h]; simpa using h
  · rw [decide_eq_false h, beq_eq_false_iff_ne]; simpa using h

theorem index_sum (s : ByteArray) (i j : Nat) (h : i + j < s.size) (W : World) : (Instr.index 9 (.string s) (.int .i64 ((i : Int) + (j : Int)))).run Try.prog W = .ok (.int .u8 (s[i + j].toNat : Int)) W := by
  rw [run_index_string (h := Try.underlying9)]
  have e1 : ((i : Int) + (j : Int)).toNat = i + j := by omega
  rw [dif_pos ⟨by omega, by omega⟩]
  simp only [e1]

end Go.Proofs.Ytflnpkckdjmljaa
