/- Bytes 92 at the end of texts put together; lines that go on. -/
import Derived.Test.YtflnpkckdjmljaaDoorProg
import Derived.Test.YtflnpkckdjmljaaDoorPlain
import Derived.Test.YtflnpkckdjmljaaDoorTail
import Derived.Lib.Hide
namespace Go.Proofs.YtflnpkckdjmljaaDoor
open Go.RowKit
set_option linter.unusedVariables false

def tlP (l : List UInt8) : Nat := (l.reverse.takeWhile (· == 92)).length
theorem tailN_tlP (s : ByteArray) : tailN s = tlP s.data.toList := rfl
theorem tlP_nil : tlP [] = 0 := rfl
theorem tlP_more (l : List UInt8) : tlP (l ++ [92]) = tlP l + 1 := by simp [tlP]
theorem tlP_none (l : List UInt8) (c : UInt8) (h : c ≠ 92) : tlP (l ++ [c]) = 0 := by
  unfold tlP
  rw [List.reverse_append]
  have : (c == 92) = false := by simpa using h
  simp [this]
theorem tlP_app (a b : List UInt8) : tlP (a ++ b) = if tlP b = b.length then b.length + tlP a else tlP b := by
  unfold tlP
  rw [List.reverse_append, List.takeWhile_append, List.length_reverse]
  split
  · rw [List.length_append, List.length_reverse]
  · rfl
theorem tlP_even (a b : List UInt8) (h : tlP a % 2 = 0) : tlP (a ++ b) % 2 = tlP b % 2 := by
  rw [tlP_app]
  split
  · next h2 => rw [h2]; omega
  · rfl
theorem tlP_last {l : List UInt8} (h : tlP l % 2 = 1) : l = l.dropLast ++ [92] ∧ tlP l.dropLast % 2 = 0 := by
  rcases List.eq_nil_or_concat l with e | ⟨a, c, e⟩
  · subst e; rw [tlP_nil] at h; cases h
  · rw [List.concat_eq_append] at e
    subst e
    by_cases hc : c = 92
    · subst hc
      rw [tlP_more] at h
      simp only [List.dropLast_concat]
      exact ⟨trivial, by omega⟩
    · rw [tlP_none a c hc] at h; cases h
theorem tailN_app (a b : ByteArray) (h : tailN a % 2 = 0) : tailN (a ++ b) % 2 = tailN b % 2 := by
  rw [tailN_tlP] at *
  rw [tailN_tlP, ByteArray.data_append, Array.toList_append]
  exact tlP_even _ _ h
theorem cut_last (t : ByteArray) (h : 0 < t.size) : (t.extract 0 (t.size - 1)).data.toList = t.data.toList.dropLast := by
  rw [Lib.extract_eq, List.dropLast_eq_take, ← Lib.size_eq]
  simp only [List.drop_zero, Nat.sub_zero]
theorem tail_cut {t : ByteArray} (h : tailN t % 2 = 1) : 0 < t.size ∧ tailN (t.extract 0 (t.size - 1)) % 2 = 0 ∧ t.data.toList = (t.extract 0 (t.size - 1)).data.toList ++ [92] := by
  have hp : 0 < t.size := by have := tailN_le t; omega
  rw [tailN_tlP] at h
  obtain ⟨h1, h2⟩ := tlP_last h
  rw [tailN_tlP, cut_last t hp]
  exact ⟨hp, h2, h1⟩
/-- the last byte of two texts put together is the last of the second -/
theorem app_cut (a b : ByteArray) (h : 0 < b.size) : (a ++ b).extract 0 ((a ++ b).size - 1) = a ++ b.extract 0 (b.size - 1) := by
  apply ByteArray.ext
  apply Array.toList_inj.1
  rw [cut_last _ (by rw [ByteArray.size_append]; omega), ByteArray.data_append, Array.toList_append, ByteArray.data_append, Array.toList_append, cut_last b h]
  rw [List.dropLast_append_of_ne_nil]
  intro e
  rw [Lib.size_eq, e] at h
  exact absurd h (by simp)
/-- a text one byte on -/
theorem tailN_step (s : ByteArray) (k : Nat) (h : k < s.size) : tailN (s.extract 0 (k + 1)) = if s[k] = 92 then tailN (s.extract 0 k) + 1 else 0 := by
  have hl : k < s.data.toList.length := by rw [← Lib.size_eq]; exact h
  have e : (s.extract 0 (k + 1)).data.toList = (s.extract 0 k).data.toList ++ [s[k]] := by
    rw [Lib.extract_eq, Lib.extract_eq]
    simp only [List.drop_zero, Nat.sub_zero]
    rw [List.take_succ_eq_append_getElem hl]
    rfl
  rw [tailN_tlP, tailN_tlP, e]
  split
  · next hc => rw [hc, tlP_more]
  · next hc => rw [tlP_none _ _ hc]

end Go.Proofs.YtflnpkckdjmljaaDoor
