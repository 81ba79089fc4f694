/- Escapes read, as lists of bytes and at places of a text. -/
import Derived.Test.YtflnpkckdjmljaaDoorProg
import Derived.Test.YtflnpkckdjmljaaDoorPlain
import Derived.Test.YtflnpkckdjmljaaDoorRunePure
import Derived.Test.YtflnpkckdjmljaaDoorRuneText
import Derived.Test.YtflnpkckdjmljaaDoorNextSpec
import Derived.Test.YtflnpkckdjmljaaDoorDigits
namespace Go.Proofs.YtflnpkckdjmljaaDoor
set_option linter.unusedVariables false

theorem four_at (s : ByteArray) (i : Nat) (h : i + 6 ≤ s.size) :
    fourE (s.data.toList.drop i) = if s[i] = 92 ∧ s[i + 1] = 117 then Pl.readN 16 8 (s.extract (i + 2) (i + 6)).data.toList else none := by
  rw [extract_toList, show i + 6 - (i + 2) = 4 from by omega]
  rw [drop_at s i (by omega), drop_at s (i + 1) (by omega), drop_at s (i + 1 + 1) (by omega), drop_at s (i + 1 + 1 + 1) (by omega), drop_at s (i + 1 + 1 + 1 + 1) (by omega), drop_at s (i + 1 + 1 + 1 + 1 + 1) (by omega)]
  rfl
theorem four_short (l : List UInt8) (h : l.length < 6) : fourE l = none := by
  match l, h with
  | [], _ => rfl
  | [_], _ => rfl
  | [_, _], _ => rfl
  | [_, _, _], _ => rfl
  | [_, _, _, _], _ => rfl
  | [_, _, _, _, _], _ => rfl
  | _ :: _ :: _ :: _ :: _ :: _ :: _, h => simp only [List.length_cons] at h; omega
theorem four_drop_short (s : ByteArray) (i : Nat) (h : s.size < i + 6) : fourE (s.data.toList.drop i) = none :=
  four_short _ (by rw [List.length_drop, ← Lib.size_eq]; omega)
theorem four_lt {l : List UInt8} {a : Nat} (h : fourE l = some a) : a < 65536 := by
  unfold fourE at h
  split at h
  · split at h
    · unfold Pl.readN at h
      split at h
      · rename_i h2
        injection h with h
        subst h
        have := Pl.num_lt 16 _ h2.2.2
        simpa using this
      · cases h
    · cases h
  · cases h
/-- an escape tells a sign -/
theorem escape_sign {l : List UInt8} {r n : Nat} (h : escapeE l = some (r, n)) : isSign r = true := by
  rw [isSign_iff]
  unfold escapeE at h
  split at h
  · cases h
  · rename_i a ha
    have h1 := four_lt ha
    split at h
    · cases h
    · split at h
      · split at h
        · cases h
        · rename_i b hb
          have h2 := four_lt hb
          split at h
          · simp only [Option.some.injEq, Prod.mk.injEq] at h
            omega
          · cases h
      · simp only [Option.some.injEq, Prod.mk.injEq] at h
        omega
theorem escape_none_four {l : List UInt8} (h : fourE l = none) : escapeE l = none := by unfold escapeE; rw [h]
theorem escape_second {l : List UInt8} {a : Nat} (h : fourE l = some a) (h1 : 56320 ≤ a ∧ a ≤ 57343) : escapeE l = none := by
  unfold escapeE; rw [h]; simp only; rw [if_pos h1]
theorem escape_one {l : List UInt8} {a : Nat} (h : fourE l = some a) (h1 : ¬ (56320 ≤ a ∧ a ≤ 57343)) (h2 : ¬ (55296 ≤ a ∧ a ≤ 56319)) : escapeE l = some (a, 6) := by
  unfold escapeE; rw [h]; simp only; rw [if_neg h1, if_neg h2]
theorem escape_first_none {l : List UInt8} {a : Nat} (h : fourE l = some a) (h2 : 55296 ≤ a ∧ a ≤ 56319) (hb : fourE (l.drop 6) = none) : escapeE l = none := by
  unfold escapeE; rw [h]; simp only; rw [if_neg (by omega), if_pos h2, hb]
theorem escape_first_bad {l : List UInt8} {a b : Nat} (h : fourE l = some a) (h2 : 55296 ≤ a ∧ a ≤ 56319) (hb : fourE (l.drop 6) = some b) (h3 : ¬ (56320 ≤ b ∧ b ≤ 57343)) : escapeE l = none := by
  unfold escapeE; rw [h]; simp only; rw [if_neg (by omega), if_pos h2, hb]; simp only; rw [if_neg h3]
theorem escape_two {l : List UInt8} {a b : Nat} (h : fourE l = some a) (h2 : 55296 ≤ a ∧ a ≤ 56319) (hb : fourE (l.drop 6) = some b) (h3 : 56320 ≤ b ∧ b ≤ 57343) : escapeE l = some (65536 + 1024 * (a - 55296) + (b - 56320), 12) := by
  unfold escapeE; rw [h]; simp only; rw [if_neg (by omega), if_pos h2, hb]; simp only; rw [if_pos h3]

/-! how far it has come -/
def GetAt (all : List UInt8) (k : Nat) (acc : List UInt8) : Prop := getR all = (getR (all.drop k)).map (acc ++ ·)
theorem getAt_zero (all : List UInt8) : GetAt all 0 [] := by
  unfold GetAt
  rw [List.drop_zero]
  cases getR all <;> rfl
theorem getAt_more {all : List UInt8} {k : Nat} {acc : List UInt8} (h : GetAt all k acc) (n : Nat) (x : List UInt8) (hn : getR (all.drop k) = (getR ((all.drop k).drop n)).map (x ++ ·)) : GetAt all (k + n) (acc ++ x) := by
  unfold GetAt at *
  rw [h, hn, List.drop_drop]
  cases getR (all.drop (k + n)) with
  | none => rfl
  | some y => simp
theorem getAt_none {all : List UInt8} {k : Nat} {acc : List UInt8} (h : GetAt all k acc) (hn : getR (all.drop k) = none) : getR all = none := by
  unfold GetAt at h
  rw [h, hn]
  rfl
theorem getAt_end {all : List UInt8} {k : Nat} {acc : List UInt8} (h : GetAt all k acc) (hk : all.length ≤ k) : getR all = some acc := by
  unfold GetAt at h
  rw [h, List.drop_of_length_le hk, getR_nil]
  simp
theorem map_cons_app (c : UInt8) (o : Option (List UInt8)) : o.map (c :: ·) = o.map ([c] ++ ·) := by cases o <;> rfl
theorem getAt_on {all : List UInt8} {k : Nat} {acc : List UInt8} {c : UInt8} {t : List UInt8} (h : GetAt all k acc) (hc : all.drop k = c :: t) (hn : c ≠ 92) : GetAt all (k + 1) (acc ++ [c]) := by
  refine getAt_more h 1 [c] ?_
  rw [hc, getR_on c t hn, map_cons_app]
  rfl
theorem getAt_two {all : List UInt8} {k : Nat} {acc : List UInt8} {t : List UInt8} (h : GetAt all k acc) (hc : all.drop k = 92 :: 92 :: t) : GetAt all (k + 2) (acc ++ [92]) := by
  refine getAt_more h 2 [92] ?_
  rw [hc, getR_two t, map_cons_app]
  rfl
theorem getAt_escape {all : List UInt8} {k : Nat} {acc : List UInt8} {r n : Nat} (h : GetAt all k acc) (h0 : (all.drop k)[0]? = some 92) (h1 : (all.drop k)[1]? ≠ some 92) (he : escapeE (all.drop k) = some (r, n)) : GetAt all (k + n) (acc ++ signB r) :=
  getAt_more h n (signB r) (getR_escape h0 h1 he)
theorem getAt_bad {all : List UInt8} {k : Nat} {acc : List UInt8} (h : GetAt all k acc) (h0 : (all.drop k)[0]? = some 92) (h1 : (all.drop k)[1]? ≠ some 92) (he : escapeE (all.drop k) = none) : getR all = none :=
  getAt_none h (getR_bad h0 h1 he)

/-- what GetEscapes answers -/
def getRes (l : List UInt8) : Value := match getL l with
  | none => .tuple #[.string ⟨#[]⟩, .bool false]
  | some t => .tuple #[.string ⟨t.toArray⟩, .bool true]
theorem getRes_wrong {l : List UInt8} (h : (signsL l).isSome = false) : getRes l = .tuple #[.string ⟨#[]⟩, .bool false] := by
  unfold getRes getL
  rw [h]
  rfl
theorem getRes_bad {l : List UInt8} (h : (signsL l).isSome = true) (h2 : getR l = none) : getRes l = .tuple #[.string ⟨#[]⟩, .bool false] := by
  unfold getRes getL
  rw [h, if_pos rfl, h2]
theorem getRes_good {l : List UInt8} {t : List UInt8} (h : (signsL l).isSome = true) (h2 : getR l = some t) : getRes l = .tuple #[.string ⟨t.toArray⟩, .bool true] := by
  unfold getRes getL
  rw [h, if_pos rfl, h2]
/-- what is told is no longer than what is read -/
theorem escape_len {l : List UInt8} {r n : Nat} (h : escapeE l = some (r, n)) : (signB r).length ≤ n := by
  have h1 := (escape_pos h).1
  have h2 := (signB_pos r).2
  omega

end Go.Proofs.YtflnpkckdjmljaaDoor
