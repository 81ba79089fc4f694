/- The model's decoder of code points and the list's own: one and the same. -/
import Derived.Test.YtflnpkckdjmljaaDoorProg
import Derived.Test.YtflnpkckdjmljaaDoorPlain
import Derived.Test.YtflnpkckdjmljaaDoorRunePure
import Derived.Lib.MapLaws
import Derived.Lib.ValidLaws
namespace Go.Proofs.YtflnpkckdjmljaaDoor
set_option linter.unusedVariables false

theorem byte_u8 (z : Int) (n : Nat) (h : z = (n : Int)) : z.toNat.toUInt8 = u8 n := by
  subst h
  simp [u8]
/-- what a number that is a sign is encoded to -/
theorem encode_signB (r : Nat) (hr : isSign r = true) : Lib.encodeRune (r : Int) = signB r := by
  have hb := (isSign_iff r).1 hr
  unfold Lib.encodeRune signB
  by_cases h1 : r < 128
  · rw [Lib.encodeRuneZ_one (by omega) (by omega), if_pos h1]
    simp only [List.map_cons, List.map_nil]
    rw [byte_u8 _ r rfl]
  · rw [if_neg h1]
    by_cases h2 : r < 2048
    · rw [Lib.encodeRuneZ_two (by omega) (by omega), if_pos h2]
      simp only [List.map_cons, List.map_nil]
      rw [byte_u8 _ (192 + r / 64) (by omega), byte_u8 _ (128 + r % 64) (by omega)]
    · rw [if_neg h2]
      by_cases h3 : r < 65536
      · rw [Lib.encodeRuneZ_three (by omega), if_pos h3]
        simp only [List.map_cons, List.map_nil]
        rw [byte_u8 _ (224 + r / 4096) (by omega), byte_u8 _ (128 + r / 64 % 64) (by omega), byte_u8 _ (128 + r % 64) (by omega)]
      · rw [Lib.encodeRuneZ_four (by omega) (by omega), if_neg h3]
        simp only [List.map_cons, List.map_nil]
        rw [byte_u8 _ (240 + r / 262144) (by omega), byte_u8 _ (128 + r / 4096 % 64) (by omega), byte_u8 _ (128 + r / 64 % 64) (by omega), byte_u8 _ (128 + r % 64) (by omega)]
/-- a sign's bytes are decoded to it -/
theorem decode_sign (r : Nat) (hr : isSign r = true) (t : List UInt8) : Lib.decodeL (signB r ++ t) = (r, (signB r).length) := by
  have hb := (isSign_iff r).1 hr
  rw [signB_len, Lib.decodeL_N]
  unfold signB
  by_cases h1 : r < 128
  · simp only [if_pos h1, List.cons_append, List.nil_append, List.getD_cons_zero]
    unfold Lib.decodeN
    rw [u8_nat r (by omega), if_pos h1]
  · rw [if_neg h1, if_neg h1]
    by_cases h2 : r < 2048
    · simp only [if_pos h2, List.cons_append, List.nil_append, List.getD_cons_zero, List.getD_cons_succ, List.length_cons]
      unfold Lib.decodeN
      rw [u8_nat (192 + r / 64) (by omega), u8_nat (128 + r % 64) (by omega)]
      rw [if_neg (by omega), if_pos (by omega), if_pos (by omega)]
      congr 1
      omega
    · rw [if_neg h2, if_neg h2]
      by_cases h3 : r < 65536
      · simp only [if_pos h3, List.cons_append, List.nil_append, List.getD_cons_zero, List.getD_cons_succ, List.length_cons]
        unfold Lib.decodeN
        rw [u8_nat (224 + r / 4096) (by omega), u8_nat (128 + r / 64 % 64) (by omega), u8_nat (128 + r % 64) (by omega)]
        rw [if_neg (by omega), if_neg (by omega), if_pos (by omega), if_pos (by omega)]
        congr 1
        omega
      · simp only [if_neg h3, List.cons_append, List.nil_append, List.getD_cons_zero, List.getD_cons_succ, List.length_cons]
        unfold Lib.decodeN
        rw [u8_nat (240 + r / 262144) (by omega), u8_nat (128 + r / 4096 % 64) (by omega), u8_nat (128 + r / 64 % 64) (by omega), u8_nat (128 + r % 64) (by omega)]
        rw [if_neg (by omega), if_neg (by omega), if_neg (by omega), if_pos (by omega), if_pos (by omega)]
        congr 1
        omega
/-- what the decoder tells of valid bytes is a sign -/
theorem decode_isSign (l : List UInt8) (hv : ¬ ((Lib.decodeL l).1 = 65533 ∧ (Lib.decodeL l).2 = 1)) : isSign (Lib.decodeL l).1 = true := by
  rw [Lib.decodeL_N] at hv ⊢
  have k0 := (l.getD 0 0).toNat_lt
  have k1 := (l.getD 1 0).toNat_lt
  have k2 := (l.getD 2 0).toNat_lt
  have k3 := (l.getD 3 0).toNat_lt
  rw [isSign_iff]
  rcases Lib.decodeN_shape l.length (l.getD 0 0).toNat (l.getD 1 0).toNat (l.getD 2 0).toNat (l.getD 3 0).toNat with ⟨c, e⟩ | ⟨c1, c2, c3, cv, e⟩ | ⟨c1, c2, c3, c4, cv, cs, e⟩ | ⟨c1, c2, c3, c4, c5, cv, cw, e⟩ | e
  all_goals (rw [e] at hv ⊢; dsimp only at hv ⊢)
  all_goals first | omega | exact absurd ⟨rfl, rfl⟩ hv
theorem next_decode (l : List UInt8) (hne : l ≠ []) (hv : ¬ ((Lib.decodeL l).1 = 65533 ∧ (Lib.decodeL l).2 = 1)) : nextS l = some (Lib.decodeL l) := by
  have h1 := Lib.encode_decode l hne hv
  have h2 := decode_isSign l hv
  rw [encode_signB _ h2] at h1
  have hle := Lib.decodeL_le l hne
  have e : l = signB (Lib.decodeL l).1 ++ l.drop (Lib.decodeL l).2 := by rw [h1, List.take_append_drop]
  have h3 := next_sign (Lib.decodeL l).1 h2 (l.drop (Lib.decodeL l).2)
  rw [← e] at h3
  rw [h3, h1, List.length_take, Nat.min_eq_left hle]
theorem next_decode_bad (l : List UInt8) (hv : (Lib.decodeL l).1 = 65533 ∧ (Lib.decodeL l).2 = 1) : nextS l = none := by
  cases h : nextS l with
  | none => rfl
  | some q =>
    exfalso
    obtain ⟨r, n⟩ := q
    obtain ⟨h1, h2, h3, _⟩ := next_some h
    have hd := decode_sign r h1 (l.drop n)
    rw [← h3] at hd
    rw [hd] at hv
    simp only at hv
    have hl := signB_len r
    have := hv.1
    rw [if_neg (by omega), if_neg (by omega), if_pos (by omega)] at hl
    omega
/-- what is valid has signs -/
theorem valid_signs (l : List UInt8) : Lib.validD l = (signsL l).isSome := by
  have key : ∀ n (l : List UInt8), l.length = n → Lib.validD l = (signsL l).isSome := by
    intro n
    induction n using Nat.strongRecOn with
    | _ n ih =>
      intro l hl
      by_cases h0 : l = []
      · subst h0; rfl
      · rw [Lib.validD_step l h0]
        by_cases hv : (Lib.decodeL l).1 = 65533 ∧ (Lib.decodeL l).2 = 1
        · rw [if_pos hv, signsL_bad h0 (next_decode_bad l hv)]
          rfl
        · rw [if_neg hv]
          have hw := Lib.decodeL_width l
          have h1 : 0 < l.length := List.length_pos_iff.2 h0
          rw [ih (l.drop (Lib.decodeL l).2).length (by rw [List.length_drop]; omega) _ rfl]
          have hg := next_decode l h0 hv
          generalize Lib.decodeL l = d at *
          obtain ⟨r, n⟩ := d
          rw [signsL_good hg, Option.isSome_map]
  exact key l.length l rfl
end Go.Proofs.YtflnpkckdjmljaaDoor
