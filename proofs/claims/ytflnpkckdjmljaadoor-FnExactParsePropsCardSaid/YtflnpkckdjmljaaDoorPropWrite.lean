/- Texts of property files written sign by sign, and read piece by piece: as lists. -/
import Derived.Test.YtflnpkckdjmljaaDoorProg
import Derived.Test.YtflnpkckdjmljaaDoorPlain
import Derived.Test.YtflnpkckdjmljaaDoorHex
import Derived.Test.YtflnpkckdjmljaaDoorRunePure
import Derived.Test.YtflnpkckdjmljaaDoorPropPure
import Derived.Lib.Hide
namespace Go.Proofs.YtflnpkckdjmljaaDoor
open Go.RowKit
set_option linter.unusedVariables false

/-- what a sign is written as -/
def eW (all : Bool) (r : Nat) : List UInt8 := if r < 128 then propP all (u8 r) else escB r
theorem propP_high (all : Bool) (b : UInt8) (h : 127 < b.toNat) : propP all b = [b] := by
  have hb : ∀ d : UInt8, d.toNat ≤ 127 → b ≠ d := fun d hd e => by rw [e] at h; omega
  have hm : propM all b = false := by
    rw [← Bool.not_eq_true]
    intro hm
    rcases propM_byte hm with e | e | e | e | e | e <;> exact hb _ (by decide) e
  unfold propP
  rw [if_neg (hb 10 (by decide)), if_neg (hb 9 (by decide)), if_neg (hb 13 (by decide)), if_neg (hb 12 (by decide)), hm, if_neg (by simp), if_neg]
  rintro (h2 | h2)
  · omega
  · exact hb 127 (by decide) h2
/-- the text, sign by sign or byte by byte -/
def escL7 (all : Bool) (l : List UInt8) : List UInt8 := if (signsL l).isSome then ((signsL l).getD []).flatMap (eW all) else l.flatMap (propP all)
theorem u8_of (c : UInt8) : u8 c.toNat = c := by simp [u8]
theorem propW_signs (all : Bool) : ∀ (f : Nat) (l : List UInt8) (rs : List Nat), l.length ≤ f → signsL l = some rs → propW true all f false l = rs.flatMap (eW all) := by
  intro f
  induction f with
  | zero =>
    intro l rs hf hs
    have : l = [] := List.eq_nil_of_length_eq_zero (by omega)
    subst this
    rw [signsL_nil] at hs
    cases hs
    rfl
  | succ f ih =>
    intro l rs hf hs
    cases l with
    | nil =>
      rw [signsL_nil] at hs
      cases hs
      rfl
    | cons c t =>
      cases hn : nextS (c :: t) with
      | none => rw [signsL_bad (by simp) hn] at hs; cases hs
      | some q =>
        obtain ⟨r, n⟩ := q
        rw [signsL_good hn] at hs
        obtain ⟨rs2, h2, rfl⟩ := Option.map_eq_some_iff.1 hs
        have hp := next_pos hn
        have hl : ((c :: t).drop n).length ≤ f := by rw [List.length_drop]; omega
        by_cases hc : 127 < c.toNat
        · obtain ⟨_, hr, _⟩ := next_high hc hn
          rw [propW_sign all f false c t hc hn, ih _ _ hl h2, List.flatMap_cons]
          unfold eW
          rw [if_neg (by omega)]
        · rw [next_low (by omega)] at hn
          cases hn
          rw [List.drop_succ_cons, List.drop_zero] at h2 hl
          rw [propW_byte true all f false c t (fun h => hc h.1), ih _ _ hl h2, List.flatMap_cons]
          unfold eW
          rw [if_pos (by omega), u8_of, Bool.or_false]
theorem propW_bytes (all : Bool) : ∀ (f : Nat) (l : List UInt8), l.length ≤ f → propW false all f false l = l.flatMap (propP all) := by
  intro f
  induction f with
  | zero =>
    intro l hf
    have : l = [] := List.eq_nil_of_length_eq_zero (by omega)
    subst this
    rfl
  | succ f ih =>
    intro l hf
    cases l with
    | nil => rfl
    | cons c t =>
      rw [propW_byte false all f false c t (by simp), ih t (by simpa using hf), List.flatMap_cons, Bool.or_false]
theorem escL7_W (all : Bool) (l : List UInt8) : propW (signsL l).isSome all l.length false l = escL7 all l := by
  unfold escL7
  cases h : signsL l with
  | none => exact propW_bytes all _ l (Nat.le_refl _)
  | some rs => exact propW_signs all _ l rs (Nat.le_refl _) h
theorem propW_first (ok : Bool) (f : Nat) (l : List UInt8) : propW ok true f true l = propW ok true f false l := by
  cases l with
  | nil => cases f <;> rfl
  | cons c t =>
    cases f with
    | zero => rfl
    | succ f => simp only [propW, Bool.true_or]
theorem propL_key (l : List UInt8) : propL true l = escL7 true l := by
  unfold propL
  rw [propW_first, escL7_W]
theorem propL_plain (l : List UInt8) (h : l[0]? ≠ some 32) : propL false l = escL7 false l := by
  rw [← escL7_W]
  unfold propL
  cases l with
  | nil => rfl
  | cons c t =>
    have hc : c ≠ 32 := by intro e; apply h; rw [e]; rfl
    rw [List.length_cons]
    by_cases hs : 127 < c.toNat ∧ (signsL (c :: t)).isSome = true
    · simp only [propW, if_pos hs]
    · rw [propW_byte _ _ _ _ _ _ hs, propW_byte _ _ _ _ _ _ hs]
      congr 1
      unfold propP propM
      have : (c == 32) = false := by simpa using hc
      rw [this]
      rfl
theorem signs_space (t : List UInt8) : signsL (32 :: t) = (signsL t).map (32 :: ·) := by
  rw [signsL_good (next_low (by decide))]
  rfl
theorem propL_space (t : List UInt8) : propL false (32 :: t) = 92 :: 32 :: escL7 false t := by
  rw [← escL7_W]
  unfold propL
  have ho : (signsL (32 :: t)).isSome = (signsL t).isSome := by rw [signs_space]; cases signsL t <;> rfl
  rw [ho, List.length_cons, propW_byte _ _ _ _ _ _ (fun h => absurd h.1 (by decide))]
  rfl
theorem eW_ten (all : Bool) : eW all 10 = [92, 110] := rfl
theorem eW_nine (all : Bool) : eW all 9 = [92, 116] := rfl
theorem eW_13 (all : Bool) : eW all 13 = [92, 114] := rfl
theorem eW_12 (all : Bool) : eW all 12 = [92, 102] := rfl
theorem eW_mark {all : Bool} {r : Nat} (h : r < 128) (h10 : r ≠ 10) (h9 : r ≠ 9) (h13 : r ≠ 13) (h12 : r ≠ 12) (hm : propM all (u8 r) = true) : eW all r = [92, u8 r] := by
  have hb := u8_nat r (by omega)
  have ne : ∀ d : UInt8, r ≠ d.toNat → u8 r ≠ d := fun d hd e => hd (by rw [← e, hb])
  unfold eW propP
  rw [if_pos h, if_neg (ne 10 h10), if_neg (ne 9 h9), if_neg (ne 13 h13), if_neg (ne 12 h12), if_pos hm]
theorem eW_rest {all : Bool} {r : Nat} (h10 : r ≠ 10) (h9 : r ≠ 9) (h13 : r ≠ 13) (h12 : r ≠ 12) (hm : r < 128 → propM all (u8 r) = false) : eW all r = escB r := by
  by_cases h : r < 128
  · have hb := u8_nat r (by omega)
    have ne : ∀ d : UInt8, r ≠ d.toNat → u8 r ≠ d := fun d hd e => hd (by rw [← e, hb])
    have h92 : r ≠ 92 := fun e => by
      have := hm h
      subst e
      rw [show u8 92 = 92 from rfl] at this
      unfold propM at this
      simp at this
    unfold eW propP
    rw [if_pos h, if_neg (ne 10 h10), if_neg (ne 9 h9), if_neg (ne 13 h13), if_neg (ne 12 h12), if_neg (by rw [hm h]; simp), hb]
    unfold escB
    rw [if_neg h92]
    by_cases h2 : 32 ≤ r ∧ r ≤ 126
    · rw [if_pos h2, if_neg]
      rintro (h3 | h3)
      · omega
      · have := congrArg UInt8.toNat h3
        rw [hb] at this
        exact absurd this (by show r ≠ 127; omega)
    · have h4 : r < 32 ∨ u8 r = 127 := by
        by_cases h3 : r < 32
        · exact .inl h3
        · right
          have : r = 127 := by omega
          subst this
          rfl
      rw [if_neg h2, if_pos (show r < 65536 by omega), if_pos h4]
  · unfold eW
    rw [if_neg h]
theorem eW_len (all : Bool) (r : Nat) : (eW all r).length ≤ 12 := by
  unfold eW
  split
  · unfold propP
    repeat' split
    all_goals simp [uE_len]
  · unfold escB
    repeat' split
    all_goals simp [uE_len]
theorem propP_len12 (all : Bool) (b : UInt8) : (propP all b).length ≤ 12 := by
  unfold propP
  repeat' split
  all_goals simp [uE_len]

/-! texts read, piece by piece -/
theorem propAt_plains {all : List UInt8} {k : Nat} {acc : List UInt8} (h : PropAt all k acc) : ∀ m, (∀ c ∈ (all.drop k).take m, c ≠ 92) → m ≤ (all.drop k).length → PropAt all (k + m) (acc ++ (all.drop k).take m) := by
  intro m
  induction m with
  | zero => intro _ _; simpa using h
  | succ m ih =>
    intro hc hm
    have h2 := ih (fun c hx => hc c (List.take_subset_take_left _ (Nat.le_succ m) hx)) (by omega)
    have hlt : m < (all.drop k).length := by omega
    have hd : all.drop (k + m) = (all.drop k)[m] :: all.drop (k + m + 1) := by
      rw [← List.drop_drop, List.drop_eq_getElem_cons hlt, List.drop_drop, Nat.add_assoc]
    have hx : (all.drop k)[m] ≠ 92 := hc _ (by rw [List.take_succ_eq_append_getElem hlt]; simp)
    have h3 := propAt_plain h2 hd hx
    rw [List.take_succ_eq_append_getElem hlt, ← List.append_assoc]
    exact h3

end Go.Proofs.YtflnpkckdjmljaaDoor
