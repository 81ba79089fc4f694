/- Texts of property files, as lists: taken back, put, and what is put comes back. It speaks of no program. -/
import Derived.Test.YtflnpkckdjmljaaDoorPlain
import Derived.Test.YtflnpkckdjmljaaDoorRunePure
namespace Go.Proofs.YtflnpkckdjmljaaDoor
set_option linter.unusedVariables false

/-- what a byte behind a byte 92 stands for, where it is no u -/
def propB (e : UInt8) : UInt8 := if e = 110 then 10 else if e = 116 then 9 else if e = 114 then 13 else if e = 102 then 12 else e
/-- a text taken back, step by step -/
def propF : Nat → List UInt8 → Option (List UInt8)
  | _, [] => some []
  | 0, _ :: _ => none
  | f + 1, c :: t =>
    if c ≠ 92 then (propF f t).map (c :: ·)
    else match t with
      | [] => some []
      | e :: u => if e = 117 then (match escapeE (c :: t) with
          | none => none
          | some (r, n) => (propF f ((c :: t).drop n)).map (signB r ++ ·))
        else (propF f u).map (propB e :: ·)
def propR (l : List UInt8) : Option (List UInt8) := propF l.length l
theorem propF_plain (f : Nat) (c : UInt8) (t : List UInt8) (h : c ≠ 92) : propF (f + 1) (c :: t) = (propF f t).map (c :: ·) := by
  simp only [propF]
  rw [if_pos h]
theorem propF_last (f : Nat) : propF (f + 1) [92] = some [] := rfl
theorem propF_two (f : Nat) (e : UInt8) (u : List UInt8) (h : e ≠ 117) : propF (f + 1) (92 :: e :: u) = (propF f u).map (propB e :: ·) := by
  simp only [propF]
  rw [if_neg (by simp), if_neg h]
theorem propF_u (f : Nat) (u : List UInt8) : propF (f + 1) (92 :: 117 :: u) = match escapeE (92 :: 117 :: u) with
    | none => none
    | some (r, n) => (propF f ((92 :: 117 :: u).drop n)).map (signB r ++ ·) := by
  simp only [propF]
  rw [if_neg (by simp), if_pos trivial]
theorem propF_more (f g : Nat) (l : List UInt8) (hf : l.length ≤ f) (hg : l.length ≤ g) : propF f l = propF g l := by
  induction f generalizing g l with
  | zero =>
    have : l = [] := List.eq_nil_of_length_eq_zero (by omega)
    subst this
    cases g <;> rfl
  | succ f ih =>
    cases l with
    | nil => cases g <;> rfl
    | cons c t =>
      cases g with
      | zero => simp at hg
      | succ g =>
        simp only [List.length_cons] at hf hg
        by_cases hc : c = 92
        · subst hc
          cases t with
          | nil => rfl
          | cons e u =>
            simp only [List.length_cons] at hf hg
            by_cases he : e = 117
            · subst he
              rw [propF_u, propF_u]
              cases hn : escapeE (92 :: 117 :: u) with
              | none => rfl
              | some q =>
                obtain ⟨r, n⟩ := q
                have hp := escape_pos hn
                simp only [List.length_cons] at hp
                simp only
                rw [ih g ((92 :: 117 :: u).drop n) (by rw [List.length_drop]; simp; omega) (by rw [List.length_drop]; simp; omega)]
            · rw [propF_two _ _ _ he, propF_two _ _ _ he, ih g u (by omega) (by omega)]
        · rw [propF_plain _ _ _ hc, propF_plain _ _ _ hc, ih g t (by omega) (by omega)]
theorem propR_nil : propR [] = some [] := rfl
theorem propR_last : propR [92] = some [] := rfl
theorem propR_plain {c : UInt8} (t : List UInt8) (h : c ≠ 92) : propR (c :: t) = (propR t).map (c :: ·) := by
  unfold propR
  rw [List.length_cons, propF_plain _ _ _ h]
theorem propR_two {e : UInt8} (u : List UInt8) (h : e ≠ 117) : propR (92 :: e :: u) = (propR u).map (propB e :: ·) := by
  unfold propR
  rw [List.length_cons, propF_two _ _ _ h, propF_more (e :: u).length u.length u (by simp) (Nat.le_refl _)]
theorem propR_bad {u : List UInt8} (h : escapeE (92 :: 117 :: u) = none) : propR (92 :: 117 :: u) = none := by
  unfold propR
  rw [List.length_cons, propF_u, h]
theorem propR_u {u : List UInt8} {r n : Nat} (h : escapeE (92 :: 117 :: u) = some (r, n)) : propR (92 :: 117 :: u) = (propR ((92 :: 117 :: u).drop n)).map (signB r ++ ·) := by
  have hp := escape_pos h
  simp only [List.length_cons] at hp
  unfold propR
  rw [List.length_cons, propF_u, h]
  simp only
  rw [propF_more (117 :: u).length ((92 :: 117 :: u).drop n).length _ (by rw [List.length_drop]; simp; omega) (Nat.le_refl _)]
theorem propR_len (l : List UInt8) : ∀ m, propR l = some m → m.length ≤ l.length := by
  have h : ∀ (f : Nat) (l m : List UInt8), propF f l = some m → m.length ≤ l.length := by
    intro f
    induction f with
    | zero =>
      intro l m hm
      cases l with
      | nil => simp only [propF, Option.some.injEq] at hm; subst hm; exact Nat.le_refl _
      | cons c t => cases hm
    | succ f ih =>
      intro l m hm
      cases l with
      | nil => simp only [propF, Option.some.injEq] at hm; subst hm; exact Nat.le_refl _
      | cons c t =>
        by_cases hc : c = 92
        · subst hc
          cases t with
          | nil => rw [propF_last] at hm; cases hm; simp
          | cons e u =>
            by_cases he : e = 117
            · subst he
              rw [propF_u] at hm
              cases hn : escapeE (92 :: 117 :: u) with
              | none => rw [hn] at hm; cases hm
              | some q =>
                obtain ⟨r, n⟩ := q
                rw [hn] at hm
                simp only at hm
                have hp := escape_pos hn
                have hs := (signB_pos r).2
                cases hx : propF f ((92 :: 117 :: u).drop n) with
                | none => rw [hx] at hm; cases hm
                | some x =>
                  rw [hx] at hm
                  simp only [Option.map_some, Option.some.injEq] at hm
                  subst hm
                  have := ih _ _ hx
                  rw [List.length_drop] at this
                  rw [List.length_append]
                  omega
            · rw [propF_two _ _ _ he] at hm
              cases hx : propF f u with
              | none => rw [hx] at hm; cases hm
              | some x =>
                rw [hx] at hm
                simp only [Option.map_some, Option.some.injEq] at hm
                subst hm
                have := ih _ _ hx
                simp only [List.length_cons]
                omega
        · rw [propF_plain _ _ _ hc] at hm
          cases hx : propF f t with
          | none => rw [hx] at hm; cases hm
          | some x =>
            rw [hx] at hm
            simp only [Option.map_some, Option.some.injEq] at hm
            subst hm
            have := ih _ _ hx
            simp only [List.length_cons]
            omega
  exact h _ l
/-- how far it has come -/
def PropAt (all : List UInt8) (k : Nat) (acc : List UInt8) : Prop := propR all = (propR (all.drop k)).map (acc ++ ·)
theorem propAt_zero (all : List UInt8) : PropAt all 0 [] := by
  unfold PropAt
  rw [List.drop_zero]
  cases propR all <;> rfl
theorem propAt_more {all : List UInt8} {k : Nat} {acc : List UInt8} (h : PropAt all k acc) (n : Nat) (x : List UInt8) (hn : propR (all.drop k) = (propR ((all.drop k).drop n)).map (x ++ ·)) : PropAt all (k + n) (acc ++ x) := by
  unfold PropAt at *
  rw [h, hn, List.drop_drop]
  cases propR (all.drop (k + n)) with
  | none => rfl
  | some y => simp
theorem propAt_none {all : List UInt8} {k : Nat} {acc : List UInt8} (h : PropAt all k acc) (hn : propR (all.drop k) = none) : propR all = none := by
  unfold PropAt at h
  rw [h, hn]
  rfl
theorem propAt_end {all : List UInt8} {k : Nat} {acc : List UInt8} (h : PropAt all k acc) (hk : all.length ≤ k) : propR all = some acc := by
  unfold PropAt at h
  rw [h, List.drop_of_length_le hk, propR_nil]
  simp
theorem propAt_plain {all : List UInt8} {k : Nat} {acc : List UInt8} {c : UInt8} {t : List UInt8} (h : PropAt all k acc) (hc : all.drop k = c :: t) (hn : c ≠ 92) : PropAt all (k + 1) (acc ++ [c]) := by
  refine propAt_more h 1 [c] ?_
  rw [hc, propR_plain t hn]
  rfl
theorem propAt_last {all : List UInt8} {k : Nat} {acc : List UInt8} (h : PropAt all k acc) (hc : all.drop k = [92]) : PropAt all (k + 1) acc := by
  have := propAt_more h 1 [] (by rw [hc]; rfl)
  rwa [List.append_nil] at this
theorem propAt_two {all : List UInt8} {k : Nat} {acc : List UInt8} {e : UInt8} {t : List UInt8} (h : PropAt all k acc) (hc : all.drop k = 92 :: e :: t) (hn : e ≠ 117) : PropAt all (k + 2) (acc ++ [propB e]) := by
  refine propAt_more h 2 [propB e] ?_
  rw [hc, propR_two t hn]
  rfl
theorem propAt_u {all : List UInt8} {k : Nat} {acc : List UInt8} {t : List UInt8} {r n : Nat} (h : PropAt all k acc) (hc : all.drop k = 92 :: 117 :: t) (he : escapeE (all.drop k) = some (r, n)) : PropAt all (k + n) (acc ++ signB r) := by
  refine propAt_more h n (signB r) ?_
  rw [hc] at he ⊢
  exact propR_u he
theorem propAt_bad {all : List UInt8} {k : Nat} {acc : List UInt8} {t : List UInt8} (h : PropAt all k acc) (hc : all.drop k = 92 :: 117 :: t) (he : escapeE (all.drop k) = none) : propR all = none := by
  refine propAt_none h ?_
  rw [hc] at he ⊢
  exact propR_bad he

/-! texts put -/
/-- a byte that is marked by a byte 92 -/
def propM (all : Bool) (b : UInt8) : Bool := b == 92 || (b == 61 || b == 58 || b == 35 || b == 33) || (b == 32 && all)
/-- what a byte is written as -/
def propP (all : Bool) (b : UInt8) : List UInt8 :=
  if b = 10 then [92, 110] else if b = 9 then [92, 116] else if b = 13 then [92, 114] else if b = 12 then [92, 102]
  else if propM all b then [92, b] else if b.toNat < 32 ∨ b = 127 then uE b.toNat else [b]
/-- and with the signs that are more than one byte, where there are such; the first one's blank is marked in any case -/
def propW (ok all : Bool) : Nat → Bool → List UInt8 → List UInt8
  | _, _, [] => []
  | 0, _, _ :: _ => []
  | f + 1, first, c :: t =>
    if 127 < c.toNat ∧ ok = true then (match nextS (c :: t) with
      | none => []
      | some (r, n) => escB r ++ propW ok all f false ((c :: t).drop n))
    else propP (all || first) c ++ propW ok all f false t
def propL (all : Bool) (l : List UInt8) : List UInt8 := propW (signsL l).isSome all l.length true l
theorem propW_byte (ok all : Bool) (f : Nat) (first : Bool) (c : UInt8) (t : List UInt8) (h : ¬ (127 < c.toNat ∧ ok = true)) : propW ok all (f + 1) first (c :: t) = propP (all || first) c ++ propW ok all f false t := by
  simp only [propW]
  rw [if_neg h]
theorem propW_sign (all : Bool) (f : Nat) (first : Bool) (c : UInt8) (t : List UInt8) (h : 127 < c.toNat) {r n : Nat} (hn : nextS (c :: t) = some (r, n)) : propW true all (f + 1) first (c :: t) = escB r ++ propW true all f false ((c :: t).drop n) := by
  simp only [propW]
  rw [if_pos ⟨h, trivial⟩, hn]
theorem propW_more (ok all : Bool) (f g : Nat) (first : Bool) (l : List UInt8) (hf : l.length ≤ f) (hg : l.length ≤ g) : propW ok all f first l = propW ok all g first l := by
  induction f generalizing g l first with
  | zero =>
    have : l = [] := List.eq_nil_of_length_eq_zero (by omega)
    subst this
    cases g <;> rfl
  | succ f ih =>
    cases l with
    | nil => cases g <;> rfl
    | cons c t =>
      cases g with
      | zero => simp at hg
      | succ g =>
        simp only [List.length_cons] at hf hg
        simp only [propW]
        split
        · cases hn : nextS (c :: t) with
          | none => rfl
          | some q =>
            obtain ⟨r, n⟩ := q
            have hp := next_pos hn
            simp only
            rw [ih g false ((c :: t).drop n) (by rw [List.length_drop]; simp; omega) (by rw [List.length_drop]; simp; omega)]
        · rw [ih g false t (by omega) (by omega)]

/-! what is put comes back -/
theorem propM_byte {all : Bool} {b : UInt8} (h : propM all b = true) : b = 92 ∨ b = 61 ∨ b = 58 ∨ b = 35 ∨ b = 33 ∨ b = 32 := by
  unfold propM at h
  simp only [Bool.or_eq_true, beq_iff_eq, Bool.and_eq_true] at h
  rcases h with (h | ((h | h) | h) | h) | h
  · exact .inl h
  · exact .inr (.inl h)
  · exact .inr (.inr (.inl h))
  · exact .inr (.inr (.inr (.inl h)))
  · exact .inr (.inr (.inr (.inr (.inl h))))
  · exact .inr (.inr (.inr (.inr (.inr h.1))))
theorem propR_uE (r : Nat) (hr : isSign r = true) (h : r < 65536) (t : List UInt8) : propR (uE r ++ t) = (propR t).map (signB r ++ ·) := by
  have he := escape_low r hr h t
  have hd := uE_drop r t
  have hx : uE r ++ t = 92 :: 117 :: (Pl.hexT r 4 ++ t) := rfl
  rw [hx] at he hd ⊢
  rw [propR_u he, hd]
theorem propR_P (all : Bool) (b : UInt8) (t : List UInt8) : propR (propP all b ++ t) = (propR t).map (b :: ·) := by
  unfold propP
  split
  · next h => subst h; exact propR_two t (by decide)
  · split
    · next h => subst h; exact propR_two t (by decide)
    · split
      · next h => subst h; exact propR_two t (by decide)
      · split
        · next h => subst h; exact propR_two t (by decide)
        · split
          · next h =>
            rcases propM_byte h with rfl | rfl | rfl | rfl | rfl | rfl <;> exact propR_two t (by decide)
          · next hm =>
            split
            · next h =>
              have hb : b.toNat < 128 := by
                rcases h with h | h
                · omega
                · rw [h]; decide
              rw [propR_uE b.toNat ((isSign_iff _).2 (by omega)) (by omega)]
              have hs : signB b.toNat = [b] := by
                unfold signB
                rw [if_pos hb]
                simp [u8]
              rw [hs]
              rfl
            · next h =>
              have h92 : b ≠ 92 := by intro e; apply hm; subst e; rfl
              exact propR_plain t h92
theorem propR_escB (r : Nat) (hr : isSign r = true) (h : 127 < r) (t : List UInt8) : propR (escB r ++ t) = (propR t).map (signB r ++ ·) := by
  have hb := (isSign_iff r).1 hr
  unfold escB
  rw [if_neg (by omega), if_neg (by omega)]
  by_cases h3 : r < 65536
  · rw [if_pos h3, propR_uE r hr h3]
  · rw [if_neg h3, List.append_assoc]
    have he := escape_high r hr (by omega) t
    have hd : (uE (55296 + (r - 65536) / 1024) ++ (uE (56320 + (r - 65536) % 1024) ++ t)).drop 12 = t := by
      rw [show (12 : Nat) = 6 + 6 from rfl, ← List.drop_drop, uE_drop, uE_drop]
    have hx : uE (55296 + (r - 65536) / 1024) ++ (uE (56320 + (r - 65536) % 1024) ++ t) = 92 :: 117 :: (Pl.hexT (55296 + (r - 65536) / 1024) 4 ++ (uE (56320 + (r - 65536) % 1024) ++ t)) := rfl
    rw [hx] at he hd ⊢
    rw [propR_u he, hd]

theorem next_low {c : UInt8} {t : List UInt8} (hc : c.toNat ≤ 127) : nextS (c :: t) = some (c.toNat, 1) := by
  have hr : isSign c.toNat = true := (isSign_iff _).2 (by omega)
  have hs : signB c.toNat = [c] := by
    unfold signB
    rw [if_pos (by omega)]
    simp [u8]
  have := next_sign c.toNat hr t
  rw [hs] at this
  exact this
theorem next_high {c : UInt8} {t : List UInt8} {r n : Nat} (hc : 127 < c.toNat) (h : nextS (c :: t) = some (r, n)) : isSign r = true ∧ 127 < r ∧ c :: t = signB r ++ (c :: t).drop n := by
  obtain ⟨h1, h2, h3, _⟩ := next_some h
  refine ⟨h1, ?_, h3⟩
  apply Classical.byContradiction
  intro hn
  have hs : signB r = [u8 r] := by unfold signB; rw [if_pos (by omega)]
  rw [hs] at h3
  have h4 := (List.cons.inj h3).1
  rw [h4, u8_nat r (by omega)] at hc
  omega
theorem signs_on {c : UInt8} {t : List UInt8} {r n : Nat} (h : nextS (c :: t) = some (r, n)) (ho : (signsL (c :: t)).isSome = true) : (signsL ((c :: t).drop n)).isSome = true := by
  rw [signsL_good h] at ho
  cases hx : signsL ((c :: t).drop n) with
  | none => rw [hx] at ho; cases ho
  | some _ => rfl
theorem propR_W (ok all : Bool) (f : Nat) (first : Bool) (l : List UInt8) (hf : l.length ≤ f) (ho : ok = true → (signsL l).isSome = true) : propR (propW ok all f first l) = some l := by
  induction f generalizing l first with
  | zero =>
    have : l = [] := List.eq_nil_of_length_eq_zero (by omega)
    subst this
    rfl
  | succ f ih =>
    cases l with
    | nil => rfl
    | cons c t =>
      simp only [List.length_cons] at hf
      by_cases hc : 127 < c.toNat ∧ ok = true
      · obtain ⟨h1, rfl⟩ := hc
        cases hn : nextS (c :: t) with
        | none =>
          have := ho rfl
          rw [signsL_bad (by simp) hn] at this
          cases this
        | some q =>
          obtain ⟨r, n⟩ := q
          have hp := next_pos hn
          simp only [List.length_cons] at hp
          obtain ⟨g1, g2, g3⟩ := next_high h1 hn
          rw [propW_sign all f first c t h1 hn, propR_escB r g1 g2, ih false ((c :: t).drop n) (by rw [List.length_drop]; simp; omega) (fun _ => signs_on hn (ho rfl))]
          simp only [Option.map_some]
          rw [← g3]
      · rw [propW_byte ok all f first c t hc, propR_P, ih false t (by omega) ?_]
        · rfl
        · intro hok
          have hlow : c.toNat ≤ 127 := by
            apply Classical.byContradiction
            intro hx
            exact hc ⟨by omega, hok⟩
          have := signs_on (next_low (t := t) hlow) (ho hok)
          simpa using this
/-- a text comes back from how it is written -/
theorem propR_put (all : Bool) (l : List UInt8) : propR (propL all l) = some l := propR_W _ all _ true l (Nat.le_refl _) (fun h => h)

end Go.Proofs.YtflnpkckdjmljaaDoor
