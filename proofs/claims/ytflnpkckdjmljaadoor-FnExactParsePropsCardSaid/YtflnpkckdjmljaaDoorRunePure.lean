/- Code points and escapes, of lists of bytes alone. -/
import Derived.Test.YtflnpkckdjmljaaDoorProg
import Derived.Test.YtflnpkckdjmljaaDoorPlain
namespace Go.Proofs.YtflnpkckdjmljaaDoor
set_option linter.unusedVariables false

/-! signs and their bytes -/
def isSign (r : Nat) : Bool := decide (r ≤ 1114111) && !(decide (55296 ≤ r) && decide (r ≤ 57343))
theorem isSign_iff (r : Nat) : isSign r = true ↔ r ≤ 1114111 ∧ (r < 55296 ∨ 57343 < r) := by
  unfold isSign
  simp only [Bool.and_eq_true, decide_eq_true_eq, Bool.not_eq_true', Bool.and_eq_false_iff, decide_eq_false_iff_not]
  omega
def u8 (n : Nat) : UInt8 := UInt8.ofNat n
theorem u8_nat (n : Nat) (h : n < 256) : (u8 n).toNat = n := by
  unfold u8
  rw [UInt8.toNat_ofNat']
  omega
theorem u8_inj {a b : Nat} (ha : a < 256) (hb : b < 256) (h : u8 a = u8 b) : a = b := by
  rw [← u8_nat a ha, ← u8_nat b hb, h]
def signB (r : Nat) : List UInt8 :=
  if r < 128 then [u8 r]
  else if r < 2048 then [u8 (192 + r / 64), u8 (128 + r % 64)]
  else if r < 65536 then [u8 (224 + r / 4096), u8 (128 + r / 64 % 64), u8 (128 + r % 64)]
  else [u8 (240 + r / 262144), u8 (128 + r / 4096 % 64), u8 (128 + r / 64 % 64), u8 (128 + r % 64)]
/-- what SignText tells -/
def signT (r : Int) : List UInt8 := if 0 ≤ r ∧ isSign r.toNat = true then signB r.toNat else []
theorem signB_len (r : Nat) : (signB r).length = if r < 128 then 1 else if r < 2048 then 2 else if r < 65536 then 3 else 4 := by
  unfold signB
  split
  · rfl
  · split
    · rfl
    · split <;> rfl
theorem signB_pos (r : Nat) : 1 ≤ (signB r).length ∧ (signB r).length ≤ 4 := by
  rw [signB_len]
  repeat (first | split | omega)

def headN (b : Nat) : Nat := if 240 ≤ b then 4 else if 224 ≤ b then 3 else if 192 ≤ b then 2 else 1
def headR (b : Nat) : Nat := if 240 ≤ b then b % 8 else if 224 ≤ b then b % 16 else if 192 ≤ b then b % 32 else b
def foldR (r : Nat) (l : List UInt8) : Nat := l.foldl (fun r c => 64 * r + c.toNat % 64) r
theorem headN_pos (b : Nat) : 1 ≤ headN b ∧ headN b ≤ 4 := by
  unfold headN
  repeat (first | split | omega)
theorem foldR_snoc (r : Nat) (l : List UInt8) (c : UInt8) : foldR r (l ++ [c]) = 64 * foldR r l + c.toNat % 64 := by simp [foldR]
/-- the sign at the head, and how many bytes it has -/
def nextS : List UInt8 → Option (Nat × Nat)
  | [] => none
  | c :: t =>
    if t.length < headN c.toNat - 1 then none
    else if isSign (foldR (headR c.toNat) (t.take (headN c.toNat - 1))) = true ∧ signB (foldR (headR c.toNat) (t.take (headN c.toNat - 1))) = c :: t.take (headN c.toNat - 1) then some (foldR (headR c.toNat) (t.take (headN c.toNat - 1)), headN c.toNat)
    else none
theorem nextS_cons (c : UInt8) (t : List UInt8) : nextS (c :: t) =
    if t.length < headN c.toNat - 1 then none
    else if isSign (foldR (headR c.toNat) (t.take (headN c.toNat - 1))) = true ∧ signB (foldR (headR c.toNat) (t.take (headN c.toNat - 1))) = c :: t.take (headN c.toNat - 1) then some (foldR (headR c.toNat) (t.take (headN c.toNat - 1)), headN c.toNat)
    else none := rfl
theorem next_some {l : List UInt8} {r n : Nat} (h : nextS l = some (r, n)) : isSign r = true ∧ n = (signB r).length ∧ l = signB r ++ l.drop n ∧ ∃ c t, l = c :: t ∧ n = headN c.toNat := by
  cases l with
  | nil => cases h
  | cons c t =>
    rw [nextS_cons] at h
    by_cases hl : t.length < headN c.toNat - 1
    · rw [if_pos hl] at h; cases h
    · rw [if_neg hl] at h
      have hp := (headN_pos c.toNat).1
      obtain ⟨k, hk⟩ : ∃ k, headN c.toNat = k + 1 := ⟨headN c.toNat - 1, by omega⟩
      rw [hk] at h hl
      rw [show k + 1 - 1 = k from rfl] at h hl
      generalize hfo : foldR (headR c.toNat) (t.take k) = q at h
      by_cases hs : isSign q = true ∧ signB q = c :: t.take k
      · rw [if_pos hs] at h
        injection h with h
        injection h with h1 h2
        subst h1 h2
        refine ⟨hs.1, ?_, ?_, c, t, rfl, hk.symm⟩
        · rw [hs.2, List.length_cons, List.length_take]
          omega
        · rw [hs.2]
          simp
      · rw [if_neg hs] at h; cases h
theorem next_of (c : UInt8) (t u : List UInt8) (r : Nat) (hr : isSign r = true) (hb : signB r = c :: t) (hn : headN c.toNat = t.length + 1) (hf : foldR (headR c.toNat) t = r) : nextS (signB r ++ u) = some (r, (signB r).length) := by
  rw [hb, List.cons_append, nextS_cons]
  have ht : (t ++ u).take (headN c.toNat - 1) = t := by rw [hn]; simp
  rw [ht, hf]
  rw [if_neg (by rw [hn, List.length_append]; omega), if_pos ⟨hr, hb⟩, hn]
  rfl
/-- a sign's bytes are that sign -/
theorem next_sign (r : Nat) (hr : isSign r = true) (u : List UInt8) : nextS (signB r ++ u) = some (r, (signB r).length) := by
  have hb := (isSign_iff r).1 hr
  by_cases h1 : r < 128
  · refine next_of (u8 r) [] u r hr ?_ ?_ ?_
    · unfold signB; rw [if_pos h1]
    · rw [u8_nat r (by omega)]; unfold headN; rw [if_neg (by omega), if_neg (by omega), if_neg (by omega)]; rfl
    · rw [u8_nat r (by omega)]; unfold headR; rw [if_neg (by omega), if_neg (by omega), if_neg (by omega)]; rfl
  · by_cases h2 : r < 2048
    · refine next_of (u8 (192 + r / 64)) [u8 (128 + r % 64)] u r hr ?_ ?_ ?_
      · unfold signB; rw [if_neg h1, if_pos h2]
      · rw [u8_nat _ (by omega)]; unfold headN; rw [if_neg (by omega), if_neg (by omega), if_pos (by omega)]; rfl
      · rw [u8_nat _ (by omega)]; unfold headR; rw [if_neg (by omega), if_neg (by omega), if_pos (by omega)]
        simp only [foldR, List.foldl_cons, List.foldl_nil]
        rw [u8_nat _ (by omega)]
        omega
    · by_cases h3 : r < 65536
      · refine next_of (u8 (224 + r / 4096)) [u8 (128 + r / 64 % 64), u8 (128 + r % 64)] u r hr ?_ ?_ ?_
        · unfold signB; rw [if_neg h1, if_neg h2, if_pos h3]
        · rw [u8_nat _ (by omega)]; unfold headN; rw [if_neg (by omega), if_pos (by omega)]; rfl
        · rw [u8_nat _ (by omega)]; unfold headR; rw [if_neg (by omega), if_pos (by omega)]
          simp only [foldR, List.foldl_cons, List.foldl_nil]
          rw [u8_nat _ (by omega), u8_nat _ (by omega)]
          omega
      · refine next_of (u8 (240 + r / 262144)) [u8 (128 + r / 4096 % 64), u8 (128 + r / 64 % 64), u8 (128 + r % 64)] u r hr ?_ ?_ ?_
        · unfold signB; rw [if_neg h1, if_neg h2, if_neg h3]
        · rw [u8_nat _ (by omega)]; unfold headN; rw [if_pos (by omega)]; rfl
        · rw [u8_nat _ (by omega)]; unfold headR; rw [if_pos (by omega)]
          simp only [foldR, List.foldl_cons, List.foldl_nil]
          rw [u8_nat _ (by omega), u8_nat _ (by omega), u8_nat _ (by omega)]
          omega

/-! the signs of a text -/
def signsF : Nat → List UInt8 → Option (List Nat)
  | _, [] => some []
  | 0, _ :: _ => none
  | f + 1, c :: t => match nextS (c :: t) with
    | none => none
    | some (r, n) => (signsF f ((c :: t).drop n)).map (r :: ·)
theorem signsF_succ (f : Nat) (c : UInt8) (t : List UInt8) : signsF (f + 1) (c :: t) = match nextS (c :: t) with
    | none => none
    | some (r, n) => (signsF f ((c :: t).drop n)).map (r :: ·) := rfl
def signsL (l : List UInt8) : Option (List Nat) := signsF l.length l
theorem next_pos {l : List UInt8} {r n : Nat} (h : nextS l = some (r, n)) : 1 ≤ n ∧ n ≤ l.length := by
  obtain ⟨_, h2, h3, _⟩ := next_some h
  have := signB_pos r
  have h4 := congrArg List.length h3
  rw [List.length_append] at h4
  omega
theorem signsF_more (f g : Nat) (l : List UInt8) (hf : l.length ≤ f) (hg : l.length ≤ g) : signsF f l = signsF g l := by
  induction f generalizing g l with
  | zero =>
    have : l = [] := List.eq_nil_of_length_eq_zero (by omega)
    subst this
    cases g <;> rfl
  | succ f ih =>
    cases l with
    | nil => cases g <;> rfl
    | cons c t =>
      cases g with
      | zero => simp at hg
      | succ g =>
        rw [signsF_succ, signsF_succ]
        cases hn : nextS (c :: t) with
        | none => rfl
        | some q =>
          obtain ⟨r, n⟩ := q
          have hp := next_pos hn
          simp only
          rw [ih g ((c :: t).drop n) (by rw [List.length_drop]; simp at hf ⊢; omega) (by rw [List.length_drop]; simp at hg ⊢; omega)]
theorem signsL_nil : signsL [] = some [] := rfl
/-- step by step -/
theorem signsL_step (l : List UInt8) (hl : l ≠ []) : signsL l = match nextS l with
    | none => none
    | some (r, n) => (signsL (l.drop n)).map (r :: ·) := by
  cases l with
  | nil => exact absurd rfl hl
  | cons c t =>
    unfold signsL
    rw [List.length_cons, signsF_succ]
    cases hn : nextS (c :: t) with
    | none => rfl
    | some q =>
      obtain ⟨r, n⟩ := q
      have hp := next_pos hn
      simp only
      rw [signsF_more t.length ((c :: t).drop n).length _ (by rw [List.length_drop]; simp; omega) (Nat.le_refl _)]
theorem signsL_bad {l : List UInt8} (hl : l ≠ []) (h : nextS l = none) : signsL l = none := by rw [signsL_step l hl, h]
theorem signsL_good {l : List UInt8} {r n : Nat} (h : nextS l = some (r, n)) : signsL l = (signsL (l.drop n)).map (r :: ·) := by
  have hp := next_pos h
  rw [signsL_step l (by intro e; subst e; simp at hp; omega), h]
theorem signsL_sign (r : Nat) (hr : isSign r = true) (u : List UInt8) : signsL (signB r ++ u) = (signsL u).map (r :: ·) := by
  rw [signsL_good (next_sign r hr u)]
  simp
/-- signs come back from their bytes -/
theorem signs_text (list : List Nat) (h : ∀ r ∈ list, isSign r = true) : signsL (list.flatMap signB) = some list := by
  induction list with
  | nil => rfl
  | cons r list ih =>
    rw [List.flatMap_cons, signsL_sign r (h r List.mem_cons_self), ih (fun x hx => h x (List.mem_cons_of_mem _ hx))]
    rfl
/-- and a text from its signs -/
theorem text_signs (l : List UInt8) (list : List Nat) (h : signsL l = some list) : (∀ r ∈ list, isSign r = true) ∧ list.flatMap signB = l := by
  have key : ∀ n (l : List UInt8) (list : List Nat), l.length = n → signsL l = some list → (∀ r ∈ list, isSign r = true) ∧ list.flatMap signB = l := by
    intro n
    induction n using Nat.strongRecOn with
    | _ n ih =>
      intro l list hl h
      by_cases h0 : l = []
      · subst h0
        rw [signsL_nil] at h
        injection h with h
        subst h
        exact ⟨fun r hr => absurd hr (List.not_mem_nil), rfl⟩
      · cases hn : nextS l with
        | none => rw [signsL_bad h0 hn] at h; cases h
        | some q =>
          obtain ⟨r, k⟩ := q
          have hp := next_pos hn
          obtain ⟨h1, h2, h3, _⟩ := next_some hn
          rw [signsL_good hn] at h
          obtain ⟨rest, hr1, hr2⟩ := Option.map_eq_some_iff.1 h
          obtain ⟨i1, i2⟩ := ih (l.drop k).length (by rw [List.length_drop]; omega) (l.drop k) rest rfl hr1
          subst hr2
          refine ⟨fun x hx => ?_, ?_⟩
          · rcases List.mem_cons.1 hx with rfl | hx
            · exact h1
            · exact i1 x hx
          · rw [List.flatMap_cons, i2, ← h3]
  exact key l.length l list rfl h
/-- no more signs than bytes -/
theorem signs_few (l : List UInt8) (list : List Nat) (h : signsL l = some list) : list.length ≤ l.length := by
  have h2 := (text_signs l list h).2
  rw [← h2]
  clear h2 h
  induction list with
  | nil => exact Nat.le_refl _
  | cons r list ih =>
    rw [List.flatMap_cons, List.length_append, List.length_cons]
    have := (signB_pos r).1
    have h2 : list.length ≤ (List.flatMap signB list).length := ih
    omega
/-- plain bytes are signs of themselves -/
theorem signs_plain (l : List UInt8) (h : ∀ c ∈ l, c.toNat < 128) : signsL l = some (l.map (fun c => c.toNat)) := by
  have e : l = (l.map (fun c => c.toNat)).flatMap signB := by
    induction l with
    | nil => rfl
    | cons c l ih =>
      rw [List.map_cons, List.flatMap_cons, ← ih (fun x hx => h x (List.mem_cons_of_mem _ hx))]
      have hc := h c List.mem_cons_self
      unfold signB
      rw [if_pos hc]
      show c :: l = u8 c.toNat :: l
      congr 1
      exact UInt8.toNat_inj.1 (by rw [u8_nat _ (by omega)])
  conv => lhs; rw [e]
  refine signs_text _ (fun r hr => ?_)
  obtain ⟨c, hc, rfl⟩ := List.mem_map.1 hr
  have := h c hc
  exact (isSign_iff _).2 (by omega)
/-- the last byte of a sign of several is none of a plain text -/
theorem signB_last (r : Nat) (hr : isSign r = true) (h : 1 < (signB r).length) : ∃ a c, signB r = a ++ [c] ∧ 128 ≤ c.toNat := by
  have hb := (isSign_iff r).1 hr
  rw [signB_len] at h
  unfold signB
  split
  · rename_i q; rw [if_pos q] at h; omega
  · split
    · exact ⟨[_], _, rfl, by rw [u8_nat _ (by omega)]; omega⟩
    · split
      · exact ⟨[_, _], _, rfl, by rw [u8_nat _ (by omega)]; omega⟩
      · exact ⟨[_, _, _], _, rfl, by rw [u8_nat _ (by omega)]; omega⟩
/-- a sign that is cut off, with a plain byte behind, is none -/
theorem signs_cut (r : Nat) (hr : isSign r = true) (h : 1 < (signB r).length) (x : UInt8) (hx : x.toNat < 128) : signsL ((signB r).dropLast ++ [x]) = none := by
  obtain ⟨c, t, hc, hn⟩ : ∃ c t, signB r = c :: t ∧ headN c.toNat = (signB r).length := by
    obtain ⟨_, h2, _, c, t, h4, h5⟩ := next_some (next_sign r hr [])
    rw [List.append_nil] at h4
    exact ⟨c, t, h4, h5.symm⟩
  have ht : t ≠ [] := by intro e; rw [hc, e] at h; simp at h
  have hl : (signB r).dropLast ++ [x] = c :: (t.dropLast ++ [x]) := by
    rw [hc, List.dropLast_cons_of_ne_nil ht, List.cons_append]
  have hlen : ((signB r).dropLast ++ [x]).length = (signB r).length := by simp; omega
  refine signsL_bad (by rw [hl]; simp) ?_
  cases hq : nextS ((signB r).dropLast ++ [x]) with
  | none => rfl
  | some q =>
    exfalso
    obtain ⟨r', n'⟩ := q
    obtain ⟨h1, h2, h3, c', t', h4, h5⟩ := next_some hq
    rw [hl] at h4
    injection h4 with h4 _
    subst h4
    have hn' : n' = ((signB r).dropLast ++ [x]).length := by rw [hlen, h5, hn]
    rw [hn', List.drop_length, List.append_nil] at h3
    obtain ⟨a, d, h6, h7⟩ := signB_last r' h1 (by rw [← h2, h5, hn]; exact h)
    rw [h6] at h3
    have := List.append_inj_right' h3 rfl
    injection this with this _
    subst this
    omega

/-! escapes -/
def uE (n : Nat) : List UInt8 := 92 :: 117 :: Pl.hexT n 4
def escB (r : Nat) : List UInt8 :=
  if r = 92 then [92, 92] else if 32 ≤ r ∧ r ≤ 126 then [u8 r] else if r < 65536 then uE r else uE (55296 + (r - 65536) / 1024) ++ uE (56320 + (r - 65536) % 1024)
def putE (list : List Nat) : List UInt8 := list.flatMap escB
def fourE : List UInt8 → Option Nat
  | c :: d :: d0 :: d1 :: d2 :: d3 :: _ => if c = 92 ∧ d = 117 then Pl.readN 16 8 [d0, d1, d2, d3] else none
  | _ => none
def escapeE (l : List UInt8) : Option (Nat × Nat) :=
  match fourE l with
  | none => none
  | some a =>
    if 56320 ≤ a ∧ a ≤ 57343 then none
    else if 55296 ≤ a ∧ a ≤ 56319 then
      match fourE (l.drop 6) with
      | none => none
      | some b => if 56320 ≤ b ∧ b ≤ 57343 then some (65536 + 1024 * (a - 55296) + (b - 56320), 12) else none
    else some (a, 6)

theorem hexD_ok : ∀ q : Fin 16, Pl.okB 16 (Pl.hexD q.val) = true ∧ Pl.dig (Pl.hexD q.val) = q.val ∧ 48 ≤ (Pl.hexD q.val).toNat ∧ (Pl.hexD q.val).toNat ≤ 102 := by decide +kernel
theorem hexD_mod (q : Nat) : Pl.hexD q = Pl.hexD (q % 16) := by unfold Pl.hexD; rw [Nat.mod_mod]
theorem hexD_facts (q : Nat) : Pl.okB 16 (Pl.hexD q) = true ∧ Pl.dig (Pl.hexD q) = q % 16 ∧ 48 ≤ (Pl.hexD q).toNat ∧ (Pl.hexD q).toNat ≤ 102 := by
  rw [hexD_mod]
  exact hexD_ok ⟨q % 16, Nat.mod_lt _ (by decide)⟩
theorem hexT_four (n : Nat) : Pl.hexT n 4 = [Pl.hexD (n / 4096), Pl.hexD (n / 256), Pl.hexD (n / 16), Pl.hexD n] := by
  simp [Pl.hexT]
theorem read_four (n : Nat) (h : n < 65536) : Pl.readN 16 8 (Pl.hexT n 4) = some n := by
  rw [hexT_four]
  have a := hexD_facts (n / 4096)
  have b := hexD_facts (n / 256)
  have c := hexD_facts (n / 16)
  have d := hexD_facts n
  unfold Pl.readN
  rw [if_pos ⟨by simp, by simp, by simp [a.1, b.1, c.1, d.1]⟩]
  simp only [Pl.num, List.foldl_cons, List.foldl_nil]
  rw [a.2.1, b.2.1, c.2.1, d.2.1]
  congr 1
  omega
theorem four_uE (n : Nat) (h : n < 65536) (t : List UInt8) : fourE (uE n ++ t) = some n := by
  have := read_four n h
  unfold uE
  rw [hexT_four] at this ⊢
  show (if (92 : UInt8) = 92 ∧ (117 : UInt8) = 117 then Pl.readN 16 8 [Pl.hexD (n / 4096), Pl.hexD (n / 256), Pl.hexD (n / 16), Pl.hexD n] else none) = some n
  rw [if_pos ⟨rfl, rfl⟩]
  exact this
theorem uE_drop (n : Nat) (t : List UInt8) : (uE n ++ t).drop 6 = t := by
  unfold uE
  rw [hexT_four]
  rfl
theorem uE_len (n : Nat) : (uE n).length = 6 := by unfold uE; simp [Pl.hexT_length]
/-- an escape tells its sign -/
theorem escape_low (r : Nat) (hr : isSign r = true) (h : r < 65536) (t : List UInt8) : escapeE (uE r ++ t) = some (r, 6) := by
  have hb := (isSign_iff r).1 hr
  unfold escapeE
  rw [four_uE r h]
  simp only
  rw [if_neg (by omega), if_neg (by omega)]
theorem escape_pair (a b : Nat) (ha : 55296 ≤ a ∧ a ≤ 56319) (hb : 56320 ≤ b ∧ b ≤ 57343) (t : List UInt8) : escapeE (uE a ++ (uE b ++ t)) = some (65536 + 1024 * (a - 55296) + (b - 56320), 12) := by
  unfold escapeE
  rw [four_uE a (by omega)]
  simp only
  rw [if_neg (by omega), if_pos ha, uE_drop, four_uE b (by omega)]
  simp only
  rw [if_pos hb]
theorem escape_high (r : Nat) (hr : isSign r = true) (h : 65536 ≤ r) (t : List UInt8) : escapeE (uE (55296 + (r - 65536) / 1024) ++ (uE (56320 + (r - 65536) % 1024) ++ t)) = some (r, 12) := by
  have hb := (isSign_iff r).1 hr
  obtain ⟨a, ha⟩ : ∃ a, a = 55296 + (r - 65536) / 1024 := ⟨_, rfl⟩
  obtain ⟨b, hb2⟩ : ∃ b, b = 56320 + (r - 65536) % 1024 := ⟨_, rfl⟩
  rw [← ha, ← hb2, escape_pair a b (by omega) (by omega)]
  have e : 65536 + 1024 * (a - 55296) + (b - 56320) = r := by omega
  rw [e]

/-- what is left behind escapes, step by step -/
def getF : Nat → List UInt8 → Option (List UInt8)
  | _, [] => some []
  | 0, _ :: _ => none
  | f + 1, c :: t =>
    if c ≠ 92 then (getF f t).map (c :: ·)
    else if t[0]? = some 92 then (getF f (t.drop 1)).map (92 :: ·)
    else match escapeE (c :: t) with
      | none => none
      | some (r, n) => (getF f ((c :: t).drop n)).map (signB r ++ ·)
theorem getF_succ (f : Nat) (c : UInt8) (t : List UInt8) : getF (f + 1) (c :: t) =
    if c ≠ 92 then (getF f t).map (c :: ·)
    else if t[0]? = some 92 then (getF f (t.drop 1)).map (92 :: ·)
    else match escapeE (c :: t) with
      | none => none
      | some (r, n) => (getF f ((c :: t).drop n)).map (signB r ++ ·) := rfl
def getR (l : List UInt8) : Option (List UInt8) := getF l.length l
/-- what GetEscapes tells -/
def getL (l : List UInt8) : Option (List UInt8) := if (signsL l).isSome then getR l else none
theorem four_len {l : List UInt8} {a : Nat} (h : fourE l = some a) : 6 ≤ l.length := by
  unfold fourE at h
  split at h
  · simp
  · cases h
theorem escape_pos {l : List UInt8} {r n : Nat} (h : escapeE l = some (r, n)) : (n = 6 ∨ n = 12) ∧ n ≤ l.length := by
  unfold escapeE at h
  split at h
  · cases h
  · rename_i a ha
    have h6 := four_len ha
    split at h
    · cases h
    · split at h
      · split at h
        · cases h
        · rename_i b hb
          have h7 := four_len hb
          rw [List.length_drop] at h7
          split at h
          · simp only [Option.some.injEq, Prod.mk.injEq] at h
            omega
          · cases h
      · simp only [Option.some.injEq, Prod.mk.injEq] at h
        omega
theorem getF_more (f g : Nat) (l : List UInt8) (hf : l.length ≤ f) (hg : l.length ≤ g) : getF f l = getF g l := by
  induction f generalizing g l with
  | zero =>
    have : l = [] := List.eq_nil_of_length_eq_zero (by omega)
    subst this
    cases g <;> rfl
  | succ f ih =>
    cases l with
    | nil => cases g <;> rfl
    | cons c t =>
      cases g with
      | zero => simp at hg
      | succ g =>
        simp only [List.length_cons] at hf hg
        rw [getF_succ, getF_succ]
        rw [ih g t (by omega) (by omega), ih g (t.drop 1) (by rw [List.length_drop]; omega) (by rw [List.length_drop]; omega)]
        cases hn : escapeE (c :: t) with
        | none => rfl
        | some q =>
          obtain ⟨r, n⟩ := q
          have hp := escape_pos hn
          simp only [List.length_cons] at hp
          simp only
          rw [ih g ((c :: t).drop n) (by rw [List.length_drop]; simp; omega) (by rw [List.length_drop]; simp; omega)]
theorem getR_nil : getR [] = some [] := rfl
theorem getR_on (c : UInt8) (t : List UInt8) (h : c ≠ 92) : getR (c :: t) = (getR t).map (c :: ·) := by
  unfold getR
  rw [List.length_cons, getF_succ, if_pos h]
theorem getR_two (t : List UInt8) : getR (92 :: 92 :: t) = (getR t).map (92 :: ·) := by
  unfold getR
  rw [List.length_cons, getF_succ, if_neg (by simp), if_pos (by simp)]
  rw [getF_more ((92 : UInt8) :: t).length t.length _ (by simp) (by simp)]
  rfl
theorem getR_escape {l : List UInt8} {r n : Nat} (h0 : l[0]? = some 92) (h1 : l[1]? ≠ some 92) (h : escapeE l = some (r, n)) : getR l = (getR (l.drop n)).map (signB r ++ ·) := by
  cases l with
  | nil => simp at h0
  | cons c t =>
    simp at h0
    subst h0
    have hp := escape_pos h
    simp only [List.length_cons] at hp
    unfold getR
    rw [List.length_cons, getF_succ, if_neg (by simp), if_neg (by simpa using h1), h]
    simp only
    rw [getF_more t.length (((92 : UInt8) :: t).drop n).length _ (by rw [List.length_drop]; simp; omega) (Nat.le_refl _)]
theorem getR_bad {l : List UInt8} (h0 : l[0]? = some 92) (h1 : l[1]? ≠ some 92) (h : escapeE l = none) : getR l = none := by
  cases l with
  | nil => simp at h0
  | cons c t =>
    simp at h0
    subst h0
    unfold getR
    rw [List.length_cons, getF_succ, if_neg (by simp), if_neg (by simpa using h1), h]

theorem uE_0 (n : Nat) (t : List UInt8) : (uE n ++ t)[0]? = some 92 := rfl
theorem uE_1 (n : Nat) (t : List UInt8) : (uE n ++ t)[1]? ≠ some 92 := by
  show some (117 : UInt8) ≠ some 92
  decide
/-- one sign comes back from its escape -/
theorem get_esc (r : Nat) (hr : isSign r = true) (t : List UInt8) : getR (escB r ++ t) = (getR t).map (signB r ++ ·) := by
  have hb := (isSign_iff r).1 hr
  unfold escB
  by_cases h1 : r = 92
  · subst h1
    rw [if_pos rfl]
    exact getR_two t
  · rw [if_neg h1]
    by_cases h2 : 32 ≤ r ∧ r ≤ 126
    · rw [if_pos h2]
      have hs : signB r = [u8 r] := by unfold signB; rw [if_pos (by omega)]
      rw [hs]
      exact getR_on (u8 r) t (fun e => h1 (by have := congrArg UInt8.toNat e; rw [u8_nat r (by omega)] at this; exact this))
    · rw [if_neg h2]
      by_cases h3 : r < 65536
      · rw [if_pos h3, getR_escape (uE_0 _ _) (uE_1 _ _) (escape_low r hr h3 t), uE_drop]
      · rw [if_neg h3, List.append_assoc, getR_escape (uE_0 _ _) (uE_1 _ _) (escape_high r hr (by omega) t)]
        rw [show (12 : Nat) = 6 + 6 from rfl, ← List.drop_drop, uE_drop, uE_drop]
theorem get_put (list : List Nat) (h : ∀ r ∈ list, isSign r = true) : getR (putE list) = some (list.flatMap signB) := by
  induction list with
  | nil => rfl
  | cons r list ih =>
    have : putE (r :: list) = escB r ++ putE list := by simp [putE]
    rw [this, get_esc r (h r List.mem_cons_self), ih (fun x hx => h x (List.mem_cons_of_mem _ hx))]
    simp
/-- escapes are plain bytes -/
theorem uE_plain (n : Nat) : ∀ c ∈ uE n, 32 ≤ c.toNat ∧ c.toNat ≤ 126 := by
  intro c hc
  unfold uE at hc
  rw [hexT_four] at hc
  simp only [List.mem_cons, List.not_mem_nil, or_false] at hc
  have a := hexD_facts (n / 4096)
  have b := hexD_facts (n / 256)
  have e := hexD_facts (n / 16)
  have d := hexD_facts n
  rcases hc with h | h | h | h | h | h
  · subst h; decide
  · subst h; decide
  · rw [h]; omega
  · rw [h]; omega
  · rw [h]; omega
  · rw [h]; omega
theorem put_plain (list : List Nat) : ∀ c ∈ putE list, 32 ≤ c.toNat ∧ c.toNat ≤ 126 := by
  intro c hc
  unfold putE at hc
  obtain ⟨r, _, hr⟩ := List.mem_flatMap.1 hc
  unfold escB at hr
  split at hr
  · simp only [List.mem_cons, List.not_mem_nil, or_false] at hr
    rcases hr with rfl | rfl <;> decide
  · split at hr
    · rename_i h2
      simp only [List.mem_cons, List.not_mem_nil, or_false] at hr
      subst hr
      rw [u8_nat r (by omega)]
      exact h2
    · split at hr
      · exact uE_plain _ c hr
      · rcases List.mem_append.1 hr with hr | hr
        · exact uE_plain _ c hr
        · exact uE_plain _ c hr
/-- a text comes back from its escapes -/
theorem getL_put (l : List UInt8) (list : List Nat) (h : signsL l = some list) : getL (putE list) = some l := by
  obtain ⟨h1, h2⟩ := text_signs l list h
  unfold getL
  rw [signs_plain (putE list) (fun c hc => by have := put_plain list c hc; omega)]
  simp only [Option.isSome_some, if_true]
  rw [get_put list h1, h2]

end Go.Proofs.YtflnpkckdjmljaaDoor
