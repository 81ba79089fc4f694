/- The mixed numbers of a cursor come by every number: so what waits for some of them ends. -/
import Derived.Test.YtkhcdopnohbieaaDoorDrawFn
namespace Go.Proofs.YtkhcdopnohbieaaDoor
open Go.RowKit
set_option linter.unusedVariables false

def lin (x : Int) : Int := x * 6364136223846793005 + 1442695040888963407
def linN : Nat → Int → Int
  | 0, x => x
  | n + 1, x => linN n (lin x)
theorem linN_add (m n : Nat) (x : Int) : linN (m + n) x = linN n (linN m x) := by
  induction m generalizing x with
  | zero => simp [linN]
  | succ m ih => rw [Nat.succ_add]; exact ih (lin x)
theorem linN_two (k : Nat) : ∃ A C t u q : Int, (∀ x, linN (2 ^ k) x = A * x + C) ∧ A = 4 * t + 1 ∧ A - 1 = 2 ^ (k + 1) * u ∧ C = 2 ^ k * (2 * q + 1) := by
  induction k with
  | zero => exact ⟨6364136223846793005, 1442695040888963407, 1591034055961698251, 3182068111923396502, 721347520444481703, fun x => by simp only [Nat.pow_zero, linN, lin]; omega, by decide, by decide, by decide⟩
  | succ k ih =>
    obtain ⟨A, C, t, u, q, h1, h2, h3, h4⟩ := ih
    refine ⟨A * A, A * C + C, 4 * (t * t) + 2 * t, u * (2 * t + 1), q * (2 * t + 1) + t, fun x => ?_, ?_, ?_, ?_⟩
    · rw [Nat.pow_succ, Nat.mul_two, linN_add, h1, h1, Int.mul_add, Int.mul_assoc, Int.add_assoc]
    · subst h2
      simp only [Int.mul_add, Int.add_mul, Int.mul_one, Int.one_mul]
      have : 4 * t * (4 * t) = 4 * (4 * (t * t)) := by rw [Int.mul_assoc, Int.mul_left_comm t 4 t]
      rw [this]
      omega
    · have e1 : A * A - 1 = (A - 1) * (A + 1) := by rw [Int.sub_mul, Int.mul_add, Int.one_mul, Int.mul_one]; omega
      rw [e1, h3, h2, Int.pow_succ 2 (k + 1)]
      rw [show (4 * t + 1 + 1 : Int) = 2 * (2 * t + 1) by omega, Int.mul_assoc, Int.mul_assoc]
      congr 1
      rw [Int.mul_left_comm]
    · have e1 : A * C + C = (A + 1) * C := by rw [Int.add_mul, Int.one_mul]
      rw [e1, h4, h2, Int.pow_succ, show (4 * t + 1 + 1 : Int) = 2 * (2 * t + 1) by omega]
      have e2 : (2 * (q * (2 * t + 1) + t) + 1 : Int) = (2 * t + 1) * (2 * q + 1) := by
        simp only [Int.mul_add, Int.add_mul, Int.mul_one, Int.one_mul]
        have e3 : 2 * t * (2 * q) = 2 * (q * (2 * t)) := by rw [Int.mul_comm (2 * t) (2 * q), Int.mul_assoc]
        rw [e3]
        omega
      rw [e2, Int.mul_assoc 2 (2 * t + 1), ← Int.mul_assoc (2 * t + 1), Int.mul_comm (2 * t + 1) (2 ^ k), Int.mul_assoc (2 ^ k), Int.mul_left_comm 2 (2 ^ k), ← Int.mul_assoc (2 ^ k) 2]
theorem lin_reach (k : Nat) : ∀ x y : Int, ∃ n, n < 2 ^ k ∧ ∃ d, linN n x - y = 2 ^ k * d := by
  induction k with
  | zero => exact fun x y => ⟨0, by decide, x - y, by simp [linN]⟩
  | succ k ih =>
    intro x y
    obtain ⟨n, hn, d, hd⟩ := ih x y
    obtain ⟨A, C, t, u, q, h1, h2, h3, h4⟩ := linN_two k
    have hp : 2 ^ (k + 1) = 2 ^ k + 2 ^ k := by rw [Nat.pow_succ]; omega
    rcases Int.emod_two_eq d with h | h
    · obtain ⟨f, rfl⟩ : ∃ f, d = 2 * f := ⟨d / 2, by omega⟩
      exact ⟨n, by omega, f, by rw [hd, Int.pow_succ, Int.mul_assoc]⟩
    · obtain ⟨f, rfl⟩ : ∃ f, d = 2 * f + 1 := ⟨d / 2, by omega⟩
      refine ⟨n + 2 ^ k, by omega, u * linN n x + (f + q + 1), ?_⟩
      rw [linN_add, h1]
      generalize linN n x = z at *
      have e1 : A * z = z + 2 ^ (k + 1) * u * z := by rw [← h3, Int.sub_mul]; omega
      rw [e1, h4, Int.pow_succ]
      have e3 : (2 ^ k * 2 * (u * z + (f + q + 1)) : Int) = 2 ^ k * 2 * u * z + 2 ^ k * 2 * (f + q + 1) := by rw [Int.mul_add, ← Int.mul_assoc]
      rw [e3]
      have e2 : (2 ^ k * 2 * (f + q + 1) : Int) = 2 ^ k * (2 * f + 1) + 2 ^ k * (2 * q + 1) := by
        rw [← Int.mul_add, Int.mul_assoc]; congr 1; omega
      rw [e2]
      omega

def itH : Nat → Int → Int
  | 0, h => h
  | n + 1, h => itH n (nextH h)
theorem itH_add (m n : Nat) (h : Int) : itH (m + n) h = itH n (itH m h) := by
  induction m generalizing h with
  | zero => simp [itH]
  | succ m ih => rw [Nat.succ_add]; exact ih (nextH h)
theorem nextH_mod (h : Int) : nextH h % 18446744073709551616 = lin h % 18446744073709551616 := by unfold nextH lin wrap64; omega
theorem nextH_in (h : Int) : -9223372036854775808 ≤ nextH h ∧ nextH h ≤ 9223372036854775807 := by unfold nextH wrap64; omega
theorem lin_mod {a b : Int} (h : a % 18446744073709551616 = b % 18446744073709551616) : lin a % 18446744073709551616 = lin b % 18446744073709551616 := by unfold lin; omega
theorem linN_mod (n : Nat) {a b : Int} (h : a % 18446744073709551616 = b % 18446744073709551616) : linN n a % 18446744073709551616 = linN n b % 18446744073709551616 := by
  induction n generalizing a b with
  | zero => exact h
  | succ n ih => exact ih (lin_mod h)
theorem itH_mod (n : Nat) (h : Int) : itH n h % 18446744073709551616 = linN n h % 18446744073709551616 := by
  induction n generalizing h with
  | zero => rfl
  | succ n ih => exact (ih (nextH h)).trans (linN_mod n (nextH_mod h))
theorem itH_in (n : Nat) (h : Int) (h0 : -9223372036854775808 ≤ h ∧ h ≤ 9223372036854775807) : -9223372036854775808 ≤ itH n h ∧ itH n h ≤ 9223372036854775807 := by
  induction n generalizing h with
  | zero => exact h0
  | succ n ih => exact ih (nextH h) (nextH_in h)
theorem reach (h : Int) : ∃ n, n ≤ 18446744073709551616 ∧ itH n h = 8 := by
  obtain ⟨n, hn, d, hd⟩ := lin_reach 64 (nextH h) 8
  have hn' : n < 18446744073709551616 := hn
  refine ⟨n + 1, by omega, ?_⟩
  show itH n (nextH h) = 8
  have h1 := itH_mod n (nextH h)
  have h2 := itH_in n (nextH h) (nextH_in h)
  have h3 : linN n (nextH h) - 8 = 18446744073709551616 * d := hd
  generalize linN n (nextH h) = y at *
  generalize itH n (nextH h) = x at *
  omega

theorem least (P : Nat → Prop) (h : ∃ n, P n) : ∃ n, P n ∧ ∀ m, m < n → ¬ P m := by
  obtain ⟨n, hn⟩ := h
  induction n using Nat.strongRecOn with
  | _ n ih =>
    by_cases h : ∃ m, m < n ∧ P m
    · obtain ⟨m, hm, hp⟩ := h
      exact ih m hm hp
    · exact ⟨n, hn, fun m hm hp => h ⟨m, hm, hp⟩⟩
noncomputable def rank (h : Int) : Nat := Classical.choose (least (fun n => itH n h = 8) (by obtain ⟨n, _, hn⟩ := reach h; exact ⟨n, hn⟩))
theorem rank_hit (h : Int) : itH (rank h) h = 8 := (Classical.choose_spec (least (fun n => itH n h = 8) (by obtain ⟨n, _, hn⟩ := reach h; exact ⟨n, hn⟩))).1
theorem rank_le {h : Int} {n : Nat} (hn : itH n h = 8) : rank h ≤ n := by
  have := (Classical.choose_spec (least (fun n => itH n h = 8) (by obtain ⟨n, _, hn⟩ := reach h; exact ⟨n, hn⟩))).2
  rcases Nat.lt_or_ge n (rank h) with h1 | h1
  · exact absurd hn (this n h1)
  · exact h1
theorem rank_max (h : Int) : rank h ≤ 18446744073709551616 := by
  obtain ⟨n, h1, h2⟩ := reach h
  exact Nat.le_trans (rank_le h2) h1

/-- whatever is drawn here makes a text longer -/
def goodX (x : Int) : Prop := x % 5 ≠ 1 ∧ x % 5 ≠ 2
theorem good_8 : goodX (showH (nextH 8)) := by unfold goodX; decide +kernel
theorem good_9 : goodX (showH (nextH (nextH 8))) := by unfold goodX; decide +kernel
theorem good_10 : goodX (showH (nextH (nextH (nextH 8)))) := by unfold goodX; decide +kernel
open Classical in
noncomputable def mu (h : Int) : Nat := if h = nextH 8 ∨ h = nextH (nextH 8) then 0 else rank h
theorem mu_le_rank (h : Int) : mu h ≤ rank h := by unfold mu; split <;> omega
theorem mu_max (h : Int) : mu h ≤ 18446744073709551616 := Nat.le_trans (mu_le_rank h) (rank_max h)
theorem mu_step {h : Int} {j : Nat} (hb : ¬ goodX (showH (nextH h))) (h1 : 1 ≤ j) (h3 : j ≤ 3) : mu (itH j h) < mu h := by
  have n0 : h ≠ 8 := fun e => hb (e ▸ good_8)
  have n1 : h ≠ nextH 8 := fun e => hb (e ▸ good_9)
  have n2 : h ≠ nextH (nextH 8) := fun e => hb (e ▸ good_10)
  have e : mu h = rank h := by unfold mu; rw [if_neg (by rintro (h | h) <;> contradiction)]
  rw [e]
  have hr := rank_hit h
  have hpos : 1 ≤ rank h := by
    rcases Nat.eq_zero_or_pos (rank h) with h0 | h0
    · rw [h0] at hr; exact absurd hr n0
    · exact h0
  generalize rank h = m at *
  by_cases hjm : j ≤ m
  · have := rank_le (h := itH j h) (n := m - j) (by rw [← itH_add, show j + (m - j) = m by omega]; exact hr)
    have := mu_le_rank (itH j h)
    omega
  · have e2 : itH j h = itH (j - m) 8 := by rw [← hr, ← itH_add, show m + (j - m) = j by omega]
    have : j - m = 1 ∨ j - m = 2 := by omega
    have e3 : mu (itH j h) = 0 := by
      rw [e2]
      rcases this with h | h <;> rw [h]
      · unfold mu; rw [if_pos (.inl rfl)]
      · unfold mu; rw [if_pos (.inr rfl)]
    omega

/-- how long it may still take -/
noncomputable def still (len : Nat) (i h : Int) : Nat := (len - i.toNat) * 18446744073709551617 + mu h
theorem still_max (len : Nat) (i h : Int) : still len i h < (len + 1) * 18446744073709551617 := by
  have h1 := mu_max h
  have h2 : (len - i.toNat) * 18446744073709551617 ≤ len * 18446744073709551617 := Nat.mul_le_mul_right _ (by omega)
  unfold still
  omega
def itI (len : Nat) : Nat → Int → Int
  | 0, i => i
  | n + 1, i => itI len n (nextI len i)
theorem itI_le (len n : Nat) (i : Int) : i ≤ itI len n i := by
  induction n generalizing i with
  | zero => exact Int.le_refl _
  | succ n ih =>
    refine Int.le_trans ?_ (ih (nextI len i))
    unfold nextI; split <;> omega
theorem itI_end (len n : Nat) (i : Int) (h : ¬ i < (len : Int)) : itI len n i = i := by
  induction n with
  | zero => rfl
  | succ n ih =>
    show itI len n (nextI len i) = i
    have : nextI len i = i := by unfold nextI; rw [if_neg h]
    rw [this]; exact ih
theorem still_step (r : Nat → Int) (len : Nat) (i h : Int) (j : Nat) (h0 : 0 ≤ i) (hb : ¬ goodX (byteX r len i h)) (h1 : 1 ≤ j) (h3 : j ≤ 3) : still len (itI len j i) (itH j h) < still len i h := by
  unfold still
  by_cases hi : i < (len : Int)
  · obtain ⟨j, rfl⟩ : ∃ m, j = m + 1 := ⟨j - 1, by omega⟩
    have e := itI_le len j (nextI len i)
    have e1 : nextI len i = i + 1 := by unfold nextI; rw [if_pos hi]
    have e2 : i + 1 ≤ itI len (j + 1) i := by show i + 1 ≤ itI len j (nextI len i); omega
    have hm := mu_max (itH (j + 1) h)
    generalize itI len (j + 1) i = i' at *
    have : len - i'.toNat + 1 ≤ len - i.toNat := by omega
    have h4 : (len - i'.toNat + 1) * 18446744073709551617 ≤ (len - i.toNat) * 18446744073709551617 := Nat.mul_le_mul_right _ this
    rw [Nat.add_mul] at h4
    omega
  · rw [itI_end len j i hi]
    have : byteX r len i h = showH (nextH h) := by unfold byteX; rw [if_neg hi]
    rw [this] at hb
    have := mu_step hb h1 h3
    omega
/-- the same, with what is still to come -/
noncomputable def togo (n len l : Nat) (i h : Int) : Nat := (n - l) * ((len + 1) * 18446744073709551617) + still len i h
theorem togo_still (r : Nat → Int) (n len l : Nat) (i h : Int) (j : Nat) (h0 : 0 ≤ i) (hb : ¬ goodX (byteX r len i h)) (h1 : 1 ≤ j) (h3 : j ≤ 3) : togo n len l (itI len j i) (itH j h) < togo n len l i h := by
  unfold togo
  have := still_step r len i h j h0 hb h1 h3
  omega
theorem togo_grow (n len l l' : Nat) (i h i' h' : Int) (hl : l < n) (hll : l < l') : togo n len l' i' h' < togo n len l i h := by
  unfold togo
  have h1 := still_max len i' h'
  have h2 : n - l' + 1 ≤ n - l := by omega
  have h3 : (n - l' + 1) * ((len + 1) * 18446744073709551617) ≤ (n - l) * ((len + 1) * 18446744073709551617) := Nat.mul_le_mul_right _ h2
  rw [Nat.add_mul, Nat.one_mul] at h3
  generalize (len + 1) * 18446744073709551617 = K at *
  omega

end Go.Proofs.YtkhcdopnohbieaaDoor
