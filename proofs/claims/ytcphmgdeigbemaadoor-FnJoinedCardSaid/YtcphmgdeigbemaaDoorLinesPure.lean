/- Lines, of lists of bytes alone. -/
import Derived.Test.YtcphmgdeigbemaaDoorProg
namespace Go.Proofs.YtcphmgdeigbemaaDoor
set_option linter.unusedVariables false

/-- the lines of what is left, where cur has been read of the first one -/
def splitL : List UInt8 → List UInt8 → List (List UInt8 × List UInt8)
  | [], cur => if cur = [] then [] else [(cur, [])]
  | c :: t, cur =>
    if c = 13 then
      match t with
      | d :: u => if d = 10 then (cur, [13, 10]) :: splitL u [] else (cur, [13]) :: splitL (d :: u) []
      | [] => [(cur, [13])]
    else if c = 10 then (cur, [10]) :: splitL t [] else splitL t (cur ++ [c])
def joinL (l : List (List UInt8 × List UInt8)) : List UInt8 := l.flatMap (fun x => x.1 ++ x.2)
theorem splitL_nil (cur : List UInt8) : splitL [] cur = if cur = [] then [] else [(cur, [])] := rfl
theorem splitL_two (t cur : List UInt8) : splitL (13 :: 10 :: t) cur = (cur, [13, 10]) :: splitL t [] := by
  rw [splitL.eq_def]; simp
theorem splitL_cr (t cur : List UInt8) (h : t[0]? ≠ some 10) : splitL (13 :: t) cur = (cur, [13]) :: splitL t [] := by
  rw [splitL.eq_def]
  cases t with
  | nil => simp [splitL]
  | cons d u =>
    have : d ≠ 10 := fun e => h (by simp [e])
    simp [this]
theorem splitL_lf (t cur : List UInt8) : splitL (10 :: t) cur = (cur, [10]) :: splitL t [] := by
  rw [splitL.eq_def]; simp
theorem splitL_on (c : UInt8) (t cur : List UInt8) (h1 : c ≠ 13) (h2 : c ≠ 10) : splitL (c :: t) cur = splitL t (cur ++ [c]) := by
  rw [splitL.eq_def]; simp [h1, h2]

/-- by the way that splitL goes -/
theorem splitInd {P : List UInt8 → List UInt8 → Prop} (h0 : ∀ cur, P [] cur) (h1 : ∀ t cur, P t [] → P (13 :: 10 :: t) cur) (h2 : ∀ t cur, t[0]? ≠ some 10 → P t [] → P (13 :: t) cur) (h3 : ∀ t cur, P t [] → P (10 :: t) cur)
    (h4 : ∀ c t cur, c ≠ 13 → c ≠ 10 → P t (cur ++ [c]) → P (c :: t) cur) (l cur : List UInt8) : P l cur := by
  have key : ∀ n (l : List UInt8), l.length = n → ∀ cur, P l cur := by
    intro n
    induction n using Nat.strongRecOn with
    | _ n ih =>
      intro l hl cur
      cases l with
      | nil => exact h0 cur
      | cons c t =>
        simp only [List.length_cons] at hl
        by_cases e1 : c = 13
        · subst e1
          by_cases e2 : t[0]? = some 10
          · cases t with
            | nil => simp at e2
            | cons d u =>
              simp at e2
              subst e2
              simp only [List.length_cons] at hl
              exact h1 u cur (ih u.length (by omega) u rfl [])
          · exact h2 t cur e2 (ih t.length (by omega) t rfl [])
        · by_cases e2 : c = 10
          · subst e2
            exact h3 t cur (ih t.length (by omega) t rfl [])
          · exact h4 c t cur e1 e2 (ih t.length (by omega) t rfl _)
  exact key l.length l rfl cur

theorem joinL_cons (x : List UInt8 × List UInt8) (l : List (List UInt8 × List UInt8)) : joinL (x :: l) = x.1 ++ x.2 ++ joinL l := by simp [joinL]
theorem joinL_append (a b : List (List UInt8 × List UInt8)) : joinL (a ++ b) = joinL a ++ joinL b := by simp [joinL]
/-- lines put together are the file -/
theorem join_split (l cur : List UInt8) : joinL (splitL l cur) = cur ++ l := by
  induction l, cur using splitInd with
  | h0 cur =>
    rw [splitL_nil]
    split
    · rename_i h; subst h; rfl
    · simp [joinL]
  | h1 t cur ih => rw [splitL_two, joinL_cons, ih]; simp
  | h2 t cur h ih => rw [splitL_cr t cur h, joinL_cons, ih]; simp
  | h3 t cur ih => rw [splitL_lf, joinL_cons, ih]; simp
  | h4 c t cur e1 e2 ih => rw [splitL_on c t cur e1 e2, ih]; simp
/-- every line but the last has an end -/
theorem split_ends (l cur : List UInt8) : ∀ i, i + 1 < (splitL l cur).length → ∀ x, (splitL l cur)[i]? = some x → x.2 ≠ [] := by
  have step : ∀ (e cur t : List UInt8), e ≠ [] → (∀ i, i + 1 < (splitL t []).length → ∀ x, (splitL t [])[i]? = some x → x.2 ≠ []) → ∀ i, i + 1 < ((cur, e) :: splitL t []).length → ∀ x, ((cur, e) :: splitL t [])[i]? = some x → x.2 ≠ [] := by
    intro e cur t he ih i hi x hx
    cases i with
    | zero => simp at hx; subst hx; exact he
    | succ i => exact ih i (by simp at hi; omega) x (by simpa using hx)
  induction l, cur using splitInd with
  | h0 cur =>
    rw [splitL_nil]
    intro i hi
    exfalso
    split at hi
    · simp at hi
    · simp at hi
  | h1 t cur ih => rw [splitL_two]; exact step _ _ _ (by simp) ih
  | h2 t cur h ih => rw [splitL_cr t cur h]; exact step _ _ _ (by simp) ih
  | h3 t cur ih => rw [splitL_lf]; exact step _ _ _ (by simp) ih
  | h4 c t cur e1 e2 ih => rw [splitL_on c t cur e1 e2]; exact ih
/-- with a line end between, the lines of the one and then of the other -/
theorem split_halves (l t cur : List UInt8) : splitL (l ++ 124 :: 10 :: t) cur = splitL (l ++ [124, 10]) cur ++ splitL t [] := by
  induction l, cur using splitInd with
  | h0 cur =>
    rw [List.nil_append, List.nil_append, splitL_on 124 _ _ (by decide) (by decide), splitL_on 124 _ _ (by decide) (by decide), splitL_lf, splitL_lf, splitL_nil]
    simp
  | h1 u cur ih => rw [List.cons_append, List.cons_append, List.cons_append, List.cons_append, splitL_two, splitL_two, ih]; simp
  | h2 u cur h ih =>
    have e : ∀ v : List UInt8, (u ++ 124 :: 10 :: v)[0]? ≠ some 10 := by
      intro v
      cases u with
      | nil => simp
      | cons d u => simpa using h
    rw [List.cons_append, List.cons_append, splitL_cr _ _ (e t), splitL_cr _ _ (e []), ih]; simp
  | h3 u cur ih => rw [List.cons_append, List.cons_append, splitL_lf, splitL_lf, ih]; simp
  | h4 c u cur e1 e2 ih => rw [List.cons_append, List.cons_append, splitL_on c _ _ e1 e2, splitL_on c _ _ e1 e2, ih]
theorem split_last (l cur : List UInt8) : ∃ a x, splitL (l ++ [124, 10]) cur = a ++ [(x, [10])] := by
  induction l, cur using splitInd with
  | h0 cur =>
    refine ⟨[], cur ++ [124], ?_⟩
    rw [List.nil_append, splitL_on 124 _ _ (by decide) (by decide), splitL_lf, splitL_nil]; simp
  | h1 u cur ih => obtain ⟨a, x, h⟩ := ih; exact ⟨(cur, [13, 10]) :: a, x, by rw [List.cons_append, List.cons_append, splitL_two, h]; simp⟩
  | h2 u cur hu ih =>
    obtain ⟨a, x, h⟩ := ih
    refine ⟨(cur, [13]) :: a, x, ?_⟩
    rw [List.cons_append, splitL_cr _ _ (by cases u with
      | nil => simp
      | cons d u => simpa using hu), h]; simp
  | h3 u cur ih => obtain ⟨a, x, h⟩ := ih; exact ⟨(cur, [10]) :: a, x, by rw [List.cons_append, splitL_lf, h]; simp⟩
  | h4 c u cur e1 e2 ih => obtain ⟨a, x, h⟩ := ih; exact ⟨a, x, by rw [List.cons_append, splitL_on c _ _ e1 e2, h]⟩
/-- no more lines than bytes -/
theorem split_few (l cur : List UInt8) : (splitL l cur).length ≤ l.length + cur.length := by
  induction l, cur using splitInd with
  | h0 cur =>
    rw [splitL_nil]
    split
    · simp
    · rename_i h; have := List.length_pos_iff.2 h; simp; omega
  | h1 t cur ih => rw [splitL_two]; simp at *; omega
  | h2 t cur h ih => rw [splitL_cr t cur h]; simp at *; omega
  | h3 t cur ih => rw [splitL_lf]; simp at *; omega
  | h4 c t cur e1 e2 ih => rw [splitL_on c t cur e1 e2]; simp at *; omega

/-! the end that most lines have -/
def timesE (l : List (List UInt8 × List UInt8)) (e : List UInt8) : Nat := (l.filter (fun x => x.2 == e)).length
def bestTo (l : List (List UInt8 × List UInt8)) : List (List UInt8 × List UInt8) → List UInt8 × Nat → List UInt8 × Nat
  | [], b => b
  | x :: t, b => bestTo l t (if x.2 ≠ [] ∧ b.2 < timesE l x.2 then (x.2, timesE l x.2) else b)
def endL (l : List (List UInt8 × List UInt8)) : List UInt8 := (bestTo l l ([10], 0)).1
theorem bestTo_is (l : List (List UInt8 × List UInt8)) (m : List (List UInt8 × List UInt8)) (b : List UInt8 × Nat) (hm : ∀ x ∈ m, x ∈ l) :
    ((bestTo l m b).1 = b.1 ∧ (∀ x ∈ m, x.2 = [] ∨ timesE l x.2 ≤ b.2)) ∨ ∃ x ∈ m, x.2 = (bestTo l m b).1 := by
  induction m generalizing b with
  | nil => exact .inl ⟨rfl, fun x hx => by cases hx⟩
  | cons y m ih =>
    rw [bestTo]
    have hm' : ∀ x ∈ m, x ∈ l := fun x hx => hm x (List.mem_cons_of_mem _ hx)
    by_cases hc : y.2 ≠ [] ∧ b.2 < timesE l y.2
    · rw [if_pos hc]
      rcases ih (y.2, timesE l y.2) hm' with ⟨h1, _⟩ | ⟨x, hx, h⟩
      · exact .inr ⟨y, List.mem_cons_self, h1.symm⟩
      · exact .inr ⟨x, List.mem_cons_of_mem _ hx, h⟩
    · rw [if_neg hc]
      rcases ih b hm' with ⟨h1, h2⟩ | ⟨x, hx, h⟩
      · refine .inl ⟨h1, fun x hx => ?_⟩
        rcases List.mem_cons.1 hx with rfl | hx
        · by_cases e : x.2 = []
          · exact .inl e
          · exact .inr (by rcases Nat.lt_or_ge b.2 (timesE l x.2) with q | q
                           · exact absurd ⟨e, q⟩ hc
                           · exact q)
        · exact h2 x hx
      · exact .inr ⟨x, List.mem_cons_of_mem _ hx, h⟩
/-- it is there, or there is none and it is a newline -/
theorem endL_is (l : List (List UInt8 × List UInt8)) : (∃ x ∈ l, x.2 = endL l) ∨ ((∀ x ∈ l, x.2 = []) ∧ endL l = [10]) := by
  rcases bestTo_is l l ([10], 0) (fun x hx => hx) with ⟨h1, h2⟩ | h
  · refine .inr ⟨fun x hx => ?_, h1⟩
    rcases h2 x hx with h | h
    · exact h
    · exfalso
      have : 0 < timesE l x.2 := by
        unfold timesE
        exact List.length_pos_of_mem (List.mem_filter.2 ⟨hx, by simp⟩)
      simp at h
      omega
  · exact .inl h

end Go.Proofs.YtcphmgdeigbemaaDoor
