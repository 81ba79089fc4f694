/- Records of lines are numbered by their bytes. -/
import Derived.Test.YtkhkpjnpjgnckaaGreatDoorProg
import Derived.Test.YtkhkpjnpjgnckaaGreatDoorPlain
import Derived.Test.YtkhkpjnpjgnckaaGreatDoorRecRows
import Derived.Test.YtkhkpjnpjgnckaaGreatDoorRecArg
import Derived.Test.YtkhkpjnpjgnckaaGreatDoorRecRaw
import Derived.Test.YtkhkpjnpjgnckaaGreatDoorRecNum
import Derived.Test.YtkhkpjnpjgnckaaGreatDoorLines
import Derived.Test.YtkhkpjnpjgnckaaGreatDoorSplitSpec
import Derived.Test.YtkhkpjnpjgnckaaGreatDoorJoin
import Derived.Test.YtkhkpjnpjgnckaaGreatDoorEnvRecs
import Derived.Lib.Hide
import Derived.Test.YtkhkpjnpjgnckaaGreatDoorRows0
import Derived.Test.YtkhkpjnpjgnckaaGreatDoorEnvOne
namespace Go.Proofs.YtkhkpjnpjgnckaaGreatDoor
open Go.RowKit
set_option linter.unusedVariables false

/-- a line with its end, ahead of what follows -/
def LineTo (x : List UInt8 × List UInt8) (t : List UInt8) : Prop :=
  (∀ c ∈ x.1, c ≠ 13 ∧ c ≠ 10) ∧ (x.2 = [10] ∨ x.2 = [13, 10] ∨ (x.2 = [13] ∧ t[0]? ≠ some 10) ∨ (x.2 = [] ∧ t = [] ∧ x.1 ≠ []))
theorem splitL_runN (p t cur : List UInt8) (h : ∀ c ∈ p, c ≠ 13 ∧ c ≠ 10) : splitL (p ++ t) cur = splitL t (cur ++ p) := by
  induction p generalizing cur with
  | nil => simp
  | cons c p ih =>
    have hc := h c (by simp)
    rw [List.cons_append, splitL_on c _ _ hc.1 hc.2, ih _ (fun d hd => h d (by simp [hd]))]
    simp
theorem split_line {x : List UInt8 × List UInt8} {t : List UInt8} (h : LineTo x t) : splitL (x.1 ++ x.2 ++ t) [] = x :: splitL t [] := by
  obtain ⟨a, e⟩ := x
  obtain ⟨h1, h2⟩ := h
  simp only at h1 h2 ⊢
  rw [List.append_assoc, splitL_runN a _ [] h1, List.nil_append]
  rcases h2 with rfl | rfl | ⟨rfl, h3⟩ | ⟨rfl, rfl, h3⟩
  · exact splitL_lf t a
  · exact splitL_two t a
  · exact splitL_cr t a h3
  · simp only [List.append_nil]
    rw [splitL_nil, if_neg h3]
    rfl
theorem split_first : ∀ (l cur : List UInt8), (∀ c ∈ cur, c ≠ 13 ∧ c ≠ 10) → l ≠ [] ∨ cur ≠ [] → ∃ x rest, splitL l cur = x :: splitL rest [] ∧ cur ++ l = x.1 ++ x.2 ++ rest ∧ LineTo x rest := by
  refine splitInd (P := fun l cur => (∀ c ∈ cur, c ≠ 13 ∧ c ≠ 10) → l ≠ [] ∨ cur ≠ [] → ∃ x rest, splitL l cur = x :: splitL rest [] ∧ cur ++ l = x.1 ++ x.2 ++ rest ∧ LineTo x rest) ?_ ?_ ?_ ?_ ?_
  · intro cur hc hn
    have hn2 : cur ≠ [] := hn.resolve_left (by simp)
    exact ⟨(cur, []), [], by rw [splitL_nil, if_neg hn2]; rfl, by simp, hc, .inr (.inr (.inr ⟨rfl, rfl, hn2⟩))⟩
  · intro t cur ih hc hn
    exact ⟨(cur, [13, 10]), t, splitL_two t cur, by simp, hc, .inr (.inl rfl)⟩
  · intro t cur ht ih hc hn
    exact ⟨(cur, [13]), t, splitL_cr t cur ht, by simp, hc, .inr (.inr (.inl ⟨rfl, ht⟩))⟩
  · intro t cur ih hc hn
    exact ⟨(cur, [10]), t, splitL_lf t cur, by simp, hc, .inl rfl⟩
  · intro c t cur h1 h2 ih hc hn
    obtain ⟨x, rest, e1, e2, e3⟩ := ih (by
      intro d hd
      rcases List.mem_append.1 hd with hd | hd
      · exact hc d hd
      · simp at hd
        subst hd
        exact ⟨h1, h2⟩) (.inr (by simp))
    exact ⟨x, rest, by rw [splitL_on c t cur h1 h2, e1], by rw [← e2]; simp, e3⟩
theorem split_drop : ∀ (n : Nat) (s : List UInt8), ∃ s2, (splitL s []).drop n = splitL s2 [] := by
  intro n
  induction n with
  | zero => intro s; exact ⟨s, by simp⟩
  | succ n ih =>
    intro s
    by_cases hs : s = []
    · subst hs
      exact ⟨[], by simp [splitL_nil]⟩
    · obtain ⟨x, rest, e1, _, _⟩ := split_first s [] (by simp) (.inl hs)
      obtain ⟨s2, h2⟩ := ih rest
      exact ⟨s2, by rw [e1, List.drop_succ_cons, h2]⟩
theorem split_take : ∀ (n : Nat) (s : List UInt8), splitL (joinL ((splitL s []).take n)) [] = (splitL s []).take n := by
  intro n
  induction n with
  | zero => intro s; simp [joinL, splitL_nil]
  | succ n ih =>
    intro s
    by_cases hs : s = []
    · subst hs
      simp [splitL_nil, joinL]
    · obtain ⟨x, rest, e1, _, h1, h2⟩ := split_first s [] (by simp) (.inl hs)
      rw [e1, List.take_succ_cons, joinL_cons, split_line, ih rest]
      refine ⟨h1, ?_⟩
      have hp : ∃ u, rest = joinL ((splitL rest []).take n) ++ u := by
        refine ⟨joinL ((splitL rest []).drop n), ?_⟩
        rw [← joinL_append, List.take_append_drop, join_split]
        rfl
      obtain ⟨u, hu⟩ := hp
      rcases h2 with h | h | ⟨h, h3⟩ | ⟨h, h3, h4⟩
      · exact .inl h
      · exact .inr (.inl h)
      · refine .inr (.inr (.inl ⟨h, ?_⟩))
        intro e
        apply h3
        rw [hu, List.getElem?_append_left]
        · exact e
        · exact (List.getElem?_eq_some_iff.1 e).1
      · refine .inr (.inr (.inr ⟨h, ?_, h4⟩))
        subst h3
        simp [splitL_nil, joinL]
/-- some lines of a text put together have those lines -/
theorem lines_some (s : ByteArray) (k c : Nat) : linesOf (rawP (linesOf s) k c) = ((linesOf s).drop k).take c := by
  obtain ⟨s2, h2⟩ := split_drop k s.data.toList
  have e : ((linesOf s).drop k).take c = ((splitL s2 []).take c).map toB := by
    unfold linesOf
    rw [← List.map_drop, h2, ← List.map_take]
  unfold rawP
  rw [e]
  show (splitL (joinB (((splitL s2 []).take c).map toB)) []).map toB = _
  rw [joinB_is, List.map_map, show (ofB ∘ toB) = id from funext ofB_toB, List.map_id, split_take]
/-- the lines of records are told by their bytes -/
def Lined : Nat → List RecD → Prop
  | _, [] => True
  | n, x :: m => x.line = (n : Int) ∧ Lined (n + (linesOf x.raw).length) m
theorem lined_props (s : ByteArray) : ∀ k, Lined (k + 1) (recsP (linesOf s) k) := by
  refine recsP_ind (l := linesOf s) ?_ ?_
  · intro k hk
    rw [recsP_end _ k hk]
    trivial
  · intro k hk ih
    have hs := oneAt_le (linesOf s) k hk
    rw [recsP_step _ k hk]
    refine ⟨by unfold putP; simp, ?_⟩
    have : (linesOf (putP (linesOf s) k (oneAt (linesOf s) k hk).2 (oneAt (linesOf s) k hk).1).raw).length = (oneAt (linesOf s) k hk).2 := by
      show (linesOf (rawP (linesOf s) k (oneAt (linesOf s) k hk).2)).length = _
      rw [lines_some, List.length_take, List.length_drop]
      omega
    rw [this, show k + 1 + (oneAt (linesOf s) k hk).2 = k + (oneAt (linesOf s) k hk).2 + 1 by omega]
    exact ih
def linesIn (m : List RecD) : Nat := (m.map (fun x => (linesOf x.raw).length)).sum
theorem lined_at : ∀ (m : List RecD) (n : Nat), Lined n m → ∀ j (h : j < m.length), m[j].line = ((n + linesIn (m.take j) : Nat) : Int) := by
  intro m
  induction m with
  | nil => intro n _ j h; simp at h
  | cons x m ih =>
    intro n hl j h
    cases j with
    | zero => simp [linesIn]; exact hl.1
    | succ j =>
      have := ih _ hl.2 j (by simpa using h)
      rw [List.getElem_cons_succ, this, List.take_succ_cons]
      simp only [linesIn, List.map_cons, List.sum_cons]
      omega
theorem lined_num {m : List RecD} (h : Lined 1 m) : numL m = m := by
  apply List.ext_getElem
  · exact numL_length m
  · intro j h1 h2
    rw [numL_at m j h2]
    have e := lined_at m 1 h j h2
    have e2 : lineAt m j = 1 + linesIn (m.take j) := by unfold lineAt linesIn; rw [List.map_take, List.map_take, List.map_map]; rfl
    rw [e2, ← e]
theorem lined_app : ∀ (a b : List RecD) (n : Nat), Lined n (a ++ b) ↔ Lined n a ∧ Lined (n + linesIn a) b := by
  intro a
  induction a with
  | nil => intro b n; simp [Lined, linesIn]
  | cons x a ih =>
    intro b n
    simp only [List.cons_append, Lined, ih, linesIn, List.map_cons, List.sum_cons, and_assoc, Nat.add_assoc]
theorem lined_lim {m : List RecD} {n : Nat} (h : Lined n m) : Lined n (limG m) := by
  unfold limG
  split
  · exact h
  · next hm =>
    have hl : 199 < m.length := by omega
    have h2 : Lined n (m.take 199 ++ m.drop 199) := by rw [List.take_append_drop]; exact h
    rw [lined_app] at h2 ⊢
    refine ⟨h2.1, ?_, trivial⟩
    have h3 := h2.2
    rw [List.drop_eq_getElem_cons hl] at h3
    have e : m.getD 199 noRec = m[199] := by rw [List.getD, List.getElem?_eq_getElem hl]; rfl
    show (m.getD 199 noRec).line = _
    rw [e]
    exact h3.1
/-- numbered anew they are as they were -/
theorem num_props (s : ByteArray) : numL (limG (recsP (linesOf s) 0)) = limG (recsP (linesOf s) 0) := lined_num (lined_lim (lined_props s 0))
theorem raw_props (s : ByteArray) : rawB (limG (recsP (linesOf s) 0)) = s.data.toList := by
  rw [limG_raw, recsP_raw, List.drop_zero, joinB_is]
  unfold linesOf
  rw [List.map_map, show (ofB ∘ toB) = id from funext ofB_toB, List.map_id, join_split]
  rfl

end Go.Proofs.YtkhkpjnpjgnckaaGreatDoor

/- What the records of an environment file are, and how large; without their lines they are numbered as they were. -/
namespace Go.Proofs.YtkhkpjnpjgnckaaGreatDoor
open Go.RowKit
set_option linter.unusedVariables false

theorem joinB_cons (x : Ln) (l : List Ln) : joinB (x :: l) = x.1.data.toList ++ x.2.data.toList ++ joinB l := by simp [joinB]
theorem quoteO_size (l : List Ln) : ∀ (t e : ByteArray) (n : Nat), (quoteO t e l n).1.size ≤ t.size + e.size + (joinB (l.take ((quoteO t e l n).2.1 - n))).length := by
  induction l with
  | nil => intro t e n; unfold quoteO; simp only []; omega
  | cons x l ih =>
    intro t e n
    unfold quoteO
    split
    · simp only []; omega
    · have h1 := ih (t ++ e ++ x.1) x.2 (n + 1)
      have h2 := (quoteO_count l (t ++ e ++ x.1) x.2 (n + 1)).1
      generalize quoteO (t ++ e ++ x.1) x.2 l (n + 1) = q at *
      obtain ⟨k, hk⟩ : ∃ k, q.2.1 - n = k + 1 := ⟨q.2.1 - n - 1, by omega⟩
      rw [hk, List.take_succ_cons, joinB_cons, List.length_append, List.length_append, ← Lib.size_eq, ← Lib.size_eq]
      have hk2 : q.2.1 - (n + 1) = k := by omega
      rw [hk2, ByteArray.size_append, ByteArray.size_append] at h1
      omega
theorem quoteR_size (r : ByteArray × Nat × Bool) : (quoteR r).1.size ≤ 2 * r.1.size ∧ ((quoteR r).2 ≠ 0 → (quoteR r).2 = r.2.1) := by
  have hc : (r.1.extract 1 (closN r.1)).size ≤ r.1.size := by rw [ByteArray.size_extract]; omega
  unfold quoteR
  split
  · split
    · refine ⟨?_, fun _ => rfl⟩
      simp only []
      split
      · have := plainT_size (r.1.extract 1 (closN r.1)); omega
      · have := doubT_size (r.1.extract 1 (closN r.1)); omega
    · exact ⟨Nat.zero_le _, fun h => absurd rfl h⟩
  · exact ⟨Nat.zero_le _, fun h => absurd rfl h⟩
/-- what a record of an environment file may be -/
def OkE (n : Nat) (x : RecD) : Prop := (x.kind = 0 ∨ x.kind = 1 ∨ x.kind = 3 ∨ x.kind = 4) ∧ x.sect = ⟨#[]⟩ ∧ (x.kind ≠ 3 → x.key = ⟨#[]⟩ ∧ x.value = ⟨#[]⟩) ∧ (x.kind = 3 → nameB x.key = true) ∧ x.key.size ≤ n ∧ x.value.size ≤ 2 * n
theorem okE_kind (n : Nat) (k : Int) (h : k = 0 ∨ k = 1 ∨ k = 4) : OkE n (kindP k) := by
  refine ⟨?_, rfl, fun _ => ⟨rfl, rfl⟩, ?_, Nat.zero_le _, Nat.zero_le _⟩
  · rcases h with rfl | rfl | rfl
    · exact .inl rfl
    · exact .inr (.inl rfl)
    · exact .inr (.inr (.inr rfl))
  · intro h3
    have h3 : k = 3 := h3
    omega
theorem okE_one (x : Ln) (l : List Ln) : OkE (joinB ((x :: l).take (oneE x l).2)).length (oneE x l).1 := by
  have h1 : (joinB ((x :: l).take 1)).length = x.1.size + x.2.size := by
    rw [List.take_succ_cons, List.take_zero, joinB_cons, List.length_append, List.length_append, ← Lib.size_eq, ← Lib.size_eq]
    rfl
  have hle := leadE_size x.1
  have hlx := leadX_size (leadE x.1)
  unfold oneE
  generalize leadX (leadE x.1) = y at *
  split
  · split
    · exact okE_kind _ 1 (.inr (.inl rfl))
    · unfold lineE
      have hro := restO_size y
      generalize restO y = ro at *
      have hks := trimE_size ro.1
      have hrs := leadE_size ro.2.1
      generalize leadE ro.2.1 = rest at *
      split
      · next hn =>
        generalize trimE ro.1 = key at *
        unfold valE
        split
        · have q1 := quoteO_size l rest x.2 1
          have q2 := quoteR_size (quoteO rest x.2 l 1)
          have q3 := (quoteO_count l rest x.2 1).1
          split
          · exact okE_kind _ 4 (.inr (.inr rfl))
          · next hq =>
            have q4 := q2.2 hq
            have q5 := q2.1
            unfold quoteE
            simp only []
            rw [q4]
            generalize quoteO rest x.2 l 1 = q at *
            obtain ⟨k, hk⟩ : ∃ k, q.2.1 = k + 1 := ⟨q.2.1 - 1, by omega⟩
            have e1 : (joinB ((x :: l).take (k + 1))).length = x.1.size + x.2.size + (joinB (l.take k)).length := by
              rw [List.take_succ_cons, joinB_cons, List.length_append, List.length_append, ← Lib.size_eq, ← Lib.size_eq]
            rw [hk, Nat.add_sub_cancel] at q1
            rw [hk, e1]
            refine ⟨.inr (.inr (.inl rfl)), rfl, fun h => absurd rfl h, fun _ => hn.2, ?_, ?_⟩
            · simp only []; omega
            · simp only []; omega
        · have hb := bareE_size rest
          split
          · simp only []
            rw [h1]
            refine ⟨.inr (.inr (.inl rfl)), rfl, fun h => absurd rfl h, fun _ => hn.2, ?_, ?_⟩
            · simp only []; omega
            · simp only []; omega
          · exact okE_kind _ 4 (.inr (.inr rfl))
      · exact okE_kind _ 4 (.inr (.inr rfl))
  · exact okE_kind _ 0 (.inl rfl)
def OkR (x : RecD) : Prop := OkE x.raw.size x
theorem okR_recs (l : List Ln) : ∀ k, ∀ x ∈ recsP l k, OkR x := by
  refine recsP_ind (l := l) ?_ ?_
  · intro k hk
    rw [recsP_end l k hk]
    intro x hx
    cases hx
  · intro k hk ih
    rw [recsP_step l k hk]
    intro x hx
    rcases List.mem_cons.1 hx with rfl | hx
    · obtain ⟨h1, h2, h3, h4, h5, h6⟩ := okE_one l[k] (l.drop (k + 1))
      have e : (putP l k (oneAt l k hk).2 (oneAt l k hk).1).raw.size = (joinB ((l[k] :: l.drop (k + 1)).take (oneE l[k] (l.drop (k + 1))).2)).length := by
        show (rawP l k (oneAt l k hk).2).size = _
        unfold rawP
        rw [Lib.size_eq, List.drop_eq_getElem_cons hk]
        rfl
      unfold OkR
      rw [e]
      exact ⟨h1, rfl, h3, h4, h5, h6⟩
    · exact ih x hx
theorem okR_lim {m : List RecD} (h : ∀ x ∈ m, OkR x) : ∀ x ∈ limG m, OkR x := by
  intro x hx
  unfold limG at hx
  split at hx
  · exact h x hx
  · next h2 =>
    rcases List.mem_append.1 hx with hx | hx
    · exact h x (List.mem_of_mem_take hx)
    · rw [List.mem_singleton] at hx
      subst hx
      refine ⟨.inr (.inr (.inr rfl)), ?_, fun _ => ⟨rfl, rfl⟩, fun h => absurd h (show ¬ (4 : Int) = 3 by decide), Nat.zero_le _, Nat.zero_le _⟩
      have h3 : 198 < m.length := by omega
      show (m.getD 198 noRec).sect = _
      rw [List.getD, List.getElem?_eq_getElem h3]
      exact (h _ (List.getElem_mem h3)).2.1
theorem okR_cost : ∀ {m : List RecD}, (∀ x ∈ m, OkR x) → costRec m ≤ m.length + 4 * (rawB m).length
  | [], _ => by simp [costRec]
  | x :: m, h => by
    have ih := okR_cost (m := m) (fun y hy => h y (List.mem_cons_of_mem _ hy))
    obtain ⟨_, h2, _, _, h4, h5⟩ := h x (List.mem_cons_self ..)
    have h6 : sizeRec x ≤ 4 * x.raw.size := by unfold sizeRec; rw [h2]; show x.raw.size + 0 + x.key.size + x.value.size ≤ _; omega
    have h7 : (rawB (x :: m)).length = x.raw.size + (rawB m).length := by
      show (x.raw.data.toList ++ rawB m).length = _
      rw [List.length_append, ← Lib.size_eq]
    have h8 : costRec (x :: m) = 1 + sizeRec x + costRec m := by
      simp only [costRec, List.length_cons, List.map_cons, List.sum_cons]; omega
    rw [h8, h7, List.length_cons]
    omega
/-- a record without its line -/
def zeroR (x : RecD) : RecD := { x with line := 0 }
theorem zeroR_raw (m : List RecD) : (m.map zeroR).map RecD.raw = m.map RecD.raw := by
  rw [List.map_map]
  rfl
theorem rawB_zero (m : List RecD) : rawB (m.map zeroR) = rawB m := by rw [rawB_map, rawB_map, zeroR_raw]
theorem costRec_zero (m : List RecD) : costRec (m.map zeroR) = costRec m := by
  induction m with
  | nil => rfl
  | cons x m ih =>
    simp only [costRec, List.length_cons, List.map_cons, List.sum_cons] at ih ⊢
    have : sizeRec (zeroR x) = sizeRec x := rfl
    omega
theorem limG_zero (m : List RecD) : limG (m.map zeroR) = (limG m).map zeroR := by
  by_cases h : m.length ≤ 200
  · rw [limG_few (by rw [List.length_map]; exact h), limG_few h]
  · rw [limG_many (by rw [List.length_map]; omega), limG_many (by omega), ← List.map_drop, rawB_zero, ← List.map_take, List.map_append]
    congr 1
    have e1 : 198 < m.length := by omega
    have e2 : 199 < m.length := by omega
    have e3 : (m.map zeroR).getD 198 noRec = zeroR m[198] := by rw [List.getD, List.getElem?_map, List.getElem?_eq_getElem e1]; rfl
    have e4 : (m.map zeroR).getD 199 noRec = zeroR m[199] := by rw [List.getD, List.getElem?_map, List.getElem?_eq_getElem e2]; rfl
    have e5 : m.getD 198 noRec = m[198] := by rw [List.getD, List.getElem?_eq_getElem e1]; rfl
    rw [e3, e4, e5]
    rfl
theorem numL_zero (m : List RecD) : numL (m.map zeroR) = numL m := by
  apply List.ext_getElem
  · rw [numL_length, numL_length, List.length_map]
  · intro j h1 h2
    rw [numL_length] at h1 h2
    rw [numL_at _ j h1, numL_at _ j h2]
    have e : lineAt (m.map zeroR) j = lineAt m j := by unfold lineAt; rw [zeroR_raw]
    rw [e, List.getElem_map]
    rfl
/-- numbered anew they are the records of the file -/
theorem num_env (s : ByteArray) : numL (limG ((recsP (linesOf s) 0).map zeroR)) = limG (recsP (linesOf s) 0) := by
  rw [limG_zero, numL_zero, num_props]
theorem okR_env (s : ByteArray) : ∀ x ∈ propsL s, OkR x := by
  unfold propsL
  split
  · exact okR_lim (okR_recs (linesOf s) 0)
  · intro x hx
    cases hx
theorem cost_env (s : ByteArray) (h : s.size ≤ 6000) : costRec (limG (recsP (linesOf s) 0)) ≤ 30000 := by
  have h1 := okR_cost (okR_lim (okR_recs (linesOf s) 0))
  have h2 := limG_len (recsP (linesOf s) 0)
  rw [raw_props, ← Lib.size_eq] at h1
  omega

end Go.Proofs.YtkhkpjnpjgnckaaGreatDoor
