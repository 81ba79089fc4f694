/- What is written for a key and a value is one line, and is cut where it was put together. -/
import Derived.Test.YtflnpkckdjmljaaGreatDoorProg
import Derived.Test.YtflnpkckdjmljaaGreatDoorPlain
import Derived.Test.YtflnpkckdjmljaaGreatDoorHex
import Derived.Test.YtflnpkckdjmljaaGreatDoorTail
import Derived.Test.YtflnpkckdjmljaaGreatDoorRunePure
import Derived.Test.YtflnpkckdjmljaaGreatDoorPropPure
import Derived.Test.YtflnpkckdjmljaaGreatDoorPropTails
import Derived.Test.YtflnpkckdjmljaaGreatDoorPropWrite
import Derived.Test.YtflnpkckdjmljaaGreatDoorPropCut
import Derived.Lib.Hide
import Derived.Test.YtflnpkckdjmljaaGreatDoorTextOf
import Derived.Test.YtflnpkckdjmljaaGreatDoorLines
import Derived.Test.YtflnpkckdjmljaaGreatDoorSplitSpec
import Derived.Test.YtflnpkckdjmljaaGreatDoorJoin
import Derived.Test.YtflnpkckdjmljaaGreatDoorRecRows
import Derived.Test.YtflnpkckdjmljaaGreatDoorPropSpec
import Derived.Test.YtflnpkckdjmljaaGreatDoorPropPair
import Derived.Test.YtflnpkckdjmljaaGreatDoorPropOne
import Derived.Test.YtflnpkckdjmljaaGreatDoorPropRecs
namespace Go.Proofs.YtflnpkckdjmljaaGreatDoor
open Go.RowKit
set_option linter.unusedVariables false

/-- a byte that ends a key, or begins a note -/
def stopP (c : UInt8) : Bool := gapB c || (c == 61 || c == 58 || c == 35 || c == 33)
/-- every byte of a kind is marked, and nothing marks what follows -/
def ClosedP (st : UInt8 → Bool) (l : List UInt8) : Prop := (∀ i (h : i < l.length), st l[i] = true → tlP (l.take i) % 2 = 1) ∧ tlP l % 2 = 0
theorem closedP_nil (st : UInt8 → Bool) : ClosedP st [] := ⟨fun i h => absurd h (Nat.not_lt_zero i), rfl⟩
theorem closedP_app {st : UInt8 → Bool} {a b : List UInt8} (ha : ClosedP st a) (hb : ClosedP st b) : ClosedP st (a ++ b) := by
  refine ⟨fun i h hs => ?_, by rw [tlP_even _ _ ha.2]; exact hb.2⟩
  by_cases hi : i < a.length
  · rw [List.getElem_append_left hi] at hs
    rw [List.take_append_of_le_length (by omega)]
    exact ha.1 i hi hs
  · have hj : i - a.length < b.length := by rw [List.length_append] at h; omega
    rw [List.getElem_append_right (by omega)] at hs
    rw [List.take_append, List.take_of_length_le (by omega), tlP_even _ _ ha.2]
    exact hb.1 _ hj hs
theorem closedP_one {st : UInt8 → Bool} (c : UInt8) (h1 : c ≠ 92) (h2 : st c = false) : ClosedP st [c] := by
  refine ⟨fun i h hs => ?_, by rw [show [c] = [] ++ [c] from rfl, tlP_none _ _ h1]⟩
  have : i = 0 := by simpa using h
  subst this
  simp only [List.getElem_cons_zero] at hs
  rw [h2] at hs
  cases hs
theorem closedP_two {st : UInt8 → Bool} (c : UInt8) (h92 : st 92 = false) : ClosedP st [92, c] := by
  refine ⟨fun i h hs => ?_, ?_⟩
  · match i, h with
    | 0, _ =>
      simp only [List.getElem_cons_zero] at hs
      rw [h92] at hs
      cases hs
    | 1, _ => rfl
  · by_cases hc : c = 92
    · subst hc; rfl
    · rw [show [92, c] = [92] ++ [c] from rfl, tlP_none _ _ hc]
theorem hexD_plain : ∀ q : Fin 16, Pl.hexD q.val ≠ 92 ∧ stopP (Pl.hexD q.val) = false ∧ Pl.hexD q.val ≠ 13 ∧ Pl.hexD q.val ≠ 10 := by decide +kernel
theorem hexD_any (q : Nat) : Pl.hexD q ≠ 92 ∧ stopP (Pl.hexD q) = false ∧ Pl.hexD q ≠ 13 ∧ Pl.hexD q ≠ 10 := by
  rw [hexD_mod]
  exact hexD_plain ⟨q % 16, Nat.mod_lt _ (by decide)⟩
theorem closedP_uE {st : UInt8 → Bool} (hst : ∀ c, st c = true → stopP c = true) (n : Nat) : ClosedP st (uE n) := by
  have h92 : st 92 = false := by
    cases h : st 92 with
    | false => rfl
    | true => exact absurd (hst 92 h) (by decide)
  have hq : ∀ q, ClosedP st [Pl.hexD q] := fun q => by
    obtain ⟨h1, h2, _⟩ := hexD_any q
    refine closedP_one _ h1 ?_
    cases h : st (Pl.hexD q) with
    | false => rfl
    | true => rw [hst _ h] at h2; cases h2
  have e : uE n = [92, 117] ++ ([Pl.hexD (n / 4096)] ++ ([Pl.hexD (n / 256)] ++ ([Pl.hexD (n / 16)] ++ [Pl.hexD n]))) := by
    unfold uE
    rw [hexT_four]
    rfl
  rw [e]
  exact closedP_app (closedP_two 117 h92) (closedP_app (hq _) (closedP_app (hq _) (closedP_app (hq _) (hq _))))
/-- no line ends -/
def NoEnd (l : List UInt8) : Prop := ∀ c ∈ l, c ≠ 13 ∧ c ≠ 10
theorem noEnd_app {a b : List UInt8} (ha : NoEnd a) (hb : NoEnd b) : NoEnd (a ++ b) := by
  intro c hc
  rcases List.mem_append.1 hc with h | h
  · exact ha c h
  · exact hb c h
theorem noEnd_uE (n : Nat) : NoEnd (uE n) := by
  unfold uE
  rw [hexT_four]
  intro c hc
  simp only [List.mem_cons, List.not_mem_nil, or_false] at hc
  rcases hc with rfl | rfl | rfl | rfl | rfl | rfl
  · decide
  · decide
  all_goals exact ⟨(hexD_any _).2.2.1, (hexD_any _).2.2.2⟩
/-- what stays unmarked: no byte of a kind -/
theorem closedP_P {st : UInt8 → Bool} (hst : ∀ c, st c = true → stopP c = true) {all : Bool} (hsp : all = false → st 32 = false) (b : UInt8) : ClosedP st (propP all b) ∧ NoEnd (propP all b) := by
  have h92 : st 92 = false := by
    cases h : st 92 with
    | false => rfl
    | true => exact absurd (hst 92 h) (by decide)
  unfold propP
  split
  · exact ⟨closedP_two _ h92, by intro c hc; simp at hc; rcases hc with rfl | rfl <;> decide⟩
  · next n10 =>
    split
    · exact ⟨closedP_two _ h92, by intro c hc; simp at hc; rcases hc with rfl | rfl <;> decide⟩
    · next n9 =>
      split
      · exact ⟨closedP_two _ h92, by intro c hc; simp at hc; rcases hc with rfl | rfl <;> decide⟩
      · next n13 =>
        split
        · exact ⟨closedP_two _ h92, by intro c hc; simp at hc; rcases hc with rfl | rfl <;> decide⟩
        · next n12 =>
          split
          · next hm =>
            refine ⟨closedP_two _ h92, ?_⟩
            intro c hc
            simp at hc
            rcases hc with rfl | rfl
            · decide
            · exact ⟨n13, n10⟩
          · next hm =>
            split
            · exact ⟨closedP_uE hst _, noEnd_uE _⟩
            · refine ⟨closedP_one b ?_ ?_, ?_⟩
              · intro e; apply hm; subst e; rfl
              · cases h : st b with
                | false => rfl
                | true =>
                  exfalso
                  have h2 := hst b h
                  unfold stopP gapB at h2
                  simp only [Bool.or_eq_true, beq_iff_eq] at h2
                  rcases h2 with ((e | e) | e) | (((e | e) | e) | e)
                  · subst e
                    cases all with
                    | true => exact hm rfl
                    | false => rw [hsp rfl] at h; cases h
                  · exact n9 e
                  · exact n12 e
                  all_goals (subst e; exact hm rfl)
              · intro c hc
                simp at hc
                subst hc
                exact ⟨n13, n10⟩
theorem closedP_W {st : UInt8 → Bool} (hst : ∀ c, st c = true → stopP c = true) {all : Bool} (hsp : all = false → st 32 = false) (r : Nat) : ClosedP st (eW all r) ∧ NoEnd (eW all r) := by
  unfold eW
  split
  · exact closedP_P hst hsp _
  · unfold escB
    rw [if_neg (by omega), if_neg (by omega)]
    split
    · exact ⟨closedP_uE hst _, noEnd_uE _⟩
    · exact ⟨closedP_app (closedP_uE hst _) (closedP_uE hst _), noEnd_app (noEnd_uE _) (noEnd_uE _)⟩
theorem closedP_map {α : Type} {st : UInt8 → Bool} (f : α → List UInt8) (h : ∀ x, ClosedP st (f x) ∧ NoEnd (f x)) (l : List α) : ClosedP st (l.flatMap f) ∧ NoEnd (l.flatMap f) := by
  induction l with
  | nil => exact ⟨closedP_nil st, fun c hc => by cases hc⟩
  | cons x l ih =>
    rw [List.flatMap_cons]
    exact ⟨closedP_app (h x).1 ih.1, noEnd_app (h x).2 ih.2⟩
theorem closedP_esc {st : UInt8 → Bool} (hst : ∀ c, st c = true → stopP c = true) {all : Bool} (hsp : all = false → st 32 = false) (l : List UInt8) : ClosedP st (escL7 all l) ∧ NoEnd (escL7 all l) := by
  unfold escL7
  split
  · exact closedP_map _ (closedP_W hst hsp) _
  · exact closedP_map _ (closedP_P hst hsp) _
def stopV (c : UInt8) : Bool := c == 61 || c == 58 || c == 35 || c == 33
theorem stopV_stop (c : UInt8) (h : stopV c = true) : stopP c = true := by
  unfold stopP
  unfold stopV at h
  rw [h, Bool.or_true]
theorem key_closed (l : List UInt8) : ClosedP stopP (propL true l) ∧ NoEnd (propL true l) := by
  rw [propL_key]
  exact closedP_esc (fun c h => h) (fun h => by cases h) l
theorem value_closed (l : List UInt8) : ClosedP stopV (propL false l) ∧ NoEnd (propL false l) := by
  have h := closedP_esc (st := stopV) stopV_stop (all := false) (fun _ => rfl) 
  by_cases h0 : l[0]? = some 32
  · cases l with
    | nil => cases h0
    | cons c t =>
      have : c = 32 := by simpa using h0
      subst this
      rw [propL_space, show (92 :: 32 :: escL7 false t : List UInt8) = [92, 32] ++ escL7 false t from rfl]
      exact ⟨closedP_app (closedP_two 32 rfl) (h t).1, noEnd_app (fun c hc => by simp at hc; rcases hc with rfl | rfl <;> decide) (h t).2⟩
  · rw [propL_plain l h0]
    exact h l
theorem closedP_head {st : UInt8 → Bool} {l : List UInt8} (h : ClosedP st l) (c : UInt8) (hc : l[0]? = some c) : st c = false := by
  obtain ⟨h1, h2⟩ := List.getElem?_eq_some_iff.1 hc
  cases hs : st c with
  | false => rfl
  | true =>
    have := h.1 0 h1 (by rw [h2]; exact hs)
    simp [tlP_nil] at this
theorem propP_some (all : Bool) (b : UInt8) : propP all b ≠ [] := by
  unfold propP
  repeat' split
  all_goals simp [uE]
/-- a value as it is written begins with no white space -/
theorem value_head (l : List UInt8) (c : UInt8) (hc : (propL false l)[0]? = some c) : gapB c = false := by
  have key : ∀ (x r : List UInt8), x ≠ [] → ClosedP stopP x → (x ++ r)[0]? = some c → gapB c = false := by
    intro x r hx hcl h
    have h2 : x[0]? = some c := by
      cases x with
      | nil => exact absurd rfl hx
      | cons d x => simpa using h
    have := closedP_head hcl c h2
    unfold stopP at this
    exact (Bool.or_eq_false_iff.1 this).1
  cases l with
  | nil => cases hc
  | cons d t =>
    unfold propL at hc
    rw [List.length_cons] at hc
    by_cases hs : 127 < d.toNat ∧ (signsL (d :: t)).isSome = true
    · simp only [propW, if_pos hs] at hc
      cases hn : nextS (d :: t) with
      | none => rw [hn] at hc; cases hc
      | some q =>
        obtain ⟨r, n⟩ := q
        rw [hn] at hc
        obtain ⟨_, hr, _⟩ := next_high hs.1 hn
        have he : escB r = eW false r := by unfold eW; rw [if_neg (by omega)]
        refine key (escB r) _ ?_ ?_ hc
        · unfold escB uE
          rw [if_neg (by omega), if_neg (by omega)]
          split <;> simp
        · unfold escB
          rw [if_neg (by omega), if_neg (by omega)]
          split
          · exact closedP_uE (fun c h => h) _
          · exact closedP_app (closedP_uE (fun c h => h) _) (closedP_uE (fun c h => h) _)
    · rw [propW_byte _ _ _ _ _ _ hs] at hc
      exact key _ _ (propP_some _ _) (closedP_P (fun c h => h) (fun h => by cases h) d).1 hc

/-! texts read, one behind the other -/
theorem fourE_app {a b : List UInt8} (h : 6 ≤ a.length) : fourE (a ++ b) = fourE a := by
  match a, h with
  | c0 :: c1 :: c2 :: c3 :: c4 :: c5 :: t, _ => rfl
theorem fourE_long {a : List UInt8} {n : Nat} (h : fourE a = some n) : 6 ≤ a.length := by
  match a, h with
  | c0 :: c1 :: c2 :: c3 :: c4 :: c5 :: t, _ => simp
theorem escapeE_app {a b : List UInt8} {r n : Nat} (h : escapeE a = some (r, n)) : escapeE (a ++ b) = some (r, n) := by
  unfold escapeE at *
  cases h4 : fourE a with
  | none => rw [h4] at h; cases h
  | some u =>
    rw [h4] at h
    have hl := fourE_long h4
    rw [fourE_app hl, h4]
    simp only at h ⊢
    split at h
    · cases h
    · next h1 =>
      rw [if_neg h1]
      split at h
      · next h2 =>
        rw [if_pos h2]
        cases h5 : fourE (a.drop 6) with
        | none => rw [h5] at h; cases h
        | some v =>
          have hl2 := fourE_long h5
          rw [h5] at h
          rw [List.drop_append_of_le_length hl, fourE_app hl2, h5]
          exact h
      · next h2 =>
        rw [if_neg h2]
        exact h
theorem fourE_tail {a : List UInt8} {n : Nat} (h : fourE a = some n) : tlP (a.take 6) = 0 := by
  match a, h with
  | c0 :: c1 :: c2 :: c3 :: c4 :: c5 :: t, h =>
    unfold fourE at h
    simp only at h
    split at h
    · unfold Pl.readN at h
      split at h
      · next h2 =>
        have h3 : Pl.okB 16 c5 = true := by
          have := h2.2.2
          simp only [List.all_cons, Bool.and_eq_true] at this
          exact this.2.2.2.1
        have h4 : c5 ≠ 92 := by intro e; subst e; revert h3; decide +kernel
        exact tlP_none [c0, c1, c2, c3, c4] c5 h4
      · cases h
    · cases h
theorem escapeE_tail {a : List UInt8} {r k : Nat} (h : escapeE a = some (r, k)) : tlP (a.take k) = 0 := by
  unfold escapeE at h
  cases h4 : fourE a with
  | none => rw [h4] at h; cases h
  | some u =>
    rw [h4] at h
    have hl := fourE_long h4
    simp only at h
    split at h
    · cases h
    · split at h
      · cases h5 : fourE (a.drop 6) with
        | none => rw [h5] at h; cases h
        | some v =>
          rw [h5] at h
          simp only at h
          split at h
          · have h6 := fourE_tail h5
            have h7 := fourE_long h5
            simp only [Option.some.injEq, Prod.mk.injEq] at h
            obtain ⟨_, rfl⟩ := h
            rw [show a.take 12 = a.take 6 ++ (a.drop 6).take 6 from by rw [show (12 : Nat) = 6 + 6 from rfl, List.take_add], tlP_app, if_neg, h6]
            rw [h6, List.length_take]
            omega
          · cases h
      · cases h
        exact fourE_tail h4
theorem propR_app : ∀ (n : Nat) (a : List UInt8), a.length ≤ n → ∀ (b x y : List UInt8), tlP a % 2 = 0 → propR a = some x → propR b = some y → propR (a ++ b) = some (x ++ y) := by
  intro n
  induction n with
  | zero =>
    intro a ha b x y _ hx hy
    have : a = [] := List.eq_nil_of_length_eq_zero (by omega)
    subst this
    rw [propR_nil] at hx
    cases hx
    exact hy
  | succ n ih =>
    intro a ha b x y ht hx hy
    match a with
    | [] =>
      rw [propR_nil] at hx
      cases hx
      exact hy
    | [c] =>
      by_cases hc : c = 92
      · subst hc
        exact absurd ht (by decide)
      · rw [propR_plain _ hc] at hx
        obtain ⟨x2, h2, rfl⟩ := Option.map_eq_some_iff.1 hx
        rw [propR_nil] at h2
        cases h2
        rw [List.cons_append, propR_plain _ hc, List.nil_append, hy]
        rfl
    | c :: e :: u =>
      by_cases hc : c = 92
      · subst hc
        by_cases he : e = 117
        · subst he
          cases hq : escapeE (92 :: 117 :: u) with
          | none => rw [propR_bad hq] at hx; cases hx
          | some q =>
            obtain ⟨r, k⟩ := q
            have hp := escape_pos hq
            rw [propR_u hq] at hx
            obtain ⟨x2, h2, rfl⟩ := Option.map_eq_some_iff.1 hx
            have hk : k ≤ (92 :: 117 :: u).length := hp.2
            have h3 := escapeE_app (b := b) hq
            rw [show (92 :: 117 :: u) ++ b = 92 :: 117 :: (u ++ b) from rfl] at h3 ⊢
            rw [propR_u h3, show (92 :: 117 :: (u ++ b) : List UInt8) = (92 :: 117 :: u) ++ b from rfl, List.drop_append_of_le_length hk]
            have ht2 : tlP ((92 :: 117 :: u).drop k) % 2 = 0 := by
              have e9 : (92 :: 117 :: u : List UInt8) = (92 :: 117 :: u).take k ++ (92 :: 117 :: u).drop k := (List.take_append_drop k _).symm
              rw [e9, tlP_even _ _ (by rw [escapeE_tail hq])] at ht
              exact ht
            rw [ih _ (by rw [List.length_drop]; simp only [List.length_cons] at *; omega) b x2 y ht2 h2 hy]
            simp
        · rw [propR_two _ he] at hx
          obtain ⟨x2, h2, rfl⟩ := Option.map_eq_some_iff.1 hx
          rw [show (92 :: e :: u) ++ b = 92 :: e :: (u ++ b) from rfl, propR_two _ he]
          have ht2 : tlP u % 2 = 0 := by
            have h9 : ClosedP (fun _ => false) [92, e] := closedP_two e rfl
            rw [show (92 :: e :: u : List UInt8) = [92, e] ++ u from rfl, tlP_even _ _ h9.2] at ht
            exact ht
          rw [ih u (by simp only [List.length_cons] at ha; omega) b x2 y ht2 h2 hy]
          rfl
      · rw [propR_plain _ hc] at hx
        obtain ⟨x2, h2, rfl⟩ := Option.map_eq_some_iff.1 hx
        rw [List.cons_append, propR_plain _ hc]
        have ht2 : tlP (e :: u) % 2 = 0 := by
          have h9 : tlP [c] = 0 := tlP_none [] c hc
          rw [show (c :: e :: u : List UInt8) = [c] ++ (e :: u) from rfl, tlP_even _ _ (by rw [h9])] at ht
          exact ht
        rw [ih (e :: u) (by simp only [List.length_cons] at *; omega) b x2 y ht2 h2 hy]
        rfl

end Go.Proofs.YtflnpkckdjmljaaGreatDoor

/- What is written for a pair is one record of that pair; a value that goes on in the next line is that value: as lists. -/
set_option maxRecDepth 100000
namespace Go.Proofs.YtflnpkckdjmljaaGreatDoor
open Go.RowKit
set_option linter.unusedVariables false

theorem bytes_ext {a b : ByteArray} (h : a.data.toList = b.data.toList) : a = b := by
  apply ByteArray.ext
  exact Array.toList_inj.1 h
theorem run_line (p t cur : List UInt8) (h : NoEnd p) : splitL (p ++ t) cur = splitL t (cur ++ p) := by
  induction p generalizing cur with
  | nil => simp
  | cons c p ih =>
    have hc := h c (by simp)
    rw [List.cons_append, splitL_on c _ _ hc.1 hc.2, ih _ (fun d hd => h d (by simp [hd]))]
    simp
theorem cut_line10 (p t : List UInt8) (h : NoEnd p) : splitL (p ++ 10 :: t) [] = (p, [10]) :: splitL t [] := by
  rw [run_line p _ [] h, splitL_lf]
  rfl
theorem leadP_same (s : ByteArray) (h : ∀ c, s.data.toList[0]? = some c → gapB c = false) : leadP s = s := by
  apply bytes_ext
  show s.data.toList.dropWhile gapB = s.data.toList
  cases hl : s.data.toList with
  | nil => rfl
  | cons c t => rw [List.dropWhile_cons_of_neg (by rw [h c (by rw [hl]; rfl)]; decide)]
theorem leadP_gaps (p l : List UInt8) (hp : ∀ c ∈ p, gapB c = true) (h : ∀ c, l[0]? = some c → gapB c = false) : leadP ⟨(p ++ l).toArray⟩ = ⟨l.toArray⟩ := by
  apply bytes_ext
  show (p ++ l).dropWhile gapB = l
  induction p with
  | nil =>
    cases l with
    | nil => rfl
    | cons c t => rw [List.nil_append, List.dropWhile_cons_of_neg (by rw [h c rfl]; decide)]
  | cons c p ih =>
    rw [List.cons_append, List.dropWhile_cons_of_pos (hp c (by simp))]
    exact ih (fun d hd => hp d (by simp [hd]))
theorem gap_stop {c : UInt8} (h : (gapB c || c == 61 || c == 58) = true) : stopP c = true := by
  unfold stopP
  rw [Bool.or_eq_true, Bool.or_eq_true] at h
  rcases h with (h | h) | h
  · rw [h]; rfl
  · rw [h]; simp
  · rw [h]; simp
theorem cut_key (K R : List UInt8) (hK : ClosedP stopP K) (hR : ∀ c, R[0]? = some c → (gapB c || c == 61 || c == 58) = true) : cutP ⟨(K ++ R).toArray⟩ = (⟨K.toArray⟩, restP ⟨R.toArray⟩) := by
  have hz : (⟨(K ++ R).toArray⟩ : ByteArray).size = K.length + R.length := by rw [toList_size, List.length_append]
  have hke : keyEnd ⟨(K ++ R).toArray⟩ = K.length := by
    unfold keyEnd
    refine findIdx_rangeP (endP ⟨(K ++ R).toArray⟩) _ K.length (by omega) (fun j hj => ?_) (fun hj => ?_)
    · have hjs : j < (⟨(K ++ R).toArray⟩ : ByteArray).size := by omega
      have hg : (⟨(K ++ R).toArray⟩ : ByteArray)[j] = K[j] := by
        show (K ++ R).toArray[j] = _
        rw [List.getElem_toArray, List.getElem_append_left hj]
      have ht : tailN ((⟨(K ++ R).toArray⟩ : ByteArray).extract 0 j) = tlP (K.take j) := by
        rw [tailN_tlP, Lib.extract_eq]
        simp only [List.drop_zero, Nat.sub_zero]
        rw [List.take_append_of_le_length (by omega)]
      unfold endP
      rw [dif_pos hjs, hg, ht]
      cases hs : (gapB K[j] || K[j] == 61 || K[j] == 58)
      · rfl
      · rw [hK.1 j hj (gap_stop hs)]
        rfl
    · have hr : 0 < R.length := by omega
      have hg : (⟨(K ++ R).toArray⟩ : ByteArray)[K.length] = R[0] := by
        show (K ++ R).toArray[K.length] = _
        rw [List.getElem_toArray, List.getElem_append_right (Nat.le_refl _)]
        simp
      have ht : tailN ((⟨(K ++ R).toArray⟩ : ByteArray).extract 0 K.length) = tlP K := by
        rw [tailN_tlP, Lib.extract_eq]
        simp
      unfold endP
      rw [dif_pos hj, hg, ht, hR R[0] (by simp [hr]), hK.2]
      rfl
  unfold cutP
  rw [hke, hz]
  congr 1
  · apply bytes_ext
    rw [Lib.extract_eq]
    simp
  · congr 1
    apply bytes_ext
    rw [Lib.extract_eq]
    simp
theorem rest_sep (p V : List UInt8) (q : List UInt8) (hp : ∀ c ∈ p, gapB c = true) (hq : ∀ c ∈ q, gapB c = true) (hV : ∀ c, V[0]? = some c → gapB c = false) : restP ⟨(p ++ 61 :: (q ++ V)).toArray⟩ = ⟨V.toArray⟩ := by
  have h1 := leadP_gaps p (61 :: (q ++ V)) hp (fun c hc => by simp at hc; subst hc; rfl)
  have h2 : (⟨(61 :: (q ++ V)).toArray⟩ : ByteArray).size = (q ++ V).length + 1 := by rw [toList_size, List.length_cons]
  unfold restP
  rw [h1, dif_pos (by omega), if_pos (show sepP ((⟨(61 :: (q ++ V)).toArray⟩ : ByteArray)[0]'(by omega)) = true from rfl), h2]
  have h3 : (⟨(61 :: (q ++ V)).toArray⟩ : ByteArray).extract 1 ((q ++ V).length + 1) = ⟨(q ++ V).toArray⟩ := by
    apply bytes_ext
    rw [Lib.extract_eq]
    show ((61 :: (q ++ V)).drop 1).take ((q ++ V).length + 1 - 1) = q ++ V
    rw [List.drop_succ_cons, List.drop_zero, List.take_of_length_le (by omega)]
  rw [h3]
  exact leadP_gaps q V hq hV

/-! a pair's line -/
def lineP (k v : ByteArray) : ByteArray := propPutT true k ++ ⟨#[61]⟩ ++ propPutT false v
theorem lineP_data (k v : ByteArray) : (lineP k v).data.toList = propL true k.data.toList ++ 61 :: propL false v.data.toList := by
  unfold lineP propPutT
  rw [ByteArray.data_append, Array.toList_append, ByteArray.data_append, Array.toList_append]
  simp
theorem lineP_eq (k v : ByteArray) : lineP k v = ⟨(propL true k.data.toList ++ 61 :: propL false v.data.toList).toArray⟩ := bytes_ext (lineP_data k v)
theorem lineP_cut (k v : ByteArray) : cutP (lineP k v) = (propPutT true k, propPutT false v) := by
  rw [lineP_eq, cut_key _ _ (key_closed k.data.toList).1 (fun c hc => by simp at hc; subst hc; rfl)]
  congr 1
  exact rest_sep [] (propL false v.data.toList) [] (fun c hc => by cases hc) (fun c hc => by cases hc) (fun c hc => value_head _ c hc)
theorem propT_put (all : Bool) (s : ByteArray) : propT (propPutT all s) = (s, true) := by
  rw [propT_good (propPutT_back all s)]
theorem lineP_pair (k v : ByteArray) : pairP (lineP k v) = ⟨3, ⟨#[]⟩, ⟨#[]⟩, k, v, 0⟩ := by
  unfold pairP
  rw [lineP_cut]
  simp only [propT_put, and_self, if_true]
theorem lineP_head (k v : ByteArray) (c : UInt8) (hc : (lineP k v).data.toList[0]? = some c) : gapB c = false ∧ c ≠ 35 ∧ c ≠ 33 := by
  rw [lineP_data] at hc
  cases hl : propL true k.data.toList with
  | nil =>
    rw [hl] at hc
    simp at hc
    subst hc
    exact ⟨rfl, by decide, by decide⟩
  | cons d t =>
    rw [hl] at hc
    simp at hc
    subst hc
    have h := closedP_head (key_closed k.data.toList).1 d (by rw [hl]; rfl)
    unfold stopP at h
    simp only [Bool.or_eq_false_iff, beq_eq_false_iff_ne] at h
    exact ⟨h.1, h.2.1.2, h.2.2⟩
theorem lineP_tail (k v : ByteArray) : tailN (lineP k v) % 2 = 0 := by
  rw [tailN_tlP, lineP_data, show propL true k.data.toList ++ 61 :: propL false v.data.toList = (propL true k.data.toList ++ [61]) ++ propL false v.data.toList by simp, tlP_even _ _ (by rw [tlP_none _ _ (by decide)])]
  exact (value_closed v.data.toList).1.2
theorem lineP_some (k v : ByteArray) : 0 < (lineP k v).size := by
  rw [Lib.size_eq, lineP_data, List.length_append, List.length_cons]
  omega
theorem head_at {s : ByteArray} (h : 0 < s.size) : s.data.toList[0]? = some s[0] := by
  have h9 : 0 < s.data.toList.length := by rw [← Lib.size_eq]; exact h
  rw [List.getElem?_eq_getElem h9]
  rfl
theorem one_text_rec (t e : ByteArray) (l : List Ln) (h0 : 0 < t.size) (hh : gapB t[0] = false ∧ t[0] ≠ 35 ∧ t[0] ≠ 33) : oneP (t, e) l = (pairP (joinP t l 1).1, (joinP t l 1).2) := by
  have hl : leadP t = t := leadP_same t (fun c hc => by rw [head_at h0] at hc; cases hc; exact hh.1)
  unfold oneP
  simp only [hl]
  rw [dif_pos h0, if_neg (by rintro (h | h); exact hh.2.1 h; exact hh.2.2 h)]
theorem linesOf_one (t : ByteArray) (h : NoEnd t.data.toList) : linesOf (t ++ ⟨#[10]⟩) = [(t, ⟨#[10]⟩)] := by
  unfold linesOf
  rw [ByteArray.data_append, Array.toList_append, show (⟨#[10]⟩ : ByteArray).data.toList = 10 :: [] from rfl, cut_line10 _ _ h, splitL_nil]
  simp [toB]
theorem lineP_end (k v : ByteArray) : NoEnd (lineP k v).data.toList := by
  rw [lineP_data]
  refine noEnd_app (key_closed _).2 ?_
  intro c hc
  rcases List.mem_cons.1 hc with rfl | hc
  · decide
  · exact (value_closed v.data.toList).2 c hc
theorem pair_parse (k v : ByteArray) : ∃ raw, recsP (linesOf (lineP k v ++ ⟨#[10]⟩)) 0 = [⟨3, raw, ⟨#[]⟩, k, v, 1⟩] := by
  have h1 := linesOf_one _ (lineP_end k v)
  rw [h1]
  have h2 := one_text_rec (lineP k v) ⟨#[10]⟩ [] (lineP_some k v) (lineP_head k v _ (head_at (lineP_some k v)))
  rw [joinP_stop _ _ (by rw [lineP_tail]; decide), lineP_pair] at h2
  have h3 := recsP_step [(lineP k v, (⟨#[10]⟩ : ByteArray))] 0 (by simp)
  have h4 : oneAt [(lineP k v, (⟨#[10]⟩ : ByteArray))] 0 (by simp) = (⟨3, ⟨#[]⟩, ⟨#[]⟩, k, v, 0⟩, 1) := h2
  rw [h4] at h3
  have h5 : recsP [(lineP k v, (⟨#[10]⟩ : ByteArray))] (0 + 1) = [] := recsP_end _ _ (by simp)
  have h6 : recsP [(lineP k v, (⟨#[10]⟩ : ByteArray))] 0 = [putP [(lineP k v, (⟨#[10]⟩ : ByteArray))] 0 1 ⟨3, ⟨#[]⟩, ⟨#[]⟩, k, v, 0⟩] := by
    refine h3.trans ?_
    show putP _ 0 1 _ :: recsP _ (0 + 1) = _
    rw [h5]
  exact ⟨_, h6⟩

/-! a value that goes on -/
abbrev keyEqB : ByteArray := ⟨#[107, 101, 121, 32, 61, 32]⟩
abbrev onB : ByteArray := ⟨#[92, 10, 32, 32, 32, 9]⟩
abbrev zB : ByteArray := ⟨#[10, 122, 61, 49, 10]⟩
def longT (W : ByteArray) (i : Nat) : ByteArray := keyEqB ++ W.extract 0 i ++ onB ++ W.extract i W.size ++ zB
theorem longT_data (W : ByteArray) (i : Nat) (hi : i ≤ W.size) : (longT W i).data.toList = ([107, 101, 121, 32, 61, 32] ++ W.data.toList.take i ++ [92]) ++ 10 :: (([32, 32, 32, 9] ++ W.data.toList.drop i) ++ 10 :: ([122, 61, 49] ++ 10 :: [])) := by
  unfold longT
  have e1 : (W.extract 0 i).data.toList = W.data.toList.take i := by rw [Lib.extract_eq]; simp
  have e2 : (W.extract i W.size).data.toList = W.data.toList.drop i := by
    rw [Lib.extract_eq]
    show (W.data.toList.drop i).take (W.size - i) = _
    rw [List.take_of_length_le]
    rw [List.length_drop, ← Lib.size_eq]
    exact Nat.le_refl _
  simp only [ByteArray.data_append, Array.toList_append, e1, e2]
  simp
theorem noEnd_take {l : List UInt8} (h : NoEnd l) (i : Nat) : NoEnd (l.take i) := fun c hc => h c (List.mem_of_mem_take hc)
theorem noEnd_drop {l : List UInt8} (h : NoEnd l) (i : Nat) : NoEnd (l.drop i) := fun c hc => h c (List.mem_of_mem_drop hc)
theorem noEnd_lit {l : List UInt8} (h : (l.all fun c => c != 13 && c != 10) = true) : NoEnd l := by
  intro c hc
  have := List.all_eq_true.1 h c hc
  simpa using this
theorem long_lines (W : ByteArray) (i : Nat) (hi : i ≤ W.size) (h : NoEnd W.data.toList) : linesOf (longT W i) = [(⟨([107, 101, 121, 32, 61, 32] ++ W.data.toList.take i ++ [92]).toArray⟩, ⟨#[10]⟩), (⟨([32, 32, 32, 9] ++ W.data.toList.drop i).toArray⟩, ⟨#[10]⟩), (⟨#[122, 61, 49]⟩, ⟨#[10]⟩)] := by
  unfold linesOf
  rw [longT_data W i hi, cut_line10 _ _ (noEnd_app (noEnd_app (noEnd_lit rfl) (noEnd_take h i)) (noEnd_lit rfl)), cut_line10 _ _ (noEnd_app (noEnd_lit rfl) (noEnd_drop h i)), cut_line10 _ _ (noEnd_lit rfl), splitL_nil]
  rfl
theorem key_closed3 : ClosedP stopP [107, 101, 121] := closedP_app (closedP_one 107 (by decide) rfl) (closedP_app (closedP_one 101 (by decide) rfl) (closedP_one 121 (by decide) rfl))
theorem long_pair (v : ByteArray) : pairP ⟨([107, 101, 121, 32, 61, 32] ++ propL false v.data.toList).toArray⟩ = ⟨3, ⟨#[]⟩, ⟨#[]⟩, ⟨#[107, 101, 121]⟩, v, 0⟩ := by
  have hc : cutP ⟨([107, 101, 121, 32, 61, 32] ++ propL false v.data.toList).toArray⟩ = (⟨#[107, 101, 121]⟩, propPutT false v) := by
    rw [show ([107, 101, 121, 32, 61, 32] ++ propL false v.data.toList : List UInt8) = [107, 101, 121] ++ ([32] ++ 61 :: ([32] ++ propL false v.data.toList)) from rfl, cut_key _ _ key_closed3 (fun c hc => by simp at hc; subst hc; rfl)]
    congr 1
    exact rest_sep [32] (propL false v.data.toList) [32] (fun c hc => by simp at hc; subst hc; rfl) (fun c hc => by simp at hc; subst hc; rfl) (fun c hc => value_head _ c hc)
  have hk : propT ⟨#[107, 101, 121]⟩ = (⟨#[107, 101, 121]⟩, true) := by
    refine propT_good ?_
    show propR [107, 101, 121] = _
    rw [propR_plain _ (by decide), propR_plain _ (by decide), propR_plain _ (by decide), propR_nil]
    rfl
  unfold pairP
  rw [hc]
  simp only [propT_put, hk, and_self, if_true]
theorem long_parse (v : ByteArray) (i : Nat) (hi : i ≤ (propPutT false v).size) (ht : tailN ((propPutT false v).extract 0 i) % 2 = 0) (hg : ∀ c, (propL false v.data.toList)[i]? = some c → gapB c = false) :
    ∃ r0 r1 k1 s1 u1 v1, recsP (linesOf (longT (propPutT false v) i)) 0 = [⟨3, r0, ⟨#[]⟩, ⟨#[107, 101, 121]⟩, v, 1⟩, ⟨k1, r1, s1, u1, v1, 3⟩] := by
  have hW : (propPutT false v).data.toList = propL false v.data.toList := rfl
  have hend : NoEnd (propPutT false v).data.toList := (value_closed v.data.toList).2
  have hl := long_lines _ i hi hend
  have ht2 : tlP ((propL false v.data.toList).take i) % 2 = 0 := by
    rw [tailN_tlP, Lib.extract_eq] at ht
    simp only [List.drop_zero, Nat.sub_zero] at ht
    exact ht
  rw [hW] at hl
  rw [hl]
  generalize hA : ([107, 101, 121, 32, 61, 32] ++ (propL false v.data.toList).take i ++ [92] : List UInt8) = A at *
  have hAs : 0 < (⟨A.toArray⟩ : ByteArray).size := by rw [toList_size, ← hA]; simp
  have hA0 : (⟨A.toArray⟩ : ByteArray)[0] = 107 := by
    have h9 := head_at hAs
    have h10 : (⟨A.toArray⟩ : ByteArray).data.toList[0]? = some 107 := by
      show A[0]? = some 107
      rw [← hA]
      rfl
    rw [h10] at h9
    exact (Option.some.inj h9).symm
  have hodd : tailN ⟨A.toArray⟩ % 2 = 1 := by
    rw [tailN_tlP]
    show tlP A % 2 = 1
    rw [← hA, tlP_more]
    have : tlP ([107, 101, 121, 32, 61, 32] ++ (propL false v.data.toList).take i) % 2 = 0 := by rw [tlP_even _ _ (by decide)]; exact ht2
    omega
  have hcut : (⟨A.toArray⟩ : ByteArray).extract 0 ((⟨A.toArray⟩ : ByteArray).size - 1) = ⟨([107, 101, 121, 32, 61, 32] ++ (propL false v.data.toList).take i).toArray⟩ := by
    apply bytes_ext
    rw [cut_last _ hAs]
    show A.dropLast = _
    rw [← hA, List.dropLast_concat]
  have hlead : leadP ⟨([32, 32, 32, 9] ++ (propL false v.data.toList).drop i).toArray⟩ = ⟨((propL false v.data.toList).drop i).toArray⟩ := by
    refine leadP_gaps _ _ (fun c hc => ?_) (fun c hc => hg c (by rw [List.getElem?_drop, Nat.add_zero] at hc; exact hc))
    simp only [List.mem_cons, List.not_mem_nil, or_false] at hc
    rcases hc with rfl | rfl | rfl | rfl <;> rfl
  have hcat : (⟨([107, 101, 121, 32, 61, 32] ++ (propL false v.data.toList).take i).toArray⟩ : ByteArray) ++ ⟨((propL false v.data.toList).drop i).toArray⟩ = ⟨([107, 101, 121, 32, 61, 32] ++ propL false v.data.toList).toArray⟩ := by
    apply bytes_ext
    rw [ByteArray.data_append, Array.toList_append]
    show ([107, 101, 121, 32, 61, 32] ++ (propL false v.data.toList).take i) ++ (propL false v.data.toList).drop i = _
    rw [List.append_assoc, List.take_append_drop]
  have hev : tailN ⟨([107, 101, 121, 32, 61, 32] ++ propL false v.data.toList).toArray⟩ % 2 = 0 := by
    rw [tailN_tlP]
    show tlP ([107, 101, 121, 32, 61, 32] ++ propL false v.data.toList) % 2 = 0
    rw [tlP_even _ _ (by decide)]
    exact (value_closed v.data.toList).1.2
  have h1 := one_text_rec ⟨A.toArray⟩ ⟨#[10]⟩ [(⟨([32, 32, 32, 9] ++ (propL false v.data.toList).drop i).toArray⟩, ⟨#[10]⟩), (⟨#[122, 61, 49]⟩, ⟨#[10]⟩)] hAs (by rw [hA0]; exact ⟨rfl, by decide, by decide⟩)
  rw [joinP_on _ _ _ hodd, hcut, hlead, hcat, joinP_stop _ _ (by rw [hev]; decide), long_pair] at h1
  have h2 := one_text_rec ⟨#[122, 61, 49]⟩ ⟨#[10]⟩ [] (by decide) ⟨rfl, by decide, by decide⟩
  rw [joinP_stop _ _ (by decide)] at h2
  generalize (⟨([32, 32, 32, 9] ++ (propL false v.data.toList).drop i).toArray⟩ : ByteArray) = B at *
  have s1 := recsP_step [(⟨A.toArray⟩, ⟨#[10]⟩), (B, ⟨#[10]⟩), (⟨#[122, 61, 49]⟩, ⟨#[10]⟩)] 0 (by simp)
  have o1 : oneAt [(⟨A.toArray⟩, ⟨#[10]⟩), (B, ⟨#[10]⟩), (⟨#[122, 61, 49]⟩, ⟨#[10]⟩)] 0 (by simp) = (⟨3, ⟨#[]⟩, ⟨#[]⟩, ⟨#[107, 101, 121]⟩, v, 0⟩, 2) := h1
  rw [o1] at s1
  have s2 := recsP_step [(⟨A.toArray⟩, ⟨#[10]⟩), (B, ⟨#[10]⟩), (⟨#[122, 61, 49]⟩, ⟨#[10]⟩)] 2 (by simp)
  have o2 : oneAt [(⟨A.toArray⟩, ⟨#[10]⟩), (B, ⟨#[10]⟩), (⟨#[122, 61, 49]⟩, ⟨#[10]⟩)] 2 (by simp) = (pairP ⟨#[122, 61, 49]⟩, 1) := h2
  rw [o2] at s2
  have s3 : recsP [(⟨A.toArray⟩, ⟨#[10]⟩), (B, ⟨#[10]⟩), (⟨#[122, 61, 49]⟩, ⟨#[10]⟩)] (2 + 1) = [] := recsP_end _ _ (by simp)
  have s4 : recsP [(⟨A.toArray⟩, ⟨#[10]⟩), (B, ⟨#[10]⟩), (⟨#[122, 61, 49]⟩, ⟨#[10]⟩)] 2 = [putP [(⟨A.toArray⟩, ⟨#[10]⟩), (B, ⟨#[10]⟩), (⟨#[122, 61, 49]⟩, ⟨#[10]⟩)] 2 1 (pairP ⟨#[122, 61, 49]⟩)] := by
    refine s2.trans ?_
    show putP _ 2 1 _ :: recsP _ (2 + 1) = _
    rw [s3]
  have s5 : recsP [(⟨A.toArray⟩, ⟨#[10]⟩), (B, ⟨#[10]⟩), (⟨#[122, 61, 49]⟩, ⟨#[10]⟩)] 0 = [putP [(⟨A.toArray⟩, ⟨#[10]⟩), (B, ⟨#[10]⟩), (⟨#[122, 61, 49]⟩, ⟨#[10]⟩)] 0 2 ⟨3, ⟨#[]⟩, ⟨#[]⟩, ⟨#[107, 101, 121]⟩, v, 0⟩, putP [(⟨A.toArray⟩, ⟨#[10]⟩), (B, ⟨#[10]⟩), (⟨#[122, 61, 49]⟩, ⟨#[10]⟩)] 2 1 (pairP ⟨#[122, 61, 49]⟩)] := by
    refine s1.trans ?_
    show putP _ 0 2 _ :: recsP _ 2 = _
    rw [s4]
  exact ⟨_, _, _, _, _, _, s5⟩
/-- and it is what its two parts say -/
theorem long_value (v : ByteArray) (i : Nat) (ht : tailN ((propPutT false v).extract 0 i) % 2 = 0) (x y : ByteArray) (hx : propT ((propPutT false v).extract 0 i) = (x, true)) (hy : propT ((propPutT false v).extract i (propPutT false v).size) = (y, true)) : v = x ++ y := by
  have good : ∀ (s t : ByteArray), propT s = (t, true) → propR s.data.toList = some t.data.toList := by
    intro s t h
    cases hp : propR s.data.toList with
    | none => rw [propT_bad hp] at h; cases h
    | some l => rw [propT_good hp] at h; cases h; rfl
  have h1 := good _ _ hx
  have h2 := good _ _ hy
  have e1 : ((propPutT false v).extract 0 i).data.toList = (propPutT false v).data.toList.take i := by rw [Lib.extract_eq]; simp
  have e2 : ((propPutT false v).extract i (propPutT false v).size).data.toList = (propPutT false v).data.toList.drop i := by
    rw [Lib.extract_eq]
    show ((propPutT false v).data.toList.drop i).take ((propPutT false v).size - i) = _
    rw [List.take_of_length_le]
    rw [List.length_drop, ← Lib.size_eq]
    exact Nat.le_refl _
  rw [tailN_tlP] at ht
  have h3 := propR_app _ _ (Nat.le_refl _) _ _ _ ht h1 h2
  rw [e1, e2, List.take_append_drop, propPutT_back false v] at h3
  apply bytes_ext
  rw [ByteArray.data_append, Array.toList_append]
  exact Option.some.inj h3

end Go.Proofs.YtflnpkckdjmljaaGreatDoor
