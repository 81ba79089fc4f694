/- The end that most lines have: the contracts of EndOf, the model's and the program's. -/
import Derived.Test.YtikhanickkhnbaaProg
import Derived.Test.YtikhanickkhnbaaPlain
import Derived.Test.YtikhanickkhnbaaDec
import Derived.Test.YtikhanickkhnbaaTexts
import Derived.Test.YtikhanickkhnbaaLines
import Derived.Test.YtikhanickkhnbaaLinesArg
import Derived.WalkKit
import Derived.WalkLawsBesides
import Derived.BigQuiet
import Derived.Deep.QuietTactic
import Derived.Maps.Own
import Derived.Maps.OwnOps
import Derived.Maps.Views
import Derived.Maps.OwnSet
import Derived.WalkArith
import Derived.Lib.Hide
import Derived.IntWalk
namespace Go.Proofs.Ytikhanickkhnbaa
open Go.RowKit Go.Maps Go.WideMaps
set_option linter.unusedVariables false

abbrev noB : ByteArray := ⟨#[]⟩
def timesB (l : List Ln) (e : ByteArray) : Nat := (l.filter (fun x => decide (x.2 = e))).length
theorem timesB_take_succ (l : List Ln) (k : Nat) (h : k < l.length) (e : ByteArray) : timesB (l.take (k + 1)) e = timesB (l.take k) e + (if l[k].2 = e then 1 else 0) := by
  unfold timesB
  rw [List.take_succ_eq_append_getElem h, List.filter_append, List.length_append]
  congr 1
  by_cases h2 : l[k].2 = e <;> simp [h2]
theorem timesB_le (l : List Ln) (e : ByteArray) : timesB l e ≤ l.length := List.length_filter_le _ _
theorem timesB_take_le (l : List Ln) (k : Nat) (e : ByteArray) : timesB (l.take k) e ≤ l.length := by
  have := timesB_le (l.take k) e
  rw [List.length_take] at this
  omega
def stepB (l : List Ln) (b : ByteArray × Nat) (x : Ln) : ByteArray × Nat := if x.2 ≠ noB ∧ b.2 < timesB l x.2 then (x.2, timesB l x.2) else b
def bestB (l m : List Ln) : ByteArray × Nat := m.foldl (stepB l) (⟨#[10]⟩, 0)
def endB (l : List Ln) : ByteArray := (bestB l l).1
theorem bestB_nil (l : List Ln) : bestB l [] = (⟨#[10]⟩, 0) := rfl
theorem bestB_take_succ (l : List Ln) (k : Nat) (h : k < l.length) : bestB l (l.take (k + 1)) = stepB l (bestB l (l.take k)) l[k] := by
  unfold bestB
  rw [List.take_succ_eq_append_getElem h, List.foldl_append]
  rfl
theorem bestB_le (l : List Ln) (k : Nat) (hk : k ≤ l.length) : (bestB l (l.take k)).2 ≤ l.length := by
  induction k with
  | zero => exact Nat.zero_le _
  | succ k ih =>
    rw [bestB_take_succ l k (by omega)]
    unfold stepB
    split
    · exact timesB_le _ _
    · exact ih (by omega)
/-- it is there, or there is none and it is a newline -/
theorem endB_is (l : List Ln) : (∃ x ∈ l, x.2 = endB l) ∨ ((∀ x ∈ l, x.2 = noB) ∧ endB l = ⟨#[10]⟩) := by
  have key : ∀ k, k ≤ l.length → (∃ x ∈ l, x.2 = (bestB l (l.take k)).1) ∨ ((∀ x ∈ l.take k, x.2 = noB) ∧ bestB l (l.take k) = (⟨#[10]⟩, 0)) := by
    intro k
    induction k with
    | zero => exact fun _ => .inr ⟨fun x hx => by simp at hx, rfl⟩
    | succ k ih =>
      intro hk
      have hlt : k < l.length := by omega
      rw [bestB_take_succ l k hlt]
      unfold stepB
      by_cases hc : l[k].2 ≠ noB ∧ (bestB l (l.take k)).2 < timesB l l[k].2
      · rw [if_pos hc]
        exact .inl ⟨l[k], List.getElem_mem _, rfl⟩
      · rw [if_neg hc]
        rcases ih (by omega) with h | ⟨h1, h2⟩
        · exact .inl h
        · refine .inr ⟨fun x hx => ?_, h2⟩
          rw [List.take_succ_eq_append_getElem hlt, List.mem_append] at hx
          rcases hx with hx | hx
          · exact h1 x hx
          · simp only [List.mem_cons, List.not_mem_nil, or_false] at hx
            subst hx
            by_cases he : l[k].2 = noB
            · exact he
            · exfalso
              apply hc
              refine ⟨he, ?_⟩
              rw [h2]
              unfold timesB
              exact List.length_pos_of_mem (List.mem_filter.2 ⟨List.getElem_mem hlt, by simp⟩)
  have := key l.length (Nat.le_refl _)
  rw [List.take_length] at this
  rcases this with h | ⟨h1, h2⟩
  · exact .inl h
  · exact .inr ⟨h1, by unfold endB; rw [h2]⟩

/-- how an empty text is told -/
theorem empty_facts (x : ByteArray) : (x = noB ∧ (x.toList == []) = true ∧ x.toList.isEmpty = true) ∨ (x ≠ noB ∧ (x.toList == []) = false ∧ x.toList.isEmpty = false) := by
  by_cases h : x = noB
  · subst h; exact .inl ⟨rfl, by rw [Lib.toList_data]; rfl, by rw [Lib.toList_data]; rfl⟩
  · refine .inr ⟨h, ?_, ?_⟩
    all_goals
      rw [Lib.toList_data]
      cases hl : x.data.toList with
      | nil => exact absurd (ByteArray.ext (Array.toList_inj.1 hl)) h
      | cons c t => rfl

set_option maxRecDepth 100000 in
set_option maxHeartbeats 3200000 in
theorem endOf_spec (w : World) (u : Value) (g o : Nat) (l : List Ln) (hu : LinesRd w u g o l) (hl : costL l ≤ 1048576) (hg : l ≠ [] → g < w.heap.size) :
    Calls Try.prog 17 #[u] w fun e w' => e = .returned (.string (endB l)) ∧ Below w.heap.size w w' := by
  obtain ⟨a, cap, rfl, ha⟩ := hu.form
  have hll : l.length ≤ 1048576 := by unfold costL at hl; omega
  have CU := Lib.hid hu
  have HA := Lib.hid ha
  clear hu ha
  go_enter Try.func17, Try.ntmps17
  go_wp2
  go_loopw [3, 4, 5] (fun b m i wr => ∃ k n : Nat, k ≤ l.length ∧ i = .int .i64 k ∧ b = .string (bestB l (l.take k)).1 ∧ m = .int .i64 (bestB l (l.take k)).2 ∧ wr = w.drewN n) (fun _ _ i _ => l.length - (intOf i).toNat)
  case atStart => exact ⟨0, 0, Nat.zero_le _, rfl, rfl, rfl, rfl⟩
  case round =>
    obtain ⟨k, n, hk, rfl, rfl, rfl, rfl⟩ := hrel
    by_cases hlt : k < l.length
    · have hln : l ≠ [] := by intro e; subst e; simp at hlt
      obtain rfl := HA.out hln
      have hst := Lib.hid (bestB_take_succ l k hlt)
      have hbl := bestB_le l k hk
      have q2 := CU.out.c1 k hlt
      generalize bestB l (l.take k) = bb at *
      obtain ⟨bs, bm⟩ := bb
      simp only at hbl
      have hjn : (k : Int) < (l.length : Int) := by omega
      have hxe : Hid (l[k].2 = l[k].2) := rfl
      obtain ⟨x2, hx2⟩ : ∃ x2, x2 = l[k].2 := ⟨_, rfl⟩
      rw [← hx2] at q2
      have HX := Lib.hid hx2
      clear hx2 hxe
      go_wp2
      go_loopw [6, 7] (fun c i wr => ∃ j n : Nat, j ≤ l.length ∧ i = .int .i64 j ∧ c = .int .i64 ((timesB (l.take j) x2 : Nat) : Int) ∧ wr = w.drewN n) (fun _ i _ => l.length - (intOf i).toNat)
      case atStart => exact ⟨0, n, Nat.zero_le _, rfl, rfl, rfl⟩
      case round =>
        obtain ⟨j, n2, hj, rfl, rfl, rfl⟩ := hrel
        by_cases hjl : j < l.length
        · have q1 := CU.out.c1 j hjl
          have hts := Lib.hid (timesB_take_succ l j hjl x2)
          have htl := timesB_take_le l j x2
          have hjn2 : (j : Int) < (l.length : Int) := by omega
          by_cases heq : l[j].2 = x2
          · have hbb : (l[j].2.toList == x2.toList) = true := by rw [beq_texts]; simp [heq]
            have ht2 : Hid (timesB (l.take (j + 1)) x2 = timesB (l.take j) x2 + 1) := by unfold Hid; rw [hts.out, if_pos heq]
            clear heq hts
            generalize l[j].2 = y at *
            generalize timesB (l.take j) x2 = c at *
            go_wp2_with fail
            go_quiet (fail)
            go_wp2
            go_roundw
            case rel => exact ⟨j + 1, n2 + nq, by omega, by go_num, by rw [ht2.out]; go_num, by simp⟩
            case measure => simp [intOf]; omega
          · have hbb : (l[j].2.toList == x2.toList) = false := by rw [beq_texts]; simp [heq]
            have ht2 : Hid (timesB (l.take (j + 1)) x2 = timesB (l.take j) x2) := by unfold Hid; rw [hts.out, if_neg heq]; rfl
            clear heq hts
            generalize l[j].2 = y at *
            generalize timesB (l.take j) x2 = c at *
            go_wp2_with fail
            go_quiet (fail)
            go_wp2
            go_roundw
            case rel => exact ⟨j + 1, n2 + nq, by omega, by go_num, by rw [ht2.out], by simp⟩
            case measure => simp [intOf]; omega
        · obtain rfl : j = l.length := by omega
          rw [List.take_length]
          have htl := timesB_le l x2
          have hst2 := hst.out
          unfold stepB at hst2
          rw [← HX.out] at hst2
          simp only at hst2
          generalize timesB l x2 = c at *
          rcases empty_facts x2 with ⟨he, e1, e2⟩ | ⟨he, e1, e2⟩
          · have hst3 : Hid (bestB l (l.take (k + 1)) = (bs, bm)) := by unfold Hid; rw [hst2, if_neg (fun h => h.1 he)]
            clear hst hst2 he
            go_wp2
            go_roundw
            case rel => exact ⟨k + 1, n2, by omega, by go_num, by rw [hst3.out], by rw [hst3.out], rfl⟩
            case measure => simp [intOf]; omega
          · by_cases hlt2 : bm < c
            · have hst3 : Hid (bestB l (l.take (k + 1)) = (x2, c)) := by unfold Hid; rw [hst2, if_pos ⟨he, hlt2⟩]
              clear hst hst2 he
              go_wp2
              go_roundw
              case rel => exact ⟨k + 1, n2, by omega, by go_num, by rw [hst3.out], by rw [hst3.out], rfl⟩
              case measure => simp [intOf]; omega
            · have hst3 : Hid (bestB l (l.take (k + 1)) = (bs, bm)) := by unfold Hid; rw [hst2, if_neg (fun h => hlt2 h.2)]
              have hd : decide (bm < c) = false := by simpa using hlt2
              clear hst hst2 he
              go_wp2
              go_roundw
              case rel => exact ⟨k + 1, n2, by omega, by go_num, by rw [hst3.out], by rw [hst3.out], rfl⟩
              case measure => simp [intOf]; omega
    · obtain rfl : k = l.length := by omega
      have HE : Hid (endB l = (bestB l (l.take l.length)).1) := by unfold Hid endB; rw [List.take_length]
      have hb := below_drewN (Below.refl w.heap.size w) n
      rw [← HE.out]
      go_wp2
      go_ret
      exact ⟨rfl, hb⟩


/-! counts in a map -/
theorem keyedS : Keyed Try.prog 9 := string_keyed Try.underlying9
theorem zeroI (w : World) : (zeroValue 3).run Try.prog w = .ok (.int .i64 0) w := by kernel_rfl
/-- a map in block B that tells c for every text -/
def CountsAt (w : World) (B n : Nat) (c : ByteArray → Nat) : Prop :=
  ∃ D : DataW Unit, w.ownsMap Try.prog 9 (plainElem Try.prog 3) B n D ∧ ∀ e : ByteArray, D.atKey (.string e.data.toList) (.lit (.int .i64 0)) = .lit (.int .i64 ((c e : Nat) : Int))
theorem CountsAt.kept {w w' : World} {B n : Nat} {c : ByteArray → Nat} {row : Option Nat} (h : CountsAt w B n c) (hg : w.grownBy w' row) (hne : some B ≠ row) : CountsAt w' B n c := by
  obtain ⟨D, h1, h2⟩ := h
  exact ⟨D, h1.kept hg hne, h2⟩
theorem CountsAt.alloc {w : World} {B n : Nat} {c : ByteArray → Nat} (h : CountsAt w B n c) (o : Obj) : CountsAt (w.alloc o) B n c := by
  obtain ⟨D, h1, h2⟩ := h
  exact ⟨D, h1.alloc o, h2⟩
theorem CountsAt.drewN {w : World} {B n : Nat} {c : ByteArray → Nat} (h : CountsAt w B n c) (k : Nat) : CountsAt (w.drewN k) B n c := by
  obtain ⟨D, h1, h2⟩ := h
  exact ⟨D, h1.kept (row := none) ⟨rfl, rfl, rfl, Nat.le_refl _, fun _ _ _ => rfl⟩ (by simp), h2⟩
theorem CountsAt.look {w : World} {B n : Nat} {c : ByteArray → Nat} (h : CountsAt w B n c) (x : ByteArray) (hx : x.size ≤ maxLen) :
    (Instr.lookup 51 (.map (some B)) (.string x) false).run Try.prog w = .ok (.int .i64 ((c x : Nat) : Int)) w := by
  obtain ⟨D, h1, h2⟩ := h
  obtain ⟨v, hrun, hat, _⟩ := h1.lookup_int keyedS Try.underlying51 Try.underlying3 (zeroI _) (keyOf_string_mk Try.underlying9 hx)
  rw [h2] at hat
  injection hat with hat
  injection hat with _ hat
  rw [hrun, hat]
theorem counts_start (w : World) : CountsAt (w.alloc (.map #[] 0)) w.heap.size 0 (fun _ => 0) := by
  refine ⟨.map [], World.ownsMap_made _ _ _ _, fun e => ?_⟩
  exact Go.WideAt.atKey_none _ (fun p hp => by cases hp)
theorem counts_put {w : World} {B n : Nat} {D : DataW Unit} {c : ByteArray → Nat} {x : ByteArray} (h1 : w.ownsMap Try.prog 9 (plainElem Try.prog 3) B (n + 1) (D.put (.string x.data.toList) (.lit (.int .i64 ((c x : Nat) + 1 : Int)))))
    (hm : IsMap D) (h2 : ∀ e : ByteArray, D.atKey (.string e.data.toList) (.lit (.int .i64 0)) = .lit (.int .i64 ((c e : Nat) : Int))) : CountsAt w B (n + 1) (fun e => c e + (if x = e then 1 else 0)) := by
  refine ⟨_, h1, fun e => ?_⟩
  by_cases he : x = e
  · subst he
    rw [atKey_put_same (k := .string x.data.toList) hm (show WideAt.IsKeyLit (.string x.data.toList) from trivial)]
    simp
  · rw [atKey_put_other (fun e2 => he (ByteArray.ext (Array.toList_inj.1 (by injection e2 with e3; exact e3.symm)))), h2]
    simp [he]

set_option maxRecDepth 100000 in
set_option maxHeartbeats 3200000 in
theorem endOf_impl (w : World) (u : Value) (g o : Nat) (l : List Ln) (hu : LinesRd w u g o l) (hl : costL l ≤ 1048576) (hg : l ≠ [] → g < w.heap.size) :
    Calls Try.prog 16 #[u] w fun e w' => e = .returned (.string (endB l)) ∧ Below w.heap.size w w' := by
  obtain ⟨a, cap, rfl, ha⟩ := hu.form
  have hll : l.length ≤ 1048576 := by unfold costL at hl; omega
  have CU := Lib.hid hu
  have HA := Lib.hid ha
  have H0 := Lib.hid (counts_start w)
  clear hu ha
  have hmm := @run_makeMap Try.prog
  go_enter Try.func16, Try.ntmps16
  go_wp2
  go_loopw [13] (fun i wr => ∃ k : Nat, k ≤ l.length ∧ i = .int .i64 k ∧ Hid (CountsAt wr w.heap.size k (timesB (l.take k))) ∧ Below w.heap.size w wr ∧ w.heap.size < wr.heap.size) (fun i _ => l.length - (intOf i).toNat)
  case atStart => exact ⟨0, Nat.zero_le _, rfl, H0, (Below.refl _ _).alloc (Nat.le_refl _) _, by simp⟩
  case round =>
    obtain ⟨k, hk, rfl, hC, hb, hsz⟩ := hrel
    clear H0
    by_cases hlt : k < l.length
    · have hln : l ≠ [] := by intro e; subst e; simp at hlt
      obtain rfl := HA.out hln
      have hgl := hg hln
      have q1 := (hb.cell (p := ⟨g, o + k * 2, none⟩) hgl).trans (CU.out.c0 k hlt)
      have q2 := (hb.cell (p := ⟨g, o + k * 2 + 1, none⟩) hgl).trans (CU.out.c1 k hlt)
      have hxm : l[k].2.size ≤ maxLen := by have := costL_at l k hlt; unfold maxLen; omega
      have hts := Lib.hid (fun e => timesB_take_succ l k hlt e)
      have htl := timesB_take_le l k l[k].2
      generalize l[k] = x at *
      obtain ⟨x1, x2⟩ := x
      simp only at hxm htl hts
      generalize hcc : timesB (l.take k) = c at *
      have hC1 := hC.out.alloc (.cells #[.string x1, .string x2] 31)
      have hlk := hC1.look x2 hxm
      obtain ⟨D, hD1, hD2⟩ := hC1
      have HD2 := Lib.hid hD2
      have hkey : keyOf Try.prog 9 (.string x2) = some (.string x2.data.toList) := keyOf_string_mk Try.underlying9 hxm
      have HK := Lib.hid hkey
      clear hD2 hC hcc hkey
      generalize hcx : c x2 = cx at *
      go_wp2_with (first
        | (at_mapUpdate; refine wpList_mapUpdate_own _ rfl _ _ _ 51 rfl 9 3 keyedS Try.underlying51 _ w.heap.size k _ rfl hD1 (by unfold maxLen; omega) _ _ _ rfl rfl HK.out _ [] (plainElem_int Try.underlying3 (WalkArith.wf_i64 (by omega))) ?_; intro w1 hown1 hgrow1)
        | go_in)
      have hC2 : Hid (CountsAt w1 w.heap.size (k + 1) (timesB (l.take (k + 1)))) := by
        unfold Hid
        have := counts_put (c := c) (x := x2) (by rw [hcx]; exact hown1) hD1.isMap HD2.out
        have he : (fun e => c e + if x2 = e then 1 else 0) = timesB (l.take (k + 1)) := by
          funext e
          exact (hts.out e).symm
        rw [he] at this
        exact this
      have hb2 := (hb.alloc (by omega) _).grown hgrow1 (by simp; omega) (fun j hj => by cases hj; exact Nat.le_refl _)
      have hsz2 : w.heap.size < w1.heap.size := by have := hgrow1.size; simp at this; omega
      clear hD1 HD2 hown1 hgrow1 hb hlk hts
      go_wp2
      go_roundw
      case rel => exact ⟨k + 1, by omega, by go_num, hC2, hb2, hsz2⟩
      case measure => simp [intOf]; omega
    · obtain rfl : k = l.length := by omega
      rw [List.take_length] at hC
      go_wp2
      clear hk hlt
      go_loopw [6, 7, 25] (fun b m i wr => ∃ k : Nat, k ≤ l.length ∧ i = .int .i64 k ∧ b = .string (bestB l (l.take k)).1 ∧ m = .int .i64 (bestB l (l.take k)).2 ∧ Hid (CountsAt wr w.heap.size l.length (timesB l)) ∧ Below w.heap.size w wr ∧ w.heap.size < wr.heap.size) (fun _ _ i _ => l.length - (intOf i).toNat)
      case atStart => exact ⟨0, Nat.zero_le _, rfl, rfl, rfl, hC, hb, hsz⟩
      case round =>
        obtain ⟨k, hk, rfl, rfl, rfl, hC, hb, hsz⟩ := hrel
        by_cases hlt : k < l.length
        · have hln : l ≠ [] := by intro e; subst e; simp at hlt
          obtain rfl := HA.out hln
          have hgl := hg hln
          have q1 := (hb.cell (p := ⟨g, o + k * 2, none⟩) hgl).trans (CU.out.c0 k hlt)
          have q2 := (hb.cell (p := ⟨g, o + k * 2 + 1, none⟩) hgl).trans (CU.out.c1 k hlt)
          have hxm : l[k].2.size ≤ maxLen := by have := costL_at l k hlt; unfold maxLen; omega
          have hst := bestB_take_succ l k hlt
          have hbl := bestB_le l k hk
          have htl := timesB_le l l[k].2
          unfold stepB at hst
          generalize bestB l (l.take k) = bb at *
          obtain ⟨bs, bm⟩ := bb
          generalize l[k] = x at *
          obtain ⟨x1, x2⟩ := x
          simp only at hxm htl hst hbl
          have hC1 := hC.out.alloc (.cells #[.string x1, .string x2] 31)
          have hlk := hC1.look x2 hxm
          have hlkn := fun n => (hC1.drewN n).look x2 hxm
          have HC1 := Lib.hid hC1
          have hb1 := hb.alloc (by omega) (.cells #[.string x1, .string x2] 31)
          have hsz1 : w.heap.size < (wr.alloc (.cells #[.string x1, .string x2] 31)).heap.size := by simp; omega
          clear hC hC1 hb
          generalize timesB l x2 = c at *
          rcases empty_facts x2 with ⟨he, e1, e2⟩ | ⟨he, e1, e2⟩
          · have hst3 : Hid (bestB l (l.take (k + 1)) = (bs, bm)) := by unfold Hid; rw [hst, if_neg (fun h => h.1 he)]
            clear hst he hlkn
            go_wp2
            go_roundw
            case rel => exact ⟨k + 1, by omega, by go_num, by rw [hst3.out], by rw [hst3.out], HC1, hb1, hsz1⟩
            case measure => simp [intOf]; omega
          · by_cases hlt2 : bm < c
            · have hst3 : Hid (bestB l (l.take (k + 1)) = (x2, c)) := by unfold Hid; rw [hst, if_pos ⟨he, hlt2⟩]
              clear hst he
              go_wp2_with fail
              clear hlk
              have k1 : (wr.alloc (.cells #[.string x1, .string x2] 31)).cell? ⟨wr.heap.size, 1, none⟩ = some (.string x2) := by simp
              generalize wr.alloc (.cells #[.string x1, .string x2] 31) = w1 at *
              go_quiet (fail)
              have hb2 := below_drewN hb1 nq
              have HC2 : Hid (CountsAt (w1.drewN nq) w.heap.size l.length (timesB l)) := HC1.out.drewN nq
              have hsz2 : w.heap.size < (w1.drewN nq).heap.size := hsz1
              go_wp2
              go_roundw
              case rel => exact ⟨k + 1, by omega, by go_num, by rw [hst3.out], by rw [hst3.out], HC2, hb2, hsz2⟩
              case measure => simp [intOf]; omega
            · have hst3 : Hid (bestB l (l.take (k + 1)) = (bs, bm)) := by unfold Hid; rw [hst, if_neg (fun h => hlt2 h.2)]
              have hd : decide (bm < c) = false := by simpa using hlt2
              clear hst he hlkn
              go_wp2
              go_roundw
              case rel => exact ⟨k + 1, by omega, by go_num, by rw [hst3.out], by rw [hst3.out], HC1, hb1, hsz1⟩
              case measure => simp [intOf]; omega
        · obtain rfl : k = l.length := by omega
          have HE : Hid (endB l = (bestB l (l.take l.length)).1) := by unfold Hid endB; rw [List.take_length]
          rw [← HE.out]
          go_wp2
          go_ret
          exact ⟨rfl, hb⟩

end Go.Proofs.Ytikhanickkhnbaa
