/- A quoted value: the program's contract of Quoted. -/
import Derived.Test.YtkhkpjnpjgnckaaDoorProg
import Derived.Test.YtkhkpjnpjgnckaaDoorPlain
import Derived.Test.YtkhkpjnpjgnckaaDoorCut
import Derived.Test.YtkhkpjnpjgnckaaDoorTrim
import Derived.Test.YtkhkpjnpjgnckaaDoorTail
import Derived.Test.YtkhkpjnpjgnckaaDoorDialectRows
import Derived.Test.YtkhkpjnpjgnckaaDoorUnescSpec
import Derived.Test.YtkhkpjnpjgnckaaDoorUnescTop
import Derived.Test.YtkhkpjnpjgnckaaDoorBareSpec
import Derived.Test.YtkhkpjnpjgnckaaDoorQuotSpec
import Derived.Test.YtkhkpjnpjgnckaaDoorBareImpl
import Derived.Test.YtkhkpjnpjgnckaaDoorBareRun
import Derived.Test.YtkhkpjnpjgnckaaDoorQuotImpl
import Derived.WalkKit
import Derived.WalkLawsBesides
import Derived.BigQuiet
import Derived.Deep.QuietTactic
import Derived.Lib.QuietBelow
import Derived.Laws.IdiomStrings
import Derived.Lib.Hide
import Derived.IntWalk
set_option maxRecDepth 100000
namespace Go.Proofs.YtkhkpjnpjgnckaaDoor
open Go.RowKit Go.Sort
set_option linter.unusedVariables false

abbrev quoteB : ByteArray := ⟨#[34]⟩
theorem opens_first (s : ByteArray) (h : 0 < s.size) : ((s.extract 0 1).toList == quoteB.toList) = opens s := by
  obtain ⟨u, hu⟩ := first_data s h
  rw [Lib.toList_data, Lib.toList_data, ext_data, List.drop_zero, hu]
  unfold opens
  rw [dif_pos h]
  simp
set_option maxHeartbeats 1600000 in
theorem hasQuote_any (s : ByteArray) (w : World) (hs : s.size ≤ 1048576) :
    Calls Tryd.prog 57 #[.string s, .string quoteB] w fun e w' => e = .returned (.bool (opens s)) ∧ w = w' := by
  by_cases hz : 0 < s.size
  · have h1 := opens_first s hz
    have hz2 : (1 : Int) ≤ (s.size : Int) := by omega
    have hz3 : Hid ((1 : Int) ≤ (s.size : Int)) := hz2
    generalize opens s = r at *
    go_enter Tryd.func57, Tryd.ntmps57
    go_wp2
    go_ret
    exact ⟨by first | rfl | (rw [← h1]; rfl) | simp_all, rfl⟩
  · have h1 : Hid (opens s = false) := by unfold Hid opens; rw [dif_neg hz]
    have hz2 : (s.size : Int) = 0 := by omega
    go_enter Tryd.func57, Tryd.ntmps57
    go_wp2
    go_ret
    exact ⟨by rw [h1.out]; rfl, rfl⟩
/-- the text behind a quote that opens -/
def inner5 (s : ByteArray) : ByteArray := if opens s then s.extract 1 s.size else s
set_option maxHeartbeats 1600000 in
theorem cutQuote_lite (s : ByteArray) (w : World) (hs : s.size ≤ 1048576) :
    Calls Tryd.prog 42 #[.string s, .string quoteB] w fun e w' => e = .returned (.tuple #[.string (inner5 s), .bool (opens s)]) ∧ w = w' := by
  have K := Lib.hid (fun w => hasQuote_any s w hs)
  cases ho : opens s
  · have hi : Hid (inner5 s = s) := by unfold Hid inner5; rw [ho]; rfl
    rw [ho] at K
    clear ho
    go_enter Tryd.func42, Tryd.ntmps42
    go_wp2_with fail
    refine (K.out _).mono ?_
    rintro e w' ⟨rfl, rfl⟩
    go_wp2
    go_ret2
    exact ⟨by rw [hi.out]; rfl, rfl⟩
  · have hi : Hid (inner5 s = s.extract 1 s.size) := by unfold Hid inner5; rw [ho]; rfl
    have hz : 0 < s.size := by
      rcases Nat.eq_zero_or_pos s.size with h | h
      · unfold opens at ho; rw [dif_neg (by omega)] at ho; cases ho
      · exact h
    have hz2 : (1 : Int) ≤ (s.size : Int) := by omega
    rw [ho] at K
    clear ho
    go_enter Tryd.func42, Tryd.ntmps42
    go_wp2_with fail
    refine (K.out _).mono ?_
    rintro e w' ⟨rfl, rfl⟩
    go_wp2
    go_ret2
    exact ⟨by rw [hi.out]; rfl, rfl⟩
theorem cutQuote_any (s : ByteArray) (w : World) (hs : s.size ≤ 1048576) :
    Calls Tryd.prog 22 #[.string s, .string quoteB] w fun e w' => e = .returned (.tuple #[.string (inner5 s), .bool (opens s)]) ∧ w = w' := by
  have K := Lib.hid (fun w => cutQuote_lite s w hs)
  generalize inner5 s = x at *
  generalize opens s = o at *
  go_enter Tryd.func22, Tryd.ntmps22
  go_wp2_with fail
  refine (K.out _).mono ?_
  rintro e w' ⟨rfl, rfl⟩
  go_wp2
  go_ret2
  exact ⟨rfl, rfl⟩

/-- a quote that closes, as the program looks for it -/
def cq5 (e : Bool) (t : ByteArray) (i : Nat) : Bool := if h : i < t.size then t[i] == 34 && !esc5 e t i else false
def cqAt (e : Bool) (t : ByteArray) : Nat := (List.range t.size).findIdx (cq5 e t)
/-- its place, or -1 -/
def cqInt (e : Bool) (t : ByteArray) : Int := if cqAt e t < t.size then (cqAt e t : Int) else -1
set_option maxHeartbeats 3200000 in
theorem closing_impl (d : DialectD) (t : ByteArray) (w : World) (hs : t.size ≤ 1048576) :
    Calls Tryd.prog 23 #[dialectV d, .string t] w fun e w' => e = .returned (.int .i64 (cqInt d.esc t)) ∧ Below w.heap.size w w' := by
  have K1 := Lib.hid (fun (i : Nat) (w : World) (hi : i < t.size) => isEscaped_impl d t i w hs (by omega))
  have HN := Lib.hid (dialAt_new w d)
  have HB : Hid (∀ i, i < t.size → (∀ j, j < i → cq5 d.esc t j = false) → cq5 d.esc t i = true → cqInt d.esc t = (i : Int)) := by
    intro i hi h1 h2
    have h3 : cqAt d.esc t = i := findIdx_range _ _ i (by omega) h1 (fun _ => h2)
    unfold cqInt
    rw [h3, if_pos hi]
  have HE : Hid ((∀ j, j < t.size → cq5 d.esc t j = false) → cqInt d.esc t = -1) := by
    intro h1
    have h3 : cqAt d.esc t = t.size := findIdx_range _ _ t.size (Nat.le_refl _) h1 (fun h => absurd h (Nat.lt_irrefl _))
    unfold cqInt
    rw [h3, if_neg (Nat.lt_irrefl _)]
  have HNA : Hid (∀ k (h : k < t.size), cq5 d.esc t k = (t[k] == 34 && !esc5 d.esc t k)) := by
    intro k h
    unfold cq5
    rw [dif_pos h]
  obtain ⟨d0, d1, d2, d3, d4, d5⟩ := d
  unfold dialectV at *
  simp only at K1 HN HB HE HNA ⊢
  generalize cq5 d4 t = note at *
  generalize cqInt d4 t = r at *
  have hb0 := (Below.refl w.heap.size w).alloc (Nat.le_refl _) (.cells #[.string d0, .string d1, .bool d2, .bool d3, .bool d4, .int .i64 d5] 25)
  have hw0 : w.heap.size < (w.alloc (.cells #[.string d0, .string d1, .bool d2, .bool d3, .bool d4, .int .i64 d5] 25)).heap.size := by simp
  go_enter Tryd.func23, Tryd.ntmps23
  go_wp2
  generalize w.alloc (.cells #[.string d0, .string d1, .bool d2, .bool d3, .bool d4, .int .i64 d5] 25) = W0 at *
  go_loopw [8] (fun i wr => ∃ k : Nat, k ≤ t.size ∧ i = .int .i64 k ∧ Hid (∀ j, j < k → note j = false) ∧ Hid (DialAt wr w.heap.size ⟨d0, d1, d2, d3, d4, d5⟩) ∧ Below w.heap.size w wr ∧ w.heap.size < wr.heap.size) (fun i _ => t.size - (intOf i).toNat)
  case atStart => exact ⟨0, Nat.zero_le _, rfl, fun j hj => absurd hj (Nat.not_lt_zero _), HN, hb0, hw0⟩
  case round =>
    obtain ⟨k, hks, rfl, hno, hD, hb, hwl⟩ := hrel
    clear hb0 HN hw0
    by_cases hlt : k < t.size
    · have hna := HNA.out k hlt
      obtain ⟨c0, c1, c2, c3, c4, c5⟩ := hD.out.cells
      simp only at c0 c1 c2 c3 c4 c5
      have x0 := cell_regrown c0
      have x1 := cell_regrown c1
      have x2 := cell_regrown c2
      have x3 := cell_regrown c3
      have x4 := cell_regrown c4
      have x5 := cell_regrown c5
      have KB : Hid (∀ q os, Calls Tryd.prog 43 #[.agg #[.string d0, .string d1, .bool d2, .bool d3, .bool d4, .int .i64 d5], .string t, .int .i64 (k : Int)] (grow (redrawn wr q) os) fun e w' => e = .returned (.bool (esc5 d4 t k)) ∧ ∃ p : Regrown, w' = grow (redrawn wr p.d) p.os) := by
        intro q os
        exact Calls.regrown_of (K1.out k (grow (redrawn wr q) os) hlt)
      have hkz : (k : Int) ≤ (t.size : Int) := by omega
      have hkz2 : (k : Int) < (t.size : Int) := by omega
      have HNA2 := Lib.hid hna
      clear hna
      have hq : ∀ v : Bool, ((t[k] == 34) = v) → ((t[k].toNat : Int) == (((⟨#[34]⟩ : ByteArray)[0]'(by decide)).toNat : Int)) = v := by
        intro v hv
        show ((t[k].toNat : Int) == 34) = v
        cases v
        · exact byte_differ t[k] 34 (by simpa using hv)
        · exact byte_same t[k] 34 (by simpa using hv)
      cases h1 : (t[k] == 34)
      · have hq1 := hq _ h1
        rw [h1] at HNA2
        clear h1 hq
        go_wp2_with fail
        refine wp_region_quiet_below (by kernel_rfl) (by kernel_rfl) ?_
        repeat (go_big_quiet_step (with_reducible exact KB.out _ _))
        refine wpQuiet_nil ?_
        intro _ hw'
        obtain ⟨⟨dq, osq⟩, hw''⟩ := hw'
        subst hw''
        have hbq := below_regrown wr dq osq
        have hb2 := hb.trans (hbq.mono hb.size)
        have hD2 := Lib.hid (hD.out.over hbq hwl)
        have hwl2 := Nat.lt_of_lt_of_le hwl hbq.size
        clear KB c0 c1 c2 c3 c4 c5 x0 x1 x2 x3 x4 x5 hbq hb hD hq1
        generalize grow (redrawn wr dq) osq = w2 at *
        have hno2 : Hid (∀ j, j < k + 1 → note j = false) := by
          intro j hj
          by_cases e : j = k
          · subst e; exact HNA2.out
          · exact hno.out j (by omega)
        clear hno HNA2
        go_wp2
        go_roundw
        case rel => exact ⟨k + 1, by omega, by go_num, hno2, hD2, hb2, hwl2⟩
        case measure => simp [intOf]; omega
      · have hq1 := hq _ h1
        rw [h1] at HNA2
        clear h1 hq
        cases h2 : esc5 d4 t k <;> rw [h2] at KB HNA2 <;> clear h2
        all_goals
          go_wp2_with fail
          refine wp_region_quiet_below (by kernel_rfl) (by kernel_rfl) ?_
          repeat (go_big_quiet_step (with_reducible exact KB.out _ _))
          refine wpQuiet_nil ?_
          intro _ hw'
          obtain ⟨⟨dq, osq⟩, hw''⟩ := hw'
          subst hw''
          have hbq := below_regrown wr dq osq
          have hb2 := hb.trans (hbq.mono hb.size)
          have hD2 := Lib.hid (hD.out.over hbq hwl)
          have hwl2 := Nat.lt_of_lt_of_le hwl hbq.size
          clear KB c0 c1 c2 c3 c4 c5 x0 x1 x2 x3 x4 x5 hbq hb hD hq1
          generalize grow (redrawn wr dq) osq = w2 at *
        · have HTT : Hid (r = (k : Int)) := HB.out k hlt hno.out HNA2.out
          clear hno HNA2 HB HE
          go_wp2
          go_ret
          exact ⟨by rw [HTT.out]; rfl, hb2⟩
        · have hno2 : Hid (∀ j, j < k + 1 → note j = false) := by
            intro j hj
            by_cases e : j = k
            · subst e; exact HNA2.out
            · exact hno.out j (by omega)
          clear hno HNA2
          go_wp2
          go_roundw
          case rel => exact ⟨k + 1, by omega, by go_num, hno2, hD2, hb2, hwl2⟩
          case measure => simp [intOf]; omega
    · obtain rfl : k = t.size := by omega
      have HTT : Hid (r = -1) := HE.out hno.out
      clear hno HB HE
      go_wp2
      go_ret
      exact ⟨by rw [HTT.out]; rfl, hb⟩

end Go.Proofs.YtkhkpjnpjgnckaaDoor
