/- The draws of texts with line ends, and of lists of lines. -/
import Derived.Test.YtikhanickkhnbaaProg
import Derived.Test.YtikhanickkhnbaaPlain
import Derived.Test.YtikhanickkhnbaaDraw
import Derived.Test.YtikhanickkhnbaaDrawNum
import Derived.Test.YtikhanickkhnbaaTexts
import Derived.Test.YtikhanickkhnbaaMarks
import Derived.Test.YtikhanickkhnbaaLines
import Derived.Test.YtikhanickkhnbaaLinesArg
import Derived.Test.YtikhanickkhnbaaSplitSpec
import Derived.Test.YtikhanickkhnbaaSplitImpl
import Derived.WalkKit
import Derived.WalkLawsBesides
import Derived.OwnWalk
import Derived.Laws.OwnMore
import Derived.Deep.AppendLies
import Derived.Lib.Hide
import Derived.IntWalk
namespace Go.Proofs.Ytikhanickkhnbaa
open Go.RowKit
set_option linter.unusedVariables false

theorem CurAt.grown {w w' : World} {B b : Nat} {a : Option Addr} {len cap : Nat} {row : Option Nat} (h : CurAt w B b a len cap) (hg : w.grownBy w' row) (hr : ∀ k, row = some k → b < k) : CurAt w' B b a len cap := by
  obtain ⟨i, x, hC⟩ := h
  exact ⟨i, x, hC.kept (fun k hk => hg.block k (Nat.lt_of_le_of_lt hk hC.lt) (fun e => by have := hr k e.symm; omega)) hg.size⟩
theorem CurAt.le {w : World} {B b : Nat} {a : Option Addr} {len cap : Nat} (h : CurAt w B b a len cap) : B ≤ b := by
  obtain ⟨i, x, hC⟩ := h; exact hC.le

set_option maxRecDepth 100000 in
set_option maxHeartbeats 1600000 in
theorem text2_draw (w : World) (B b : Nat) (a : Option Addr) (len cap : Nat) (hlen : len ≤ 9223372036854775807) (hC : CurAt w B b a len cap) :
    Calls Try.prog 32 #[.pointer (some ⟨b, 0, none⟩)] w (DrewS 14 w B b a len cap) := by
  go_enter Try.func32, Try.ntmps32
  go_wp2_with fail
  refine (below_draw w B b a len cap 8 hlen hC (by decide) (by decide)).mono ?_
  rintro e w1 ⟨x, hx0, hx1, rfl, hC1, hg1⟩
  obtain ⟨n, rfl⟩ := Int.eq_ofNat_of_zero_le hx0
  clear hC
  go_wp2
  go_loopw [3, 5] (fun s q wr => ∃ (k : Nat) (t : ByteArray), k ≤ n ∧ q = .int .i64 k ∧ s = .string t ∧ t.size ≤ 2 * k ∧ Hid (CurAt wr B b a len cap) ∧ Hid (w.grownBy wr (some b))) (fun _ q _ => n - (intOf q).toNat)
  case atStart => exact ⟨0, ⟨#[]⟩, Nat.zero_le _, rfl, rfl, Nat.le_refl _, hC1, hg1⟩
  case round =>
    obtain ⟨k, t, hk, rfl, rfl, ht, hC, hg⟩ := hrel
    clear hC1 hg1
    by_cases hkn : k < n
    · have hltr := hC.out.lt
      have K := Lib.hid (pick_draw (wr.alloc (.cells #[.string ⟨#[97]⟩, .string ⟨#[10]⟩, .string ⟨#[98, 99]⟩, .string ⟨#[13, 10]⟩, .string ⟨#[13]⟩, .string ⟨#[]⟩, .string ⟨#[10, 13]⟩, .string ⟨#[120, 10]⟩] 9)) B b a len cap wr.heap.size 8 8 2 hlen (hC.out.alloc _) (by decide) (by decide) (by omega) (by simp) (by refine texts_alloc wr _ _ _ _ ?_; decide +kernel))
      go_wp2_with fail
      refine K.out.mono ?_
      rintro e w3 ⟨y, hy, rfl, hC3, hg3⟩
      have hg4 : Hid (w.grownBy w3 (some b)) := grownBy_step (grownBy_new hg.out _) hg3
      have HC3 := Lib.hid hC3
      clear K hg hg3 hC hC3
      go_wp2
      go_roundw
      case rel => exact ⟨k + 1, t ++ y, by omega, by go_num, rfl, by rw [ByteArray.size_append]; omega, HC3, hg4⟩
      case measure => simp [intOf]; omega
    · obtain rfl : k = n := by omega
      go_wp2
      go_ret
      exact ⟨t, by omega, rfl, hC.out, hg.out⟩

def SomeLined (m : Nat) (w : World) (e : Ending) (w' : World) : Prop := ∃ s : ByteArray, s.size ≤ m ∧ e = .returned (.string s) ∧ Below w.heap.size w w'
theorem drawSplitLines (w : World) (a : Option Addr) (len cap : Nat) (hlen : len ≤ 1048576) (hB : BytesIn w a len) (hlow : ∀ x, a = some x → len ≠ 0 → x.block < w.heap.size) :
    Calls Try.prog 18 #[.slice a len cap] w (SomeLined 14 w) := by
  go_enter Try.func18, Try.ntmps18
  go_wp2_with fail
  refine (new_draw w a len cap hlen hB hlow).mono ?_
  rintro e w1 ⟨rfl, hC1, hb1⟩
  clear hB hlow
  go_wp2_with fail
  refine (text2_draw w1 w.heap.size w.heap.size a len cap (by omega) hC1).mono ?_
  rintro e w2 ⟨s, hs, rfl, hC2, hg2⟩
  have hb2 := hb1.trans (grownBy_below hg2 (Nat.le_refl _) hb1.size)
  clear hC1 hC2 hg2 hb1
  go_wp2
  go_ret
  exact ⟨s, hs, rfl, hb2⟩

/-- the cells of a list, one end put anew -/
theorem lnCells_set (l : List Ln) (j : Nat) (hj : j < l.length) (x : ByteArray) : (lnCells l).set (j * 2 + 1) (.string x) = lnCells (l.set j (l[j].1, x)) := by
  induction l generalizing j with
  | nil => simp at hj
  | cons y l ih =>
    cases j with
    | zero => simp [lnCells]
    | succ j =>
      have := ih j (by simpa using hj)
      rw [show (j + 1) * 2 + 1 = (j * 2 + 1) + 2 from by omega]
      simp only [lnCells, List.flatMap_cons, List.cons_append, List.nil_append, List.set_cons_succ, List.getElem_cons_succ] at *
      rw [this]

theorem linesOf_cost (s : ByteArray) : costL (linesOf s) ≤ 2 * s.size := by
  have h1 := linesOf_few s
  have h2 : (linesOf s).length + ((linesOf s).map (fun x => x.1.size + x.2.size)).sum = (linesOf s).length + s.size := by
    congr 1
    have h3 : ((linesOf s).map (fun x => x.1.size + x.2.size)).sum = (joinL (splitL s.data.toList [])).length := by
      unfold linesOf joinL
      rw [List.map_map]
      generalize splitL s.data.toList [] = q
      induction q with
      | nil => rfl
      | cons y q ih =>
        simp only [List.map_cons, List.sum_cons, List.flatMap_cons, List.length_append, ih, Function.comp]
        rfl
    rw [h3, join_split, List.nil_append, ← Lib.size_eq]
  unfold costL
  omega
theorem costL_set (l : List Ln) (j : Nat) (hj : j < l.length) (x : ByteArray) : costL (l.set j (l[j].1, x)) ≤ costL l + x.size := by
  induction l generalizing j with
  | nil => simp at hj
  | cons y l ih =>
    cases j with
    | zero => simp [costL]; omega
    | succ j =>
      have := ih j (by simpa using hj)
      simp only [List.set_cons_succ, List.getElem_cons_succ, costL, List.map_cons, List.sum_cons, List.length_cons] at *
      omega
theorem costL_len (l : List Ln) : l.length ≤ costL l := by unfold costL; omega
theorem costL_snoc (l : List Ln) (x : Ln) : costL (l ++ [x]) = costL l + 1 + x.1.size + x.2.size := by
  simp only [costL, List.length_append, List.map_append, List.sum_append, List.map_cons, List.map_nil, List.sum_cons, List.sum_nil, List.length_cons, List.length_nil]
  omega


/-- a list of lines that was drawn: not large; the cursor stands; nothing but its block has turned -/
def DrewL (w : World) (B b : Nat) (a : Option Addr) (len cap : Nat) (e : Ending) (w' : World) : Prop :=
  ∃ (v : Value) (g : Nat) (l : List Ln), costL l ≤ 100 ∧ e = .returned v ∧ LinesIs w' v g 0 l ∧ w.heap.size ≤ g ∧ CurAt w' B b a len cap ∧ w.grownBy w' (some b)

theorem grown_of_own {w w1 w2 : World} {b : Nat} {row : Option Nat} (h : w.grownBy w1 (some b)) (hg : w1.grownBy w2 row) (hr : ∀ k, row = some k → w.heap.size ≤ k) : w.grownBy w2 (some b) :=
  ⟨hg.os.trans h.os, hg.tape.trans h.tape, hg.output.trans h.output, Nat.le_trans h.size hg.size, fun k hk hne => (hg.block k (Nat.lt_of_lt_of_le hk h.size) (fun e => by have := hr k e.symm; omega)).trans (h.block k hk hne)⟩

/-- the last part of the draw: one line more, or not -/
theorem CurAt.own {w w' : World} {B b : Nat} {a : Option Addr} {len cap : Nat} {row : Option Nat} (h : CurAt w B b a len cap) (hg : w.grownBy w' row) (hr : ∀ k, row = some k → b < k) : CurAt w' B b a len cap := h.grown hg hr

set_option maxRecDepth 100000 in
set_option maxHeartbeats 3200000 in
theorem lines2_draw (w : World) (B b : Nat) (a : Option Addr) (len cap : Nat) (hlen : len ≤ 9223372036854775807) (hC : CurAt w B b a len cap) :
    Calls Try.prog 27 #[.pointer (some ⟨b, 0, none⟩)] w (DrewL w B b a len cap) := by
  obtain ⟨i0, hi, hz0, hz1, hz2⟩ := info_parts info_line
  have hbw := hC.lt
  go_enter Try.func27, Try.ntmps27
  go_wp2_with fail
  refine (text2_draw w B b a len cap hlen hC).mono ?_
  rintro e w1 ⟨s, hs, rfl, hC1, hg1⟩
  clear hC
  go_wp2_with fail
  refine (splitLines_spec s w1 (by omega)).mono ?_
  rintro e w2 ⟨v2, rfl, hown, hb2⟩
  have hcost := linesOf_cost s
  have hfew := linesOf_few s
  generalize linesOf s = l at *
  have hC2 := hC1.kept hb2
  have hg2 : w.grownBy w2 (some b) := grown_of_own hg1 (grown_below (row := none) hb2) (fun k hk => by cases hk)
  have hs1 := hg1.size
  have hs2 : w1.heap.size ≤ w2.heap.size := hb2.size
  have hbs : ∀ k, v2.ownBlock = some k → w1.heap.size ≤ k := own_blockL hown
  clear hC1 hg1 hb2
  obtain ⟨av, cv, hv2⟩ : ∃ av cv, v2 = .slice av l.length cv := by
    rcases hown.2 with ⟨hv, h0⟩ | ⟨g, cap, cur, hv, _⟩
    · exact ⟨none, 0, by rw [hv, h0]⟩
    · exact ⟨_, _, hv⟩
  subst hv2
  by_cases hl0 : l.length = 0
  · have hl : l = [] := List.eq_nil_of_length_eq_zero hl0
    subst hl
    simp only [List.length_nil] at hown hbs ⊢
    clear hl0
    have hcW : costL ([] : List Ln) ≤ 50 := Nat.zero_le _
    have hsW := hs2
    go_wp2_with fail
    refine (once_draw w2 B b a len cap 12 hlen hC2 (by decide) (by decide)).mono ?_
    rintro e w5 ⟨o2, rfl, hC5, hg5⟩
    have hown5 := hown.kept hg5 (.inr (fun e => by have := own_blockL hown b e; omega))
    have hg5' := grownBy_step hg2 hg5
    have hs5 : w1.heap.size ≤ w5.heap.size := Nat.le_trans hsW hg5.size
    clear hC2 hg2 hg5
    cases o2
    · obtain ⟨g5, hI5, hgl5⟩ := linesIs_of_owns hown5 rfl hs5
      have HI5 := Lib.hid hI5
      have HC5 := Lib.hid hC5
      have HG5 := Lib.hid hg5'
      clear hown5 hI5 hC5 hg5'
      go_wp2
      go_ret
      exact ⟨_, g5, ([] : List Ln), Nat.le_trans hcW (by decide), rfl, HI5.out, by omega, HC5.out, HG5.out⟩
    · have hlt5 := hC5.lt
      go_wp2_with fail
      refine (pick_draw (w5.alloc (.cells #[.string ⟨#[]⟩, .string ⟨#[97, 10, 98]⟩, .string ⟨#[99]⟩] 9)) B b a len cap w5.heap.size 3 3 3 hlen (hC5.alloc _) (by decide) (by decide) (by omega) (by simp) (by refine texts_alloc w5 _ _ _ _ ?_; decide +kernel)).mono ?_
      rintro e w6 ⟨t, ht, rfl, hC6, hg6⟩
      have hown6 := (hown5.alloc (.cells #[.string ⟨#[]⟩, .string ⟨#[97, 10, 98]⟩, .string ⟨#[99]⟩] 9)).kept hg6 (.inr (fun e => by have := own_blockL hown5 b e; omega))
      have hg6' := grownBy_step (grownBy_new hg5' (.cells #[.string ⟨#[]⟩, .string ⟨#[97, 10, 98]⟩, .string ⟨#[99]⟩] 9)) hg6
      have hs6 : w1.heap.size ≤ w6.heap.size := by have := hg6.size; simp at this; omega
      clear hC5 hown5 hg6 hg5'
      have hlL : (([] : List Ln)).length ≤ 60 := Nat.le_trans (costL_len _) (Nat.le_trans hcW (by decide))
      go_wp2_with (at_builtin; refine wpList_append_own _ rfl _ _ 24 rfl w1.heap.size 31 i0 (.agg #[.string ByteArray.empty, .string ByteArray.empty]) 2 32 Try.underlying24 hi hz0 hz1 hz2 rfl (by decide) _ _ _ rfl (hown6.alloc _) ⟨w6.heap.size, 0, none⟩ 1 1 [.string t, .string ⟨#[]⟩] rfl rfl (cell_two_new _ _ _ _) (by simp [Value.oneCell']) (by unfold maxLen; omega) (by omega) (by simp; omega) ?_; intro v7 w7 hown7 hgrow7 _)
      have hs7 : w1.heap.size ≤ w7.heap.size := by have := hgrow7.size; simp at this; omega
      obtain ⟨g7, hI7, hgl7⟩ := linesIs_of_owns (l := ([] : List Ln) ++ [(t, noLn.2)]) (t := 31) (by rw [lnCells_append]; exact hown7) (by simp) hs7
      have hC7 := (hC6.alloc (.cells #[.string t, .string ⟨#[]⟩] 31)).grown hgrow7 (fun k hk => by have := own_blockL hown6 k hk; omega)
      have hg7 := grown_of_own (grownBy_new hg6' (.cells #[.string t, .string ⟨#[]⟩] 31)) hgrow7 (fun k hk => by have := own_blockL hown6 k hk; omega)
      have HI7 := Lib.hid hI7
      have HC7 := Lib.hid hC7
      have HG7 := Lib.hid hg7
      have hc7 : costL (([] : List Ln) ++ [(t, noLn.2)]) ≤ 100 := by
        rw [costL_snoc]
        have : noLn.2.size = 0 := rfl
        simp only
        omega
      clear hown6 hown7 hgrow7 hI7 hC6 hC7 hg6' hg7
      go_wp2
      go_ret
      exact ⟨_, g7, _, hc7, rfl, HI7.out, by omega, HC7.out, HG7.out⟩
  · have hl1 : (0 : Int) < (l.length : Int) := by omega
    go_wp2_with fail
    refine (once_draw w2 B b a len cap 4 hlen hC2 (by decide) (by decide)).mono ?_
    rintro e w3 ⟨o1, rfl, hC3, hg3⟩
    have hown3 := hown.kept hg3 (.inr (fun e => by have := hbs b e; omega))
    have hg3' := grownBy_step hg2 hg3
    have hs3 := Nat.le_trans hs2 hg3.size
    have hcW : costL l ≤ 50 := by omega
    clear hown hC2 hg2 hg3
    cases o1
    · have hsW := hs3
      go_wp2_with fail
      refine (once_draw w3 B b a len cap 12 hlen hC3 (by decide) (by decide)).mono ?_
      rintro e w5 ⟨o2, rfl, hC5, hg5⟩
      have hown5 := hown3.kept hg5 (.inr (fun e => by have := own_blockL hown3 b e; omega))
      have hg5' := grownBy_step hg3' hg5
      have hs5 : w1.heap.size ≤ w5.heap.size := Nat.le_trans hsW hg5.size
      clear hC3 hg3' hg5
      cases o2
      · obtain ⟨g5, hI5, hgl5⟩ := linesIs_of_owns hown5 rfl hs5
        have HI5 := Lib.hid hI5
        have HC5 := Lib.hid hC5
        have HG5 := Lib.hid hg5'
        clear hown5 hI5 hC5 hg5'
        go_wp2
        go_ret
        exact ⟨_, g5, l, Nat.le_trans hcW (by decide), rfl, HI5.out, by omega, HC5.out, HG5.out⟩
      · have hlt5 := hC5.lt
        go_wp2_with fail
        refine (pick_draw (w5.alloc (.cells #[.string ⟨#[]⟩, .string ⟨#[97, 10, 98]⟩, .string ⟨#[99]⟩] 9)) B b a len cap w5.heap.size 3 3 3 hlen (hC5.alloc _) (by decide) (by decide) (by omega) (by simp) (by refine texts_alloc w5 _ _ _ _ ?_; decide +kernel)).mono ?_
        rintro e w6 ⟨t, ht, rfl, hC6, hg6⟩
        have hown6 := (hown5.alloc (.cells #[.string ⟨#[]⟩, .string ⟨#[97, 10, 98]⟩, .string ⟨#[99]⟩] 9)).kept hg6 (.inr (fun e => by have := own_blockL hown5 b e; omega))
        have hg6' := grownBy_step (grownBy_new hg5' (.cells #[.string ⟨#[]⟩, .string ⟨#[97, 10, 98]⟩, .string ⟨#[99]⟩] 9)) hg6
        have hs6 : w1.heap.size ≤ w6.heap.size := by have := hg6.size; simp at this; omega
        clear hC5 hown5 hg6 hg5'
        have hlL : (l).length ≤ 60 := Nat.le_trans (costL_len _) (Nat.le_trans hcW (by decide))
        go_wp2_with (at_builtin; refine wpList_append_own _ rfl _ _ 24 rfl w1.heap.size 31 i0 (.agg #[.string ByteArray.empty, .string ByteArray.empty]) 2 32 Try.underlying24 hi hz0 hz1 hz2 rfl (by decide) _ _ _ rfl (hown6.alloc _) ⟨w6.heap.size, 0, none⟩ 1 1 [.string t, .string ⟨#[]⟩] rfl rfl (cell_two_new _ _ _ _) (by simp [Value.oneCell']) (by unfold maxLen; omega) (by omega) (by simp; omega) ?_; intro v7 w7 hown7 hgrow7 _)
        have hs7 : w1.heap.size ≤ w7.heap.size := by have := hgrow7.size; simp at this; omega
        obtain ⟨g7, hI7, hgl7⟩ := linesIs_of_owns (l := l ++ [(t, noLn.2)]) (t := 31) (by rw [lnCells_append]; exact hown7) (by simp) hs7
        have hC7 := (hC6.alloc (.cells #[.string t, .string ⟨#[]⟩] 31)).grown hgrow7 (fun k hk => by have := own_blockL hown6 k hk; omega)
        have hg7 := grown_of_own (grownBy_new hg6' (.cells #[.string t, .string ⟨#[]⟩] 31)) hgrow7 (fun k hk => by have := own_blockL hown6 k hk; omega)
        have HI7 := Lib.hid hI7
        have HC7 := Lib.hid hC7
        have HG7 := Lib.hid hg7
        have hc7 : costL (l ++ [(t, noLn.2)]) ≤ 100 := by
          rw [costL_snoc]
          have : noLn.2.size = 0 := rfl
          simp only
          omega
        clear hown6 hown7 hgrow7 hI7 hC6 hC7 hg6' hg7
        go_wp2
        go_ret
        exact ⟨_, g7, _, hc7, rfl, HI7.out, by omega, HC7.out, HG7.out⟩
    · go_wp2_with fail
      refine (below_draw w3 B b a len cap (l.length : Int) hlen hC3 (by omega) (by omega)).mono ?_
      rintro e w4 ⟨x, hx0, hx1, rfl, hC4, hg4⟩
      obtain ⟨j, rfl⟩ := Int.eq_ofNat_of_zero_le hx0
      have hj : j < l.length := by omega
      have hown4 := hown3.kept hg4 (.inr (fun e => by have := hbs b e; omega))
      have hg4' := grownBy_step hg3' hg4
      clear hown3 hC3 hg3'
      have hlt4 := hC4.lt
      obtain ⟨gv, cv', hvv, hbv, hltv⟩ := hown4.form (by omega)
      simp only [Value.slice.injEq] at hvv
      obtain ⟨rfl, _, rfl⟩ := hvv
      go_wp2_with fail
      refine (pick_draw (w4.alloc (.cells #[.string ⟨#[]⟩, .string ⟨#[13]⟩, .string ⟨#[10]⟩, .string ⟨#[120]⟩, .string ⟨#[13, 10]⟩] 9)) B b a len cap w4.heap.size 5 5 2 hlen (hC4.alloc _) (by decide) (by decide) (by omega) (by simp) (by refine texts_alloc w4 _ _ _ _ ?_; decide +kernel)).mono ?_
      rintro e w4b ⟨y, hy, rfl, hC4b, hg4b⟩
      have hown4b := (hown4.alloc (.cells #[.string ⟨#[]⟩, .string ⟨#[13]⟩, .string ⟨#[10]⟩, .string ⟨#[120]⟩, .string ⟨#[13, 10]⟩] 9)).kept hg4b (.inr (fun e => by have := hbs b e; omega))
      have hg4b' := grownBy_step (grownBy_new hg4' (.cells #[.string ⟨#[]⟩, .string ⟨#[13]⟩, .string ⟨#[10]⟩, .string ⟨#[120]⟩, .string ⟨#[13, 10]⟩] 9)) hg4b
      obtain ⟨hst, hgst⟩ := hown4b.stored (j * 2 + 1) (.string y)
      have hsc : w4b.cell? ⟨gv, j * 2 + 1, none⟩ = some (.string l[j].2) := by
        have := World.ownsRow.cells hown4b (g := gv) rfl (j * 2 + 1) _ (lnCells_1 l j hj)
        have hadd : (⟨gv, 0, none⟩ : Addr).add (j * 2 + 1) = ⟨gv, j * 2 + 1, none⟩ := by unfold Addr.add; split <;> simp_all
        rwa [hadd] at this
      have hfz : w4b.frozen? ⟨gv, j * 2 + 1, none⟩ = false := World.ownsRow.frozenAt hown4b _
      rw [lnCells_set l j hj y] at hst
      have hsl : l.length = (l.set j (l[j].1, y)).length := by simp
      have hcs := costL_set l j hj y
      have hs4c : w1.heap.size ≤ (w4b.setCell ⟨gv, j * 2 + 1, none⟩ (.string y)).heap.size := by have h1 := hg4.size; have h2 := hg4b.size; simp at h2 ⊢; omega
      have hC4c := hC4b.grown hgst (fun k hk => by cases hk; omega)
      have hg4c := grown_of_own hg4b' hgst (fun k hk => by cases hk; omega)
      generalize l[j].2 = old at hsc
      generalize l.set j (l[j].1, y) = l2 at *
      rw [hsl] at hst
      have hcW2 : costL l2 ≤ 50 := by omega
      clear hcW
      have hcW := hcW2
      clear hcW2
      have hjn : (j : Int) < (l.length : Int) := by omega
      clear hown4 hC4 hg4' hg4b hg4 hown4b hC4b hg4b' hgst
      have HST := Lib.hid hst
      have HC := Lib.hid hC4c
      have HG := Lib.hid hg4c
      clear hst hC4c hg4c
      go_wp2_with fail
      have hst := HST.out
      have hC4c := HC.out
      have hg4c := HG.out
      clear HST HC HG hsc hfz
      generalize w4b.setCell ⟨gv, j * 2 + 1, none⟩ (.string y) = w4c at *
      try rw [hsl]
      have hsW := hs4c
      refine (once_draw w4c B b a len cap 12 hlen hC4c (by decide) (by decide)).mono ?_
      rintro e w5 ⟨o2, rfl, hC5, hg5⟩
      have hown5 := hst.kept hg5 (.inr (fun e => by have := own_blockL hst b e; omega))
      have hg5' := grownBy_step hg4c hg5
      have hs5 : w1.heap.size ≤ w5.heap.size := Nat.le_trans hsW hg5.size
      clear hC4c hg4c hg5
      cases o2
      · obtain ⟨g5, hI5, hgl5⟩ := linesIs_of_owns hown5 rfl hs5
        have HI5 := Lib.hid hI5
        have HC5 := Lib.hid hC5
        have HG5 := Lib.hid hg5'
        clear hown5 hI5 hC5 hg5'
        go_wp2
        go_ret
        exact ⟨_, g5, l2, Nat.le_trans hcW (by decide), rfl, HI5.out, by omega, HC5.out, HG5.out⟩
      · have hlt5 := hC5.lt
        go_wp2_with fail
        refine (pick_draw (w5.alloc (.cells #[.string ⟨#[]⟩, .string ⟨#[97, 10, 98]⟩, .string ⟨#[99]⟩] 9)) B b a len cap w5.heap.size 3 3 3 hlen (hC5.alloc _) (by decide) (by decide) (by omega) (by simp) (by refine texts_alloc w5 _ _ _ _ ?_; decide +kernel)).mono ?_
        rintro e w6 ⟨t, ht, rfl, hC6, hg6⟩
        have hown6 := (hown5.alloc (.cells #[.string ⟨#[]⟩, .string ⟨#[97, 10, 98]⟩, .string ⟨#[99]⟩] 9)).kept hg6 (.inr (fun e => by have := own_blockL hown5 b e; omega))
        have hg6' := grownBy_step (grownBy_new hg5' (.cells #[.string ⟨#[]⟩, .string ⟨#[97, 10, 98]⟩, .string ⟨#[99]⟩] 9)) hg6
        have hs6 : w1.heap.size ≤ w6.heap.size := by have := hg6.size; simp at this; omega
        clear hC5 hown5 hg6 hg5'
        have hlL : (l2).length ≤ 60 := Nat.le_trans (costL_len _) (Nat.le_trans hcW (by decide))
        go_wp2_with (at_builtin; refine wpList_append_own _ rfl _ _ 24 rfl w1.heap.size 31 i0 (.agg #[.string ByteArray.empty, .string ByteArray.empty]) 2 32 Try.underlying24 hi hz0 hz1 hz2 rfl (by decide) _ _ _ rfl (hown6.alloc _) ⟨w6.heap.size, 0, none⟩ 1 1 [.string t, .string ⟨#[]⟩] rfl rfl (cell_two_new _ _ _ _) (by simp [Value.oneCell']) (by unfold maxLen; omega) (by omega) (by simp; omega) ?_; intro v7 w7 hown7 hgrow7 _)
        have hs7 : w1.heap.size ≤ w7.heap.size := by have := hgrow7.size; simp at this; omega
        obtain ⟨g7, hI7, hgl7⟩ := linesIs_of_owns (l := l2 ++ [(t, noLn.2)]) (t := 31) (by rw [lnCells_append]; exact hown7) (by simp) hs7
        have hC7 := (hC6.alloc (.cells #[.string t, .string ⟨#[]⟩] 31)).grown hgrow7 (fun k hk => by have := own_blockL hown6 k hk; omega)
        have hg7 := grown_of_own (grownBy_new hg6' (.cells #[.string t, .string ⟨#[]⟩] 31)) hgrow7 (fun k hk => by have := own_blockL hown6 k hk; omega)
        have HI7 := Lib.hid hI7
        have HC7 := Lib.hid hC7
        have HG7 := Lib.hid hg7
        have hc7 : costL (l2 ++ [(t, noLn.2)]) ≤ 100 := by
          rw [costL_snoc]
          have : noLn.2.size = 0 := rfl
          simp only
          omega
        clear hown6 hown7 hgrow7 hI7 hC6 hC7 hg6' hg7
        go_wp2
        go_ret
        exact ⟨_, g7, _, hc7, rfl, HI7.out, by omega, HC7.out, HG7.out⟩

end Go.Proofs.Ytikhanickkhnbaa
