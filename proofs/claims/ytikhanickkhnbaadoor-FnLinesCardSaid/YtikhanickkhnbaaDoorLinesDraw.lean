/- The draws of texts with line ends, and of lists of lines. -/
import Derived.Test.YtikhanickkhnbaaDoorProg
import Derived.Test.YtikhanickkhnbaaDoorPlain
import Derived.Test.YtikhanickkhnbaaDoorDraw
import Derived.Test.YtikhanickkhnbaaDoorDrawNum
import Derived.Test.YtikhanickkhnbaaDoorTexts
import Derived.Test.YtikhanickkhnbaaDoorMarks
import Derived.Test.YtikhanickkhnbaaDoorLines
import Derived.Test.YtikhanickkhnbaaDoorLinesArg
import Derived.Test.YtikhanickkhnbaaDoorSplitSpec
import Derived.Test.YtikhanickkhnbaaDoorSplitImpl
import Derived.WalkKit
import Derived.WalkLawsBesides
import Derived.OwnWalk
import Derived.Laws.OwnMore
import Derived.Deep.AppendLies
import Derived.Lib.Hide
import Derived.IntWalk
namespace Go.Proofs.YtikhanickkhnbaaDoor
open Go.RowKit
set_option linter.unusedVariables false

theorem CurAt.grown {w w' : World} {B b : Nat} {a : Option Addr} {len cap : Nat} {row : Option Nat} (h : CurAt w B b a len cap) (hg : w.grownBy w' row) (hr : ∀ k, row = some k → b < k) : CurAt w' B b a len cap := by
  obtain ⟨i, x, hC⟩ := h
  exact ⟨i, x, hC.kept (fun k hk => hg.block k (Nat.lt_of_le_of_lt hk hC.lt) (fun e => by have := hr k e.symm; omega)) hg.size⟩
theorem CurAt.le {w : World} {B b : Nat} {a : Option Addr} {len cap : Nat} (h : CurAt w B b a len cap) : B ≤ b := by
  obtain ⟨i, x, hC⟩ := h; exact hC.le

set_option maxRecDepth 100000 in
set_option maxHeartbeats 1600000 in
theorem text2_draw (w : World) (B b : Nat) (a : Option Addr) (len cap : Nat) (hlen : len ≤ 9223372036854775807) (hC : CurAt w B b a len cap) :
    Calls Tryd.prog 17 #[.pointer (some ⟨b, 0, none⟩)] w (DrewS 14 w B b a len cap) := by
  go_enter Tryd.func17, Tryd.ntmps17
  go_wp2_with fail
  refine (below_draw w B b a len cap 8 hlen hC (by decide) (by decide)).mono ?_
  rintro e w1 ⟨x, hx0, hx1, rfl, hC1, hg1⟩
  obtain ⟨n, rfl⟩ := Int.eq_ofNat_of_zero_le hx0
  clear hC
  go_wp2
  go_loopw [3, 5] (fun s q wr => ∃ (k : Nat) (t : ByteArray), k ≤ n ∧ q = .int .i64 k ∧ s = .string t ∧ t.size ≤ 2 * k ∧ Hid (CurAt wr B b a len cap) ∧ Hid (w.grownBy wr (some b))) (fun _ q _ => n - (intOf q).toNat)
  case atStart => exact ⟨0, ⟨#[]⟩, Nat.zero_le _, rfl, rfl, Nat.le_refl _, hC1, hg1⟩
  case round =>
    obtain ⟨k, t, hk, rfl, rfl, ht, hC, hg⟩ := hrel
    clear hC1 hg1
    by_cases hkn : k < n
    · have hltr := hC.out.lt
      have K := Lib.hid (pick_draw (wr.alloc (.cells #[.string ⟨#[97]⟩, .string ⟨#[10]⟩, .string ⟨#[98, 99]⟩, .string ⟨#[13, 10]⟩, .string ⟨#[13]⟩, .string ⟨#[]⟩, .string ⟨#[10, 13]⟩, .string ⟨#[120, 10]⟩] 9)) B b a len cap wr.heap.size 8 8 2 hlen (hC.out.alloc _) (by decide) (by decide) (by omega) (by simp) (by refine texts_alloc wr _ _ _ _ ?_; decide +kernel))
      go_wp2_with fail
      refine K.out.mono ?_
      rintro e w3 ⟨y, hy, rfl, hC3, hg3⟩
      have hg4 : Hid (w.grownBy w3 (some b)) := grownBy_step (grownBy_new hg.out _) hg3
      have HC3 := Lib.hid hC3
      clear K hg hg3 hC hC3
      go_wp2
      go_roundw
      case rel => exact ⟨k + 1, t ++ y, by omega, by go_num, rfl, by rw [ByteArray.size_append]; omega, HC3, hg4⟩
      case measure => simp [intOf]; omega
    · obtain rfl : k = n := by omega
      go_wp2
      go_ret
      exact ⟨t, by omega, rfl, hC.out, hg.out⟩

def SomeLined (m : Nat) (w : World) (e : Ending) (w' : World) : Prop := ∃ s : ByteArray, s.size ≤ m ∧ e = .returned (.string s) ∧ Below w.heap.size w w'
theorem drawSplitLines (w : World) (a : Option Addr) (len cap : Nat) (hlen : len ≤ 1048576) (hB : BytesIn w a len) (hlow : ∀ x, a = some x → len ≠ 0 → x.block < w.heap.size) :
    Calls Tryd.prog 7 #[.slice a len cap] w (SomeLined 14 w) := by
  go_enter Tryd.func7, Tryd.ntmps7
  go_wp2_with fail
  refine (new_draw w a len cap hlen hB hlow).mono ?_
  rintro e w1 ⟨rfl, hC1, hb1⟩
  clear hB hlow
  go_wp2_with fail
  refine (text2_draw w1 w.heap.size w.heap.size a len cap (by omega) hC1).mono ?_
  rintro e w2 ⟨s, hs, rfl, hC2, hg2⟩
  have hb2 := hb1.trans (grownBy_below hg2 (Nat.le_refl _) hb1.size)
  clear hC1 hC2 hg2 hb1
  go_wp2
  go_ret
  exact ⟨s, hs, rfl, hb2⟩

/-- the cells of a list, one end put anew -/
theorem lnCells_set (l : List Ln) (j : Nat) (hj : j < l.length) (x : ByteArray) : (lnCells l).set (j * 2 + 1) (.string x) = lnCells (l.set j (l[j].1, x)) := by
  induction l generalizing j with
  | nil => simp at hj
  | cons y l ih =>
    cases j with
    | zero => simp [lnCells]
    | succ j =>
      have := ih j (by simpa using hj)
      rw [show (j + 1) * 2 + 1 = (j * 2 + 1) + 2 from by omega]
      simp only [lnCells, List.flatMap_cons, List.cons_append, List.nil_append, List.set_cons_succ, List.getElem_cons_succ] at *
      rw [this]

theorem linesOf_cost (s : ByteArray) : costL (linesOf s) ≤ 2 * s.size := by
  have h1 := linesOf_few s
  have h2 : (linesOf s).length + ((linesOf s).map (fun x => x.1.size + x.2.size)).sum = (linesOf s).length + s.size := by
    congr 1
    have h3 : ((linesOf s).map (fun x => x.1.size + x.2.size)).sum = (joinL (splitL s.data.toList [])).length := by
      unfold linesOf joinL
      rw [List.map_map]
      generalize splitL s.data.toList [] = q
      induction q with
      | nil => rfl
      | cons y q ih =>
        simp only [List.map_cons, List.sum_cons, List.flatMap_cons, List.length_append, ih, Function.comp]
        rfl
    rw [h3, join_split, List.nil_append, ← Lib.size_eq]
  unfold costL
  omega
theorem costL_set (l : List Ln) (j : Nat) (hj : j < l.length) (x : ByteArray) : costL (l.set j (l[j].1, x)) ≤ costL l + x.size := by
  induction l generalizing j with
  | nil => simp at hj
  | cons y l ih =>
    cases j with
    | zero => simp [costL]; omega
    | succ j =>
      have := ih j (by simpa using hj)
      simp only [List.set_cons_succ, List.getElem_cons_succ, costL, List.map_cons, List.sum_cons, List.length_cons] at *
      omega
theorem costL_len (l : List Ln) : l.length ≤ costL l := by unfold costL; omega
theorem costL_snoc (l : List Ln) (x : Ln) : costL (l ++ [x]) = costL l + 1 + x.1.size + x.2.size := by
  simp only [costL, List.length_append, List.map_append, List.sum_append, List.map_cons, List.map_nil, List.sum_cons, List.sum_nil, List.length_cons, List.length_nil]
  omega


/-- a list of lines that was drawn: not large; the cursor stands; nothing but its block has turned -/
def DrewL (w : World) (B b : Nat) (a : Option Addr) (len cap : Nat) (e : Ending) (w' : World) : Prop :=
  ∃ (v : Value) (g : Nat) (l : List Ln), costL l ≤ 100 ∧ e = .returned v ∧ LinesIs w' v g 0 l ∧ w.heap.size ≤ g ∧ CurAt w' B b a len cap ∧ w.grownBy w' (some b)

theorem grown_of_own {w w1 w2 : World} {b : Nat} {row : Option Nat} (h : w.grownBy w1 (some b)) (hg : w1.grownBy w2 row) (hr : ∀ k, row = some k → w.heap.size ≤ k) : w.grownBy w2 (some b) :=
  ⟨hg.os.trans h.os, hg.tape.trans h.tape, hg.output.trans h.output, Nat.le_trans h.size hg.size, fun k hk hne => (hg.block k (Nat.lt_of_lt_of_le hk h.size) (fun e => by have := hr k e.symm; omega)).trans (h.block k hk hne)⟩

/-- the last part of the draw: one line more, or not -/
theorem CurAt.own {w w' : World} {B b : Nat} {a : Option Addr} {len cap : Nat} {row : Option Nat} (h : CurAt w B b a len cap) (hg : w.grownBy w' row) (hr : ∀ k, row = some k → b < k) : CurAt w' B b a len cap := h.grown hg hr

end Go.Proofs.YtikhanickkhnbaaDoor
