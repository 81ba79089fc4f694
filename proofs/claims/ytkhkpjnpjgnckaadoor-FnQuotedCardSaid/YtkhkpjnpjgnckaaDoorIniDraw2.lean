/- The draws of Dialects, and DrawParseIni. -/
import Derived.Test.YtkhkpjnpjgnckaaDoorProg
import Derived.Test.YtkhkpjnpjgnckaaDoorPlain
import Derived.Test.YtkhkpjnpjgnckaaDoorDraw
import Derived.Test.YtkhkpjnpjgnckaaDoorDrawNum
import Derived.Test.YtkhkpjnpjgnckaaDoorBent
import Derived.Test.YtkhkpjnpjgnckaaDoorDialectRows
import Derived.Test.YtkhkpjnpjgnckaaDoorBareSpec
import Derived.Test.YtkhkpjnpjgnckaaDoorCellRes
import Derived.Test.YtkhkpjnpjgnckaaDoorIniDraw
import Derived.WalkKit
import Derived.WalkLawsBesides
import Derived.OwnWalk
import Derived.Laws.IdiomStrings
import Derived.Lib.Hide
import Derived.IntWalk
import Derived.Outline
set_option maxRecDepth 100000
namespace Go.Proofs.YtkhkpjnpjgnckaaDoor
open Go.RowKit
set_option linter.unusedVariables false

def noDial : DialectD := ⟨⟨#[]⟩, ⟨#[]⟩, false, false, false, 0⟩
theorem DialAt.free {w : World} {b : Nat} {d : DialectD} (h : DialAt w b d) (j : Nat) : w.frozen? ⟨b, j, none⟩ = false := by
  unfold DialAt at h
  simp [World.frozen?, h]
theorem DialAt.put6 {w : World} {b : Nat} {d : DialectD} (h : DialAt w b d) (a0 a1 : ByteArray) (a2 a3 a4 : Bool) (a5 : Int) :
    DialAt ((((((w.setCell ⟨b, 0, none⟩ (.string a0)).setCell ⟨b, 1, none⟩ (.string a1)).setCell ⟨b, 2, none⟩ (.bool a2)).setCell ⟨b, 3, none⟩ (.bool a3)).setCell ⟨b, 4, none⟩ (.bool a4)).setCell ⟨b, 5, none⟩ (.int .i64 a5)) b ⟨a0, a1, a2, a3, a4, a5⟩ := by
  unfold DialAt at *
  have h1 := set_cellR _ b 0 _ _ _ (.string a0) h
  have h2 := set_cellR _ b 1 _ _ _ (.string a1) h1
  have h3 := set_cellR _ b 2 _ _ _ (.bool a2) h2
  have h4 := set_cellR _ b 3 _ _ _ (.bool a3) h3
  have h5 := set_cellR _ b 4 _ _ _ (.bool a4) h4
  have h6 := set_cellR _ b 5 _ _ _ (.int .i64 a5) h5
  rw [h6]
  rfl
theorem dial_result (w : World) (g : Nat) (x : DialectD) (fn : Func) (p : Tmp) (tmps : Array Value) (h : fn.results = #[.cell p 25]) (hp : tmps.getD p undef = .pointer (some ⟨g, 0, none⟩)) (hg : DialAt w g x) :
    (results fn tmps).run Tryd.prog w = .ok (dialectV x) w :=
  results_cell_row h _ _ g 25 _ (0, 0) _ hp hg Tryd.underlying25 rfl (by kernel_rfl)
theorem grownBy_put {w w' : World} {row : Option Nat} (h : w.grownBy w' row) (g j : Nat) (hg : w.heap.size ≤ g) (v : Value) : w.grownBy (w'.setCell ⟨g, j, none⟩ v) row :=
  ⟨h.os, h.tape, h.output, Nat.le_trans h.size (by simp [World.setCell]), fun k hk hn => (Below.heap_setCell _ _ _ k (by simp only; omega)).trans (h.block k hk hn)⟩
theorem grownBy_put6 {w w' : World} {row : Option Nat} (h : w.grownBy w' row) (g : Nat) (hg : w.heap.size ≤ g) (v0 v1 v2 v3 v4 v5 : Value) : w.grownBy ((((((w'.setCell ⟨g, 0, none⟩ v0).setCell ⟨g, 1, none⟩ v1).setCell ⟨g, 2, none⟩ v2).setCell ⟨g, 3, none⟩ v3).setCell ⟨g, 4, none⟩ v4).setCell ⟨g, 5, none⟩ v5) row :=
  grownBy_put (grownBy_put (grownBy_put (grownBy_put (grownBy_put (grownBy_put h g 0 hg v0) g 1 hg v1) g 2 hg v2) g 3 hg v3) g 4 hg v4) g 5 hg v5
theorem CurAt.put {w : World} {B b : Nat} {a : Option Addr} {len cap : Nat} (h : CurAt w B b a len cap) (g j : Nat) (hg : b < g) (v : Value) : CurAt (w.setCell ⟨g, j, none⟩ v) B b a len cap := by
  obtain ⟨i, x, hc⟩ := h
  exact ⟨i, x, hc.kept (fun k hk => Below.heap_setCell _ _ _ k (by simp only; omega)) (by simp [World.setCell])⟩
theorem CurAt.put6 {w : World} {B b : Nat} {a : Option Addr} {len cap : Nat} (h : CurAt w B b a len cap) (g : Nat) (hg : b < g) (v0 v1 v2 v3 v4 v5 : Value) : CurAt ((((((w.setCell ⟨g, 0, none⟩ v0).setCell ⟨g, 1, none⟩ v1).setCell ⟨g, 2, none⟩ v2).setCell ⟨g, 3, none⟩ v3).setCell ⟨g, 4, none⟩ v4).setCell ⟨g, 5, none⟩ v5) B b a len cap :=
  (((((h.put g 0 hg v0).put g 1 hg v1).put g 2 hg v2).put g 3 hg v3).put g 4 hg v4).put g 5 hg v5
/-- a Dialect that was drawn -/
def DrewD (w : World) (B b : Nat) (a : Option Addr) (len cap : Nat) (e : Ending) (w' : World) : Prop :=
  ∃ d : DialectD, d.notes.size ≤ 12 ∧ d.seps.size ≤ 12 ∧ e = .returned (dialectV d) ∧ CurAt w' B b a len cap ∧ w.grownBy w' (some b)
/-- what is held while a Dialect is drawn into block g -/
structure DrawH (w W : World) (B b : Nat) (a : Option Addr) (len cap g : Nat) (d : DialectD) : Prop where
  cu : CurAt W B b a len cap
  gr : w.grownBy W (some b)
  da : DialAt W g d
  ne : g ≠ b
theorem DrawH.step {w W W' : World} {B b : Nat} {a : Option Addr} {len cap g : Nat} {d : DialectD} (h : DrawH w W B b a len cap g d) (hg : W.grownBy W' (some b)) (hc : CurAt W' B b a len cap) : DrawH w W' B b a len cap g d := by
  refine ⟨hc, grownBy_step h.gr hg, ?_, h.ne⟩
  have hlt : g < W.heap.size := (Array.getElem?_eq_some_iff.1 h.da).1
  unfold DialAt
  rw [hg.block g hlt (by intro e; injection e with e; exact h.ne e)]
  exact h.da

set_option maxHeartbeats 800000 in
theorem dialect5_draw (w : World) (B b : Nat) (a : Option Addr) (len cap : Nat) (hlen : len ≤ 9223372036854775807) (hC : CurAt w B b a len cap) :
    Calls Tryd.prog 40 #[.pointer (some ⟨b, 0, none⟩)] w (DrewD w B b a len cap) := by
  have hbw := hC.lt
  have H : Hid (DrawH w (w.alloc (.cells #[.string ⟨#[]⟩, .string ⟨#[]⟩, .bool false, .bool false, .bool false, .int .i64 0] 25)) B b a len cap w.heap.size noDial) := ⟨hC.alloc _, grownBy_new (World.grownBy.refl _ _) _, heap_alloc_new _ _, by omega⟩
  clear hC
  go_enter Tryd.func40, Tryd.ntmps40
  go_wp2_with fail
  have hs0 : (w.alloc (.cells #[.string ⟨#[]⟩, .string ⟨#[]⟩, .bool false, .bool false, .bool false, .int .i64 0] 25)).heap.size = w.heap.size + 1 := by simp
  generalize w.alloc (.cells #[.string ⟨#[]⟩, .string ⟨#[]⟩, .bool false, .bool false, .bool false, .int .i64 0] 25) = w0 at *
  rw [← hs0]
  clear hs0
  have hTx : TextsAt (w0.alloc (.cells #[.string ⟨#[35]⟩, .string ⟨#[59]⟩, .string ⟨#[35, 59]⟩, .string ⟨#[35, 59, 33]⟩] 9)) w0.heap.size 4 B 12 := (by refine texts_alloc w0 _ _ _ _ ?_; decide +kernel)
  with_reducible refine (pick_draw (w0.alloc (.cells #[.string ⟨#[35]⟩, .string ⟨#[59]⟩, .string ⟨#[35, 59]⟩, .string ⟨#[35, 59, 33]⟩] 9)) B b a len cap w0.heap.size 4 4 12 hlen (H.out.cu.alloc _) (by decide) (by decide) (by have := H.out.cu.lt; omega) (by simp) hTx).mono ?_
  rintro e w1 ⟨x0, hx0, rfl, hCn, hgn⟩
  replace H := Lib.hid (H.out.step (grownBy_new (World.grownBy.refl _ _) (.cells #[.string ⟨#[35]⟩, .string ⟨#[59]⟩, .string ⟨#[35, 59]⟩, .string ⟨#[35, 59, 33]⟩] 9) |> fun h => grownBy_step h hgn) hCn)
  clear hCn hgn hTx
  go_wp2_with fail
  have hTx : TextsAt (w1.alloc (.cells #[.string ⟨#[61]⟩, .string ⟨#[61, 58]⟩, .string ⟨#[58]⟩] 9)) w1.heap.size 3 B 12 := (by refine texts_alloc w1 _ _ _ _ ?_; decide +kernel)
  with_reducible refine (pick_draw (w1.alloc (.cells #[.string ⟨#[61]⟩, .string ⟨#[61, 58]⟩, .string ⟨#[58]⟩] 9)) B b a len cap w1.heap.size 3 3 12 hlen (H.out.cu.alloc _) (by decide) (by decide) (by have := H.out.cu.lt; omega) (by simp) hTx).mono ?_
  rintro e w2 ⟨x1, hx1, rfl, hCn, hgn⟩
  replace H := Lib.hid (H.out.step (grownBy_new (World.grownBy.refl _ _) (.cells #[.string ⟨#[61]⟩, .string ⟨#[61, 58]⟩, .string ⟨#[58]⟩] 9) |> fun h => grownBy_step h hgn) hCn)
  clear hCn hgn hTx
  go_wp2_with fail
  with_reducible refine (once_draw w2 B b a len cap 2 hlen H.out.cu (by decide) (by decide)).mono ?_
  rintro e w3 ⟨x2, rfl, hCn, hgn⟩
  replace H := Lib.hid (H.out.step hgn hCn)
  clear hCn hgn
  go_wp2_with fail
  with_reducible refine (once_draw w3 B b a len cap 2 hlen H.out.cu (by decide) (by decide)).mono ?_
  rintro e w4 ⟨x3, rfl, hCn, hgn⟩
  replace H := Lib.hid (H.out.step hgn hCn)
  clear hCn hgn
  go_wp2_with fail
  with_reducible refine (once_draw w4 B b a len cap 2 hlen H.out.cu (by decide) (by decide)).mono ?_
  rintro e w5 ⟨x4, rfl, hCn, hgn⟩
  replace H := Lib.hid (H.out.step hgn hCn)
  clear hCn hgn
  go_wp2_with fail
  with_reducible refine (below_draw w5 B b a len cap 3 hlen H.out.cu (by decide) (by decide)).mono ?_
  rintro e w6 ⟨x5, hx50, hx51, rfl, hCn, hgn⟩
  replace H := Lib.hid (H.out.step hgn hCn)
  clear hCn hgn
  obtain ⟨c0, c1, c2, c3, c4, c5⟩ := H.out.da.cells
  simp only [noDial] at c0 c1 c2 c3 c4 c5
  have f0 := H.out.da.free 0
  have f1 := H.out.da.free 1
  have f2 := H.out.da.free 2
  have f3 := H.out.da.free 3
  have f4 := H.out.da.free 4
  have f5 := H.out.da.free 5
  go_wp2
  (try simp only [Exit.inBlock, Exit.then])
  exact bodyPost_ret (dial_result _ w.heap.size _ _ _ _ rfl rfl (H.out.da.put6 _ _ _ _ _ _)) rfl ⟨⟨x0, x1, x2, x3, x4, x5⟩, hx0, hx1, rfl, H.out.cu.put6 _ hbw _ _ _ _ _ _, grownBy_put6 H.out.gr _ (Nat.le_refl _) _ _ _ _ _ _⟩


theorem DialAt.set {w : World} {b g j : Nat} {d : DialectD} (h : DialAt w b d) (hne : b ≠ g) (v : Value) : DialAt (w.setCell ⟨g, j, none⟩ v) b d := by
  unfold DialAt at *
  rw [Below.heap_setCell _ _ _ b hne]
  exact h

set_option maxHeartbeats 1600000 in
theorem anyDialect5_draw (w : World) (B b : Nat) (a : Option Addr) (len cap : Nat) (hlen : len ≤ 9223372036854775807) (hC : CurAt w B b a len cap) :
    Calls Tryd.prog 21 #[.pointer (some ⟨b, 0, none⟩)] w (DrewD w B b a len cap) := by
  have hbw := hC.lt
  have H : Hid (DrawH w (w.alloc (.cells #[.string ⟨#[]⟩, .string ⟨#[]⟩, .bool false, .bool false, .bool false, .int .i64 0] 25)) B b a len cap w.heap.size noDial) := ⟨hC.alloc _, grownBy_new (World.grownBy.refl _ _) _, heap_alloc_new _ _, by omega⟩
  clear hC
  go_enter Tryd.func21, Tryd.ntmps21
  go_wp2_with fail
  have hs0 : w.heap.size < (w.alloc (.cells #[.string ⟨#[]⟩, .string ⟨#[]⟩, .bool false, .bool false, .bool false, .int .i64 0] 25)).heap.size := by simp
  generalize w.alloc (.cells #[.string ⟨#[]⟩, .string ⟨#[]⟩, .bool false, .bool false, .bool false, .int .i64 0] 25) = w0 at *
  with_reducible refine (dialect5_draw w0 B b a len cap hlen H.out.cu).mono ?_
  rintro e w1 ⟨d, hd0, hd1, rfl, hC1, hg1⟩
  replace H := Lib.hid (H.out.step hg1 hC1)
  have hs1 := Nat.lt_of_lt_of_le hs0 hg1.size
  clear hC1 hg1 hs0
  obtain ⟨d0, d1, d2, d3, d4, d5⟩ := d
  simp only at hd0 hd1
  unfold dialectV
  simp only
  have hgA : w1.grownBy (w1.alloc (.cells #[.string d0, .string d1, .bool d2, .bool d3, .bool d4, .int .i64 d5] 25)) (some b) := grownBy_new (World.grownBy.refl _ _) _
  have hbw1 := H.out.cu.lt
  have H1 : Hid (DrawH w (w1.alloc (.cells #[.string d0, .string d1, .bool d2, .bool d3, .bool d4, .int .i64 d5] 25)) B b a len cap w1.heap.size ⟨d0, d1, d2, d3, d4, d5⟩) := ⟨H.out.cu.alloc _, grownBy_step H.out.gr hgA, heap_alloc_new _ _, by omega⟩
  replace H := Lib.hid (H.out.step hgA (H.out.cu.alloc _))
  clear hgA
  go_wp2_with fail
  generalize w1.alloc (.cells #[.string d0, .string d1, .bool d2, .bool d3, .bool d4, .int .i64 d5] 25) = w2 at *
  have n1 : w.heap.size ≠ w1.heap.size := by omega
  have n2 : w1.heap.size ≠ w.heap.size := by omega
  have hbh1 : b < w1.heap.size := by omega
  have hwh1 : w.heap.size ≤ w1.heap.size := by omega
  generalize w1.heap.size = h1 at *
  with_reducible refine (below_draw w2 B b a len cap 16 hlen H.out.cu (by decide) (by decide)).mono ?_
  rintro e w3 ⟨y, hy0, hy1, rfl, hCn, hgn⟩
  replace H1 := Lib.hid (H1.out.step hgn hCn)
  replace H := Lib.hid (H.out.step hgn hCn)
  clear hCn hgn
  by_cases y0 : y = 0
  · subst y0
    go_wp2_with fail
    have hTx : TextsAt (w3.alloc (.cells #[.string ⟨#[]⟩, .string ⟨#[35, 35]⟩, .string ⟨#[120]⟩, .string ⟨#[35, 59, 33, 35]⟩] 9)) w3.heap.size 4 B 12 := (by refine texts_alloc w3 _ _ _ _ ?_; decide +kernel)
    with_reducible refine (pick_draw (w3.alloc (.cells #[.string ⟨#[]⟩, .string ⟨#[35, 35]⟩, .string ⟨#[120]⟩, .string ⟨#[35, 59, 33, 35]⟩] 9)) B b a len cap w3.heap.size 4 4 12 hlen (H.out.cu.alloc _) (by decide) (by decide) (by have := H.out.cu.lt; omega) (by simp) hTx).mono ?_
    rintro e w4 ⟨x, hx, rfl, hCn, hgn⟩
    replace H1 := Lib.hid (H1.out.step (grownBy_new (World.grownBy.refl _ _) (.cells #[.string ⟨#[]⟩, .string ⟨#[35, 35]⟩, .string ⟨#[120]⟩, .string ⟨#[35, 59, 33, 35]⟩] 9) |> fun h => grownBy_step h hgn) hCn)
    replace H := Lib.hid (H.out.step (grownBy_new (World.grownBy.refl _ _) (.cells #[.string ⟨#[]⟩, .string ⟨#[35, 35]⟩, .string ⟨#[120]⟩, .string ⟨#[35, 59, 33, 35]⟩] 9) |> fun h => grownBy_step h hgn) hCn)
    clear hCn hgn hTx
    obtain ⟨c0, c1, c2, c3, c4, c5⟩ := H.out.da.cells
    simp only [noDial] at c0 c1 c2 c3 c4 c5
    have f0 := H.out.da.free 0
    have f1 := H.out.da.free 1
    have f2 := H.out.da.free 2
    have f3 := H.out.da.free 3
    have f4 := H.out.da.free 4
    have f5 := H.out.da.free 5
    obtain ⟨g0, g1, g2, g3, g4, g5⟩ := H1.out.da.cells
    simp only at g0 g1 g2 g3 g4 g5
    have fg0 := H1.out.da.free 0
    have fg1 := H1.out.da.free 1
    have fg5 := H1.out.da.free 5
    go_wp2
    (try simp only [Exit.inBlock, Exit.then])
    exact bodyPost_ret (dial_result _ w.heap.size _ _ _ _ rfl rfl ((H.out.da.set (g := h1) (j := 0) n1 _).put6 _ _ _ _ _ _)) rfl ⟨⟨x, d1, d2, d3, d4, d5⟩, hx, hd1, rfl, (H.out.cu.put h1 0 hbh1 _).put6 _ hbw _ _ _ _ _ _, grownBy_put6 (grownBy_put H.out.gr h1 0 hwh1 _) _ (Nat.le_refl _) _ _ _ _ _ _⟩
  · have e0 : (y == 0) = false := by simpa using y0
    by_cases y1 : y = 1
    · subst y1
      clear e0 y0
      go_wp2_with fail
      have hTx : TextsAt (w3.alloc (.cells #[.string ⟨#[]⟩, .string ⟨#[61, 61]⟩, .string ⟨#[35]⟩] 9)) w3.heap.size 3 B 12 := (by refine texts_alloc w3 _ _ _ _ ?_; decide +kernel)
      with_reducible refine (pick_draw (w3.alloc (.cells #[.string ⟨#[]⟩, .string ⟨#[61, 61]⟩, .string ⟨#[35]⟩] 9)) B b a len cap w3.heap.size 3 3 12 hlen (H.out.cu.alloc _) (by decide) (by decide) (by have := H.out.cu.lt; omega) (by simp) hTx).mono ?_
      rintro e w4 ⟨x, hx, rfl, hCn, hgn⟩
      replace H1 := Lib.hid (H1.out.step (grownBy_new (World.grownBy.refl _ _) (.cells #[.string ⟨#[]⟩, .string ⟨#[61, 61]⟩, .string ⟨#[35]⟩] 9) |> fun h => grownBy_step h hgn) hCn)
      replace H := Lib.hid (H.out.step (grownBy_new (World.grownBy.refl _ _) (.cells #[.string ⟨#[]⟩, .string ⟨#[61, 61]⟩, .string ⟨#[35]⟩] 9) |> fun h => grownBy_step h hgn) hCn)
      clear hCn hgn hTx
      obtain ⟨c0, c1, c2, c3, c4, c5⟩ := H.out.da.cells
      simp only [noDial] at c0 c1 c2 c3 c4 c5
      have f0 := H.out.da.free 0
      have f1 := H.out.da.free 1
      have f2 := H.out.da.free 2
      have f3 := H.out.da.free 3
      have f4 := H.out.da.free 4
      have f5 := H.out.da.free 5
      obtain ⟨g0, g1, g2, g3, g4, g5⟩ := H1.out.da.cells
      simp only at g0 g1 g2 g3 g4 g5
      have fg0 := H1.out.da.free 0
      have fg1 := H1.out.da.free 1
      have fg5 := H1.out.da.free 5
      go_wp2
      (try simp only [Exit.inBlock, Exit.then])
      exact bodyPost_ret (dial_result _ w.heap.size _ _ _ _ rfl rfl ((H.out.da.set (g := h1) (j := 1) n1 _).put6 _ _ _ _ _ _)) rfl ⟨⟨d0, x, d2, d3, d4, d5⟩, hd0, hx, rfl, (H.out.cu.put h1 1 hbh1 _).put6 _ hbw _ _ _ _ _ _, grownBy_put6 (grownBy_put H.out.gr h1 1 hwh1 _) _ (Nat.le_refl _) _ _ _ _ _ _⟩
    · have e1 : (y == 1) = false := by simpa using y1
      by_cases y2 : y = 2
      · subst y2
        clear e0 y0 e1 y1
        go_wp2_with fail
        have hIx : IntsAt (w3.alloc (.cells #[.int .i64 (-1), .int .i64 3] 3)) w3.heap.size 2 := by
          intro i hi
          match i, hi with
          | 0, _ => exact ⟨-1, by decide, by decide, by simp⟩
          | 1, _ => exact ⟨3, by decide, by decide, by simp⟩
        with_reducible refine (pickInt_draw (w3.alloc (.cells #[.int .i64 (-1), .int .i64 3] 3)) B b a len cap w3.heap.size 2 2 hlen (H.out.cu.alloc _) (by decide) (by decide) (by have := H.out.cu.lt; omega) (by simp) hIx).mono ?_
        rintro e w4 ⟨x, hx0, hx1, rfl, hCn, hgn⟩
        have hgp := grownBy_step (grownBy_new (World.grownBy.refl w3 (some b)) (.cells #[.int .i64 (-1), .int .i64 3] 3)) hgn
        replace H1 := Lib.hid (H1.out.step hgp hCn)
        replace H := Lib.hid (H.out.step hgp hCn)
        clear hCn hgn hgp hIx
        obtain ⟨c0, c1, c2, c3, c4, c5⟩ := H.out.da.cells
        simp only [noDial] at c0 c1 c2 c3 c4 c5
        have f0 := H.out.da.free 0
        have f1 := H.out.da.free 1
        have f2 := H.out.da.free 2
        have f3 := H.out.da.free 3
        have f4 := H.out.da.free 4
        have f5 := H.out.da.free 5
        obtain ⟨g0, g1, g2, g3, g4, g5⟩ := H1.out.da.cells
        simp only at g0 g1 g2 g3 g4 g5
        have fg0 := H1.out.da.free 0
        have fg1 := H1.out.da.free 1
        have fg5 := H1.out.da.free 5
        go_wp2
        (try simp only [Exit.inBlock, Exit.then])
        exact bodyPost_ret (dial_result _ w.heap.size _ _ _ _ rfl rfl ((H.out.da.set (g := h1) (j := 5) n1 _).put6 _ _ _ _ _ _)) rfl ⟨⟨d0, d1, d2, d3, d4, x⟩, hd0, hd1, rfl, (H.out.cu.put h1 5 hbh1 _).put6 _ hbw _ _ _ _ _ _, grownBy_put6 (grownBy_put H.out.gr h1 5 hwh1 _) _ (Nat.le_refl _) _ _ _ _ _ _⟩
      · have e2 : (y == 2) = false := by simpa using y2
        clear y0 y1 y2
        obtain ⟨c0, c1, c2, c3, c4, c5⟩ := H.out.da.cells
        simp only [noDial] at c0 c1 c2 c3 c4 c5
        have f0 := H.out.da.free 0
        have f1 := H.out.da.free 1
        have f2 := H.out.da.free 2
        have f3 := H.out.da.free 3
        have f4 := H.out.da.free 4
        have f5 := H.out.da.free 5
        obtain ⟨g0, g1, g2, g3, g4, g5⟩ := H1.out.da.cells
        simp only at g0 g1 g2 g3 g4 g5
        have fg0 := H1.out.da.free 0
        have fg1 := H1.out.da.free 1
        have fg5 := H1.out.da.free 5
        go_wp2
        (try simp only [Exit.inBlock, Exit.then])
        exact bodyPost_ret (dial_result _ w.heap.size _ _ _ _ rfl rfl (H.out.da.put6 _ _ _ _ _ _)) rfl ⟨⟨d0, d1, d2, d3, d4, d5⟩, hd0, hd1, rfl, H.out.cu.put6 _ hbw _ _ _ _ _ _, grownBy_put6 H.out.gr _ (Nat.le_refl _) _ _ _ _ _ _⟩

end Go.Proofs.YtkhkpjnpjgnckaaDoor
