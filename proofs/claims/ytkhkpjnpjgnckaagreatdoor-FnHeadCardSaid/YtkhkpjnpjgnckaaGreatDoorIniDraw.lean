/- The contract of l01Bent: some text. -/
import Derived.Test.YtkhkpjnpjgnckaaGreatDoorProg
import Derived.Test.YtkhkpjnpjgnckaaGreatDoorPlain
import Derived.Test.YtkhkpjnpjgnckaaGreatDoorDraw
import Derived.Test.YtkhkpjnpjgnckaaGreatDoorDrawNum
import Derived.WalkKit
import Derived.WalkLawsBesides
import Derived.BigQuiet
import Derived.Deep.QuietTactic
import Derived.Deep.RegionWith
import Derived.Lib.Hide
import Derived.IntWalk
import Derived.Test.YtkhkpjnpjgnckaaGreatDoorDialectRows
import Derived.Test.YtkhkpjnpjgnckaaGreatDoorQuotSpec
import Derived.OwnWalk
import Derived.Laws.IdiomStrings
import Derived.Outline
import Derived.Test.YtkhkpjnpjgnckaaGreatDoorHeadSpec
namespace Go.Proofs.YtkhkpjnpjgnckaaGreatDoor
open Go.RowKit
set_option linter.unusedVariables false

def DrewT (m : Nat) (w : World) (B b : Nat) (a : Option Addr) (len cap : Nat) (e : Ending) (w' : World) : Prop :=
  ∃ s : ByteArray, s.size ≤ m ∧ e = .returned (.string s) ∧ CurAt w' B b a len cap ∧ w.grownBy w' (some b)

end Go.Proofs.YtkhkpjnpjgnckaaGreatDoor

/- The draws of files with sections, and of Dialects. -/
set_option maxRecDepth 100000
namespace Go.Proofs.YtkhkpjnpjgnckaaGreatDoor
open Go.RowKit
set_option linter.unusedVariables false


end Go.Proofs.YtkhkpjnpjgnckaaGreatDoor

/- The draws of Dialects, and DrawParseIni. -/
set_option maxRecDepth 100000
namespace Go.Proofs.YtkhkpjnpjgnckaaGreatDoor
open Go.RowKit
set_option linter.unusedVariables false

def noDial : DialectD := ⟨⟨#[]⟩, ⟨#[]⟩, false, false, false, 0⟩
theorem DialAt.free {w : World} {b : Nat} {d : DialectD} (h : DialAt w b d) (j : Nat) : w.frozen? ⟨b, j, none⟩ = false := by
  unfold DialAt at h
  simp [World.frozen?, h]
theorem DialAt.put6 {w : World} {b : Nat} {d : DialectD} (h : DialAt w b d) (a0 a1 : ByteArray) (a2 a3 a4 : Bool) (a5 : Int) :
    DialAt ((((((w.setCell ⟨b, 0, none⟩ (.string a0)).setCell ⟨b, 1, none⟩ (.string a1)).setCell ⟨b, 2, none⟩ (.bool a2)).setCell ⟨b, 3, none⟩ (.bool a3)).setCell ⟨b, 4, none⟩ (.bool a4)).setCell ⟨b, 5, none⟩ (.int .i64 a5)) b ⟨a0, a1, a2, a3, a4, a5⟩ := by
  unfold DialAt at *
  have h1 := set_cellR _ b 0 _ _ _ (.string a0) h
  have h2 := set_cellR _ b 1 _ _ _ (.string a1) h1
  have h3 := set_cellR _ b 2 _ _ _ (.bool a2) h2
  have h4 := set_cellR _ b 3 _ _ _ (.bool a3) h3
  have h5 := set_cellR _ b 4 _ _ _ (.bool a4) h4
  have h6 := set_cellR _ b 5 _ _ _ (.int .i64 a5) h5
  rw [h6]
  rfl
theorem dial_result (w : World) (g : Nat) (x : DialectD) (fn : Func) (p : Tmp) (tmps : Array Value) (h : fn.results = #[.cell p 25]) (hp : tmps.getD p undef = .pointer (some ⟨g, 0, none⟩)) (hg : DialAt w g x) :
    (results fn tmps).run Tryz.prog w = .ok (dialectV x) w :=
  results_cell_row h _ _ g 25 _ (0, 0) _ hp hg Tryz.underlying25 rfl (by kernel_rfl)
theorem grownBy_put {w w' : World} {row : Option Nat} (h : w.grownBy w' row) (g j : Nat) (hg : w.heap.size ≤ g) (v : Value) : w.grownBy (w'.setCell ⟨g, j, none⟩ v) row :=
  ⟨h.os, h.tape, h.output, Nat.le_trans h.size (by simp [World.setCell]), fun k hk hn => (Below.heap_setCell _ _ _ k (by simp only; omega)).trans (h.block k hk hn)⟩
theorem grownBy_put6 {w w' : World} {row : Option Nat} (h : w.grownBy w' row) (g : Nat) (hg : w.heap.size ≤ g) (v0 v1 v2 v3 v4 v5 : Value) : w.grownBy ((((((w'.setCell ⟨g, 0, none⟩ v0).setCell ⟨g, 1, none⟩ v1).setCell ⟨g, 2, none⟩ v2).setCell ⟨g, 3, none⟩ v3).setCell ⟨g, 4, none⟩ v4).setCell ⟨g, 5, none⟩ v5) row :=
  grownBy_put (grownBy_put (grownBy_put (grownBy_put (grownBy_put (grownBy_put h g 0 hg v0) g 1 hg v1) g 2 hg v2) g 3 hg v3) g 4 hg v4) g 5 hg v5
theorem CurAt.put {w : World} {B b : Nat} {a : Option Addr} {len cap : Nat} (h : CurAt w B b a len cap) (g j : Nat) (hg : b < g) (v : Value) : CurAt (w.setCell ⟨g, j, none⟩ v) B b a len cap := by
  obtain ⟨i, x, hc⟩ := h
  exact ⟨i, x, hc.kept (fun k hk => Below.heap_setCell _ _ _ k (by simp only; omega)) (by simp [World.setCell])⟩
theorem CurAt.put6 {w : World} {B b : Nat} {a : Option Addr} {len cap : Nat} (h : CurAt w B b a len cap) (g : Nat) (hg : b < g) (v0 v1 v2 v3 v4 v5 : Value) : CurAt ((((((w.setCell ⟨g, 0, none⟩ v0).setCell ⟨g, 1, none⟩ v1).setCell ⟨g, 2, none⟩ v2).setCell ⟨g, 3, none⟩ v3).setCell ⟨g, 4, none⟩ v4).setCell ⟨g, 5, none⟩ v5) B b a len cap :=
  (((((h.put g 0 hg v0).put g 1 hg v1).put g 2 hg v2).put g 3 hg v3).put g 4 hg v4).put g 5 hg v5
/-- a Dialect that was drawn -/
def DrewD (w : World) (B b : Nat) (a : Option Addr) (len cap : Nat) (e : Ending) (w' : World) : Prop :=
  ∃ d : DialectD, d.notes.size ≤ 12 ∧ d.seps.size ≤ 12 ∧ e = .returned (dialectV d) ∧ CurAt w' B b a len cap ∧ w.grownBy w' (some b)
/-- what is held while a Dialect is drawn into block g -/
structure DrawH (w W : World) (B b : Nat) (a : Option Addr) (len cap g : Nat) (d : DialectD) : Prop where
  cu : CurAt W B b a len cap
  gr : w.grownBy W (some b)
  da : DialAt W g d
  ne : g ≠ b
theorem DrawH.step {w W W' : World} {B b : Nat} {a : Option Addr} {len cap g : Nat} {d : DialectD} (h : DrawH w W B b a len cap g d) (hg : W.grownBy W' (some b)) (hc : CurAt W' B b a len cap) : DrawH w W' B b a len cap g d := by
  refine ⟨hc, grownBy_step h.gr hg, ?_, h.ne⟩
  have hlt : g < W.heap.size := (Array.getElem?_eq_some_iff.1 h.da).1
  unfold DialAt
  rw [hg.block g hlt (by intro e; injection e with e; exact h.ne e)]
  exact h.da

set_option maxHeartbeats 800000 in
theorem dialect5_draw (w : World) (B b : Nat) (a : Option Addr) (len cap : Nat) (hlen : len ≤ 9223372036854775807) (hC : CurAt w B b a len cap) :
    Calls Tryz.prog 48 #[.pointer (some ⟨b, 0, none⟩)] w (DrewD w B b a len cap) := by
  have hbw := hC.lt
  have H : Hid (DrawH w (w.alloc (.cells #[.string ⟨#[]⟩, .string ⟨#[]⟩, .bool false, .bool false, .bool false, .int .i64 0] 25)) B b a len cap w.heap.size noDial) := ⟨hC.alloc _, grownBy_new (World.grownBy.refl _ _) _, heap_alloc_new _ _, by omega⟩
  clear hC
  go_enter Tryz.func48, Tryz.ntmps48
  go_wp2_with fail
  have hs0 : (w.alloc (.cells #[.string ⟨#[]⟩, .string ⟨#[]⟩, .bool false, .bool false, .bool false, .int .i64 0] 25)).heap.size = w.heap.size + 1 := by simp
  generalize w.alloc (.cells #[.string ⟨#[]⟩, .string ⟨#[]⟩, .bool false, .bool false, .bool false, .int .i64 0] 25) = w0 at *
  rw [← hs0]
  clear hs0
  have hTx : TextsAt (w0.alloc (.cells #[.string ⟨#[35]⟩, .string ⟨#[59]⟩, .string ⟨#[35, 59]⟩, .string ⟨#[35, 59, 33]⟩] 9)) w0.heap.size 4 B 12 := (by refine texts_alloc w0 _ _ _ _ ?_; decide +kernel)
  with_reducible refine (pick_draw (w0.alloc (.cells #[.string ⟨#[35]⟩, .string ⟨#[59]⟩, .string ⟨#[35, 59]⟩, .string ⟨#[35, 59, 33]⟩] 9)) B b a len cap w0.heap.size 4 4 12 hlen (H.out.cu.alloc _) (by decide) (by decide) (by have := H.out.cu.lt; omega) (by simp) hTx).mono ?_
  rintro e w1 ⟨x0, hx0, rfl, hCn, hgn⟩
  replace H := Lib.hid (H.out.step (grownBy_new (World.grownBy.refl _ _) (.cells #[.string ⟨#[35]⟩, .string ⟨#[59]⟩, .string ⟨#[35, 59]⟩, .string ⟨#[35, 59, 33]⟩] 9) |> fun h => grownBy_step h hgn) hCn)
  clear hCn hgn hTx
  go_wp2_with fail
  have hTx : TextsAt (w1.alloc (.cells #[.string ⟨#[61]⟩, .string ⟨#[61, 58]⟩, .string ⟨#[58]⟩] 9)) w1.heap.size 3 B 12 := (by refine texts_alloc w1 _ _ _ _ ?_; decide +kernel)
  with_reducible refine (pick_draw (w1.alloc (.cells #[.string ⟨#[61]⟩, .string ⟨#[61, 58]⟩, .string ⟨#[58]⟩] 9)) B b a len cap w1.heap.size 3 3 12 hlen (H.out.cu.alloc _) (by decide) (by decide) (by have := H.out.cu.lt; omega) (by simp) hTx).mono ?_
  rintro e w2 ⟨x1, hx1, rfl, hCn, hgn⟩
  replace H := Lib.hid (H.out.step (grownBy_new (World.grownBy.refl _ _) (.cells #[.string ⟨#[61]⟩, .string ⟨#[61, 58]⟩, .string ⟨#[58]⟩] 9) |> fun h => grownBy_step h hgn) hCn)
  clear hCn hgn hTx
  go_wp2_with fail
  with_reducible refine (once_draw w2 B b a len cap 2 hlen H.out.cu (by decide) (by decide)).mono ?_
  rintro e w3 ⟨x2, rfl, hCn, hgn⟩
  replace H := Lib.hid (H.out.step hgn hCn)
  clear hCn hgn
  go_wp2_with fail
  with_reducible refine (once_draw w3 B b a len cap 2 hlen H.out.cu (by decide) (by decide)).mono ?_
  rintro e w4 ⟨x3, rfl, hCn, hgn⟩
  replace H := Lib.hid (H.out.step hgn hCn)
  clear hCn hgn
  go_wp2_with fail
  with_reducible refine (once_draw w4 B b a len cap 2 hlen H.out.cu (by decide) (by decide)).mono ?_
  rintro e w5 ⟨x4, rfl, hCn, hgn⟩
  replace H := Lib.hid (H.out.step hgn hCn)
  clear hCn hgn
  go_wp2_with fail
  with_reducible refine (below_draw w5 B b a len cap 3 hlen H.out.cu (by decide) (by decide)).mono ?_
  rintro e w6 ⟨x5, hx50, hx51, rfl, hCn, hgn⟩
  replace H := Lib.hid (H.out.step hgn hCn)
  clear hCn hgn
  obtain ⟨c0, c1, c2, c3, c4, c5⟩ := H.out.da.cells
  simp only [noDial] at c0 c1 c2 c3 c4 c5
  have f0 := H.out.da.free 0
  have f1 := H.out.da.free 1
  have f2 := H.out.da.free 2
  have f3 := H.out.da.free 3
  have f4 := H.out.da.free 4
  have f5 := H.out.da.free 5
  go_wp2
  (try simp only [Exit.inBlock, Exit.then])
  exact bodyPost_ret (dial_result _ w.heap.size _ _ _ _ rfl rfl (H.out.da.put6 _ _ _ _ _ _)) rfl ⟨⟨x0, x1, x2, x3, x4, x5⟩, hx0, hx1, rfl, H.out.cu.put6 _ hbw _ _ _ _ _ _, grownBy_put6 H.out.gr _ (Nat.le_refl _) _ _ _ _ _ _⟩


theorem DialAt.set {w : World} {b g j : Nat} {d : DialectD} (h : DialAt w b d) (hne : b ≠ g) (v : Value) : DialAt (w.setCell ⟨g, j, none⟩ v) b d := by
  unfold DialAt at *
  rw [Below.heap_setCell _ _ _ b hne]
  exact h

set_option maxHeartbeats 1600000 in
theorem anyDialect5_draw (w : World) (B b : Nat) (a : Option Addr) (len cap : Nat) (hlen : len ≤ 9223372036854775807) (hC : CurAt w B b a len cap) :
    Calls Tryz.prog 22 #[.pointer (some ⟨b, 0, none⟩)] w (DrewD w B b a len cap) := by
  have hbw := hC.lt
  have H : Hid (DrawH w (w.alloc (.cells #[.string ⟨#[]⟩, .string ⟨#[]⟩, .bool false, .bool false, .bool false, .int .i64 0] 25)) B b a len cap w.heap.size noDial) := ⟨hC.alloc _, grownBy_new (World.grownBy.refl _ _) _, heap_alloc_new _ _, by omega⟩
  clear hC
  go_enter Tryz.func22, Tryz.ntmps22
  go_wp2_with fail
  have hs0 : w.heap.size < (w.alloc (.cells #[.string ⟨#[]⟩, .string ⟨#[]⟩, .bool false, .bool false, .bool false, .int .i64 0] 25)).heap.size := by simp
  generalize w.alloc (.cells #[.string ⟨#[]⟩, .string ⟨#[]⟩, .bool false, .bool false, .bool false, .int .i64 0] 25) = w0 at *
  with_reducible refine (dialect5_draw w0 B b a len cap hlen H.out.cu).mono ?_
  rintro e w1 ⟨d, hd0, hd1, rfl, hC1, hg1⟩
  replace H := Lib.hid (H.out.step hg1 hC1)
  have hs1 := Nat.lt_of_lt_of_le hs0 hg1.size
  clear hC1 hg1 hs0
  obtain ⟨d0, d1, d2, d3, d4, d5⟩ := d
  simp only at hd0 hd1
  unfold dialectV
  simp only
  have hgA : w1.grownBy (w1.alloc (.cells #[.string d0, .string d1, .bool d2, .bool d3, .bool d4, .int .i64 d5] 25)) (some b) := grownBy_new (World.grownBy.refl _ _) _
  have hbw1 := H.out.cu.lt
  have H1 : Hid (DrawH w (w1.alloc (.cells #[.string d0, .string d1, .bool d2, .bool d3, .bool d4, .int .i64 d5] 25)) B b a len cap w1.heap.size ⟨d0, d1, d2, d3, d4, d5⟩) := ⟨H.out.cu.alloc _, grownBy_step H.out.gr hgA, heap_alloc_new _ _, by omega⟩
  replace H := Lib.hid (H.out.step hgA (H.out.cu.alloc _))
  clear hgA
  go_wp2_with fail
  generalize w1.alloc (.cells #[.string d0, .string d1, .bool d2, .bool d3, .bool d4, .int .i64 d5] 25) = w2 at *
  have n1 : w.heap.size ≠ w1.heap.size := by omega
  have n2 : w1.heap.size ≠ w.heap.size := by omega
  have hbh1 : b < w1.heap.size := by omega
  have hwh1 : w.heap.size ≤ w1.heap.size := by omega
  generalize w1.heap.size = h1 at *
  with_reducible refine (below_draw w2 B b a len cap 16 hlen H.out.cu (by decide) (by decide)).mono ?_
  rintro e w3 ⟨y, hy0, hy1, rfl, hCn, hgn⟩
  replace H1 := Lib.hid (H1.out.step hgn hCn)
  replace H := Lib.hid (H.out.step hgn hCn)
  clear hCn hgn
  by_cases y0 : y = 0
  · subst y0
    go_wp2_with fail
    have hTx : TextsAt (w3.alloc (.cells #[.string ⟨#[]⟩, .string ⟨#[35, 35]⟩, .string ⟨#[120]⟩, .string ⟨#[35, 59, 33, 35]⟩] 9)) w3.heap.size 4 B 12 := (by refine texts_alloc w3 _ _ _ _ ?_; decide +kernel)
    with_reducible refine (pick_draw (w3.alloc (.cells #[.string ⟨#[]⟩, .string ⟨#[35, 35]⟩, .string ⟨#[120]⟩, .string ⟨#[35, 59, 33, 35]⟩] 9)) B b a len cap w3.heap.size 4 4 12 hlen (H.out.cu.alloc _) (by decide) (by decide) (by have := H.out.cu.lt; omega) (by simp) hTx).mono ?_
    rintro e w4 ⟨x, hx, rfl, hCn, hgn⟩
    replace H1 := Lib.hid (H1.out.step (grownBy_new (World.grownBy.refl _ _) (.cells #[.string ⟨#[]⟩, .string ⟨#[35, 35]⟩, .string ⟨#[120]⟩, .string ⟨#[35, 59, 33, 35]⟩] 9) |> fun h => grownBy_step h hgn) hCn)
    replace H := Lib.hid (H.out.step (grownBy_new (World.grownBy.refl _ _) (.cells #[.string ⟨#[]⟩, .string ⟨#[35, 35]⟩, .string ⟨#[120]⟩, .string ⟨#[35, 59, 33, 35]⟩] 9) |> fun h => grownBy_step h hgn) hCn)
    clear hCn hgn hTx
    obtain ⟨c0, c1, c2, c3, c4, c5⟩ := H.out.da.cells
    simp only [noDial] at c0 c1 c2 c3 c4 c5
    have f0 := H.out.da.free 0
    have f1 := H.out.da.free 1
    have f2 := H.out.da.free 2
    have f3 := H.out.da.free 3
    have f4 := H.out.da.free 4
    have f5 := H.out.da.free 5
    obtain ⟨g0, g1, g2, g3, g4, g5⟩ := H1.out.da.cells
    simp only at g0 g1 g2 g3 g4 g5
    have fg0 := H1.out.da.free 0
    have fg1 := H1.out.da.free 1
    have fg5 := H1.out.da.free 5
    go_wp2
    (try simp only [Exit.inBlock, Exit.then])
    exact bodyPost_ret (dial_result _ w.heap.size _ _ _ _ rfl rfl ((H.out.da.set (g := h1) (j := 0) n1 _).put6 _ _ _ _ _ _)) rfl ⟨⟨x, d1, d2, d3, d4, d5⟩, hx, hd1, rfl, (H.out.cu.put h1 0 hbh1 _).put6 _ hbw _ _ _ _ _ _, grownBy_put6 (grownBy_put H.out.gr h1 0 hwh1 _) _ (Nat.le_refl _) _ _ _ _ _ _⟩
  · have e0 : (y == 0) = false := by simpa using y0
    by_cases y1 : y = 1
    · subst y1
      clear e0 y0
      go_wp2_with fail
      have hTx : TextsAt (w3.alloc (.cells #[.string ⟨#[]⟩, .string ⟨#[61, 61]⟩, .string ⟨#[35]⟩] 9)) w3.heap.size 3 B 12 := (by refine texts_alloc w3 _ _ _ _ ?_; decide +kernel)
      with_reducible refine (pick_draw (w3.alloc (.cells #[.string ⟨#[]⟩, .string ⟨#[61, 61]⟩, .string ⟨#[35]⟩] 9)) B b a len cap w3.heap.size 3 3 12 hlen (H.out.cu.alloc _) (by decide) (by decide) (by have := H.out.cu.lt; omega) (by simp) hTx).mono ?_
      rintro e w4 ⟨x, hx, rfl, hCn, hgn⟩
      replace H1 := Lib.hid (H1.out.step (grownBy_new (World.grownBy.refl _ _) (.cells #[.string ⟨#[]⟩, .string ⟨#[61, 61]⟩, .string ⟨#[35]⟩] 9) |> fun h => grownBy_step h hgn) hCn)
      replace H := Lib.hid (H.out.step (grownBy_new (World.grownBy.refl _ _) (.cells #[.string ⟨#[]⟩, .string ⟨#[61, 61]⟩, .string ⟨#[35]⟩] 9) |> fun h => grownBy_step h hgn) hCn)
      clear hCn hgn hTx
      obtain ⟨c0, c1, c2, c3, c4, c5⟩ := H.out.da.cells
      simp only [noDial] at c0 c1 c2 c3 c4 c5
      have f0 := H.out.da.free 0
      have f1 := H.out.da.free 1
      have f2 := H.out.da.free 2
      have f3 := H.out.da.free 3
      have f4 := H.out.da.free 4
      have f5 := H.out.da.free 5
      obtain ⟨g0, g1, g2, g3, g4, g5⟩ := H1.out.da.cells
      simp only at g0 g1 g2 g3 g4 g5
      have fg0 := H1.out.da.free 0
      have fg1 := H1.out.da.free 1
      have fg5 := H1.out.da.free 5
      go_wp2
      (try simp only [Exit.inBlock, Exit.then])
      exact bodyPost_ret (dial_result _ w.heap.size _ _ _ _ rfl rfl ((H.out.da.set (g := h1) (j := 1) n1 _).put6 _ _ _ _ _ _)) rfl ⟨⟨d0, x, d2, d3, d4, d5⟩, hd0, hx, rfl, (H.out.cu.put h1 1 hbh1 _).put6 _ hbw _ _ _ _ _ _, grownBy_put6 (grownBy_put H.out.gr h1 1 hwh1 _) _ (Nat.le_refl _) _ _ _ _ _ _⟩
    · have e1 : (y == 1) = false := by simpa using y1
      by_cases y2 : y = 2
      · subst y2
        clear e0 y0 e1 y1
        go_wp2_with fail
        have hIx : IntsAt (w3.alloc (.cells #[.int .i64 (-1), .int .i64 3] 3)) w3.heap.size 2 := by
          intro i hi
          match i, hi with
          | 0, _ => exact ⟨-1, by decide, by decide, by simp⟩
          | 1, _ => exact ⟨3, by decide, by decide, by simp⟩
        with_reducible refine (pickInt_draw (w3.alloc (.cells #[.int .i64 (-1), .int .i64 3] 3)) B b a len cap w3.heap.size 2 2 hlen (H.out.cu.alloc _) (by decide) (by decide) (by have := H.out.cu.lt; omega) (by simp) hIx).mono ?_
        rintro e w4 ⟨x, hx0, hx1, rfl, hCn, hgn⟩
        have hgp := grownBy_step (grownBy_new (World.grownBy.refl w3 (some b)) (.cells #[.int .i64 (-1), .int .i64 3] 3)) hgn
        replace H1 := Lib.hid (H1.out.step hgp hCn)
        replace H := Lib.hid (H.out.step hgp hCn)
        clear hCn hgn hgp hIx
        obtain ⟨c0, c1, c2, c3, c4, c5⟩ := H.out.da.cells
        simp only [noDial] at c0 c1 c2 c3 c4 c5
        have f0 := H.out.da.free 0
        have f1 := H.out.da.free 1
        have f2 := H.out.da.free 2
        have f3 := H.out.da.free 3
        have f4 := H.out.da.free 4
        have f5 := H.out.da.free 5
        obtain ⟨g0, g1, g2, g3, g4, g5⟩ := H1.out.da.cells
        simp only at g0 g1 g2 g3 g4 g5
        have fg0 := H1.out.da.free 0
        have fg1 := H1.out.da.free 1
        have fg5 := H1.out.da.free 5
        go_wp2
        (try simp only [Exit.inBlock, Exit.then])
        exact bodyPost_ret (dial_result _ w.heap.size _ _ _ _ rfl rfl ((H.out.da.set (g := h1) (j := 5) n1 _).put6 _ _ _ _ _ _)) rfl ⟨⟨d0, d1, d2, d3, d4, x⟩, hd0, hd1, rfl, (H.out.cu.put h1 5 hbh1 _).put6 _ hbw _ _ _ _ _ _, grownBy_put6 (grownBy_put H.out.gr h1 5 hwh1 _) _ (Nat.le_refl _) _ _ _ _ _ _⟩
      · have e2 : (y == 2) = false := by simpa using y2
        clear y0 y1 y2
        obtain ⟨c0, c1, c2, c3, c4, c5⟩ := H.out.da.cells
        simp only [noDial] at c0 c1 c2 c3 c4 c5
        have f0 := H.out.da.free 0
        have f1 := H.out.da.free 1
        have f2 := H.out.da.free 2
        have f3 := H.out.da.free 3
        have f4 := H.out.da.free 4
        have f5 := H.out.da.free 5
        obtain ⟨g0, g1, g2, g3, g4, g5⟩ := H1.out.da.cells
        simp only at g0 g1 g2 g3 g4 g5
        have fg0 := H1.out.da.free 0
        have fg1 := H1.out.da.free 1
        have fg5 := H1.out.da.free 5
        go_wp2
        (try simp only [Exit.inBlock, Exit.then])
        exact bodyPost_ret (dial_result _ w.heap.size _ _ _ _ rfl rfl (H.out.da.put6 _ _ _ _ _ _)) rfl ⟨⟨d0, d1, d2, d3, d4, d5⟩, hd0, hd1, rfl, H.out.cu.put6 _ hbw _ _ _ _ _ _, grownBy_put6 H.out.gr _ (Nat.le_refl _) _ _ _ _ _ _⟩

end Go.Proofs.YtkhkpjnpjgnckaaGreatDoor

/- The draw of a file with sections and a Dialect. -/
set_option maxRecDepth 100000
namespace Go.Proofs.YtkhkpjnpjgnckaaGreatDoor
open Go.RowKit
set_option linter.unusedVariables false

theorem results_tail1 {P : Program} {fn : Func} {p u : Tmp} {ty : TypeId} (h : fn.results = #[.tmp u, .cell p ty]) (tmps : Array Value) (w : World) (g : Nat) (t : TypeId) (cs : Array Value) (fr : Nat × Nat) (d : TypeDesc)
    (hp : tmps.getD p undef = .pointer (some ⟨g, 0, none⟩)) (hg : w.heap[g]? = some (.cells cs t fr))
    (hu : P.underlying ty = some d) (hd : (match d with | .struct _ | .array _ _ => true | _ => false) = true) (hi : (P.info? ty).map (·.size) = some cs.size) :
    (results fn tmps).run P w = .ok (.tuple #[tmps.getD u undef, .agg cs]) w := by
  have hp' : tmps[p]?.getD undef = .pointer (some ⟨g, 0, none⟩) := by simpa using hp
  simp [results, h, hp', asAddr, run_loadVar_row w g t ty cs fr d hg hu hd hi]
/-- a text and a Dialect that were drawn -/
def DrewTD (w : World) (e : Ending) (w' : World) : Prop :=
  ∃ (s : ByteArray) (d : DialectD), s.size ≤ 1700 ∧ d.notes.size ≤ 12 ∧ d.seps.size ≤ 12 ∧ e = .returned (.tuple #[.string s, dialectV d]) ∧ Below w.heap.size w w'
theorem below_puts6 {B : Nat} {w0 w : World} (h : Below B w0 w) (g : Nat) (hg : B ≤ g) (v0 v1 v2 v3 v4 v5 : Value) : Below B w0 ((((((w.setCell ⟨g, 0, none⟩ v0).setCell ⟨g, 1, none⟩ v1).setCell ⟨g, 2, none⟩ v2).setCell ⟨g, 3, none⟩ v3).setCell ⟨g, 4, none⟩ v4).setCell ⟨g, 5, none⟩ v5) :=
  (((((h.setCell (p := ⟨g, 0, none⟩) hg _).setCell (p := ⟨g, 1, none⟩) hg _).setCell (p := ⟨g, 2, none⟩) hg _).setCell (p := ⟨g, 3, none⟩) hg _).setCell (p := ⟨g, 4, none⟩) hg _).setCell (p := ⟨g, 5, none⟩) hg _

end Go.Proofs.YtkhkpjnpjgnckaaGreatDoor

/- The draw of IniHead: one of nine names, and a Dialect. -/
set_option maxRecDepth 100000
namespace Go.Proofs.YtkhkpjnpjgnckaaGreatDoor
open Go.RowKit
set_option linter.unusedVariables false

/-- texts in a row of the call's own, each of a kind -/
def TextsP (w : World) (g n : Nat) (P : ByteArray → Prop) : Prop := ∀ i, i < n → ∃ s : ByteArray, w.cell? ⟨g, i, none⟩ = some (.string s) ∧ P s
def DrewP (P : ByteArray → Prop) (w : World) (B b : Nat) (a : Option Addr) (len cap : Nat) (e : Ending) (w' : World) : Prop :=
  ∃ s : ByteArray, P s ∧ e = .returned (.string s) ∧ CurAt w' B b a len cap ∧ w.grownBy w' (some b)
theorem pick_drawP (P : ByteArray → Prop) (w : World) (B b : Nat) (a : Option Addr) (len cap : Nat) (g n c : Nat) (hlen : len ≤ 9223372036854775807) (hC : CurAt w B b a len cap) (hn : 1 ≤ n) (hn2 : n ≤ 1000) (hg : g ≠ b) (hgs : g < w.heap.size) (hT : TextsP w g n P) :
    Calls Tryz.prog 21 #[.pointer (some ⟨b, 0, none⟩), .slice (some ⟨g, 0, none⟩) n c] w (DrewP P w B b a len cap) := by
  go_enter Tryz.func21, Tryz.ntmps21
  go_wp2_with fail
  refine (below_draw _ B b a len cap n hlen hC (by omega) (by omega)).mono ?_
  rintro e w1 ⟨x, hx0, hx1, rfl, hC1, hg1⟩
  obtain ⟨k, rfl⟩ := Int.eq_ofNat_of_zero_le hx0
  obtain ⟨s, hs, hm⟩ := hT k (by omega)
  have hk : (k : Int) < (n : Int) := by omega
  have hs1 : w1.cell? ⟨g, k, none⟩ = some (.string s) := (World.cell?_of_block (a := ⟨g, k, none⟩) (hg1.block g hgs (by intro e; cases e; exact hg rfl))).trans hs
  clear hs hT
  go_wp2
  go_ret
  exact ⟨s, hm, rfl, hC1, hg1⟩
theorem textsP_alloc (P : ByteArray → Prop) (w : World) (cs : List Value) (t : Nat) (h : ∀ v ∈ cs, ∃ s, v = .string s ∧ P s) : TextsP (w.alloc (.cells cs.toArray t)) w.heap.size cs.length P := by
  intro i hi
  obtain ⟨s, h1, h2⟩ := h cs[i] (List.getElem_mem hi)
  have h3 : (w.alloc (.cells cs.toArray t)).cell? ⟨w.heap.size, i, none⟩ = some cs[i] := by
    simp [hi]
  exact ⟨s, by rw [h3, h1], h2⟩

def names6 : List ByteArray := [⟨#[115]⟩, ⟨#[116, 32, 117]⟩, ⟨#[]⟩, ⟨#[32, 115]⟩, ⟨#[97, 93, 98]⟩, ⟨#[97, 91, 98]⟩, ⟨#[97, 10, 98]⟩, ⟨#[35]⟩, ⟨#[97, 92]⟩]
/-- one of the names, and a Dialect -/
def DrewND (w : World) (e : Ending) (w' : World) : Prop :=
  ∃ (s : ByteArray) (d : DialectD), s ∈ names6 ∧ d.notes.size ≤ 12 ∧ d.seps.size ≤ 12 ∧ e = .returned (.tuple #[.string s, dialectV d]) ∧ Below w.heap.size w w'

set_option maxHeartbeats 1600000 in
theorem drawIniHead (w : World) (a : Option Addr) (len cap : Nat) (hlen : len ≤ 1048576) (hB : BytesIn w a len) (hlow : ∀ x, a = some x → len ≠ 0 → x.block < w.heap.size) :
    Calls Tryz.prog 7 #[.slice a len cap] w (DrewND w) := by
  have hlen2 : len ≤ 9223372036854775807 := by omega
  have hb0 := (Below.refl w.heap.size w).alloc (Nat.le_refl _) (.cells #[.string ⟨#[]⟩, .string ⟨#[]⟩, .bool false, .bool false, .bool false, .int .i64 0] 25)
  have KN := Lib.hid (new_draw (w.alloc (.cells #[.string ⟨#[]⟩, .string ⟨#[]⟩, .bool false, .bool false, .bool false, .int .i64 0] 25)) a len cap hlen (bytesIn_kept (b := 0) hB (fun x hx hl => hb0.block x.block (hlow x hx hl))) (fun x hx hl => by have := hlow x hx hl; simp; omega))
  have HD0 : Hid (DialAt (w.alloc (.cells #[.string ⟨#[]⟩, .string ⟨#[]⟩, .bool false, .bool false, .bool false, .int .i64 0] 25)) w.heap.size noDial) := heap_alloc_new _ _
  have hs0 : (w.alloc (.cells #[.string ⟨#[]⟩, .string ⟨#[]⟩, .bool false, .bool false, .bool false, .int .i64 0] 25)).heap.size = w.heap.size + 1 := by simp
  have HB0 := Lib.hid hb0
  clear hb0
  go_enter Tryz.func7, Tryz.ntmps7
  go_wp2_with fail
  generalize w.alloc (.cells #[.string ⟨#[]⟩, .string ⟨#[]⟩, .bool false, .bool false, .bool false, .int .i64 0] 25) = w0 at *
  with_reducible refine KN.out.mono ?_
  rintro e w1 ⟨rfl, hC1, hb1⟩
  have hwb : w.heap.size < w0.heap.size := by omega
  have H : Hid (DrawH w1 w1 w0.heap.size w0.heap.size a len cap w.heap.size noDial) := ⟨hC1, World.grownBy.refl _ _, HD0.out.over hb1 (by omega), by omega⟩
  have HB1 := Lib.hid (HB0.out.trans (hb1.mono HB0.out.size))
  clear KN HD0 HB0 hs0 hC1 hb1
  generalize w0.heap.size = b at *
  go_wp2_with fail
  have hTx : TextsP (w1.alloc (.cells #[.string ⟨#[115]⟩, .string ⟨#[116, 32, 117]⟩, .string ⟨#[]⟩, .string ⟨#[32, 115]⟩, .string ⟨#[97, 93, 98]⟩, .string ⟨#[97, 91, 98]⟩, .string ⟨#[97, 10, 98]⟩, .string ⟨#[35]⟩, .string ⟨#[97, 92]⟩] 9)) w1.heap.size 9 (· ∈ names6) := (by
    refine textsP_alloc _ w1 [.string ⟨#[115]⟩, .string ⟨#[116, 32, 117]⟩, .string ⟨#[]⟩, .string ⟨#[32, 115]⟩, .string ⟨#[97, 93, 98]⟩, .string ⟨#[97, 91, 98]⟩, .string ⟨#[97, 10, 98]⟩, .string ⟨#[35]⟩, .string ⟨#[97, 92]⟩] _ ?_
    intro v hv
    simp only [List.mem_cons, List.not_mem_nil, or_false] at hv
    rcases hv with rfl | rfl | rfl | rfl | rfl | rfl | rfl | rfl | rfl <;> exact ⟨_, rfl, by simp [names6]⟩)
  with_reducible refine (pick_drawP (· ∈ names6) (w1.alloc (.cells #[.string ⟨#[115]⟩, .string ⟨#[116, 32, 117]⟩, .string ⟨#[]⟩, .string ⟨#[32, 115]⟩, .string ⟨#[97, 93, 98]⟩, .string ⟨#[97, 91, 98]⟩, .string ⟨#[97, 10, 98]⟩, .string ⟨#[35]⟩, .string ⟨#[97, 92]⟩] 9)) b b a len cap w1.heap.size 9 9 hlen2 (H.out.cu.alloc _) (by decide) (by decide) (by have := H.out.cu.lt; omega) (by simp) hTx).mono ?_
  rintro e w2 ⟨s, hs, rfl, hCn, hgn⟩
  replace H := Lib.hid (H.out.step (grownBy_new (World.grownBy.refl _ _) (.cells #[.string ⟨#[115]⟩, .string ⟨#[116, 32, 117]⟩, .string ⟨#[]⟩, .string ⟨#[32, 115]⟩, .string ⟨#[97, 93, 98]⟩, .string ⟨#[97, 91, 98]⟩, .string ⟨#[97, 10, 98]⟩, .string ⟨#[35]⟩, .string ⟨#[97, 92]⟩] 9) |> fun h => grownBy_step h hgn) hCn)
  have HS := Lib.hid hs
  clear hCn hgn hTx hs
  go_wp2_with fail
  with_reducible refine (anyDialect5_draw _ b b a len cap hlen2 H.out.cu).mono ?_
  rintro e w9 ⟨d, hd0, hd1, rfl, hCn, hgn⟩
  replace H := Lib.hid (H.out.step hgn hCn)
  clear hCn hgn
  obtain ⟨d0, d1, d2, d3, d4, d5⟩ := d
  simp only at hd0 hd1
  unfold dialectV
  simp only
  obtain ⟨c0, c1, c2, c3, c4, c5⟩ := H.out.da.cells
  simp only [noDial] at c0 c1 c2 c3 c4 c5
  have f0 := H.out.da.free 0
  have f1 := H.out.da.free 1
  have f2 := H.out.da.free 2
  have f3 := H.out.da.free 3
  have f4 := H.out.da.free 4
  have f5 := H.out.da.free 5
  go_wp2
  (try simp only [Exit.inBlock, Exit.then])
  exact bodyPost_ret (results_tail1 rfl _ _ w.heap.size 25 _ (0, 0) _ rfl (H.out.da.put6 _ _ _ _ _ _) Tryz.underlying25 rfl (by kernel_rfl)) rfl ⟨s, ⟨d0, d1, d2, d3, d4, d5⟩, HS.out, hd0, hd1, rfl, (HB1.out.grown H.out.gr HB1.out.size (fun j e => by injection e with e; omega))|> fun h => below_puts6 h _ (Nat.le_refl _) _ _ _ _ _ _⟩

end Go.Proofs.YtkhkpjnpjgnckaaGreatDoor
