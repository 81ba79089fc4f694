/- The draws of Unescape, Bare and Quoted: a text and a Dialect. -/
import Derived.Test.YtkhkpjnpjgnckaaDoorProg
import Derived.Test.YtkhkpjnpjgnckaaDoorPlain
import Derived.Test.YtkhkpjnpjgnckaaDoorDraw
import Derived.Test.YtkhkpjnpjgnckaaDoorDrawNum
import Derived.Test.YtkhkpjnpjgnckaaDoorBent
import Derived.Test.YtkhkpjnpjgnckaaDoorDialectRows
import Derived.Test.YtkhkpjnpjgnckaaDoorBareSpec
import Derived.Test.YtkhkpjnpjgnckaaDoorIniDraw
import Derived.Test.YtkhkpjnpjgnckaaDoorIniDraw2
import Derived.Test.YtkhkpjnpjgnckaaDoorIniDraw3
import Derived.WalkKit
import Derived.WalkLawsBesides
import Derived.OwnWalk
import Derived.Laws.IdiomStrings
import Derived.Lib.Hide
import Derived.IntWalk
import Derived.Outline
set_option maxRecDepth 100000
namespace Go.Proofs.YtkhkpjnpjgnckaaDoor
open Go.RowKit
set_option linter.unusedVariables false

set_option maxHeartbeats 1600000 in
theorem drawUnescape (w : World) (a : Option Addr) (len cap : Nat) (hlen : len ≤ 1048576) (hB : BytesIn w a len) (hlow : ∀ x, a = some x → len ≠ 0 → x.block < w.heap.size) :
    Calls Tryd.prog 11 #[.slice a len cap] w (DrewTD w) := by
  have hlen2 : len ≤ 9223372036854775807 := by omega
  have hb0 := (Below.refl w.heap.size w).alloc (Nat.le_refl _) (.cells #[.string ⟨#[]⟩, .string ⟨#[]⟩, .bool false, .bool false, .bool false, .int .i64 0] 25)
  have KN := Lib.hid (new_draw (w.alloc (.cells #[.string ⟨#[]⟩, .string ⟨#[]⟩, .bool false, .bool false, .bool false, .int .i64 0] 25)) a len cap hlen (bytesIn_kept (b := 0) hB (fun x hx hl => hb0.block x.block (hlow x hx hl))) (fun x hx hl => by have := hlow x hx hl; simp; omega))
  have HD0 : Hid (DialAt (w.alloc (.cells #[.string ⟨#[]⟩, .string ⟨#[]⟩, .bool false, .bool false, .bool false, .int .i64 0] 25)) w.heap.size noDial) := heap_alloc_new _ _
  have hs0 : (w.alloc (.cells #[.string ⟨#[]⟩, .string ⟨#[]⟩, .bool false, .bool false, .bool false, .int .i64 0] 25)).heap.size = w.heap.size + 1 := by simp
  have HB0 := Lib.hid hb0
  clear hb0
  go_enter Tryd.func11, Tryd.ntmps11
  go_wp2_with fail
  generalize w.alloc (.cells #[.string ⟨#[]⟩, .string ⟨#[]⟩, .bool false, .bool false, .bool false, .int .i64 0] 25) = w0 at *
  with_reducible refine KN.out.mono ?_
  rintro e w1 ⟨rfl, hC1, hb1⟩
  have hwb : w.heap.size < w0.heap.size := by omega
  have H : Hid (DrawH w1 w1 w0.heap.size w0.heap.size a len cap w.heap.size noDial) := ⟨hC1, World.grownBy.refl _ _, HD0.out.over hb1 (by omega), by omega⟩
  have HB1 := Lib.hid (HB0.out.trans (hb1.mono HB0.out.size))
  clear KN HD0 HB0 hs0 hC1 hb1
  generalize w0.heap.size = b at *
  go_wp2_with fail
  with_reducible refine (value5_draw w1 b b a len cap hlen2 H.out.cu).mono ?_
  rintro e w2 ⟨p, hp, rfl, hCn, hgn⟩
  replace H := Lib.hid (H.out.step hgn hCn)
  clear hCn hgn
  go_wp2_with fail
  with_reducible refine (value5_draw w2 b b a len cap hlen2 H.out.cu).mono ?_
  rintro e w3 ⟨q, hq, rfl, hCn, hgn⟩
  replace H := Lib.hid (H.out.step hgn hCn)
  clear hCn hgn
  go_wp2_with fail
  obtain ⟨s, hsq⟩ : ∃ s, s = p ++ q := ⟨_, rfl⟩
  have hs : s.size ≤ 1700 := by rw [hsq, ByteArray.size_append]; omega
  rw [← hsq]
  clear hsq
  with_reducible refine (anyDialect5_draw _ b b a len cap hlen2 H.out.cu).mono ?_
  rintro e w9 ⟨d, hd0, hd1, rfl, hCn, hgn⟩
  replace H := Lib.hid (H.out.step hgn hCn)
  clear hCn hgn
  obtain ⟨d0, d1, d2, d3, d4, d5⟩ := d
  simp only at hd0 hd1
  unfold dialectV
  simp only
  obtain ⟨c0, c1, c2, c3, c4, c5⟩ := H.out.da.cells
  simp only [noDial] at c0 c1 c2 c3 c4 c5
  have f0 := H.out.da.free 0
  have f1 := H.out.da.free 1
  have f2 := H.out.da.free 2
  have f3 := H.out.da.free 3
  have f4 := H.out.da.free 4
  have f5 := H.out.da.free 5
  go_wp2
  (try simp only [Exit.inBlock, Exit.then])
  exact bodyPost_ret (results_tail1 rfl _ _ w.heap.size 25 _ (0, 0) _ rfl (H.out.da.put6 _ _ _ _ _ _) Tryd.underlying25 rfl (by kernel_rfl)) rfl ⟨s, ⟨d0, d1, d2, d3, d4, d5⟩, hs, hd0, hd1, rfl, (HB1.out.grown H.out.gr HB1.out.size (fun j e => by injection e with e; omega))|> fun h => below_puts6 h _ (Nat.le_refl _) _ _ _ _ _ _⟩
set_option maxHeartbeats 1600000 in
theorem drawBare (w : World) (a : Option Addr) (len cap : Nat) (hlen : len ≤ 1048576) (hB : BytesIn w a len) (hlow : ∀ x, a = some x → len ≠ 0 → x.block < w.heap.size) :
    Calls Tryd.prog 8 #[.slice a len cap] w (DrewTD w) := by
  have hlen2 : len ≤ 9223372036854775807 := by omega
  have hb0 := (Below.refl w.heap.size w).alloc (Nat.le_refl _) (.cells #[.string ⟨#[]⟩, .string ⟨#[]⟩, .bool false, .bool false, .bool false, .int .i64 0] 25)
  have KN := Lib.hid (new_draw (w.alloc (.cells #[.string ⟨#[]⟩, .string ⟨#[]⟩, .bool false, .bool false, .bool false, .int .i64 0] 25)) a len cap hlen (bytesIn_kept (b := 0) hB (fun x hx hl => hb0.block x.block (hlow x hx hl))) (fun x hx hl => by have := hlow x hx hl; simp; omega))
  have HD0 : Hid (DialAt (w.alloc (.cells #[.string ⟨#[]⟩, .string ⟨#[]⟩, .bool false, .bool false, .bool false, .int .i64 0] 25)) w.heap.size noDial) := heap_alloc_new _ _
  have hs0 : (w.alloc (.cells #[.string ⟨#[]⟩, .string ⟨#[]⟩, .bool false, .bool false, .bool false, .int .i64 0] 25)).heap.size = w.heap.size + 1 := by simp
  have HB0 := Lib.hid hb0
  clear hb0
  go_enter Tryd.func8, Tryd.ntmps8
  go_wp2_with fail
  generalize w.alloc (.cells #[.string ⟨#[]⟩, .string ⟨#[]⟩, .bool false, .bool false, .bool false, .int .i64 0] 25) = w0 at *
  with_reducible refine KN.out.mono ?_
  rintro e w1 ⟨rfl, hC1, hb1⟩
  have hwb : w.heap.size < w0.heap.size := by omega
  have H : Hid (DrawH w1 w1 w0.heap.size w0.heap.size a len cap w.heap.size noDial) := ⟨hC1, World.grownBy.refl _ _, HD0.out.over hb1 (by omega), by omega⟩
  have HB1 := Lib.hid (HB0.out.trans (hb1.mono HB0.out.size))
  clear KN HD0 HB0 hs0 hC1 hb1
  generalize w0.heap.size = b at *
  go_wp2_with fail
  with_reducible refine (value5_draw w1 b b a len cap hlen2 H.out.cu).mono ?_
  rintro e w2 ⟨p, hp, rfl, hCn, hgn⟩
  replace H := Lib.hid (H.out.step hgn hCn)
  clear hCn hgn
  go_wp2_with fail
  have hTx : TextsAt (w2.alloc (.cells #[.string ⟨#[]⟩, .string ⟨#[32]⟩, .string ⟨#[32, 35]⟩, .string ⟨#[35, 59]⟩, .string ⟨#[32, 33, 32, 120]⟩] 9)) w2.heap.size 5 b 12 := (by refine texts_alloc w2 _ _ _ _ ?_; decide +kernel)
  with_reducible refine (pick_draw (w2.alloc (.cells #[.string ⟨#[]⟩, .string ⟨#[32]⟩, .string ⟨#[32, 35]⟩, .string ⟨#[35, 59]⟩, .string ⟨#[32, 33, 32, 120]⟩] 9)) b b a len cap w2.heap.size 5 5 12 hlen2 (H.out.cu.alloc _) (by decide) (by decide) (by have := H.out.cu.lt; omega) (by simp) hTx).mono ?_
  rintro e w3 ⟨q, hq, rfl, hCn, hgn⟩
  replace H := Lib.hid (H.out.step (grownBy_new (World.grownBy.refl _ _) (.cells #[.string ⟨#[]⟩, .string ⟨#[32]⟩, .string ⟨#[32, 35]⟩, .string ⟨#[35, 59]⟩, .string ⟨#[32, 33, 32, 120]⟩] 9) |> fun h => grownBy_step h hgn) hCn)
  clear hCn hgn hTx
  go_wp2_with fail
  with_reducible refine (value5_draw w3 b b a len cap hlen2 H.out.cu).mono ?_
  rintro e w4 ⟨r, hr, rfl, hCn, hgn⟩
  replace H := Lib.hid (H.out.step hgn hCn)
  clear hCn hgn
  go_wp2_with fail
  obtain ⟨s, hsq⟩ : ∃ s, s = p ++ q ++ r := ⟨_, rfl⟩
  have hs : s.size ≤ 1700 := by rw [hsq, ByteArray.size_append, ByteArray.size_append]; omega
  rw [← hsq]
  clear hsq
  with_reducible refine (anyDialect5_draw _ b b a len cap hlen2 H.out.cu).mono ?_
  rintro e w9 ⟨d, hd0, hd1, rfl, hCn, hgn⟩
  replace H := Lib.hid (H.out.step hgn hCn)
  clear hCn hgn
  obtain ⟨d0, d1, d2, d3, d4, d5⟩ := d
  simp only at hd0 hd1
  unfold dialectV
  simp only
  obtain ⟨c0, c1, c2, c3, c4, c5⟩ := H.out.da.cells
  simp only [noDial] at c0 c1 c2 c3 c4 c5
  have f0 := H.out.da.free 0
  have f1 := H.out.da.free 1
  have f2 := H.out.da.free 2
  have f3 := H.out.da.free 3
  have f4 := H.out.da.free 4
  have f5 := H.out.da.free 5
  go_wp2
  (try simp only [Exit.inBlock, Exit.then])
  exact bodyPost_ret (results_tail1 rfl _ _ w.heap.size 25 _ (0, 0) _ rfl (H.out.da.put6 _ _ _ _ _ _) Tryd.underlying25 rfl (by kernel_rfl)) rfl ⟨s, ⟨d0, d1, d2, d3, d4, d5⟩, hs, hd0, hd1, rfl, (HB1.out.grown H.out.gr HB1.out.size (fun j e => by injection e with e; omega))|> fun h => below_puts6 h _ (Nat.le_refl _) _ _ _ _ _ _⟩
set_option maxHeartbeats 1600000 in
theorem drawQuoted (w : World) (a : Option Addr) (len cap : Nat) (hlen : len ≤ 1048576) (hB : BytesIn w a len) (hlow : ∀ x, a = some x → len ≠ 0 → x.block < w.heap.size) :
    Calls Tryd.prog 5 #[.slice a len cap] w (DrewTD w) := by
  have hlen2 : len ≤ 9223372036854775807 := by omega
  have hb0 := (Below.refl w.heap.size w).alloc (Nat.le_refl _) (.cells #[.string ⟨#[]⟩, .string ⟨#[]⟩, .bool false, .bool false, .bool false, .int .i64 0] 25)
  have KN := Lib.hid (new_draw (w.alloc (.cells #[.string ⟨#[]⟩, .string ⟨#[]⟩, .bool false, .bool false, .bool false, .int .i64 0] 25)) a len cap hlen (bytesIn_kept (b := 0) hB (fun x hx hl => hb0.block x.block (hlow x hx hl))) (fun x hx hl => by have := hlow x hx hl; simp; omega))
  have HD0 : Hid (DialAt (w.alloc (.cells #[.string ⟨#[]⟩, .string ⟨#[]⟩, .bool false, .bool false, .bool false, .int .i64 0] 25)) w.heap.size noDial) := heap_alloc_new _ _
  have hs0 : (w.alloc (.cells #[.string ⟨#[]⟩, .string ⟨#[]⟩, .bool false, .bool false, .bool false, .int .i64 0] 25)).heap.size = w.heap.size + 1 := by simp
  have HB0 := Lib.hid hb0
  clear hb0
  go_enter Tryd.func5, Tryd.ntmps5
  go_wp2_with fail
  generalize w.alloc (.cells #[.string ⟨#[]⟩, .string ⟨#[]⟩, .bool false, .bool false, .bool false, .int .i64 0] 25) = w0 at *
  with_reducible refine KN.out.mono ?_
  rintro e w1 ⟨rfl, hC1, hb1⟩
  have hwb : w.heap.size < w0.heap.size := by omega
  have H : Hid (DrawH w1 w1 w0.heap.size w0.heap.size a len cap w.heap.size noDial) := ⟨hC1, World.grownBy.refl _ _, HD0.out.over hb1 (by omega), by omega⟩
  have HB1 := Lib.hid (HB0.out.trans (hb1.mono HB0.out.size))
  clear KN HD0 HB0 hs0 hC1 hb1
  generalize w0.heap.size = b at *
  go_wp2_with fail
  with_reducible refine (value5_draw w1 b b a len cap hlen2 H.out.cu).mono ?_
  rintro e w2 ⟨s, hs, rfl, hCn, hgn⟩
  replace H := Lib.hid (H.out.step hgn hCn)
  clear hCn hgn
  go_wp2_with fail
  with_reducible refine (once_draw w2 b b a len cap 2 hlen2 H.out.cu (by decide) (by decide)).mono ?_
  rintro e w3 ⟨y, rfl, hCn, hgn⟩
  replace H := Lib.hid (H.out.step hgn hCn)
  clear hCn hgn
  cases y
  · replace hs : s.size ≤ 1700 := by omega
    go_wp2_with fail
    with_reducible refine (anyDialect5_draw _ b b a len cap hlen2 H.out.cu).mono ?_
    rintro e w9 ⟨d, hd0, hd1, rfl, hCn, hgn⟩
    replace H := Lib.hid (H.out.step hgn hCn)
    clear hCn hgn
    obtain ⟨d0, d1, d2, d3, d4, d5⟩ := d
    simp only at hd0 hd1
    unfold dialectV
    simp only
    obtain ⟨c0, c1, c2, c3, c4, c5⟩ := H.out.da.cells
    simp only [noDial] at c0 c1 c2 c3 c4 c5
    have f0 := H.out.da.free 0
    have f1 := H.out.da.free 1
    have f2 := H.out.da.free 2
    have f3 := H.out.da.free 3
    have f4 := H.out.da.free 4
    have f5 := H.out.da.free 5
    go_wp2
    (try simp only [Exit.inBlock, Exit.then])
    exact bodyPost_ret (results_tail1 rfl _ _ w.heap.size 25 _ (0, 0) _ rfl (H.out.da.put6 _ _ _ _ _ _) Tryd.underlying25 rfl (by kernel_rfl)) rfl ⟨s, ⟨d0, d1, d2, d3, d4, d5⟩, hs, hd0, hd1, rfl, (HB1.out.grown H.out.gr HB1.out.size (fun j e => by injection e with e; omega))|> fun h => below_puts6 h _ (Nat.le_refl _) _ _ _ _ _ _⟩
  · skip
    go_wp2_with fail
    have hTx : TextsAt (w3.alloc (.cells #[.string ⟨#[]⟩, .string ⟨#[32]⟩, .string ⟨#[32, 35, 32, 120]⟩, .string ⟨#[35, 120]⟩, .string ⟨#[120]⟩] 9)) w3.heap.size 5 b 12 := (by refine texts_alloc w3 _ _ _ _ ?_; decide +kernel)
    with_reducible refine (pick_draw (w3.alloc (.cells #[.string ⟨#[]⟩, .string ⟨#[32]⟩, .string ⟨#[32, 35, 32, 120]⟩, .string ⟨#[35, 120]⟩, .string ⟨#[120]⟩] 9)) b b a len cap w3.heap.size 5 5 12 hlen2 (H.out.cu.alloc _) (by decide) (by decide) (by have := H.out.cu.lt; omega) (by simp) hTx).mono ?_
    rintro e w4 ⟨q, hq, rfl, hCn, hgn⟩
    replace H := Lib.hid (H.out.step (grownBy_new (World.grownBy.refl _ _) (.cells #[.string ⟨#[]⟩, .string ⟨#[32]⟩, .string ⟨#[32, 35, 32, 120]⟩, .string ⟨#[35, 120]⟩, .string ⟨#[120]⟩] 9) |> fun h => grownBy_step h hgn) hCn)
    clear hCn hgn hTx
    go_wp2_with fail
    obtain ⟨p, rfl⟩ : ∃ p, p = s := ⟨_, rfl⟩
    obtain ⟨s, hsq⟩ : ∃ s, s = (⟨#[34]⟩ : ByteArray) ++ p ++ ⟨#[34]⟩ ++ q := ⟨_, rfl⟩
    replace hs : s.size ≤ 1700 := by rw [hsq, ByteArray.size_append, ByteArray.size_append, ByteArray.size_append, show (⟨#[34]⟩ : ByteArray).size = 1 from rfl]; omega
    rw [← hsq]
    clear hsq
    with_reducible refine (anyDialect5_draw _ b b a len cap hlen2 H.out.cu).mono ?_
    rintro e w9 ⟨d, hd0, hd1, rfl, hCn, hgn⟩
    replace H := Lib.hid (H.out.step hgn hCn)
    clear hCn hgn
    obtain ⟨d0, d1, d2, d3, d4, d5⟩ := d
    simp only at hd0 hd1
    unfold dialectV
    simp only
    obtain ⟨c0, c1, c2, c3, c4, c5⟩ := H.out.da.cells
    simp only [noDial] at c0 c1 c2 c3 c4 c5
    have f0 := H.out.da.free 0
    have f1 := H.out.da.free 1
    have f2 := H.out.da.free 2
    have f3 := H.out.da.free 3
    have f4 := H.out.da.free 4
    have f5 := H.out.da.free 5
    go_wp2
    (try simp only [Exit.inBlock, Exit.then])
    exact bodyPost_ret (results_tail1 rfl _ _ w.heap.size 25 _ (0, 0) _ rfl (H.out.da.put6 _ _ _ _ _ _) Tryd.underlying25 rfl (by kernel_rfl)) rfl ⟨s, ⟨d0, d1, d2, d3, d4, d5⟩, hs, hd0, hd1, rfl, (HB1.out.grown H.out.gr HB1.out.size (fun j e => by injection e with e; omega))|> fun h => below_puts6 h _ (Nat.le_refl _) _ _ _ _ _ _⟩

end Go.Proofs.YtkhkpjnpjgnckaaDoor
