/- The draws of records. -/
import Derived.Test.YtdkghalcnaogfaaProg
import Derived.Test.YtdkghalcnaogfaaPlain
import Derived.Test.YtdkghalcnaogfaaDraw
import Derived.Test.YtdkghalcnaogfaaDrawNum
import Derived.Test.YtdkghalcnaogfaaLinesDraw
import Derived.Test.YtdkghalcnaogfaaRows0
import Derived.Test.YtdkghalcnaogfaaRecRows
import Derived.Test.YtdkghalcnaogfaaRecArg
import Derived.Test.YtdkghalcnaogfaaRecRaw
import Derived.WalkKit
import Derived.WalkLawsBesides
import Derived.OwnWalk
import Derived.Laws.IdiomStrings
import Derived.Lib.Hide
import Derived.IntWalk
namespace Go.Proofs.Ytdkghalcnaogfaa
open Go.RowKit
set_option linter.unusedVariables false

theorem costRec_snoc (l : List RecD) (x : RecD) : costRec (l ++ [x]) = costRec l + 1 + sizeRec x := by
  simp only [costRec, List.length_append, List.map_append, List.sum_append, List.map_cons, List.map_nil, List.sum_cons, List.sum_nil, List.length_cons, List.length_nil]
  omega

/-- records that were drawn: not many; the cursor stands; nothing but its block has turned -/
def DrewR (w : World) (B b : Nat) (a : Option Addr) (len cap : Nat) (e : Ending) (w' : World) : Prop :=
  ∃ (v : Value) (g : Nat) (l : List RecD), costRec l ≤ 100 ∧ e = .returned v ∧ RowsIs recS w' v g 0 l ∧ w.heap.size ≤ g ∧ CurAt w' B b a len cap ∧ w.grownBy w' (some b)

set_option maxRecDepth 100000 in
set_option maxHeartbeats 3200000 in
theorem recs4_draw (w : World) (B b : Nat) (a : Option Addr) (len cap : Nat) (hlen : len ≤ 9223372036854775807) (hC : CurAt w B b a len cap) :
    Calls Try.prog 38 #[.pointer (some ⟨b, 0, none⟩)] w (DrewR w B b a len cap) := by
  obtain ⟨i0, hi, hz0, hz1, hz2⟩ := info_parts info_rec
  have hbw := hC.lt
  go_enter Try.func38, Try.ntmps38
  go_wp2_with fail
  refine (below_draw (w.alloc (.cells #[] 36)) B b a len cap 6 hlen (hC.alloc _) (by decide) (by decide)).mono ?_
  rintro e w0 ⟨x, hx0, hx1, rfl, hC0, hg0⟩
  have hown0 : w0.ownsRow w.heap.size 36 6 (.slice (some ⟨w.heap.size, 0, none⟩) 0 0) 0 (rowCells recS []) := (World.ownsRow_lit w #[] 0 (Nat.le_refl _) (Nat.zero_le _) rfl).kept hg0 (.inr (fun e => absurd (show w.heap.size = b by simpa [Value.ownBlock] using e) (by omega)))
  have hg0' : w.grownBy w0 (some b) := grownBy_step (grownBy_new (World.grownBy.refl _ _) _) hg0
  have HC0 := Lib.hid hC0
  have HG0 := Lib.hid hg0'
  clear hC hC0 hg0 hg0'
  go_wp2
  go_loopw [3, 5] (fun v i wr => ∃ (k : Nat) (z : List RecD), (k : Int) ≤ x ∧ i = .int .i64 k ∧ z.length = k ∧ costRec z ≤ k * 12 ∧ wr.ownsRow w.heap.size 36 6 v z.length (rowCells recS z) ∧ Hid (CurAt wr B b a len cap) ∧ Hid (w.grownBy wr (some b))) (fun _ i _ => (x - intOf i).toNat)
  case atStart => exact ⟨0, [], hx0, rfl, rfl, Nat.zero_le _, hown0, HC0, HG0⟩
  case round =>
    obtain ⟨k, z, hk, rfl, hzk, hcz, hown, hC, hG⟩ := hrel
    clear hown0 HC0 HG0
    by_cases hlt : (k : Int) < x
    · go_wp2_with fail
      refine (below_draw wr B b a len cap 6 hlen hC.out (by decide) (by decide)).mono ?_
      rintro e w1 ⟨y, hy0, hy1, rfl, hC1, hg1⟩
      have hown1 := hown.kept hg1 (.inr (fun e => by have := own_blockR hown _ e; omega))
      have hG1 := grownBy_step hG.out hg1
      clear hown hC hG hg1
      have hl1 := hC1.lt
      go_wp2_with fail
      refine (pick_draw (w1.alloc (.cells #[.string ⟨#[97, 61, 49, 10]⟩, .string ⟨#[10]⟩, .string ⟨#[35, 32, 120, 13, 10]⟩, .string ⟨#[91, 115, 93, 10]⟩, .string ⟨#[97, 92, 10, 98, 10]⟩, .string ⟨#[]⟩, .string ⟨#[106, 117, 110, 107]⟩] 9)) B b a len cap w1.heap.size 7 7 5 hlen (hC1.alloc _) (by decide) (by decide) (by omega) (by simp) (by refine texts_alloc w1 _ _ _ _ ?_; decide +kernel)).mono ?_
      rintro e w2 ⟨t1, ht1, rfl, hC2, hg2⟩
      have hown2 := (hown1.alloc (.cells #[.string ⟨#[97, 61, 49, 10]⟩, .string ⟨#[10]⟩, .string ⟨#[35, 32, 120, 13, 10]⟩, .string ⟨#[91, 115, 93, 10]⟩, .string ⟨#[97, 92, 10, 98, 10]⟩, .string ⟨#[]⟩, .string ⟨#[106, 117, 110, 107]⟩] 9)).kept hg2 (.inr (fun e => by have := own_blockR hown1 b e; omega))
      have hG2 := grownBy_step (grownBy_new hG1 (.cells #[.string ⟨#[97, 61, 49, 10]⟩, .string ⟨#[10]⟩, .string ⟨#[35, 32, 120, 13, 10]⟩, .string ⟨#[91, 115, 93, 10]⟩, .string ⟨#[97, 92, 10, 98, 10]⟩, .string ⟨#[]⟩, .string ⟨#[106, 117, 110, 107]⟩] 9)) hg2
      clear hown1 hC1 hG1 hg2
      have hl2 := hC2.lt
      go_wp2_with fail
      refine (pick_draw (w2.alloc (.cells #[.string ⟨#[]⟩, .string ⟨#[115]⟩, .string ⟨#[116]⟩] 9)) B b a len cap w2.heap.size 3 3 1 hlen (hC2.alloc _) (by decide) (by decide) (by omega) (by simp) (by refine texts_alloc w2 _ _ _ _ ?_; decide +kernel)).mono ?_
      rintro e w3 ⟨t2, ht2, rfl, hC3, hg3⟩
      have hown3 := (hown2.alloc (.cells #[.string ⟨#[]⟩, .string ⟨#[115]⟩, .string ⟨#[116]⟩] 9)).kept hg3 (.inr (fun e => by have := own_blockR hown2 b e; omega))
      have hG3 := grownBy_step (grownBy_new hG2 (.cells #[.string ⟨#[]⟩, .string ⟨#[115]⟩, .string ⟨#[116]⟩] 9)) hg3
      clear hown2 hC2 hG2 hg3
      have hl3 := hC3.lt
      go_wp2_with fail
      refine (pick_draw (w3.alloc (.cells #[.string ⟨#[]⟩, .string ⟨#[97]⟩, .string ⟨#[98]⟩] 9)) B b a len cap w3.heap.size 3 3 1 hlen (hC3.alloc _) (by decide) (by decide) (by omega) (by simp) (by refine texts_alloc w3 _ _ _ _ ?_; decide +kernel)).mono ?_
      rintro e w4 ⟨t3, ht3, rfl, hC4, hg4⟩
      have hown4 := (hown3.alloc (.cells #[.string ⟨#[]⟩, .string ⟨#[97]⟩, .string ⟨#[98]⟩] 9)).kept hg4 (.inr (fun e => by have := own_blockR hown3 b e; omega))
      have hG4 := grownBy_step (grownBy_new hG3 (.cells #[.string ⟨#[]⟩, .string ⟨#[97]⟩, .string ⟨#[98]⟩] 9)) hg4
      clear hown3 hC3 hG3 hg4
      have hl4 := hC4.lt
      go_wp2_with fail
      refine (pick_draw (w4.alloc (.cells #[.string ⟨#[]⟩, .string ⟨#[49]⟩] 9)) B b a len cap w4.heap.size 2 2 1 hlen (hC4.alloc _) (by decide) (by decide) (by omega) (by simp) (by refine texts_alloc w4 _ _ _ _ ?_; decide +kernel)).mono ?_
      rintro e w5 ⟨t4, ht4, rfl, hC5, hg5⟩
      have hown5 := (hown4.alloc (.cells #[.string ⟨#[]⟩, .string ⟨#[49]⟩] 9)).kept hg5 (.inr (fun e => by have := own_blockR hown4 b e; omega))
      have hG5 := grownBy_step (grownBy_new hG4 (.cells #[.string ⟨#[]⟩, .string ⟨#[49]⟩] 9)) hg5
      clear hown4 hC4 hG4 hg5
      have hs5 := hG5.size
      go_wp2_with (at_builtin; refine wpList_append_own _ rfl _ _ 24 rfl w.heap.size 36 i0 (recV noRec) 6 80 Try.underlying24 hi hz0 hz1 hz2 rfl (by decide) _ _ _ rfl (hown5.alloc _) ⟨w5.heap.size, 0, none⟩ 1 1 (recCs ⟨y, t1, t2, t3, t4, (k : Int) + 1⟩) rfl rfl (World.news_of_block (cs := #[.int .i64 y, .string t1, .string t2, .string t3, .string t4, .int .i64 ((k : Int) + 1)]) (t := 36) (fr := (0, 0)) (heap_alloc_new w5 _)) (recS.one _) (by unfold maxLen; omega) (by omega) (by simp; omega) ?_; intro v7 w7 hown7 hgrow7 _)
      have ho7 : w7.ownsRow w.heap.size 36 6 v7 (z ++ [(⟨y, t1, t2, t3, t4, (k : Int) + 1⟩ : RecD)]).length (rowCells recS (z ++ [⟨y, t1, t2, t3, t4, (k : Int) + 1⟩])) := by
        rw [rowCells_append, rowCells_single, List.length_append]
        exact hown7
      have hC7 := Lib.hid ((hC5.alloc (.cells #[.int .i64 y, .string t1, .string t2, .string t3, .string t4, .int .i64 ((k : Int) + 1)] 36)).grown hgrow7 (fun j hj => by have := own_blockR hown5 j hj; omega))
      have hG7 := Lib.hid (grown_of_own (grownBy_new hG5 (.cells #[.int .i64 y, .string t1, .string t2, .string t3, .string t4, .int .i64 ((k : Int) + 1)] 36)) hgrow7 (fun j hj => own_blockR hown5 j hj))
      have hc7 : costRec (z ++ [(⟨y, t1, t2, t3, t4, (k : Int) + 1⟩ : RecD)]) ≤ (k + 1) * 12 := by
        rw [costRec_snoc]
        simp only [sizeRec]
        omega
      have hz7 : (z ++ [(⟨y, t1, t2, t3, t4, (k : Int) + 1⟩ : RecD)]).length = k + 1 := by simp; omega
      clear hown5 hown7 hgrow7 hC5 hG5
      go_wp2
      go_roundw
      case rel => exact ⟨k + 1, _, by omega, by go_num, hz7, hc7, ho7, hC7, hG7⟩
      case measure => simp [intOf]; omega
    · obtain ⟨g', hI, hg'⟩ := rowsIs_of_owns (S := recS) hown rfl hG.out.size
      have HI := Lib.hid hI
      have hcf : costRec z ≤ 100 := by omega
      clear hown hI
      go_wp2
      go_ret
      exact ⟨_, g', z, hcf, rfl, HI.out, hg', hC.out, hG.out⟩

def SomeRecs (w : World) (e : Ending) (w' : World) : Prop := ∃ (v : Value) (g : Nat) (l : List RecD), costRec l ≤ 100 ∧ e = .returned v ∧ RowsIs recS w' v g 0 l ∧ w.heap.size ≤ g ∧ Below w.heap.size w w'

theorem drawNumbered (w : World) (a : Option Addr) (len cap : Nat) (hlen : len ≤ 1048576) (hB : BytesIn w a len) (hlow : ∀ x, a = some x → len ≠ 0 → x.block < w.heap.size) :
    Calls Try.prog 11 #[.slice a len cap] w (SomeRecs w) := by
  go_enter Try.func11, Try.ntmps11
  go_wp2_with fail
  refine (new_draw w a len cap hlen hB hlow).mono ?_
  rintro e w1 ⟨rfl, hC1, hb1⟩
  clear hB hlow
  go_wp2_with fail
  refine (recs4_draw w1 w.heap.size w.heap.size a len cap (by omega) hC1).mono ?_
  rintro e w2 ⟨v, g, l, hc, rfl, hI, hg, hC2, hg2⟩
  have hb2 := hb1.trans (grownBy_below hg2 (Nat.le_refl _) hb1.size)
  have HI := Lib.hid hI
  have hgg : w.heap.size ≤ g := Nat.le_trans hb1.size hg
  clear hC1 hC2 hg2 hb1 hI
  go_wp2
  go_ret
  exact ⟨v, g, l, hc, rfl, HI.out, hgg, hb2⟩

theorem drawSections (w : World) (a : Option Addr) (len cap : Nat) (hlen : len ≤ 1048576) (hB : BytesIn w a len) (hlow : ∀ x, a = some x → len ≠ 0 → x.block < w.heap.size) :
    Calls Try.prog 23 #[.slice a len cap] w (SomeRecs w) := by
  go_enter Try.func23, Try.ntmps23
  go_wp2_with fail
  refine (new_draw w a len cap hlen hB hlow).mono ?_
  rintro e w1 ⟨rfl, hC1, hb1⟩
  clear hB hlow
  go_wp2_with fail
  refine (recs4_draw w1 w.heap.size w.heap.size a len cap (by omega) hC1).mono ?_
  rintro e w2 ⟨v, g, l, hc, rfl, hI, hg, hC2, hg2⟩
  have hb2 := hb1.trans (grownBy_below hg2 (Nat.le_refl _) hb1.size)
  have HI := Lib.hid hI
  have hgg : w.heap.size ≤ g := Nat.le_trans hb1.size hg
  clear hC1 hC2 hg2 hb1 hI
  go_wp2
  go_ret
  exact ⟨v, g, l, hc, rfl, HI.out, hgg, hb2⟩

set_option maxHeartbeats 1600000 in
theorem drawLastOf (w : World) (a : Option Addr) (len cap : Nat) (hlen : len ≤ 1048576) (hB : BytesIn w a len) (hlow : ∀ x, a = some x → len ≠ 0 → x.block < w.heap.size) :
    Calls Try.prog 16 #[.slice a len cap] w fun e w' => ∃ (v : Value) (g : Nat) (l : List RecD) (s k : ByteArray), costRec l ≤ 100 ∧ s.size ≤ 1 ∧ k.size ≤ 1 ∧ e = .returned (.tuple #[v, .string s, .string k]) ∧ RowsIs recS w' v g 0 l ∧ w.heap.size ≤ g ∧ Below w.heap.size w w' := by
  go_enter Try.func16, Try.ntmps16
  go_wp2_with fail
  refine (new_draw w a len cap hlen hB hlow).mono ?_
  rintro e w1 ⟨rfl, hC1, hb1⟩
  clear hB hlow
  have hlt1 := hC1.lt
  go_wp2_with fail
  refine (recs4_draw w1 w.heap.size w.heap.size a len cap (by omega) hC1).mono ?_
  rintro e w2 ⟨v, g, l, hc, rfl, hI, hg, hC2, hg2⟩
  have hb2 := hb1.trans (grownBy_below hg2 (Nat.le_refl _) hb1.size)
  have hlt2 := hC2.lt
  clear hC1 hg2 hb1
  go_wp2_with fail
  refine (pick_draw (w2.alloc (.cells #[.string ⟨#[]⟩, .string ⟨#[115]⟩, .string ⟨#[116]⟩] 9)) w.heap.size w.heap.size a len cap w2.heap.size 3 3 1 (by omega) (hC2.alloc _) (by decide) (by decide) (by omega) (by simp) (by refine texts_alloc w2 _ _ _ _ ?_; decide +kernel)).mono ?_
  rintro e w3 ⟨s, hs, rfl, hC3, hg3⟩
  have hI3 := (hI.over ((Below.refl w2.heap.size w2).alloc (Nat.le_refl _) (.cells #[.string ⟨#[]⟩, .string ⟨#[115]⟩, .string ⟨#[116]⟩] 9))).turned hg3 (fun _ e => by injection e with e; omega)
  have hb3 := (hb2.alloc hb2.size (.cells #[.string ⟨#[]⟩, .string ⟨#[115]⟩, .string ⟨#[116]⟩] 9)).trans (grownBy_below hg3 (Nat.le_refl _) (by simp; omega))
  have hlt3 := hC3.lt
  clear hI hC2 hg3 hb2
  go_wp2_with fail
  refine (pick_draw (w3.alloc (.cells #[.string ⟨#[]⟩, .string ⟨#[97]⟩, .string ⟨#[98]⟩] 9)) w.heap.size w.heap.size a len cap w3.heap.size 3 3 1 (by omega) (hC3.alloc _) (by decide) (by decide) (by omega) (by simp) (by refine texts_alloc w3 _ _ _ _ ?_; decide +kernel)).mono ?_
  rintro e w4 ⟨t, ht, rfl, hC4, hg4⟩
  have hI4 := (hI3.over ((Below.refl w3.heap.size w3).alloc (Nat.le_refl _) (.cells #[.string ⟨#[]⟩, .string ⟨#[97]⟩, .string ⟨#[98]⟩] 9))).turned hg4 (fun _ e => by injection e with e; omega)
  have hb4 := (hb3.alloc hb3.size (.cells #[.string ⟨#[]⟩, .string ⟨#[97]⟩, .string ⟨#[98]⟩] 9)).trans (grownBy_below hg4 (Nat.le_refl _) (by simp; omega))
  have HI := Lib.hid hI4
  clear hI3 hC3 hg4 hb3 hC4 hI4
  go_wp2
  go_ret3
  exact ⟨v, g, l, s, t, hc, hs, ht, rfl, HI.out, by omega, hb4⟩

end Go.Proofs.Ytdkghalcnaogfaa
