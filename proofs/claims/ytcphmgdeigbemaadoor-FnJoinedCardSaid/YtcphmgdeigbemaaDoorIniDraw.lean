/- The contract of l01Bent: some text. -/
import Derived.Test.YtcphmgdeigbemaaDoorProg
import Derived.Test.YtcphmgdeigbemaaDoorPlain
import Derived.Test.YtcphmgdeigbemaaDoorDraw
import Derived.Test.YtcphmgdeigbemaaDoorDrawNum
import Derived.WalkKit
import Derived.WalkLawsBesides
import Derived.BigQuiet
import Derived.Deep.QuietTactic
import Derived.Deep.RegionWith
import Derived.Lib.Hide
import Derived.IntWalk
import Derived.Test.YtcphmgdeigbemaaDoorDialectRows
import Derived.Test.YtcphmgdeigbemaaDoorBareSpec
import Derived.OwnWalk
import Derived.Laws.IdiomStrings
import Derived.Outline
import Derived.Test.YtcphmgdeigbemaaDoorPairSpec
namespace Go.Proofs.YtcphmgdeigbemaaDoor
open Go.RowKit
set_option linter.unusedVariables false

def DrewT (m : Nat) (w : World) (B b : Nat) (a : Option Addr) (len cap : Nat) (e : Ending) (w' : World) : Prop :=
  ∃ s : ByteArray, s.size ≤ m ∧ e = .returned (.string s) ∧ CurAt w' B b a len cap ∧ w.grownBy w' (some b)

set_option maxHeartbeats 1600000 in
theorem bent_draw (w : World) (B b : Nat) (a : Option Addr) (len cap : Nat) (s : ByteArray) (hlen : len ≤ 1048576) (hs : s.size ≤ 1048576) (hC : CurAt w B b a len cap) :
    Calls Tryd.prog 21 #[.pointer (some ⟨b, 0, none⟩), .string s] w (DrewT (s.size + 2) w B b a len cap) := by
  go_enter Tryd.func21, Tryd.ntmps21
  go_wp2_with fail
  refine (below_draw w B b a len cap _ (by omega) hC (by omega) (by omega)).mono ?_
  rintro e w1 ⟨x, hx0, hx1, rfl, hC1, hg1⟩
  obtain ⟨i, rfl⟩ := Int.eq_ofNat_of_zero_le hx0
  have hi : i ≤ s.size := by omega
  clear hx0 hx1 hC
  go_wp2_with fail
  refine (below_draw w1 B b a len cap 10 (by omega) hC1 (by decide) (by decide)).mono ?_
  rintro e w2 ⟨y, hy0, hy1, rfl, hC2, hg2⟩
  replace hg2 := grownBy_step hg1 hg2
  clear hC1 hg1
  have hlt2 := hC2.lt
  by_cases y0 : y = 0
  · have hb0 : (y == 0) = true := by rw [y0]; rfl
    clear y0
    go_wp2
    go_ret
    exact ⟨_, by simp; omega, rfl, hC2, hg2⟩
  · have hb0 : (y == 0) = false := beq_eq_false_iff_ne.2 y0
    by_cases y1 : y = 1
    · have hb1 : (y == 1) = true := by rw [y1]; rfl
      clear y0 y1
      go_wp2_with fail
      go_region_with (go_at_call 20; refine (pick_draw _ B b a len cap w2.heap.size 12 12 1 (by omega) (hC2.alloc _).drew (by decide) (by decide) (by omega) (by simp) (texts_drew (by refine texts_alloc w2 _ _ _ _ ?_; decide +kernel))).mono ?_; rintro e w3 ⟨t, ht, rfl, hC3, hg3⟩)
      go_wp2
      go_ret
      refine ⟨_, ?_, rfl, hC3, grownBy_step (grownBy_new hg2 _) (grownBy_step (grownBy_drewN (World.grownBy.refl _ _) 1) hg3)⟩
      simp [ByteArray.size_append, ByteArray.size_extract]
      omega
    · have hb1 : (y == 1) = false := beq_eq_false_iff_ne.2 y1
      by_cases y2 : y = 2
      · have hb2 : (y == 2) = true := by rw [y2]; rfl
        clear y0 y1 y2
        by_cases hil : i < s.size
        · have hsum : (i : Int) + 1 ≤ (s.size : Int) := by omega
          have hsum0 : 0 ≤ (i : Int) + 1 := by omega
          have hwr : IntKind.i64.wrap ((i : Int) + 1) = (i : Int) + 1 := IntWalk.i64_in _ (by omega)
          have htn : ((i : Int) + 1).toNat = i + 1 := by omega
          go_wp2_with fail
          go_region_with (go_at_call 20; refine (pick_draw _ B b a len cap w2.heap.size 6 6 1 (by omega) (hC2.alloc _).drew (by decide) (by decide) (by omega) (by simp) (texts_drew (by refine texts_alloc w2 _ _ _ _ ?_; decide +kernel))).mono ?_; rintro e w3 ⟨t, ht, rfl, hC3, hg3⟩)
          go_wp2
          go_ret
          refine ⟨_, ?_, rfl, hC3, grownBy_step (grownBy_new hg2 _) (grownBy_step (grownBy_drewN (World.grownBy.refl _ _) 1) hg3)⟩
          simp [ByteArray.size_append, ByteArray.size_extract]
          omega
        · go_wp2
          go_ret
          exact ⟨s, by omega, rfl, hC2, hg2⟩
      · have hb2 : (y == 2) = false := beq_eq_false_iff_ne.2 y2
        clear y0 y1 y2
        go_wp2
        go_ret
        exact ⟨s, by omega, rfl, hC2, hg2⟩

end Go.Proofs.YtcphmgdeigbemaaDoor

/- The draws of files with sections, and of Dialects. -/
set_option maxRecDepth 100000
namespace Go.Proofs.YtcphmgdeigbemaaDoor
open Go.RowKit
set_option linter.unusedVariables false


set_option maxHeartbeats 1600000 in
theorem value5_draw (w : World) (B b : Nat) (a : Option Addr) (len cap : Nat) (hlen : len ≤ 9223372036854775807) (hC : CurAt w B b a len cap) :
    Calls Tryd.prog 41 #[.pointer (some ⟨b, 0, none⟩)] w (DrewS 12 w B b a len cap) := by
  have HC := Lib.hid hC
  have HG := Lib.hid (World.grownBy.refl w (some b))
  clear hC
  go_enter Tryd.func41, Tryd.ntmps41
  go_wp2_with fail
  refine (pick_draw (w.alloc (.cells #[.string ⟨#[49]⟩, .string ⟨#[]⟩, .string ⟨#[97, 32, 98]⟩, .string ⟨#[34, 113, 34]⟩, .string ⟨#[34, 113, 32, 35, 32, 120, 34, 32, 35, 32, 121]⟩, .string ⟨#[34, 97, 92, 34, 98, 34]⟩, .string ⟨#[120, 32, 35, 32, 121]⟩, .string ⟨#[120, 35, 121]⟩, .string ⟨#[97, 92, 110, 98]⟩, .string ⟨#[97, 92]⟩, .string ⟨#[97, 92, 92]⟩, .string ⟨#[34, 111, 112, 101, 110]⟩, .string ⟨#[34, 113, 34, 120]⟩, .string ⟨#[97, 92, 32]⟩, .string ⟨#[97, 92, 113]⟩, .string ⟨#[32, 9]⟩, .string ⟨#[59, 32, 122]⟩] 9)) B b a len cap w.heap.size 17 17 12 hlen (HC.out.alloc _) (by decide) (by decide) (by have := HC.out.lt; omega) (by simp) (by refine texts_alloc w _ _ _ _ ?_; decide +kernel)).mono ?_
  rintro e w1 ⟨t, ht, rfl, hCn, hgn⟩
  replace HG := Lib.hid (grownBy_step (grownBy_new HG.out (.cells #[.string ⟨#[49]⟩, .string ⟨#[]⟩, .string ⟨#[97, 32, 98]⟩, .string ⟨#[34, 113, 34]⟩, .string ⟨#[34, 113, 32, 35, 32, 120, 34, 32, 35, 32, 121]⟩, .string ⟨#[34, 97, 92, 34, 98, 34]⟩, .string ⟨#[120, 32, 35, 32, 121]⟩, .string ⟨#[120, 35, 121]⟩, .string ⟨#[97, 92, 110, 98]⟩, .string ⟨#[97, 92]⟩, .string ⟨#[97, 92, 92]⟩, .string ⟨#[34, 111, 112, 101, 110]⟩, .string ⟨#[34, 113, 34, 120]⟩, .string ⟨#[97, 92, 32]⟩, .string ⟨#[97, 92, 113]⟩, .string ⟨#[32, 9]⟩, .string ⟨#[59, 32, 122]⟩] 9)) hgn)
  replace HC := Lib.hid hCn
  clear hCn hgn
  go_wp2
  go_ret
  exact ⟨t, ht, rfl, HC.out, HG.out⟩

set_option maxHeartbeats 3200000 in
theorem file5_draw (w : World) (B b : Nat) (a : Option Addr) (len cap : Nat) (hlen : len ≤ 9223372036854775807) (hC : CurAt w B b a len cap) :
    Calls Tryd.prog 18 #[.pointer (some ⟨b, 0, none⟩)] w (DrewS 600 w B b a len cap) := by
  go_enter Tryd.func18, Tryd.ntmps18
  go_wp2_with fail
  refine (below_draw w B b a len cap 8 hlen hC (by decide) (by decide)).mono ?_
  rintro e w0 ⟨x, hx0, hx1, rfl, hC0, hg0⟩
  have HC0 := Lib.hid hC0
  have HG0 := Lib.hid hg0
  clear hC hC0 hg0
  go_wp2_with fail
  go_loopw [3, 5, 6] (fun sv i _ wr => ∃ (k : Nat) (s : ByteArray), (k : Int) ≤ x ∧ i = .int .i64 k ∧ sv = .string s ∧ s.size ≤ k * 60 ∧ Hid (CurAt wr B b a len cap) ∧ Hid (w.grownBy wr (some b))) (fun _ i _ _ => x.toNat - (intOf i).toNat)
  case atStart => exact ⟨0, ⟨#[]⟩, hx0, rfl, rfl, Nat.le_refl _, HC0, HG0⟩
  case round =>
    obtain ⟨k, s, hk, rfl, rfl, hsk, HC, HG⟩ := hrel
    clear HC0 HG0
    by_cases hlt : (k : Int) < x
    · go_wp2_with fail
      refine (below_draw wr B b a len cap 9 hlen HC.out (by decide) (by decide)).mono ?_
      rintro e w1 ⟨y, hy0, hy1, rfl, hC1, hg1⟩
      replace HG := Lib.hid (grownBy_step HG.out hg1)
      replace HC := Lib.hid hC1
      clear hC1 hg1
      by_cases y0 : y = 0
      · subst y0
        go_wp2_with fail
        refine (pick_draw (w1.alloc (.cells #[.string ⟨#[91, 115, 93]⟩, .string ⟨#[91, 32, 116, 32, 93, 32, 35, 32, 120]⟩, .string ⟨#[91, 93]⟩, .string ⟨#[91, 115]⟩, .string ⟨#[91, 115, 93, 120]⟩, .string ⟨#[91, 97, 93, 98, 93]⟩] 9)) B b a len cap w1.heap.size 6 6 12 hlen (HC.out.alloc _) (by decide) (by decide) (by have := HC.out.lt; omega) (by simp) (by refine texts_alloc w1 _ _ _ _ ?_; decide +kernel)).mono ?_
        rintro e wl ⟨ln, hln, rfl, hCn, hgn⟩
        replace HG := Lib.hid (grownBy_step (grownBy_new HG.out (.cells #[.string ⟨#[91, 115, 93]⟩, .string ⟨#[91, 32, 116, 32, 93, 32, 35, 32, 120]⟩, .string ⟨#[91, 93]⟩, .string ⟨#[91, 115]⟩, .string ⟨#[91, 115, 93, 120]⟩, .string ⟨#[91, 97, 93, 98, 93]⟩] 9)) hgn)
        replace HC := Lib.hid hCn
        clear hCn hgn
        go_wp2_with fail
        refine (pick_draw (wl.alloc (.cells #[.string ⟨#[]⟩, .string ⟨#[]⟩, .string ⟨#[]⟩, .string ⟨#[32]⟩] 9)) B b a len cap wl.heap.size 4 4 12 hlen (HC.out.alloc _) (by decide) (by decide) (by have := HC.out.lt; omega) (by simp) (by refine texts_alloc wl _ _ _ _ ?_; decide +kernel)).mono ?_
        rintro e wm ⟨p, hp, rfl, hCn, hgn⟩
        replace HG := Lib.hid (grownBy_step (grownBy_new HG.out (.cells #[.string ⟨#[]⟩, .string ⟨#[]⟩, .string ⟨#[]⟩, .string ⟨#[32]⟩] 9)) hgn)
        replace HC := Lib.hid hCn
        clear hCn hgn
        go_wp2_with fail
        refine (pick_draw (wm.alloc (.cells #[.string ⟨#[10]⟩, .string ⟨#[10]⟩, .string ⟨#[10]⟩, .string ⟨#[13, 10]⟩, .string ⟨#[13]⟩] 9)) B b a len cap wm.heap.size 5 5 12 hlen (HC.out.alloc _) (by decide) (by decide) (by have := HC.out.lt; omega) (by simp) (by refine texts_alloc wm _ _ _ _ ?_; decide +kernel)).mono ?_
        rintro e wn ⟨q, hq, rfl, hCn, hgn⟩
        replace HG := Lib.hid (grownBy_step (grownBy_new HG.out (.cells #[.string ⟨#[10]⟩, .string ⟨#[10]⟩, .string ⟨#[10]⟩, .string ⟨#[13, 10]⟩, .string ⟨#[13]⟩] 9)) hgn)
        replace HC := Lib.hid hCn
        clear hCn hgn
        have hsz : (s ++ p ++ ln ++ q).size ≤ (k + 1) * 60 := by simp only [ByteArray.size_append]; omega
        go_wp2
        go_roundw
        case rel => exact ⟨k + 1, s ++ p ++ ln ++ q, by omega, by go_num, rfl, hsz, HC, HG⟩
        case measure => simp [intOf]; omega
      · have e0 : (y == 0) = false := by simpa using y0
        by_cases y1 : y = 1
        · subst y1
          clear e0 y0
          go_wp2_with fail
          refine (pick_draw (w1.alloc (.cells #[.string ⟨#[]⟩, .string ⟨#[32, 32]⟩, .string ⟨#[35, 32, 110, 111, 116, 101]⟩, .string ⟨#[59, 32, 110, 111, 116, 101]⟩, .string ⟨#[33, 32, 110, 111, 116, 101]⟩] 9)) B b a len cap w1.heap.size 5 5 12 hlen (HC.out.alloc _) (by decide) (by decide) (by have := HC.out.lt; omega) (by simp) (by refine texts_alloc w1 _ _ _ _ ?_; decide +kernel)).mono ?_
          rintro e wl ⟨ln, hln, rfl, hCn, hgn⟩
          replace HG := Lib.hid (grownBy_step (grownBy_new HG.out (.cells #[.string ⟨#[]⟩, .string ⟨#[32, 32]⟩, .string ⟨#[35, 32, 110, 111, 116, 101]⟩, .string ⟨#[59, 32, 110, 111, 116, 101]⟩, .string ⟨#[33, 32, 110, 111, 116, 101]⟩] 9)) hgn)
          replace HC := Lib.hid hCn
          clear hCn hgn
          go_wp2_with fail
          refine (pick_draw (wl.alloc (.cells #[.string ⟨#[]⟩, .string ⟨#[]⟩, .string ⟨#[]⟩, .string ⟨#[32]⟩] 9)) B b a len cap wl.heap.size 4 4 12 hlen (HC.out.alloc _) (by decide) (by decide) (by have := HC.out.lt; omega) (by simp) (by refine texts_alloc wl _ _ _ _ ?_; decide +kernel)).mono ?_
          rintro e wm ⟨p, hp, rfl, hCn, hgn⟩
          replace HG := Lib.hid (grownBy_step (grownBy_new HG.out (.cells #[.string ⟨#[]⟩, .string ⟨#[]⟩, .string ⟨#[]⟩, .string ⟨#[32]⟩] 9)) hgn)
          replace HC := Lib.hid hCn
          clear hCn hgn
          go_wp2_with fail
          refine (pick_draw (wm.alloc (.cells #[.string ⟨#[10]⟩, .string ⟨#[10]⟩, .string ⟨#[10]⟩, .string ⟨#[13, 10]⟩, .string ⟨#[13]⟩] 9)) B b a len cap wm.heap.size 5 5 12 hlen (HC.out.alloc _) (by decide) (by decide) (by have := HC.out.lt; omega) (by simp) (by refine texts_alloc wm _ _ _ _ ?_; decide +kernel)).mono ?_
          rintro e wn ⟨q, hq, rfl, hCn, hgn⟩
          replace HG := Lib.hid (grownBy_step (grownBy_new HG.out (.cells #[.string ⟨#[10]⟩, .string ⟨#[10]⟩, .string ⟨#[10]⟩, .string ⟨#[13, 10]⟩, .string ⟨#[13]⟩] 9)) hgn)
          replace HC := Lib.hid hCn
          clear hCn hgn
          have hsz : (s ++ p ++ ln ++ q).size ≤ (k + 1) * 60 := by simp only [ByteArray.size_append]; omega
          go_wp2
          go_roundw
          case rel => exact ⟨k + 1, s ++ p ++ ln ++ q, by omega, by go_num, rfl, hsz, HC, HG⟩
          case measure => simp [intOf]; omega
        · have e1 : (y == 1) = false := by simpa using y1
          by_cases y2 : y = 2
          · subst y2
            clear e0 y0 e1 y1
            go_wp2_with fail
            refine (pick_draw (w1.alloc (.cells #[.string ⟨#[106, 117, 110, 107]⟩, .string ⟨#[61, 120]⟩, .string ⟨#[32, 32, 105, 110, 100, 101, 110, 116, 101, 100]⟩, .string ⟨#[9, 109, 111, 114, 101, 32, 61, 32, 121]⟩, .string ⟨#[32, 35, 32, 105, 110]⟩] 9)) B b a len cap w1.heap.size 5 5 12 hlen (HC.out.alloc _) (by decide) (by decide) (by have := HC.out.lt; omega) (by simp) (by refine texts_alloc w1 _ _ _ _ ?_; decide +kernel)).mono ?_
            rintro e wl ⟨ln, hln, rfl, hCn, hgn⟩
            replace HG := Lib.hid (grownBy_step (grownBy_new HG.out (.cells #[.string ⟨#[106, 117, 110, 107]⟩, .string ⟨#[61, 120]⟩, .string ⟨#[32, 32, 105, 110, 100, 101, 110, 116, 101, 100]⟩, .string ⟨#[9, 109, 111, 114, 101, 32, 61, 32, 121]⟩, .string ⟨#[32, 35, 32, 105, 110]⟩] 9)) hgn)
            replace HC := Lib.hid hCn
            clear hCn hgn
            go_wp2_with fail
            refine (pick_draw (wl.alloc (.cells #[.string ⟨#[]⟩, .string ⟨#[]⟩, .string ⟨#[]⟩, .string ⟨#[32]⟩] 9)) B b a len cap wl.heap.size 4 4 12 hlen (HC.out.alloc _) (by decide) (by decide) (by have := HC.out.lt; omega) (by simp) (by refine texts_alloc wl _ _ _ _ ?_; decide +kernel)).mono ?_
            rintro e wm ⟨p, hp, rfl, hCn, hgn⟩
            replace HG := Lib.hid (grownBy_step (grownBy_new HG.out (.cells #[.string ⟨#[]⟩, .string ⟨#[]⟩, .string ⟨#[]⟩, .string ⟨#[32]⟩] 9)) hgn)
            replace HC := Lib.hid hCn
            clear hCn hgn
            go_wp2_with fail
            refine (pick_draw (wm.alloc (.cells #[.string ⟨#[10]⟩, .string ⟨#[10]⟩, .string ⟨#[10]⟩, .string ⟨#[13, 10]⟩, .string ⟨#[13]⟩] 9)) B b a len cap wm.heap.size 5 5 12 hlen (HC.out.alloc _) (by decide) (by decide) (by have := HC.out.lt; omega) (by simp) (by refine texts_alloc wm _ _ _ _ ?_; decide +kernel)).mono ?_
            rintro e wn ⟨q, hq, rfl, hCn, hgn⟩
            replace HG := Lib.hid (grownBy_step (grownBy_new HG.out (.cells #[.string ⟨#[10]⟩, .string ⟨#[10]⟩, .string ⟨#[10]⟩, .string ⟨#[13, 10]⟩, .string ⟨#[13]⟩] 9)) hgn)
            replace HC := Lib.hid hCn
            clear hCn hgn
            have hsz : (s ++ p ++ ln ++ q).size ≤ (k + 1) * 60 := by simp only [ByteArray.size_append]; omega
            go_wp2
            go_roundw
            case rel => exact ⟨k + 1, s ++ p ++ ln ++ q, by omega, by go_num, rfl, hsz, HC, HG⟩
            case measure => simp [intOf]; omega
          · have e2 : (y == 2) = false := by simpa using y2
            clear y0 y1 y2
            go_wp2_with fail
            refine (pick_draw (w1.alloc (.cells #[.string ⟨#[97]⟩, .string ⟨#[98]⟩, .string ⟨#[107, 101, 121]⟩, .string ⟨#[97]⟩] 9)) B b a len cap w1.heap.size 4 4 12 hlen (HC.out.alloc _) (by decide) (by decide) (by have := HC.out.lt; omega) (by simp) (by refine texts_alloc w1 _ _ _ _ ?_; decide +kernel)).mono ?_
            rintro e w2 ⟨ka, hka, rfl, hCn, hgn⟩
            replace HG := Lib.hid (grownBy_step (grownBy_new HG.out (.cells #[.string ⟨#[97]⟩, .string ⟨#[98]⟩, .string ⟨#[107, 101, 121]⟩, .string ⟨#[97]⟩] 9)) hgn)
            replace HC := Lib.hid hCn
            clear hCn hgn
            go_wp2_with fail
            refine (pick_draw (w2.alloc (.cells #[.string ⟨#[61]⟩, .string ⟨#[32, 61, 32]⟩, .string ⟨#[58]⟩, .string ⟨#[9, 58, 9]⟩] 9)) B b a len cap w2.heap.size 4 4 12 hlen (HC.out.alloc _) (by decide) (by decide) (by have := HC.out.lt; omega) (by simp) (by refine texts_alloc w2 _ _ _ _ ?_; decide +kernel)).mono ?_
            rintro e w3 ⟨kb, hkb, rfl, hCn, hgn⟩
            replace HG := Lib.hid (grownBy_step (grownBy_new HG.out (.cells #[.string ⟨#[61]⟩, .string ⟨#[32, 61, 32]⟩, .string ⟨#[58]⟩, .string ⟨#[9, 58, 9]⟩] 9)) hgn)
            replace HC := Lib.hid hCn
            clear hCn hgn
            go_wp2_with fail
            refine (value5_draw w3 B b a len cap hlen HC.out).mono ?_
            rintro e wl ⟨kc, hkc, rfl, hCn, hgn⟩
            replace HG := Lib.hid (grownBy_step HG.out hgn)
            replace HC := Lib.hid hCn
            clear hCn hgn
            have hln : (ka ++ kb ++ kc).size ≤ 36 := by simp only [ByteArray.size_append]; omega
            obtain ⟨ln, hlnq⟩ : ∃ ln, ka ++ kb ++ kc = ln := ⟨_, rfl⟩
            rw [hlnq] at hln
            go_wp2_with fail
            refine (pick_draw (wl.alloc (.cells #[.string ⟨#[]⟩, .string ⟨#[]⟩, .string ⟨#[]⟩, .string ⟨#[32]⟩] 9)) B b a len cap wl.heap.size 4 4 12 hlen (HC.out.alloc _) (by decide) (by decide) (by have := HC.out.lt; omega) (by simp) (by refine texts_alloc wl _ _ _ _ ?_; decide +kernel)).mono ?_
            rintro e wm ⟨p, hp, rfl, hCn, hgn⟩
            replace HG := Lib.hid (grownBy_step (grownBy_new HG.out (.cells #[.string ⟨#[]⟩, .string ⟨#[]⟩, .string ⟨#[]⟩, .string ⟨#[32]⟩] 9)) hgn)
            replace HC := Lib.hid hCn
            clear hCn hgn
            go_wp2_with fail
            refine (pick_draw (wm.alloc (.cells #[.string ⟨#[10]⟩, .string ⟨#[10]⟩, .string ⟨#[10]⟩, .string ⟨#[13, 10]⟩, .string ⟨#[13]⟩] 9)) B b a len cap wm.heap.size 5 5 12 hlen (HC.out.alloc _) (by decide) (by decide) (by have := HC.out.lt; omega) (by simp) (by refine texts_alloc wm _ _ _ _ ?_; decide +kernel)).mono ?_
            rintro e wn ⟨q, hq, rfl, hCn, hgn⟩
            replace HG := Lib.hid (grownBy_step (grownBy_new HG.out (.cells #[.string ⟨#[10]⟩, .string ⟨#[10]⟩, .string ⟨#[10]⟩, .string ⟨#[13, 10]⟩, .string ⟨#[13]⟩] 9)) hgn)
            replace HC := Lib.hid hCn
            clear hCn hgn
            have hsz : (s ++ p ++ ln ++ q).size ≤ (k + 1) * 60 := by simp only [ByteArray.size_append]; omega
            go_wp2
            go_roundw
            case rel => exact ⟨k + 1, s ++ p ++ ln ++ q, by omega, by go_num, rfl, hsz, HC, HG⟩
            case measure => simp [intOf]; omega
    · obtain rfl : (k : Int) = x := by omega
      go_wp2_with fail
      refine (once_draw wr B b a len cap 3 hlen HC.out (by decide) (by decide)).mono ?_
      rintro e w1 ⟨y, rfl, hC1, hg1⟩
      have hG := grownBy_step HG.out hg1
      have HGN := Lib.hid hG
      have HCN := Lib.hid hC1
      clear hC1 hg1 hG HC HG
      have hs2 : (s ++ ⟨#[122, 32, 61, 32, 108, 97, 115, 116]⟩ : ByteArray).size ≤ 600 := by
        rw [ByteArray.size_append, show (⟨#[122, 32, 61, 32, 108, 97, 115, 116]⟩ : ByteArray).size = 8 from rfl]
        omega
      cases y
      · go_wp2
        go_ret
        exact ⟨s, by omega, rfl, HCN.out, HGN.out⟩
      · go_wp2
        go_ret
        exact ⟨_, hs2, rfl, HCN.out, HGN.out⟩

end Go.Proofs.YtcphmgdeigbemaaDoor

/- The draws of Dialects, and DrawParseIni. -/
set_option maxRecDepth 100000
namespace Go.Proofs.YtcphmgdeigbemaaDoor
open Go.RowKit
set_option linter.unusedVariables false

def noDial : DialectD := ⟨⟨#[]⟩, ⟨#[]⟩, false, false, false, 0⟩
theorem DialAt.free {w : World} {b : Nat} {d : DialectD} (h : DialAt w b d) (j : Nat) : w.frozen? ⟨b, j, none⟩ = false := by
  unfold DialAt at h
  simp [World.frozen?, h]
theorem DialAt.put6 {w : World} {b : Nat} {d : DialectD} (h : DialAt w b d) (a0 a1 : ByteArray) (a2 a3 a4 : Bool) (a5 : Int) :
    DialAt ((((((w.setCell ⟨b, 0, none⟩ (.string a0)).setCell ⟨b, 1, none⟩ (.string a1)).setCell ⟨b, 2, none⟩ (.bool a2)).setCell ⟨b, 3, none⟩ (.bool a3)).setCell ⟨b, 4, none⟩ (.bool a4)).setCell ⟨b, 5, none⟩ (.int .i64 a5)) b ⟨a0, a1, a2, a3, a4, a5⟩ := by
  unfold DialAt at *
  have h1 := set_cellR _ b 0 _ _ _ (.string a0) h
  have h2 := set_cellR _ b 1 _ _ _ (.string a1) h1
  have h3 := set_cellR _ b 2 _ _ _ (.bool a2) h2
  have h4 := set_cellR _ b 3 _ _ _ (.bool a3) h3
  have h5 := set_cellR _ b 4 _ _ _ (.bool a4) h4
  have h6 := set_cellR _ b 5 _ _ _ (.int .i64 a5) h5
  rw [h6]
  rfl
theorem dial_result (w : World) (g : Nat) (x : DialectD) (fn : Func) (p : Tmp) (tmps : Array Value) (h : fn.results = #[.cell p 25]) (hp : tmps.getD p undef = .pointer (some ⟨g, 0, none⟩)) (hg : DialAt w g x) :
    (results fn tmps).run Tryd.prog w = .ok (dialectV x) w :=
  results_cell_row h _ _ g 25 _ (0, 0) _ hp hg Tryd.underlying25 rfl (by kernel_rfl)
theorem grownBy_put {w w' : World} {row : Option Nat} (h : w.grownBy w' row) (g j : Nat) (hg : w.heap.size ≤ g) (v : Value) : w.grownBy (w'.setCell ⟨g, j, none⟩ v) row :=
  ⟨h.os, h.tape, h.output, Nat.le_trans h.size (by simp [World.setCell]), fun k hk hn => (Below.heap_setCell _ _ _ k (by simp only; omega)).trans (h.block k hk hn)⟩
theorem grownBy_put6 {w w' : World} {row : Option Nat} (h : w.grownBy w' row) (g : Nat) (hg : w.heap.size ≤ g) (v0 v1 v2 v3 v4 v5 : Value) : w.grownBy ((((((w'.setCell ⟨g, 0, none⟩ v0).setCell ⟨g, 1, none⟩ v1).setCell ⟨g, 2, none⟩ v2).setCell ⟨g, 3, none⟩ v3).setCell ⟨g, 4, none⟩ v4).setCell ⟨g, 5, none⟩ v5) row :=
  grownBy_put (grownBy_put (grownBy_put (grownBy_put (grownBy_put (grownBy_put h g 0 hg v0) g 1 hg v1) g 2 hg v2) g 3 hg v3) g 4 hg v4) g 5 hg v5
theorem CurAt.put {w : World} {B b : Nat} {a : Option Addr} {len cap : Nat} (h : CurAt w B b a len cap) (g j : Nat) (hg : b < g) (v : Value) : CurAt (w.setCell ⟨g, j, none⟩ v) B b a len cap := by
  obtain ⟨i, x, hc⟩ := h
  exact ⟨i, x, hc.kept (fun k hk => Below.heap_setCell _ _ _ k (by simp only; omega)) (by simp [World.setCell])⟩
theorem CurAt.put6 {w : World} {B b : Nat} {a : Option Addr} {len cap : Nat} (h : CurAt w B b a len cap) (g : Nat) (hg : b < g) (v0 v1 v2 v3 v4 v5 : Value) : CurAt ((((((w.setCell ⟨g, 0, none⟩ v0).setCell ⟨g, 1, none⟩ v1).setCell ⟨g, 2, none⟩ v2).setCell ⟨g, 3, none⟩ v3).setCell ⟨g, 4, none⟩ v4).setCell ⟨g, 5, none⟩ v5) B b a len cap :=
  (((((h.put g 0 hg v0).put g 1 hg v1).put g 2 hg v2).put g 3 hg v3).put g 4 hg v4).put g 5 hg v5
/-- a Dialect that was drawn -/
def DrewD (w : World) (B b : Nat) (a : Option Addr) (len cap : Nat) (e : Ending) (w' : World) : Prop :=
  ∃ d : DialectD, d.notes.size ≤ 12 ∧ d.seps.size ≤ 12 ∧ e = .returned (dialectV d) ∧ CurAt w' B b a len cap ∧ w.grownBy w' (some b)
/-- what is held while a Dialect is drawn into block g -/
structure DrawH (w W : World) (B b : Nat) (a : Option Addr) (len cap g : Nat) (d : DialectD) : Prop where
  cu : CurAt W B b a len cap
  gr : w.grownBy W (some b)
  da : DialAt W g d
  ne : g ≠ b
theorem DrawH.step {w W W' : World} {B b : Nat} {a : Option Addr} {len cap g : Nat} {d : DialectD} (h : DrawH w W B b a len cap g d) (hg : W.grownBy W' (some b)) (hc : CurAt W' B b a len cap) : DrawH w W' B b a len cap g d := by
  refine ⟨hc, grownBy_step h.gr hg, ?_, h.ne⟩
  have hlt : g < W.heap.size := (Array.getElem?_eq_some_iff.1 h.da).1
  unfold DialAt
  rw [hg.block g hlt (by intro e; injection e with e; exact h.ne e)]
  exact h.da

set_option maxHeartbeats 800000 in
theorem dialect5_draw (w : World) (B b : Nat) (a : Option Addr) (len cap : Nat) (hlen : len ≤ 9223372036854775807) (hC : CurAt w B b a len cap) :
    Calls Tryd.prog 44 #[.pointer (some ⟨b, 0, none⟩)] w (DrewD w B b a len cap) := by
  have hbw := hC.lt
  have H : Hid (DrawH w (w.alloc (.cells #[.string ⟨#[]⟩, .string ⟨#[]⟩, .bool false, .bool false, .bool false, .int .i64 0] 25)) B b a len cap w.heap.size noDial) := ⟨hC.alloc _, grownBy_new (World.grownBy.refl _ _) _, heap_alloc_new _ _, by omega⟩
  clear hC
  go_enter Tryd.func44, Tryd.ntmps44
  go_wp2_with fail
  have hs0 : (w.alloc (.cells #[.string ⟨#[]⟩, .string ⟨#[]⟩, .bool false, .bool false, .bool false, .int .i64 0] 25)).heap.size = w.heap.size + 1 := by simp
  generalize w.alloc (.cells #[.string ⟨#[]⟩, .string ⟨#[]⟩, .bool false, .bool false, .bool false, .int .i64 0] 25) = w0 at *
  rw [← hs0]
  clear hs0
  have hTx : TextsAt (w0.alloc (.cells #[.string ⟨#[35]⟩, .string ⟨#[59]⟩, .string ⟨#[35, 59]⟩, .string ⟨#[35, 59, 33]⟩] 9)) w0.heap.size 4 B 12 := (by refine texts_alloc w0 _ _ _ _ ?_; decide +kernel)
  with_reducible refine (pick_draw (w0.alloc (.cells #[.string ⟨#[35]⟩, .string ⟨#[59]⟩, .string ⟨#[35, 59]⟩, .string ⟨#[35, 59, 33]⟩] 9)) B b a len cap w0.heap.size 4 4 12 hlen (H.out.cu.alloc _) (by decide) (by decide) (by have := H.out.cu.lt; omega) (by simp) hTx).mono ?_
  rintro e w1 ⟨x0, hx0, rfl, hCn, hgn⟩
  replace H := Lib.hid (H.out.step (grownBy_new (World.grownBy.refl _ _) (.cells #[.string ⟨#[35]⟩, .string ⟨#[59]⟩, .string ⟨#[35, 59]⟩, .string ⟨#[35, 59, 33]⟩] 9) |> fun h => grownBy_step h hgn) hCn)
  clear hCn hgn hTx
  go_wp2_with fail
  have hTx : TextsAt (w1.alloc (.cells #[.string ⟨#[61]⟩, .string ⟨#[61, 58]⟩, .string ⟨#[58]⟩] 9)) w1.heap.size 3 B 12 := (by refine texts_alloc w1 _ _ _ _ ?_; decide +kernel)
  with_reducible refine (pick_draw (w1.alloc (.cells #[.string ⟨#[61]⟩, .string ⟨#[61, 58]⟩, .string ⟨#[58]⟩] 9)) B b a len cap w1.heap.size 3 3 12 hlen (H.out.cu.alloc _) (by decide) (by decide) (by have := H.out.cu.lt; omega) (by simp) hTx).mono ?_
  rintro e w2 ⟨x1, hx1, rfl, hCn, hgn⟩
  replace H := Lib.hid (H.out.step (grownBy_new (World.grownBy.refl _ _) (.cells #[.string ⟨#[61]⟩, .string ⟨#[61, 58]⟩, .string ⟨#[58]⟩] 9) |> fun h => grownBy_step h hgn) hCn)
  clear hCn hgn hTx
  go_wp2_with fail
  with_reducible refine (once_draw w2 B b a len cap 2 hlen H.out.cu (by decide) (by decide)).mono ?_
  rintro e w3 ⟨x2, rfl, hCn, hgn⟩
  replace H := Lib.hid (H.out.step hgn hCn)
  clear hCn hgn
  go_wp2_with fail
  with_reducible refine (once_draw w3 B b a len cap 2 hlen H.out.cu (by decide) (by decide)).mono ?_
  rintro e w4 ⟨x3, rfl, hCn, hgn⟩
  replace H := Lib.hid (H.out.step hgn hCn)
  clear hCn hgn
  go_wp2_with fail
  with_reducible refine (once_draw w4 B b a len cap 2 hlen H.out.cu (by decide) (by decide)).mono ?_
  rintro e w5 ⟨x4, rfl, hCn, hgn⟩
  replace H := Lib.hid (H.out.step hgn hCn)
  clear hCn hgn
  go_wp2_with fail
  with_reducible refine (below_draw w5 B b a len cap 3 hlen H.out.cu (by decide) (by decide)).mono ?_
  rintro e w6 ⟨x5, hx50, hx51, rfl, hCn, hgn⟩
  replace H := Lib.hid (H.out.step hgn hCn)
  clear hCn hgn
  obtain ⟨c0, c1, c2, c3, c4, c5⟩ := H.out.da.cells
  simp only [noDial] at c0 c1 c2 c3 c4 c5
  have f0 := H.out.da.free 0
  have f1 := H.out.da.free 1
  have f2 := H.out.da.free 2
  have f3 := H.out.da.free 3
  have f4 := H.out.da.free 4
  have f5 := H.out.da.free 5
  go_wp2
  (try simp only [Exit.inBlock, Exit.then])
  exact bodyPost_ret (dial_result _ w.heap.size _ _ _ _ rfl rfl (H.out.da.put6 _ _ _ _ _ _)) rfl ⟨⟨x0, x1, x2, x3, x4, x5⟩, hx0, hx1, rfl, H.out.cu.put6 _ hbw _ _ _ _ _ _, grownBy_put6 H.out.gr _ (Nat.le_refl _) _ _ _ _ _ _⟩


theorem DialAt.set {w : World} {b g j : Nat} {d : DialectD} (h : DialAt w b d) (hne : b ≠ g) (v : Value) : DialAt (w.setCell ⟨g, j, none⟩ v) b d := by
  unfold DialAt at *
  rw [Below.heap_setCell _ _ _ b hne]
  exact h

set_option maxHeartbeats 1600000 in
theorem anyDialect5_draw (w : World) (B b : Nat) (a : Option Addr) (len cap : Nat) (hlen : len ≤ 9223372036854775807) (hC : CurAt w B b a len cap) :
    Calls Tryd.prog 22 #[.pointer (some ⟨b, 0, none⟩)] w (DrewD w B b a len cap) := by
  have hbw := hC.lt
  have H : Hid (DrawH w (w.alloc (.cells #[.string ⟨#[]⟩, .string ⟨#[]⟩, .bool false, .bool false, .bool false, .int .i64 0] 25)) B b a len cap w.heap.size noDial) := ⟨hC.alloc _, grownBy_new (World.grownBy.refl _ _) _, heap_alloc_new _ _, by omega⟩
  clear hC
  go_enter Tryd.func22, Tryd.ntmps22
  go_wp2_with fail
  have hs0 : w.heap.size < (w.alloc (.cells #[.string ⟨#[]⟩, .string ⟨#[]⟩, .bool false, .bool false, .bool false, .int .i64 0] 25)).heap.size := by simp
  generalize w.alloc (.cells #[.string ⟨#[]⟩, .string ⟨#[]⟩, .bool false, .bool false, .bool false, .int .i64 0] 25) = w0 at *
  with_reducible refine (dialect5_draw w0 B b a len cap hlen H.out.cu).mono ?_
  rintro e w1 ⟨d, hd0, hd1, rfl, hC1, hg1⟩
  replace H := Lib.hid (H.out.step hg1 hC1)
  have hs1 := Nat.lt_of_lt_of_le hs0 hg1.size
  clear hC1 hg1 hs0
  obtain ⟨d0, d1, d2, d3, d4, d5⟩ := d
  simp only at hd0 hd1
  unfold dialectV
  simp only
  have hgA : w1.grownBy (w1.alloc (.cells #[.string d0, .string d1, .bool d2, .bool d3, .bool d4, .int .i64 d5] 25)) (some b) := grownBy_new (World.grownBy.refl _ _) _
  have hbw1 := H.out.cu.lt
  have H1 : Hid (DrawH w (w1.alloc (.cells #[.string d0, .string d1, .bool d2, .bool d3, .bool d4, .int .i64 d5] 25)) B b a len cap w1.heap.size ⟨d0, d1, d2, d3, d4, d5⟩) := ⟨H.out.cu.alloc _, grownBy_step H.out.gr hgA, heap_alloc_new _ _, by omega⟩
  replace H := Lib.hid (H.out.step hgA (H.out.cu.alloc _))
  clear hgA
  go_wp2_with fail
  generalize w1.alloc (.cells #[.string d0, .string d1, .bool d2, .bool d3, .bool d4, .int .i64 d5] 25) = w2 at *
  have n1 : w.heap.size ≠ w1.heap.size := by omega
  have n2 : w1.heap.size ≠ w.heap.size := by omega
  have hbh1 : b < w1.heap.size := by omega
  have hwh1 : w.heap.size ≤ w1.heap.size := by omega
  generalize w1.heap.size = h1 at *
  with_reducible refine (below_draw w2 B b a len cap 16 hlen H.out.cu (by decide) (by decide)).mono ?_
  rintro e w3 ⟨y, hy0, hy1, rfl, hCn, hgn⟩
  replace H1 := Lib.hid (H1.out.step hgn hCn)
  replace H := Lib.hid (H.out.step hgn hCn)
  clear hCn hgn
  by_cases y0 : y = 0
  · subst y0
    go_wp2_with fail
    have hTx : TextsAt (w3.alloc (.cells #[.string ⟨#[]⟩, .string ⟨#[35, 35]⟩, .string ⟨#[120]⟩, .string ⟨#[35, 59, 33, 35]⟩] 9)) w3.heap.size 4 B 12 := (by refine texts_alloc w3 _ _ _ _ ?_; decide +kernel)
    with_reducible refine (pick_draw (w3.alloc (.cells #[.string ⟨#[]⟩, .string ⟨#[35, 35]⟩, .string ⟨#[120]⟩, .string ⟨#[35, 59, 33, 35]⟩] 9)) B b a len cap w3.heap.size 4 4 12 hlen (H.out.cu.alloc _) (by decide) (by decide) (by have := H.out.cu.lt; omega) (by simp) hTx).mono ?_
    rintro e w4 ⟨x, hx, rfl, hCn, hgn⟩
    replace H1 := Lib.hid (H1.out.step (grownBy_new (World.grownBy.refl _ _) (.cells #[.string ⟨#[]⟩, .string ⟨#[35, 35]⟩, .string ⟨#[120]⟩, .string ⟨#[35, 59, 33, 35]⟩] 9) |> fun h => grownBy_step h hgn) hCn)
    replace H := Lib.hid (H.out.step (grownBy_new (World.grownBy.refl _ _) (.cells #[.string ⟨#[]⟩, .string ⟨#[35, 35]⟩, .string ⟨#[120]⟩, .string ⟨#[35, 59, 33, 35]⟩] 9) |> fun h => grownBy_step h hgn) hCn)
    clear hCn hgn hTx
    obtain ⟨c0, c1, c2, c3, c4, c5⟩ := H.out.da.cells
    simp only [noDial] at c0 c1 c2 c3 c4 c5
    have f0 := H.out.da.free 0
    have f1 := H.out.da.free 1
    have f2 := H.out.da.free 2
    have f3 := H.out.da.free 3
    have f4 := H.out.da.free 4
    have f5 := H.out.da.free 5
    obtain ⟨g0, g1, g2, g3, g4, g5⟩ := H1.out.da.cells
    simp only at g0 g1 g2 g3 g4 g5
    have fg0 := H1.out.da.free 0
    have fg1 := H1.out.da.free 1
    have fg5 := H1.out.da.free 5
    go_wp2
    (try simp only [Exit.inBlock, Exit.then])
    exact bodyPost_ret (dial_result _ w.heap.size _ _ _ _ rfl rfl ((H.out.da.set (g := h1) (j := 0) n1 _).put6 _ _ _ _ _ _)) rfl ⟨⟨x, d1, d2, d3, d4, d5⟩, hx, hd1, rfl, (H.out.cu.put h1 0 hbh1 _).put6 _ hbw _ _ _ _ _ _, grownBy_put6 (grownBy_put H.out.gr h1 0 hwh1 _) _ (Nat.le_refl _) _ _ _ _ _ _⟩
  · have e0 : (y == 0) = false := by simpa using y0
    by_cases y1 : y = 1
    · subst y1
      clear e0 y0
      go_wp2_with fail
      have hTx : TextsAt (w3.alloc (.cells #[.string ⟨#[]⟩, .string ⟨#[61, 61]⟩, .string ⟨#[35]⟩] 9)) w3.heap.size 3 B 12 := (by refine texts_alloc w3 _ _ _ _ ?_; decide +kernel)
      with_reducible refine (pick_draw (w3.alloc (.cells #[.string ⟨#[]⟩, .string ⟨#[61, 61]⟩, .string ⟨#[35]⟩] 9)) B b a len cap w3.heap.size 3 3 12 hlen (H.out.cu.alloc _) (by decide) (by decide) (by have := H.out.cu.lt; omega) (by simp) hTx).mono ?_
      rintro e w4 ⟨x, hx, rfl, hCn, hgn⟩
      replace H1 := Lib.hid (H1.out.step (grownBy_new (World.grownBy.refl _ _) (.cells #[.string ⟨#[]⟩, .string ⟨#[61, 61]⟩, .string ⟨#[35]⟩] 9) |> fun h => grownBy_step h hgn) hCn)
      replace H := Lib.hid (H.out.step (grownBy_new (World.grownBy.refl _ _) (.cells #[.string ⟨#[]⟩, .string ⟨#[61, 61]⟩, .string ⟨#[35]⟩] 9) |> fun h => grownBy_step h hgn) hCn)
      clear hCn hgn hTx
      obtain ⟨c0, c1, c2, c3, c4, c5⟩ := H.out.da.cells
      simp only [noDial] at c0 c1 c2 c3 c4 c5
      have f0 := H.out.da.free 0
      have f1 := H.out.da.free 1
      have f2 := H.out.da.free 2
      have f3 := H.out.da.free 3
      have f4 := H.out.da.free 4
      have f5 := H.out.da.free 5
      obtain ⟨g0, g1, g2, g3, g4, g5⟩ := H1.out.da.cells
      simp only at g0 g1 g2 g3 g4 g5
      have fg0 := H1.out.da.free 0
      have fg1 := H1.out.da.free 1
      have fg5 := H1.out.da.free 5
      go_wp2
      (try simp only [Exit.inBlock, Exit.then])
      exact bodyPost_ret (dial_result _ w.heap.size _ _ _ _ rfl rfl ((H.out.da.set (g := h1) (j := 1) n1 _).put6 _ _ _ _ _ _)) rfl ⟨⟨d0, x, d2, d3, d4, d5⟩, hd0, hx, rfl, (H.out.cu.put h1 1 hbh1 _).put6 _ hbw _ _ _ _ _ _, grownBy_put6 (grownBy_put H.out.gr h1 1 hwh1 _) _ (Nat.le_refl _) _ _ _ _ _ _⟩
    · have e1 : (y == 1) = false := by simpa using y1
      by_cases y2 : y = 2
      · subst y2
        clear e0 y0 e1 y1
        go_wp2_with fail
        have hIx : IntsAt (w3.alloc (.cells #[.int .i64 (-1), .int .i64 3] 3)) w3.heap.size 2 := by
          intro i hi
          match i, hi with
          | 0, _ => exact ⟨-1, by decide, by decide, by simp⟩
          | 1, _ => exact ⟨3, by decide, by decide, by simp⟩
        with_reducible refine (pickInt_draw (w3.alloc (.cells #[.int .i64 (-1), .int .i64 3] 3)) B b a len cap w3.heap.size 2 2 hlen (H.out.cu.alloc _) (by decide) (by decide) (by have := H.out.cu.lt; omega) (by simp) hIx).mono ?_
        rintro e w4 ⟨x, hx0, hx1, rfl, hCn, hgn⟩
        have hgp := grownBy_step (grownBy_new (World.grownBy.refl w3 (some b)) (.cells #[.int .i64 (-1), .int .i64 3] 3)) hgn
        replace H1 := Lib.hid (H1.out.step hgp hCn)
        replace H := Lib.hid (H.out.step hgp hCn)
        clear hCn hgn hgp hIx
        obtain ⟨c0, c1, c2, c3, c4, c5⟩ := H.out.da.cells
        simp only [noDial] at c0 c1 c2 c3 c4 c5
        have f0 := H.out.da.free 0
        have f1 := H.out.da.free 1
        have f2 := H.out.da.free 2
        have f3 := H.out.da.free 3
        have f4 := H.out.da.free 4
        have f5 := H.out.da.free 5
        obtain ⟨g0, g1, g2, g3, g4, g5⟩ := H1.out.da.cells
        simp only at g0 g1 g2 g3 g4 g5
        have fg0 := H1.out.da.free 0
        have fg1 := H1.out.da.free 1
        have fg5 := H1.out.da.free 5
        go_wp2
        (try simp only [Exit.inBlock, Exit.then])
        exact bodyPost_ret (dial_result _ w.heap.size _ _ _ _ rfl rfl ((H.out.da.set (g := h1) (j := 5) n1 _).put6 _ _ _ _ _ _)) rfl ⟨⟨d0, d1, d2, d3, d4, x⟩, hd0, hd1, rfl, (H.out.cu.put h1 5 hbh1 _).put6 _ hbw _ _ _ _ _ _, grownBy_put6 (grownBy_put H.out.gr h1 5 hwh1 _) _ (Nat.le_refl _) _ _ _ _ _ _⟩
      · have e2 : (y == 2) = false := by simpa using y2
        clear y0 y1 y2
        obtain ⟨c0, c1, c2, c3, c4, c5⟩ := H.out.da.cells
        simp only [noDial] at c0 c1 c2 c3 c4 c5
        have f0 := H.out.da.free 0
        have f1 := H.out.da.free 1
        have f2 := H.out.da.free 2
        have f3 := H.out.da.free 3
        have f4 := H.out.da.free 4
        have f5 := H.out.da.free 5
        obtain ⟨g0, g1, g2, g3, g4, g5⟩ := H1.out.da.cells
        simp only at g0 g1 g2 g3 g4 g5
        have fg0 := H1.out.da.free 0
        have fg1 := H1.out.da.free 1
        have fg5 := H1.out.da.free 5
        go_wp2
        (try simp only [Exit.inBlock, Exit.then])
        exact bodyPost_ret (dial_result _ w.heap.size _ _ _ _ rfl rfl (H.out.da.put6 _ _ _ _ _ _)) rfl ⟨⟨d0, d1, d2, d3, d4, d5⟩, hd0, hd1, rfl, H.out.cu.put6 _ hbw _ _ _ _ _ _, grownBy_put6 H.out.gr _ (Nat.le_refl _) _ _ _ _ _ _⟩

end Go.Proofs.YtcphmgdeigbemaaDoor

/- The draw of a file with sections and a Dialect. -/
set_option maxRecDepth 100000
namespace Go.Proofs.YtcphmgdeigbemaaDoor
open Go.RowKit
set_option linter.unusedVariables false

theorem results_tail1 {P : Program} {fn : Func} {p u : Tmp} {ty : TypeId} (h : fn.results = #[.tmp u, .cell p ty]) (tmps : Array Value) (w : World) (g : Nat) (t : TypeId) (cs : Array Value) (fr : Nat × Nat) (d : TypeDesc)
    (hp : tmps.getD p undef = .pointer (some ⟨g, 0, none⟩)) (hg : w.heap[g]? = some (.cells cs t fr))
    (hu : P.underlying ty = some d) (hd : (match d with | .struct _ | .array _ _ => true | _ => false) = true) (hi : (P.info? ty).map (·.size) = some cs.size) :
    (results fn tmps).run P w = .ok (.tuple #[tmps.getD u undef, .agg cs]) w := by
  have hp' : tmps[p]?.getD undef = .pointer (some ⟨g, 0, none⟩) := by simpa using hp
  simp [results, h, hp', asAddr, run_loadVar_row w g t ty cs fr d hg hu hd hi]
/-- a text and a Dialect that were drawn -/
def DrewTD (w : World) (e : Ending) (w' : World) : Prop :=
  ∃ (s : ByteArray) (d : DialectD), s.size ≤ 1700 ∧ d.notes.size ≤ 12 ∧ d.seps.size ≤ 12 ∧ e = .returned (.tuple #[.string s, dialectV d]) ∧ Below w.heap.size w w'
theorem below_puts6 {B : Nat} {w0 w : World} (h : Below B w0 w) (g : Nat) (hg : B ≤ g) (v0 v1 v2 v3 v4 v5 : Value) : Below B w0 ((((((w.setCell ⟨g, 0, none⟩ v0).setCell ⟨g, 1, none⟩ v1).setCell ⟨g, 2, none⟩ v2).setCell ⟨g, 3, none⟩ v3).setCell ⟨g, 4, none⟩ v4).setCell ⟨g, 5, none⟩ v5) :=
  (((((h.setCell (p := ⟨g, 0, none⟩) hg _).setCell (p := ⟨g, 1, none⟩) hg _).setCell (p := ⟨g, 2, none⟩) hg _).setCell (p := ⟨g, 3, none⟩) hg _).setCell (p := ⟨g, 4, none⟩) hg _).setCell (p := ⟨g, 5, none⟩) hg _

set_option maxHeartbeats 1600000 in
theorem drawParseIni (w : World) (a : Option Addr) (len cap : Nat) (hlen : len ≤ 1048576) (hB : BytesIn w a len) (hlow : ∀ x, a = some x → len ≠ 0 → x.block < w.heap.size) :
    Calls Tryd.prog 7 #[.slice a len cap] w (DrewTD w) := by
  have hlen2 : len ≤ 9223372036854775807 := by omega
  have hb0 := (Below.refl w.heap.size w).alloc (Nat.le_refl _) (.cells #[.string ⟨#[]⟩, .string ⟨#[]⟩, .bool false, .bool false, .bool false, .int .i64 0] 25)
  have KN := Lib.hid (new_draw (w.alloc (.cells #[.string ⟨#[]⟩, .string ⟨#[]⟩, .bool false, .bool false, .bool false, .int .i64 0] 25)) a len cap hlen (bytesIn_kept (b := 0) hB (fun x hx hl => hb0.block x.block (hlow x hx hl))) (fun x hx hl => by have := hlow x hx hl; simp; omega))
  have HD0 : Hid (DialAt (w.alloc (.cells #[.string ⟨#[]⟩, .string ⟨#[]⟩, .bool false, .bool false, .bool false, .int .i64 0] 25)) w.heap.size noDial) := heap_alloc_new _ _
  have hs0 : (w.alloc (.cells #[.string ⟨#[]⟩, .string ⟨#[]⟩, .bool false, .bool false, .bool false, .int .i64 0] 25)).heap.size = w.heap.size + 1 := by simp
  have HB0 := Lib.hid hb0
  clear hb0
  go_enter Tryd.func7, Tryd.ntmps7
  go_wp2_with fail
  generalize w.alloc (.cells #[.string ⟨#[]⟩, .string ⟨#[]⟩, .bool false, .bool false, .bool false, .int .i64 0] 25) = w0 at *
  with_reducible refine KN.out.mono ?_
  rintro e w1 ⟨rfl, hC1, hb1⟩
  have hwb : w.heap.size < w0.heap.size := by omega
  have H : Hid (DrawH w1 w1 w0.heap.size w0.heap.size a len cap w.heap.size noDial) := ⟨hC1, World.grownBy.refl _ _, HD0.out.over hb1 (by omega), by omega⟩
  have HB1 := Lib.hid (HB0.out.trans (hb1.mono HB0.out.size))
  clear KN HD0 HB0 hs0 hC1 hb1
  generalize w0.heap.size = b at *
  go_wp2_with fail
  with_reducible refine (file5_draw w1 b b a len cap hlen2 H.out.cu).mono ?_
  rintro e w2 ⟨s, hs, rfl, hCn, hgn⟩
  replace H := Lib.hid (H.out.step hgn hCn)
  clear hCn hgn
  go_wp2_with fail
  with_reducible refine (below_draw w2 b b a len cap 16 hlen2 H.out.cu (by decide) (by decide)).mono ?_
  rintro e w3 ⟨y, hy0, hy1, rfl, hCn, hgn⟩
  replace H := Lib.hid (H.out.step hgn hCn)
  clear hCn hgn
  by_cases y0 : y = 0
  · subst y0
    clear hs
    go_wp2_with fail
    with_reducible refine (below_draw w3 b b a len cap 6 hlen2 H.out.cu (by decide) (by decide)).mono ?_
    rintro e w4 ⟨x, hx0, hx1, rfl, hCn, hgn⟩
    replace H := Lib.hid (H.out.step hgn hCn)
    clear hCn hgn
    go_wp2_with fail
    go_loopw [5, 7] (fun sv i wr => ∃ (k : Nat) (s : ByteArray), (k : Int) ≤ 197 + x ∧ i = .int .i64 k ∧ sv = .string s ∧ s.size ≤ k * 8 ∧ Hid (DrawH w1 wr b b a len cap w.heap.size noDial)) (fun _ i _ => (197 + x).toNat - (intOf i).toNat)
    case atStart => exact ⟨0, ⟨#[]⟩, by omega, rfl, rfl, Nat.le_refl _, H⟩
    case round =>
      obtain ⟨k, s, hk, rfl, rfl, hsk, H⟩ := hrel
      by_cases hlt : (k : Int) < 197 + x
      ·

        go_wp2_with fail
        have hTx : TextsAt (wr.alloc (.cells #[.string ⟨#[97, 61, 49, 10]⟩, .string ⟨#[10]⟩, .string ⟨#[91, 115, 93, 10]⟩] 9)) wr.heap.size 3 b 8 := (by refine texts_alloc wr _ _ _ _ ?_; decide +kernel)
        with_reducible refine (pick_draw (wr.alloc (.cells #[.string ⟨#[97, 61, 49, 10]⟩, .string ⟨#[10]⟩, .string ⟨#[91, 115, 93, 10]⟩] 9)) b b a len cap wr.heap.size 3 3 8 hlen2 (H.out.cu.alloc _) (by decide) (by decide) (by have := H.out.cu.lt; omega) (by simp) hTx).mono ?_
        rintro e w5 ⟨t, ht, rfl, hCn, hgn⟩
        replace H := Lib.hid (H.out.step (grownBy_new (World.grownBy.refl _ _) (.cells #[.string ⟨#[97, 61, 49, 10]⟩, .string ⟨#[10]⟩, .string ⟨#[91, 115, 93, 10]⟩] 9) |> fun h => grownBy_step h hgn) hCn)
        clear hCn hgn hTx
        have hsz : (s ++ t).size ≤ (k + 1) * 8 := by rw [ByteArray.size_append]; omega
        go_wp2
        go_roundw
        case rel => exact ⟨k + 1, s ++ t, by omega, by go_num, rfl, hsz, H⟩
        case measure => simp [intOf]; omega
      · have hs : s.size ≤ 1700 := by omega
        go_wp2_with fail
        with_reducible refine (anyDialect5_draw _ b b a len cap hlen2 H.out.cu).mono ?_
        rintro e w9 ⟨d, hd0, hd1, rfl, hCn, hgn⟩
        replace H := Lib.hid (H.out.step hgn hCn)
        clear hCn hgn
        obtain ⟨d0, d1, d2, d3, d4, d5⟩ := d
        simp only at hd0 hd1
        unfold dialectV
        simp only
        obtain ⟨c0, c1, c2, c3, c4, c5⟩ := H.out.da.cells
        simp only [noDial] at c0 c1 c2 c3 c4 c5
        have f0 := H.out.da.free 0
        have f1 := H.out.da.free 1
        have f2 := H.out.da.free 2
        have f3 := H.out.da.free 3
        have f4 := H.out.da.free 4
        have f5 := H.out.da.free 5
        go_wp2
        (try simp only [Exit.inBlock, Exit.then])
        exact bodyPost_ret (results_tail1 rfl _ _ w.heap.size 25 _ (0, 0) _ rfl (H.out.da.put6 _ _ _ _ _ _) Tryd.underlying25 rfl (by kernel_rfl)) rfl ⟨s, ⟨d0, d1, d2, d3, d4, d5⟩, hs, hd0, hd1, rfl, (HB1.out.grown H.out.gr HB1.out.size (fun j e => by injection e with e; omega))|> fun h => below_puts6 h _ (Nat.le_refl _) _ _ _ _ _ _⟩
  · have e0 : (y == 0) = false := by simpa using y0
    by_cases y1 : y = 1
    · subst y1
      clear e0 y0
      go_wp2_with fail
      with_reducible refine (bent_draw w3 b b a len cap s hlen (by omega) H.out.cu).mono ?_
      rintro e w4 ⟨t, ht, rfl, hCn, hgn⟩
      replace H := Lib.hid (H.out.step hgn hCn)
      clear hCn hgn
      obtain ⟨s, rfl⟩ : ∃ s, s = t := ⟨_, rfl⟩
      rename_i s0
      replace hs : s.size ≤ 1700 := by omega
      go_wp2_with fail
      with_reducible refine (anyDialect5_draw _ b b a len cap hlen2 H.out.cu).mono ?_
      rintro e w9 ⟨d, hd0, hd1, rfl, hCn, hgn⟩
      replace H := Lib.hid (H.out.step hgn hCn)
      clear hCn hgn
      obtain ⟨d0, d1, d2, d3, d4, d5⟩ := d
      simp only at hd0 hd1
      unfold dialectV
      simp only
      obtain ⟨c0, c1, c2, c3, c4, c5⟩ := H.out.da.cells
      simp only [noDial] at c0 c1 c2 c3 c4 c5
      have f0 := H.out.da.free 0
      have f1 := H.out.da.free 1
      have f2 := H.out.da.free 2
      have f3 := H.out.da.free 3
      have f4 := H.out.da.free 4
      have f5 := H.out.da.free 5
      go_wp2
      (try simp only [Exit.inBlock, Exit.then])
      exact bodyPost_ret (results_tail1 rfl _ _ w.heap.size 25 _ (0, 0) _ rfl (H.out.da.put6 _ _ _ _ _ _) Tryd.underlying25 rfl (by kernel_rfl)) rfl ⟨s, ⟨d0, d1, d2, d3, d4, d5⟩, hs, hd0, hd1, rfl, (HB1.out.grown H.out.gr HB1.out.size (fun j e => by injection e with e; omega))|> fun h => below_puts6 h _ (Nat.le_refl _) _ _ _ _ _ _⟩
    · have e1 : (y == 1) = false := by simpa using y1
      by_cases y2 : y = 2
      · subst y2
        clear e0 y0 e1 y1
        go_wp2_with fail
        with_reducible refine (bent_draw w3 b b a len cap s hlen (by omega) H.out.cu).mono ?_
        rintro e w4 ⟨t, ht, rfl, hCn, hgn⟩
        replace H := Lib.hid (H.out.step hgn hCn)
        clear hCn hgn
        obtain ⟨s, rfl⟩ : ∃ s, s = t := ⟨_, rfl⟩
        rename_i s0
        replace hs : s.size ≤ 1700 := by omega
        go_wp2_with fail
        with_reducible refine (anyDialect5_draw _ b b a len cap hlen2 H.out.cu).mono ?_
        rintro e w9 ⟨d, hd0, hd1, rfl, hCn, hgn⟩
        replace H := Lib.hid (H.out.step hgn hCn)
        clear hCn hgn
        obtain ⟨d0, d1, d2, d3, d4, d5⟩ := d
        simp only at hd0 hd1
        unfold dialectV
        simp only
        obtain ⟨c0, c1, c2, c3, c4, c5⟩ := H.out.da.cells
        simp only [noDial] at c0 c1 c2 c3 c4 c5
        have f0 := H.out.da.free 0
        have f1 := H.out.da.free 1
        have f2 := H.out.da.free 2
        have f3 := H.out.da.free 3
        have f4 := H.out.da.free 4
        have f5 := H.out.da.free 5
        go_wp2
        (try simp only [Exit.inBlock, Exit.then])
        exact bodyPost_ret (results_tail1 rfl _ _ w.heap.size 25 _ (0, 0) _ rfl (H.out.da.put6 _ _ _ _ _ _) Tryd.underlying25 rfl (by kernel_rfl)) rfl ⟨s, ⟨d0, d1, d2, d3, d4, d5⟩, hs, hd0, hd1, rfl, (HB1.out.grown H.out.gr HB1.out.size (fun j e => by injection e with e; omega))|> fun h => below_puts6 h _ (Nat.le_refl _) _ _ _ _ _ _⟩
      · have e2 : (y == 2) = false := by simpa using y2
        clear y0 y1 y2
        replace hs : s.size ≤ 1700 := by omega
        go_wp2_with fail
        with_reducible refine (anyDialect5_draw _ b b a len cap hlen2 H.out.cu).mono ?_
        rintro e w9 ⟨d, hd0, hd1, rfl, hCn, hgn⟩
        replace H := Lib.hid (H.out.step hgn hCn)
        clear hCn hgn
        obtain ⟨d0, d1, d2, d3, d4, d5⟩ := d
        simp only at hd0 hd1
        unfold dialectV
        simp only
        obtain ⟨c0, c1, c2, c3, c4, c5⟩ := H.out.da.cells
        simp only [noDial] at c0 c1 c2 c3 c4 c5
        have f0 := H.out.da.free 0
        have f1 := H.out.da.free 1
        have f2 := H.out.da.free 2
        have f3 := H.out.da.free 3
        have f4 := H.out.da.free 4
        have f5 := H.out.da.free 5
        go_wp2
        (try simp only [Exit.inBlock, Exit.then])
        exact bodyPost_ret (results_tail1 rfl _ _ w.heap.size 25 _ (0, 0) _ rfl (H.out.da.put6 _ _ _ _ _ _) Tryd.underlying25 rfl (by kernel_rfl)) rfl ⟨s, ⟨d0, d1, d2, d3, d4, d5⟩, hs, hd0, hd1, rfl, (HB1.out.grown H.out.gr HB1.out.size (fun j e => by injection e with e; omega))|> fun h => below_puts6 h _ (Nat.le_refl _) _ _ _ _ _ _⟩

end Go.Proofs.YtcphmgdeigbemaaDoor
