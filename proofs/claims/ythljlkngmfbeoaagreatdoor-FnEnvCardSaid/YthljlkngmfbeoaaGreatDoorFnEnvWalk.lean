/- The contract of l01Bent: some text. -/
import Derived.Test.YthljlkngmfbeoaaGreatDoorProg
import Derived.Test.YthljlkngmfbeoaaGreatDoorPlain
import Derived.Test.YthljlkngmfbeoaaGreatDoorDraw
import Derived.Test.YthljlkngmfbeoaaGreatDoorDrawNum
import Derived.WalkKit
import Derived.WalkLawsBesides
import Derived.BigQuiet
import Derived.Deep.QuietTactic
import Derived.Deep.RegionWith
import Derived.Lib.Hide
import Derived.IntWalk
import Derived.Laws.IdiomStrings
import Derived.Test.YthljlkngmfbeoaaGreatDoorRows0
import Derived.Test.YthljlkngmfbeoaaGreatDoorRecRows
import Derived.Test.YthljlkngmfbeoaaGreatDoorRecArg
import Derived.Test.YthljlkngmfbeoaaGreatDoorRecRaw
import Derived.Test.YthljlkngmfbeoaaGreatDoorRecNum
import Derived.Test.YthljlkngmfbeoaaGreatDoorEnvOne
import Derived.Test.YthljlkngmfbeoaaGreatDoorEnvName
import Derived.Test.YthljlkngmfbeoaaGreatDoorEnvRecs
import Derived.Test.YthljlkngmfbeoaaGreatDoorEnvFit
import Derived.Test.YthljlkngmfbeoaaGreatDoorEnvSpec
import Derived.Test.YthljlkngmfbeoaaGreatDoorEnvParse
import Derived.Lib.QuietBelow
namespace Go.Proofs.YthljlkngmfbeoaaGreatDoor
open Go.RowKit
set_option linter.unusedVariables false

def DrewBT (m : Nat) (w : World) (B b : Nat) (a : Option Addr) (len cap : Nat) (e : Ending) (w' : World) : Prop :=
  ∃ s : ByteArray, s.size ≤ m ∧ e = .returned (.string s) ∧ CurAt w' B b a len cap ∧ w.grownBy w' (some b)

set_option maxHeartbeats 1600000 in
theorem bent_draw (w : World) (B b : Nat) (a : Option Addr) (len cap : Nat) (s : ByteArray) (hlen : len ≤ 1048576) (hs : s.size ≤ 1048576) (hC : CurAt w B b a len cap) :
    Calls Tryz.prog 19 #[.pointer (some ⟨b, 0, none⟩), .string s] w (DrewBT (s.size + 2) w B b a len cap) := by
  go_enter Tryz.func19, Tryz.ntmps19
  go_wp2_with fail
  refine (below_draw w B b a len cap _ (by omega) hC (by omega) (by omega)).mono ?_
  rintro e w1 ⟨x, hx0, hx1, rfl, hC1, hg1⟩
  obtain ⟨i, rfl⟩ := Int.eq_ofNat_of_zero_le hx0
  have hi : i ≤ s.size := by omega
  clear hx0 hx1 hC
  go_wp2_with fail
  refine (below_draw w1 B b a len cap 10 (by omega) hC1 (by decide) (by decide)).mono ?_
  rintro e w2 ⟨y, hy0, hy1, rfl, hC2, hg2⟩
  replace hg2 := grownBy_step hg1 hg2
  clear hC1 hg1
  have hlt2 := hC2.lt
  by_cases y0 : y = 0
  · have hb0 : (y == 0) = true := by rw [y0]; rfl
    clear y0
    go_wp2
    go_ret
    exact ⟨_, by simp; omega, rfl, hC2, hg2⟩
  · have hb0 : (y == 0) = false := beq_eq_false_iff_ne.2 y0
    by_cases y1 : y = 1
    · have hb1 : (y == 1) = true := by rw [y1]; rfl
      clear y0 y1
      go_wp2_with fail
      go_region_with (go_at_call 18; refine (pick_draw _ B b a len cap w2.heap.size 12 12 1 (by omega) (hC2.alloc _).drew (by decide) (by decide) (by omega) (by simp) (texts_drew (by refine texts_alloc w2 _ _ _ _ ?_; decide +kernel))).mono ?_; rintro e w3 ⟨t, ht, rfl, hC3, hg3⟩)
      go_wp2
      go_ret
      refine ⟨_, ?_, rfl, hC3, grownBy_step (grownBy_new hg2 _) (grownBy_step (grownBy_drewN (World.grownBy.refl _ _) 1) hg3)⟩
      simp [ByteArray.size_append, ByteArray.size_extract]
      omega
    · have hb1 : (y == 1) = false := beq_eq_false_iff_ne.2 y1
      by_cases y2 : y = 2
      · have hb2 : (y == 2) = true := by rw [y2]; rfl
        clear y0 y1 y2
        by_cases hil : i < s.size
        · have hsum : (i : Int) + 1 ≤ (s.size : Int) := by omega
          have hsum0 : 0 ≤ (i : Int) + 1 := by omega
          have hwr : IntKind.i64.wrap ((i : Int) + 1) = (i : Int) + 1 := IntWalk.i64_in _ (by omega)
          have htn : ((i : Int) + 1).toNat = i + 1 := by omega
          go_wp2_with fail
          go_region_with (go_at_call 18; refine (pick_draw _ B b a len cap w2.heap.size 6 6 1 (by omega) (hC2.alloc _).drew (by decide) (by decide) (by omega) (by simp) (texts_drew (by refine texts_alloc w2 _ _ _ _ ?_; decide +kernel))).mono ?_; rintro e w3 ⟨t, ht, rfl, hC3, hg3⟩)
          go_wp2
          go_ret
          refine ⟨_, ?_, rfl, hC3, grownBy_step (grownBy_new hg2 _) (grownBy_step (grownBy_drewN (World.grownBy.refl _ _) 1) hg3)⟩
          simp [ByteArray.size_append, ByteArray.size_extract]
          omega
        · go_wp2
          go_ret
          exact ⟨s, by omega, rfl, hC2, hg2⟩
      · have hb2 : (y == 2) = false := beq_eq_false_iff_ne.2 y2
        clear y0 y1 y2
        go_wp2
        go_ret
        exact ⟨s, by omega, rfl, hC2, hg2⟩

end Go.Proofs.YthljlkngmfbeoaaGreatDoor

/- The draw of an environment file: bounds alone. -/
set_option maxRecDepth 100000
namespace Go.Proofs.YthljlkngmfbeoaaGreatDoor
open Go.RowKit
set_option linter.unusedVariables false

set_option maxHeartbeats 1600000 in
theorem file8_draw (w : World) (B b : Nat) (a : Option Addr) (len cap : Nat) (hlen : len ≤ 9223372036854775807) (hC : CurAt w B b a len cap) :
    Calls Tryz.prog 16 #[.pointer (some ⟨b, 0, none⟩)] w (DrewS 142 w B b a len cap) := by
  go_enter Tryz.func16, Tryz.ntmps16
  go_wp2_with fail
  refine (below_draw w B b a len cap 8 hlen hC (by decide) (by decide)).mono ?_
  rintro e w1 ⟨x, hx0, hx1, rfl, hC1, hg1⟩
  obtain ⟨n, rfl⟩ := Int.eq_ofNat_of_zero_le hx0
  clear hC
  go_wp2
  go_loopw [3, 5] (fun s q wr => ∃ (k : Nat) (t : ByteArray), k ≤ n ∧ q = .int .i64 k ∧ s = .string t ∧ t.size ≤ 17 * k ∧ Hid (CurAt wr B b a len cap) ∧ Hid (w.grownBy wr (some b))) (fun _ q _ => n - (intOf q).toNat)
  case atStart => exact ⟨0, ⟨#[]⟩, Nat.zero_le _, rfl, rfl, Nat.le_refl _, hC1, hg1⟩
  case round =>
    obtain ⟨k, t, hk, rfl, rfl, ht, hC, hg⟩ := hrel
    clear hC1 hg1
    by_cases hkn : k < n
    · have hltr := hC.out.lt
      have K := Lib.hid (pick_draw (wr.alloc (.cells #[.string ⟨#[65, 61, 49]⟩, .string ⟨#[101, 120, 112, 111, 114, 116, 32, 66, 32, 61, 32, 116, 119, 111]⟩, .string ⟨#[67, 61, 39, 97, 32, 36, 98, 39]⟩, .string ⟨#[68, 61, 34, 120, 92, 110, 121, 32, 92, 36, 122, 32, 36, 65, 34]⟩, .string ⟨#[69, 61, 98, 97, 114, 101, 32, 35, 32, 110, 111, 116, 101]⟩, .string ⟨#[70, 61, 35]⟩, .string ⟨#[71, 61, 39, 109, 117, 108, 116, 105]⟩, .string ⟨#[108, 105, 110, 101, 39]⟩, .string ⟨#[72, 61, 34, 111, 112, 101, 110]⟩, .string ⟨#[35, 32, 110, 111, 116, 101]⟩, .string ⟨#[]⟩, .string ⟨#[32, 32]⟩, .string ⟨#[73, 61, 97, 39, 98]⟩, .string ⟨#[49, 88, 61, 50]⟩, .string ⟨#[74]⟩, .string ⟨#[75, 61, 36, 123, 65, 58, 45, 100, 125]⟩, .string ⟨#[76, 61, 39, 97, 39, 120]⟩, .string ⟨#[77, 61, 34, 97, 34, 32, 35, 32, 110]⟩, .string ⟨#[78, 61, 34, 97, 34, 35, 110]⟩, .string ⟨#[79, 61, 32, 9]⟩, .string ⟨#[101, 120, 112, 111, 114, 116, 88, 61, 49]⟩, .string ⟨#[80, 61, 34, 97, 92, 34, 98, 92, 92, 34]⟩, .string ⟨#[81, 61, 34, 92, 113, 34]⟩] 9)) B b a len cap wr.heap.size 23 23 15 hlen (hC.out.alloc _) (by decide) (by decide) (by omega) (by simp) (by refine texts_alloc wr _ _ _ _ ?_; decide +kernel))
      go_wp2_with fail
      refine K.out.mono ?_
      rintro e w3 ⟨y, hy, rfl, hC3, hg3⟩
      have hg4 : Hid (w.grownBy w3 (some b)) := grownBy_step (grownBy_new hg.out _) hg3
      clear K hg hg3 hC
      have hlt3 := hC3.lt
      have K := Lib.hid (pick_draw (w3.alloc (.cells #[.string ⟨#[10]⟩, .string ⟨#[10]⟩, .string ⟨#[10]⟩, .string ⟨#[13, 10]⟩] 9)) B b a len cap w3.heap.size 4 4 2 hlen (hC3.alloc _) (by decide) (by decide) (by omega) (by simp) (by refine texts_alloc w3 _ _ _ _ ?_; decide +kernel))
      go_wp2_with fail
      refine K.out.mono ?_
      rintro e w5 ⟨z, hz, rfl, hC5, hg5⟩
      have hg6 : Hid (w.grownBy w5 (some b)) := grownBy_step (grownBy_new hg4.out _) hg5
      have HC5 := Lib.hid hC5
      clear K hg4 hg5 hC3 hC5
      go_wp2
      go_roundw
      case rel => exact ⟨k + 1, t ++ y ++ z, by omega, by go_num, rfl, by rw [ByteArray.size_append, ByteArray.size_append]; omega, HC5, hg6⟩
      case measure => simp [intOf]; omega
    · obtain rfl : k = n := by omega
      go_wp2_with fail
      refine (once_draw wr B b a len cap 3 hlen hC.out (by decide) (by decide)).mono ?_
      rintro e w2 ⟨x, rfl, hC2, hg2⟩
      have hg3 : Hid (w.grownBy w2 (some b)) := grownBy_step hg.out hg2
      clear hC hg hg2
      have hlt2 := hC2.lt
      cases x
      · go_wp2
        go_ret
        exact ⟨t, by omega, rfl, hC2, hg3.out⟩
      · have K := Lib.hid (pick_draw (w2.alloc (.cells #[.string ⟨#[90, 61, 108, 97, 115, 116]⟩, .string ⟨#[90, 61, 39]⟩, .string ⟨#[35]⟩] 9)) B b a len cap w2.heap.size 3 3 6 hlen (hC2.alloc _) (by decide) (by decide) (by omega) (by simp) (by refine texts_alloc w2 _ _ _ _ ?_; decide +kernel))
        go_wp2_with fail
        refine K.out.mono ?_
        rintro e w3 ⟨y, hy, rfl, hC3, hg4⟩
        have hg5 := grownBy_step (grownBy_new hg3.out _) hg4
        clear K hg3 hg4 hC2
        go_wp2
        go_ret
        exact ⟨t ++ y, by rw [ByteArray.size_append]; omega, rfl, hC3, hg5⟩

set_option maxHeartbeats 1600000 in
theorem drawParseEnv (w : World) (a : Option Addr) (len cap : Nat) (hlen : len ≤ 1048576) (hB : BytesIn w a len) (hlow : ∀ x, a = some x → len ≠ 0 → x.block < w.heap.size) :
    Calls Tryz.prog 6 #[.slice a len cap] w (SomeText 1000 w) := by
  go_enter Tryz.func6, Tryz.ntmps6
  go_wp2_with fail
  refine (new_draw w a len cap hlen hB hlow).mono ?_
  rintro e w1 ⟨rfl, hC1, hb1⟩
  clear hB hlow
  go_wp2_with fail
  refine (file8_draw w1 w.heap.size w.heap.size a len cap (by omega) hC1).mono ?_
  rintro e w2 ⟨s, hs, rfl, hC2, hg2⟩
  have hb2 := hb1.trans (grownBy_below hg2 (Nat.le_refl _) hb1.size)
  clear hC1 hg2 hb1
  go_wp2_with fail
  refine (below_draw w2 w.heap.size w.heap.size a len cap 16 (by omega) hC2 (by decide) (by decide)).mono ?_
  rintro e w3 ⟨x, hx0, hx1, rfl, hC3, hg3⟩
  have hb3 := hb2.trans (grownBy_below hg3 (Nat.le_refl _) hb2.size)
  clear hC2 hg3 hb2
  by_cases e0 : x = 0
  · subst e0
    go_wp2_with fail
    refine (below_draw w3 w.heap.size w.heap.size a len cap 6 (by omega) hC3 (by decide) (by decide)).mono ?_
    rintro e w4 ⟨y, hy0, hy1, rfl, hC4, hg4⟩
    have hb4 := hb3.trans (grownBy_below hg4 (Nat.le_refl _) hb3.size)
    obtain ⟨n, hn⟩ : ∃ n : Nat, (197 : Int) + y = (n : Int) := ⟨(197 + y).toNat, by omega⟩
    have hn2 : n ≤ 202 := by omega
    have hnw : IntKind.i64.wrap (197 + y) = (n : Int) := by rw [hn]; exact IntWalk.i64_in _ (by omega)
    have HC4 := Lib.hid hC4
    have HB4 := Lib.hid hb4
    clear hC3 hg4 hb3 hC4 hb4
    go_wp2
    go_loopw [4, 6] (fun s q wr => ∃ (k : Nat) (t : ByteArray), k ≤ n ∧ q = .int .i64 k ∧ s = .string t ∧ t.size ≤ 4 * k ∧ Hid (CurAt wr w.heap.size w.heap.size a len cap) ∧ Hid (Below w.heap.size w wr)) (fun _ q _ => n - (intOf q).toNat)
    case atStart => exact ⟨0, ⟨#[]⟩, Nat.zero_le _, rfl, rfl, Nat.le_refl _, HC4, HB4⟩
    case round =>
      obtain ⟨k, t, hk, rfl, rfl, ht, hC, hb⟩ := hrel
      clear HC4 HB4 hx1 hx0 hy0 hy1 hn hnw
      by_cases hkn : k < n
      · have hltr := hC.out.lt
        have K := Lib.hid (pick_draw (wr.alloc (.cells #[.string ⟨#[65, 61, 49, 10]⟩, .string ⟨#[10]⟩] 9)) w.heap.size w.heap.size a len cap wr.heap.size 2 2 4 (by omega) (hC.out.alloc _) (by decide) (by decide) (by omega) (by simp) (by refine texts_alloc wr _ _ _ _ ?_; decide +kernel))
        go_wp2_with fail
        refine K.out.mono ?_
        rintro e w3 ⟨y, hy, rfl, hC3, hg3⟩
        have hb4 : Hid (Below w.heap.size w w3) := hb.out.trans (grownBy_below (grownBy_step (World.grownBy_alloc wr _ _) hg3) (Nat.le_refl _) hb.out.size)
        have HC3 := Lib.hid hC3
        clear K hb hg3 hC hC3
        go_wp2
        go_roundw
        case rel => exact ⟨k + 1, t ++ y, by omega, by go_num, rfl, by rw [ByteArray.size_append]; omega, HC3, hb4⟩
        case measure => simp [intOf]; omega
      · obtain rfl : k = n := by omega
        go_wp2
        go_ret
        exact ⟨t, by omega, rfl, hb.out⟩
  · by_cases e1 : x = 1 ∨ x = 2
    · rcases e1 with rfl | rfl
      · go_wp2_with fail
        refine (bent_draw w3 w.heap.size w.heap.size a len cap s hlen (by omega) hC3).mono ?_
        rintro e w4 ⟨t, ht, rfl, hC4, hg4⟩
        have hb4 := hb3.trans (grownBy_below hg4 (Nat.le_refl _) hb3.size)
        clear hC3 hg4 hb3
        go_wp2
        go_ret
        exact ⟨t, by omega, rfl, hb4⟩
      · go_wp2_with fail
        refine (bent_draw w3 w.heap.size w.heap.size a len cap s hlen (by omega) hC3).mono ?_
        rintro e w4 ⟨t, ht, rfl, hC4, hg4⟩
        have hb4 := hb3.trans (grownBy_below hg4 (Nat.le_refl _) hb3.size)
        clear hC3 hg4 hb3
        go_wp2
        go_ret
        exact ⟨t, by omega, rfl, hb4⟩
    · have f0 : (x == 0) = false := by rw [beq_eq_false_iff_ne]; exact e0
      have f1 : (x == 1) = false := by rw [beq_eq_false_iff_ne]; omega
      have f2 : (x == 2) = false := by rw [beq_eq_false_iff_ne]; omega
      clear hx0 hx1
      go_wp2
      go_ret
      exact ⟨s, by omega, rfl, hb3⟩

end Go.Proofs.YthljlkngmfbeoaaGreatDoor

/- The walk of FnEnv. -/
set_option maxRecDepth 100000
namespace Go.Proofs.YthljlkngmfbeoaaGreatDoor
open Go.RowKit Go.Sort
set_option linter.unusedVariables false

set_option maxHeartbeats 1600000 in
theorem whole_yes (w : World) (v : Value) (g o : Nat) (r : List RecD) (s : ByteArray) (hI : RowsRd recS w v g o r) (hc : costRec r ≤ 1048576) (hraw : (⟨(rawB r).toArray⟩ : ByteArray) = s) (hnum : numL r = r) (hlen : r.length ≤ 200) :
    Calls Tryz.prog 11 #[v, .string s] w fun e w' => e = .returned (.bool true) ∧ Below w.heap.size w w' := by
  have KR := Lib.hid (fun (W : World) (h : RowsRd recS W v g o r) => rawOf_impl W v g o r h hc)
  have KN := Lib.hid (fun (W : World) (h : RowsRd recS W v g o r) => numbered_impl W v g o r h hc)
  rw [hraw] at KR
  rw [hnum] at KN
  obtain ⟨a, cap, rfl, _⟩ := hI.form
  have hl2 : (r.length : Int) ≤ 200 := by omega
  clear hraw hnum hc
  go_enter Tryz.func11, Tryz.ntmps11
  go_wp2_with fail
  refine (KR.out w hI).mono ?_
  rintro e w1 ⟨rfl, hb1⟩
  have hI1 := hI.over hb1
  clear hI KR
  go_wp2_with fail
  refine (KN.out w1 hI1).mono ?_
  rintro e w2 ⟨v2, g2, rfl, hI2, hg2, hb2⟩
  have hI3 := hI1.over hb2
  have hb3 := hb1.trans (hb2.mono hb1.size)
  clear hI1 KN hb1 hb2
  go_wp2_with fail
  refine (same_recs w2 v2 _ g2 0 g o r hI2.toRowsRd hI3 (by omega)).mono ?_
  rintro e w4 ⟨rfl, hb4⟩
  have hb5 := hb3.trans (hb4.mono hb3.size)
  clear hI2 hI3 hb3 hb4
  go_wp2
  go_ret
  exact ⟨rfl, hb5⟩

theorem le_sumW {α : Type} (f : α → Nat) : ∀ (l : List α) (x : α), x ∈ l → f x ≤ (l.map f).sum
  | [], x, h => by cases h
  | y :: l, x, h => by
    rw [List.map_cons, List.sum_cons]
    rcases List.mem_cons.1 h with rfl | h
    · omega
    · have := le_sumW f l x h
      omega
theorem name_none : nameB ⟨#[]⟩ = false := by decide +kernel
theorem text_noneW : (⟨#[]⟩ : ByteArray).toList = [] := by decide +kernel
set_option maxHeartbeats 1600000 in
theorem fnEnv_walk (a0 : Option Addr) (len0 cap0 : Nat) (w : World) (hB : BytesIn w a0 len0) (hlow : ∀ x, a0 = some x → len0 ≠ 0 → x.block < w.heap.size) :
    Calls Tryz.prog 3 #[.slice a0 len0 cap0] w fun e w' => e = .returned (.bool true) ∧ Below w.heap.size w w' := by
  by_cases h0 : len0 ≤ 1048576
  · go_enter Tryz.func3, Tryz.ntmps3
    go_wp2_with fail
    refine (big_no w a0 len0 cap0 h0).mono ?_
    rintro e w1 ⟨rfl, rfl⟩
    go_wp2_with fail
    refine (drawParseEnv _ a0 len0 cap0 h0 hB hlow).mono ?_
    rintro e w1 ⟨s, hs, rfl, hb1⟩
    have HOK := Lib.hid (okR_env s)
    have HC : Hid (costRec (propsL s) ≤ 1048576) := by
      unfold Hid propsL
      rw [if_pos (by omega)]
      have := cost_env s (by omega)
      omega
    have HRW : Hid ((⟨(rawB (propsL s)).toArray⟩ : ByteArray) = s) := by unfold Hid propsL; rw [if_pos (by omega), raw_props]
    have HNUM : Hid (numL (propsL s) = propsL s) := by unfold Hid propsL; rw [if_pos (by omega)]; exact num_props s
    have HLEN := Lib.hid (propsL_len s)
    have KI := Lib.hid (fun W => parseEnv_any s W (by omega))
    have KS := Lib.hid (fun W => parseEnv_spec s W (by omega))
    generalize propsL s = r at *
    clear hB hlow
    go_wp2_with fail
    refine (KI.out w1).mono ?_
    rintro e w2 ⟨v, g, rfl, hI, hg, hb2⟩
    obtain ⟨o, ho⟩ : ∃ o : Nat, 0 = o := ⟨0, rfl⟩
    have hI2 : RowsRd recS w2 v g o r := by rw [← ho]; exact hI.toRowsRd
    have hb3 := hb1.trans (hb2.mono hb1.size)
    clear hI hb1 hb2 KI hg
    go_wp2_with fail
    refine (KS.out w2).mono ?_
    rintro e w3 ⟨v3, g3, rfl, hI3, hg3, hb4⟩
    have hI4 := hI2.over hb4
    have hb5 := hb3.trans (hb4.mono hb3.size)
    clear hI2 hb3 hb4 KS hg3
    go_wp2_with fail
    refine (same_recs w3 v v3 g o g3 0 r hI4 hI3.toRowsRd (by have := HLEN.out; omega)).mono ?_
    rintro e w4 ⟨rfl, hb6⟩
    have hI5 := hI4.over hb6
    have hb7 := hb5.trans (hb6.mono hb5.size)
    clear hI4 hI3 hb5 hb6 ho
    obtain ⟨a, cap, rfl, ha⟩ := hI5.form
    have HA := Lib.hid ha
    have HI5 := Lib.hid hI5
    have HB7 := Lib.hid hb7
    clear ha hI5 hb7
    go_wp2
    go_loopw [5] (fun i wr => ∃ k : Nat, k ≤ r.length ∧ i = .int .i64 k ∧ Hid (RowsRd recS wr (.slice a r.length cap) g o r) ∧ Hid (Below w.heap.size w wr)) (fun i _ => r.length - (intOf i).toNat)
    case atStart => exact ⟨0, Nat.zero_le _, rfl, HI5, HB7⟩
    case round =>
      obtain ⟨k, hk, rfl, hI, hb⟩ := hrel
      clear HI5 HB7
      by_cases hlt : k < r.length
      · have hln : r ≠ [] := by intro e; subst e; simp at hlt
        obtain rfl := HA.out hln
        have q0 := rec_c0 hI.out k hlt
        have q2 := rec_c2 hI.out k hlt
        have q3 := rec_c3 hI.out k hlt
        obtain ⟨o1, o2, o3, o4, o5, o6⟩ := HOK.out _ (List.getElem_mem hlt)
        have hll := HLEN.out
        have hcr := HC.out
        have hks : (r[k]).key.size ≤ 1048576 := by
          have h1 : sizeRec r[k] ≤ costRec r := by
            have h9 := List.getElem_mem hlt
            have : sizeRec r[k] ≤ (r.map sizeRec).sum := le_sumW sizeRec r _ h9
            unfold costRec
            omega
          have h2 : (r[k]).key.size ≤ sizeRec r[k] := by unfold sizeRec; omega
          omega
        generalize r[k] = x at *
        obtain ⟨x0, x1, x2, x3, x4, x5⟩ := x
        simp only at q0 q2 q3 o1 o2 o3 o4 o5 o6 hks
        subst o2
        have KNM := Lib.hid (fun w => nameOk_impl x3 w hks)
        have KNQ : Hid (∀ q os, Calls Tryz.prog 10 #[.string x3] (grow (redrawn wr q) os) fun e w' => e = .returned (.bool (nameB x3)) ∧ ∃ p : Regrown, w' = grow (redrawn wr p.d) p.os) := by
          intro q os
          exact Calls.regrown_of (KNM.out (grow (redrawn wr q) os))
        clear o5 o6 hks hcr KNM
        have y0 := cell_regrown q0
        have y2 := cell_regrown q2
        have y3 := cell_regrown q3
        have tn := text_noneW
        rcases o1 with rfl | rfl | rfl | rfl
        · obtain ⟨rfl, _⟩ := o3 (by decide)
          clear o3 o4
          rw [name_none] at KNQ
          have HI := Lib.hid hI
          have HB := Lib.hid hb
          clear hI hb
          go_wp2_with fail
          refine wp_region_quiet_below (by kernel_rfl) (by kernel_rfl) ?_
          repeat (go_big_quiet_step (first | with_reducible exact KNQ.out _ _))
          refine wpQuiet_nil ?_
          intro _ hw'
          obtain ⟨⟨dq, osq⟩, hw''⟩ := hw'
          subst hw''
          have hbq := below_regrown wr dq osq
          have HI2 := Lib.hid (HI.out.out.over hbq)
          have HB2 := Lib.hid (HB.out.out.trans (hbq.mono HB.out.out.size))
          clear y0 y2 y3 q0 q2 q3 hbq HI HB KNQ
          generalize grow (redrawn wr dq) osq = w6 at *
          go_wp2
          go_roundw
          case rel => exact ⟨k + 1, by omega, by go_num, HI2, HB2⟩
          case measure => simp [intOf]; omega
        · obtain ⟨rfl, _⟩ := o3 (by decide)
          clear o3 o4
          rw [name_none] at KNQ
          have HI := Lib.hid hI
          have HB := Lib.hid hb
          clear hI hb
          go_wp2_with fail
          refine wp_region_quiet_below (by kernel_rfl) (by kernel_rfl) ?_
          repeat (go_big_quiet_step (first | with_reducible exact KNQ.out _ _))
          refine wpQuiet_nil ?_
          intro _ hw'
          obtain ⟨⟨dq, osq⟩, hw''⟩ := hw'
          subst hw''
          have hbq := below_regrown wr dq osq
          have HI2 := Lib.hid (HI.out.out.over hbq)
          have HB2 := Lib.hid (HB.out.out.trans (hbq.mono HB.out.out.size))
          clear y0 y2 y3 q0 q2 q3 hbq HI HB KNQ
          generalize grow (redrawn wr dq) osq = w6 at *
          go_wp2
          go_roundw
          case rel => exact ⟨k + 1, by omega, by go_num, HI2, HB2⟩
          case measure => simp [intOf]; omega
        · clear o3
          rw [o4 rfl] at KNQ
          clear o4
          have HI := Lib.hid hI
          have HB := Lib.hid hb
          clear hI hb
          go_wp2_with fail
          refine wp_region_quiet_below (by kernel_rfl) (by kernel_rfl) ?_
          repeat (go_big_quiet_step (first | with_reducible exact KNQ.out _ _))
          refine wpQuiet_nil ?_
          intro _ hw'
          obtain ⟨⟨dq, osq⟩, hw''⟩ := hw'
          subst hw''
          have hbq := below_regrown wr dq osq
          have HI2 := Lib.hid (HI.out.out.over hbq)
          have HB2 := Lib.hid (HB.out.out.trans (hbq.mono HB.out.out.size))
          clear y0 y2 y3 q0 q2 q3 hbq HI HB KNQ
          generalize grow (redrawn wr dq) osq = w6 at *
          go_wp2
          go_roundw
          case rel => exact ⟨k + 1, by omega, by go_num, HI2, HB2⟩
          case measure => simp [intOf]; omega
        · obtain ⟨rfl, _⟩ := o3 (by decide)
          clear o3 o4
          rw [name_none] at KNQ
          have HI := Lib.hid hI
          have HB := Lib.hid hb
          clear hI hb
          go_wp2_with fail
          refine wp_region_quiet_below (by kernel_rfl) (by kernel_rfl) ?_
          repeat (go_big_quiet_step (first | with_reducible exact KNQ.out _ _))
          refine wpQuiet_nil ?_
          intro _ hw'
          obtain ⟨⟨dq, osq⟩, hw''⟩ := hw'
          subst hw''
          have hbq := below_regrown wr dq osq
          have HI2 := Lib.hid (HI.out.out.over hbq)
          have HB2 := Lib.hid (HB.out.out.trans (hbq.mono HB.out.out.size))
          clear y0 y2 y3 q0 q2 q3 hbq HI HB KNQ
          generalize grow (redrawn wr dq) osq = w6 at *
          go_wp2
          go_roundw
          case rel => exact ⟨k + 1, by omega, by go_num, HI2, HB2⟩
          case measure => simp [intOf]; omega
      · obtain rfl : k = r.length := by omega
        have hle : ¬ (r.length : Int) < (r.length : Int) := by omega
        go_wp2_with fail
        refine (whole_yes wr _ g o r s hI.out HC.out HRW.out HNUM.out HLEN.out).mono ?_
        rintro e w6 ⟨rfl, hb6⟩
        have hb8 := hb.out.trans (hb6.mono hb.out.size)
        clear hI hb hb6
        go_wp2
        go_ret
        exact ⟨rfl, hb8⟩
  · go_enter Tryz.func3, Tryz.ntmps3
    go_wp2_with fail
    refine (big_yes w a0 len0 cap0 (by omega)).mono ?_
    rintro e w1 ⟨rfl, rfl⟩
    go_wp2
    go_ret
    exact ⟨rfl, Below.refl _ _⟩

end Go.Proofs.YthljlkngmfbeoaaGreatDoor
