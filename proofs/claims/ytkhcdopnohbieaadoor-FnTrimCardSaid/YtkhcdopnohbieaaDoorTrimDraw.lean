/- The draws of the law FnTrim. -/
import Derived.Test.YtkhcdopnohbieaaDoorProg
import Derived.Test.YtkhcdopnohbieaaDoorPlain
import Derived.Test.YtkhcdopnohbieaaDoorDraw
import Derived.Test.YtkhcdopnohbieaaDoorDrawNum
import Derived.Test.YtkhcdopnohbieaaDoorDrawFn
import Derived.Test.YtkhcdopnohbieaaDoorLcg
import Derived.Test.YtkhcdopnohbieaaDoorText
import Derived.WalkKit
import Derived.WalkLawsBesides
import Derived.Lib.Hide
import Derived.IntWalk
namespace Go.Proofs.YtkhcdopnohbieaaDoor
open Go.RowKit
set_option linter.unusedVariables false

def drawnTo (ts : List ByteArray) (r : Nat → Int) (len : Nat) (i h : Int) : Nat → ByteArray × Int × Int
  | 0 => (⟨#[]⟩, i, h)
  | k + 1 => ((drawnTo ts r len i h k).1 ++ pickT ts (byteX r len (drawnTo ts r len i h k).2.1 (drawnTo ts r len i h k).2.2), nextI len (drawnTo ts r len i h k).2.1, nextH (drawnTo ts r len i h k).2.2)
theorem drawnTo_succ (ts : List ByteArray) (r : Nat → Int) (len : Nat) (i h : Int) (k : Nat) : drawnTo ts r len i h (k + 1) = ((drawnTo ts r len i h k).1 ++ pickT ts (byteX r len (drawnTo ts r len i h k).2.1 (drawnTo ts r len i h k).2.2), nextI len (drawnTo ts r len i h k).2.1, nextH (drawnTo ts r len i h k).2.2) := rfl
theorem pickT_size (ts : List ByteArray) (x : Int) (h : ∀ t ∈ ts, t.size ≤ 3) : (pickT ts x).size ≤ 3 := by
  unfold pickT
  rw [List.getD_eq_getElem?_getD]
  cases hq : ts[(x % (ts.length : Int)).toNat]? with
  | none => exact Nat.zero_le _
  | some t => exact h t (List.mem_of_getElem? hq)
theorem drawnTo_size (ts : List ByteArray) (r : Nat → Int) (len : Nat) (i h : Int) (ht : ∀ t ∈ ts, t.size ≤ 3) (k : Nat) : (drawnTo ts r len i h k).1.size ≤ 3 * k := by
  induction k with
  | zero => exact Nat.le_refl _
  | succ k ih =>
    rw [drawnTo_succ]
    show ((drawnTo ts r len i h k).1 ++ _).size ≤ _
    rw [ByteArray.size_append]
    have := pickT_size ts (byteX r len (drawnTo ts r len i h k).2.1 (drawnTo ts r len i h k).2.2) ht
    omega

def tsTrim : List ByteArray := [⟨#[32]⟩, ⟨#[97]⟩, ⟨#[9]⟩, ⟨#[98, 32, 99]⟩, ⟨#[10]⟩, ⟨#[12]⟩]
def drTrim (r : Nat → Int) (len : Nat) : ByteArray := (drawnTo tsTrim r len (nextI len 0) (nextH (hashTo r len (min len 4000))) (byteX r len 0 (hashTo r len (min len 4000)) % 6).toNat).1
theorem tsTrim_small : ∀ t ∈ tsTrim, t.size ≤ 3 := by decide +kernel
theorem drTrim_size (r : Nat → Int) (len : Nat) : (drTrim r len).size ≤ 18 := by
  unfold drTrim
  have := drawnTo_size tsTrim r len (nextI len 0) (nextH (hashTo r len (min len 4000))) tsTrim_small (byteX r len 0 (hashTo r len (min len 4000)) % 6).toNat
  have h1 := Int.emod_lt_of_pos (byteX r len 0 (hashTo r len (min len 4000))) (show (0 : Int) < 6 by decide)
  omega
set_option maxRecDepth 100000 in
set_option maxHeartbeats 1600000 in
theorem drawTrim (w : World) (a : Option Addr) (len cap : Nat) (hlen : len ≤ 1048576) (hB : BytesIn w a len) (hlow : ∀ x, a = some x → len ≠ 0 → x.block < w.heap.size) :
    Calls Tryd.prog 16 #[.slice a len cap] w (fun e w' => e = .returned (.string (drTrim (rd w a len) len)) ∧ Below w.heap.size w w') := by
  have HD : Hid (drTrim (rd w a len) len = (drawnTo tsTrim (rd w a len) len (nextI len 0) (nextH (hashTo (rd w a len) len (min len 4000))) (byteX (rd w a len) len 0 (hashTo (rd w a len) len (min len 4000)) % 6).toNat).1) := rfl
  have K : Hid (Calls Tryd.prog 25 #[.slice a len cap] w (fun e w' => e = .returned (.pointer (some ⟨w.heap.size, 0, none⟩)) ∧ CurF w' w.heap.size w.heap.size a len cap (rd w a len) 0 (hashTo (rd w a len) len (min len 4000)) ∧ Below w.heap.size w w')) := new_fn w a len cap hlen hB hlow
  clear hB hlow
  generalize drTrim (rd w a len) len = D at *
  generalize rd w a len = r at *
  generalize hashTo r len (min len 4000) = h0 at *
  go_enter Tryd.func16, Tryd.ntmps16
  go_wp2_with fail
  refine K.out.mono ?_
  rintro e w1 ⟨rfl, hC1, hb1⟩
  have hlt1 := hC1.lt
  have K2 := Lib.hid (below_fn w1 w.heap.size w.heap.size a len cap r 0 h0 6 (by omega) hC1 (by decide) (by decide))
  have hm0 : 0 ≤ byteX r len 0 h0 % 6 := Int.emod_nonneg _ (by decide)
  have hm1 : byteX r len 0 h0 % 6 < 6 := Int.emod_lt_of_pos _ (by decide)
  generalize byteX r len 0 h0 % 6 = nn at *
  obtain ⟨n, rfl⟩ := Int.eq_ofNat_of_zero_le hm0
  rw [Int.toNat_natCast] at HD
  go_wp2_with fail
  refine K2.out.mono ?_
  rintro e w2 ⟨rfl, hC2, hg2⟩
  have hb2 := hb1.trans (grownBy_below hg2 (Nat.le_refl _) hb1.size)
  clear K K2 hC1 hb1 hg2
  generalize nextI len 0 = i1 at *
  generalize nextH h0 = h1 at *
  go_wp2
  go_loopw [4, 6] (fun s q wr => ∃ k : Nat, k ≤ n ∧ q = .int .i64 k ∧ s = .string (drawnTo tsTrim r len i1 h1 k).1 ∧ Hid (CurF wr w.heap.size w.heap.size a len cap r (drawnTo tsTrim r len i1 h1 k).2.1 (drawnTo tsTrim r len i1 h1 k).2.2) ∧ Below w.heap.size w wr) (fun _ q _ => n - (intOf q).toNat)
  case atStart => exact ⟨0, Nat.zero_le _, rfl, rfl, hC2, hb2⟩
  case round =>
    obtain ⟨k, hk, rfl, rfl, hC, hb⟩ := hrel
    clear hC2 hb2
    have hsz := drawnTo_size tsTrim r len i1 h1 tsTrim_small k
    by_cases hkn : k < n
    · have HN := Lib.hid (drawnTo_succ tsTrim r len i1 h1 k)
      generalize drawnTo tsTrim r len i1 h1 k = st at *
      obtain ⟨s, i2, h2⟩ := st
      have hs2 : s.size ≤ 18 := by have : s.size ≤ 3 * k := hsz; omega
      have hp := Lib.hid (pickT_size tsTrim (byteX r len i2 h2) tsTrim_small)
      have hltr := hC.out.lt
      have hCc : CurF wr w.heap.size w.heap.size a len cap r i2 h2 := hC.out
      have K := Lib.hid (pick_fn (wr.alloc (.cells (tsTrim.map Value.string).toArray 9)) w.heap.size w.heap.size a len cap r i2 h2 wr.heap.size 6 6 tsTrim (by omega) (hCc.alloc _) (by decide) (by decide) rfl (by omega) (by simp) (lit_new wr tsTrim 9))
      generalize pickT tsTrim (byteX r len i2 h2) = t at *
      have ht := hp.out
      clear hsz hC hCc hp
      go_wp2_with fail
      refine K.out.mono ?_
      rintro e w3 ⟨rfl, hC3, hg3⟩
      have hb3 := (hb.alloc hb.size _).trans (grownBy_below hg3 (Nat.le_refl _) (by have := hb.size; simp; omega))
      clear K hb hg3
      go_wp2
      go_roundw
      case rel => exact ⟨k + 1, by omega, by go_num, by rw [HN.out], by unfold Hid; rw [HN.out]; exact hC3, hb3⟩
      case measure => simp [intOf]; omega
    · obtain rfl : k = n := by omega
      rw [← HD.out]
      clear hsz
      go_wp2
      go_ret
      exact ⟨rfl, hb⟩

def tsWords : List ByteArray := [⟨#[97]⟩, ⟨#[32]⟩, ⟨#[98, 99]⟩, ⟨#[9]⟩, ⟨#[]⟩, ⟨#[10]⟩]
def drWords (r : Nat → Int) (len : Nat) : ByteArray := (drawnTo tsWords r len (nextI len 0) (nextH (hashTo r len (min len 4000))) (byteX r len 0 (hashTo r len (min len 4000)) % 7).toNat).1
theorem tsWords_small : ∀ t ∈ tsWords, t.size ≤ 3 := by decide +kernel
theorem drWords_size (r : Nat → Int) (len : Nat) : (drWords r len).size ≤ 18 := by
  unfold drWords
  have := drawnTo_size tsWords r len (nextI len 0) (nextH (hashTo r len (min len 4000))) tsWords_small (byteX r len 0 (hashTo r len (min len 4000)) % 7).toNat
  have h1 := Int.emod_lt_of_pos (byteX r len 0 (hashTo r len (min len 4000))) (show (0 : Int) < 7 by decide)
  omega
set_option maxRecDepth 100000 in
set_option maxHeartbeats 1600000 in
theorem drawWords (w : World) (a : Option Addr) (len cap : Nat) (hlen : len ≤ 1048576) (hB : BytesIn w a len) (hlow : ∀ x, a = some x → len ≠ 0 → x.block < w.heap.size) :
    Calls Tryd.prog 19 #[.slice a len cap] w (fun e w' => e = .returned (.string (drWords (rd w a len) len)) ∧ Below w.heap.size w w') := by
  have HD : Hid (drWords (rd w a len) len = (drawnTo tsWords (rd w a len) len (nextI len 0) (nextH (hashTo (rd w a len) len (min len 4000))) (byteX (rd w a len) len 0 (hashTo (rd w a len) len (min len 4000)) % 7).toNat).1) := rfl
  have K : Hid (Calls Tryd.prog 25 #[.slice a len cap] w (fun e w' => e = .returned (.pointer (some ⟨w.heap.size, 0, none⟩)) ∧ CurF w' w.heap.size w.heap.size a len cap (rd w a len) 0 (hashTo (rd w a len) len (min len 4000)) ∧ Below w.heap.size w w')) := new_fn w a len cap hlen hB hlow
  clear hB hlow
  generalize drWords (rd w a len) len = D at *
  generalize rd w a len = r at *
  generalize hashTo r len (min len 4000) = h0 at *
  go_enter Tryd.func19, Tryd.ntmps19
  go_wp2_with fail
  refine K.out.mono ?_
  rintro e w1 ⟨rfl, hC1, hb1⟩
  have hlt1 := hC1.lt
  have K2 := Lib.hid (below_fn w1 w.heap.size w.heap.size a len cap r 0 h0 7 (by omega) hC1 (by decide) (by decide))
  have hm0 : 0 ≤ byteX r len 0 h0 % 7 := Int.emod_nonneg _ (by decide)
  have hm1 : byteX r len 0 h0 % 7 < 7 := Int.emod_lt_of_pos _ (by decide)
  generalize byteX r len 0 h0 % 7 = nn at *
  obtain ⟨n, rfl⟩ := Int.eq_ofNat_of_zero_le hm0
  rw [Int.toNat_natCast] at HD
  go_wp2_with fail
  refine K2.out.mono ?_
  rintro e w2 ⟨rfl, hC2, hg2⟩
  have hb2 := hb1.trans (grownBy_below hg2 (Nat.le_refl _) hb1.size)
  clear K K2 hC1 hb1 hg2
  generalize nextI len 0 = i1 at *
  generalize nextH h0 = h1 at *
  go_wp2
  go_loopw [4, 6] (fun s q wr => ∃ k : Nat, k ≤ n ∧ q = .int .i64 k ∧ s = .string (drawnTo tsWords r len i1 h1 k).1 ∧ Hid (CurF wr w.heap.size w.heap.size a len cap r (drawnTo tsWords r len i1 h1 k).2.1 (drawnTo tsWords r len i1 h1 k).2.2) ∧ Below w.heap.size w wr) (fun _ q _ => n - (intOf q).toNat)
  case atStart => exact ⟨0, Nat.zero_le _, rfl, rfl, hC2, hb2⟩
  case round =>
    obtain ⟨k, hk, rfl, rfl, hC, hb⟩ := hrel
    clear hC2 hb2
    have hsz := drawnTo_size tsWords r len i1 h1 tsWords_small k
    by_cases hkn : k < n
    · have HN := Lib.hid (drawnTo_succ tsWords r len i1 h1 k)
      generalize drawnTo tsWords r len i1 h1 k = st at *
      obtain ⟨s, i2, h2⟩ := st
      have hs2 : s.size ≤ 18 := by have : s.size ≤ 3 * k := hsz; omega
      have hp := Lib.hid (pickT_size tsWords (byteX r len i2 h2) tsWords_small)
      have hltr := hC.out.lt
      have hCc : CurF wr w.heap.size w.heap.size a len cap r i2 h2 := hC.out
      have K := Lib.hid (pick_fn (wr.alloc (.cells (tsWords.map Value.string).toArray 9)) w.heap.size w.heap.size a len cap r i2 h2 wr.heap.size 6 6 tsWords (by omega) (hCc.alloc _) (by decide) (by decide) rfl (by omega) (by simp) (lit_new wr tsWords 9))
      generalize pickT tsWords (byteX r len i2 h2) = t at *
      have ht := hp.out
      clear hsz hC hCc hp
      go_wp2_with fail
      refine K.out.mono ?_
      rintro e w3 ⟨rfl, hC3, hg3⟩
      have hb3 := (hb.alloc hb.size _).trans (grownBy_below hg3 (Nat.le_refl _) (by have := hb.size; simp; omega))
      clear K hb hg3
      go_wp2
      go_roundw
      case rel => exact ⟨k + 1, by omega, by go_num, by rw [HN.out], by unfold Hid; rw [HN.out]; exact hC3, hb3⟩
      case measure => simp [intOf]; omega
    · obtain rfl : k = n := by omega
      rw [← HD.out]
      clear hsz
      go_wp2
      go_ret
      exact ⟨rfl, hb⟩

def TwoTexts (w : World) (e : Ending) (w' : World) : Prop := ∃ s t : ByteArray, s.size ≤ 24 ∧ t.size ≤ 24 ∧ e = .returned (.tuple #[.string s, .string t]) ∧ Below w.heap.size w w'
set_option maxRecDepth 100000 in
set_option maxHeartbeats 1600000 in
theorem drawBefore (w : World) (a : Option Addr) (len cap : Nat) (hlen : len ≤ 1048576) (hB : BytesIn w a len) (hlow : ∀ x, a = some x → len ≠ 0 → x.block < w.heap.size) :
    Calls Tryd.prog 20 #[.slice a len cap] w (TwoTexts w) := by
  go_enter Tryd.func20, Tryd.ntmps20
  go_wp2_with fail
  refine (new_draw w a len cap hlen hB hlow).mono ?_
  rintro e w1 ⟨rfl, hC1, hb1⟩
  clear hB hlow
  go_wp2_with fail
  refine (below_draw w1 w.heap.size w.heap.size a len cap 4 (by omega) hC1 (by decide) (by decide)).mono ?_
  rintro e w2 ⟨x, hx0, hx1, rfl, ⟨i2, h2, hC2⟩, hg2⟩
  have hb2 := hb1.trans (grownBy_below hg2 (Nat.le_refl _) hb1.size)
  clear hC1 hg2 hb1
  obtain ⟨n, rfl⟩ := Int.eq_ofNat_of_zero_le hx0
  go_wp2_with fail
  refine (text_draw w2 w.heap.size w.heap.size a len cap (rd w2 a len) i2 h2 n hlen ⟨hC2, rfl⟩ (by omega)).mono ?_
  rintro e w3 ⟨s, i3, h3, hs, rfl, ⟨hC3, _⟩, hg3⟩
  have hb3 := hb2.trans (grownBy_below hg3 (Nat.le_refl _) hb2.size)
  clear hC2 hg3 hb2
  go_wp2_with fail
  refine (once_draw w3 w.heap.size w.heap.size a len cap 3 (by omega) ⟨i3, h3, hC3⟩ (by decide) (by decide)).mono ?_
  rintro e w4 ⟨o, rfl, hC4, hg4⟩
  have hb4 := hb3.trans (grownBy_below hg4 (Nat.le_refl _) hb3.size)
  clear hC3 hg4 hb3
  cases o
  · go_wp2_with fail
    refine (below_draw w4 w.heap.size w.heap.size a len cap 4 (by omega) hC4 (by decide) (by decide)).mono ?_
    rintro e w5 ⟨y, hy0, hy1, rfl, ⟨i5, h5, hC5⟩, hg5⟩
    have hb5 := hb4.trans (grownBy_below hg5 (Nat.le_refl _) hb4.size)
    clear hC4 hg5 hb4
    obtain ⟨m, rfl⟩ := Int.eq_ofNat_of_zero_le hy0
    go_wp2_with fail
    refine (text_draw w5 w.heap.size w.heap.size a len cap (rd w5 a len) i5 h5 m hlen ⟨hC5, rfl⟩ (by omega)).mono ?_
    rintro e w6 ⟨t, i6, h6, ht, rfl, ⟨hC6, _⟩, hg6⟩
    have hb6 := hb5.trans (grownBy_below hg6 (Nat.le_refl _) hb5.size)
    clear hC5 hg6 hb5
    have hs2 : s.size ≤ 24 := by omega
    have ht2 : t.size ≤ 24 := by omega
    clear hs ht
    go_wp2
    go_ret2
    exact ⟨s, t, hs2, ht2, rfl, hb6⟩
  · have hlt4 := hC4.lt
    have hs2 : s.size ≤ 16 := by omega
    clear hs
    go_wp2_with fail
    refine (pick_draw _ w.heap.size w.heap.size a len cap w4.heap.size 3 3 8 (by omega) (hC4.alloc _) (by decide) (by decide) (by omega) (by simp) (by refine texts_alloc w4 _ _ _ _ ?_; decide +kernel)).mono ?_
    rintro e w5 ⟨t, ht, rfl, hC5, hg5⟩
    have hb5 := (hb4.alloc hb4.size _).trans (grownBy_below hg5 (Nat.le_refl _) (by have := hb4.size; simp; omega))
    clear hC4 hg5 hb4 hC5
    go_wp2
    go_ret2
    exact ⟨s, s ++ t, by omega, by rw [ByteArray.size_append]; omega, rfl, hb5⟩

end Go.Proofs.YtkhcdopnohbieaaDoor
