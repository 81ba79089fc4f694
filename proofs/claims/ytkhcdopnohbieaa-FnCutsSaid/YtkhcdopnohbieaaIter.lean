/- The iterator over the parts of a text, and the two functions that gather them. -/
import Derived.Test.YtkhcdopnohbieaaProg
import Derived.Test.YtkhcdopnohbieaaPlain
import Derived.Test.YtkhcdopnohbieaaCut
import Derived.Test.YtkhcdopnohbieaaTexts
import Derived.Test.YtkhcdopnohbieaaSplit
import Derived.RangeFuncBox
import Derived.RangeFuncNested
import Derived.RangeFuncBound
import Derived.RangeFuncCalls
import Derived.RangeFuncLeaves
import Derived.Shelf.Abstract
import Derived.Shelf.RegionOpen
import Derived.WalkKit
import Derived.OwnWalkIn
import Derived.TacticsInMore
import Derived.LoopNIn
import Derived.LoopIn
import Derived.Maps.AppendAt
import Derived.BigQuiet
import Derived.Deep.QuietTactic
import Derived.Lib.QuietBelow
import Derived.Lib.Hide
namespace Go.Proofs.Ytkhcdopnohbieaa
open Go.RowKit Go.Shelf Go.Sort
set_option linter.unusedVariables false
attribute [local go_sem] Oper.semAt_some

/-- what a round of the loop leaves as it was: all blocks below n₀ but the one of the list's variable -/
def KeepAll (n₀ L : Nat) (W W' : World) : Prop := W.heap.size ≤ W'.heap.size ∧ ∀ k, k < n₀ → k ≠ L → W'.heap[k]? = W.heap[k]?
theorem KeepAll.t {n₀ L : Nat} {A B C : World} (h : KeepAll n₀ L A B) (k : KeepAll n₀ L B C) : KeepAll n₀ L A C :=
  ⟨Nat.le_trans h.1 k.1, fun i h1 h2 => (k.2 i h1 h2).trans (h.2 i h1 h2)⟩
theorem KeepAll.b {n₀ L : Nat} {w : World} (hn : n₀ ≤ w.heap.size) (W : World) (l : Nat) (o o' : Obj) (hl : w.heap.size ≤ l) (h : W.heap[l]? = some o) (_ : o.isCells = false) (_ : o.isWalk = false) : KeepAll n₀ L W (W.putObj l o') := by
  have hg := grownBy_putObj' W l o'
  exact ⟨hg.size, fun k hk _ => hg.block k (by have := (Array.getElem?_eq_some_iff.1 h).1; omega) (by intro e; cases e; omega)⟩
theorem KeepAll.boxed {n₀ L B t : Nat} {W W' : World} {v : Value} (h : KeepAll n₀ L W W') (hb : Boxed W B t v) (h1 : B < n₀) (h2 : B ≠ L) : Boxed W' B t v := (h.2 B h1 h2).trans hb

/-- a text is gathered -/
theorem gathered {W w1 : World} {n₀ L : Nat} {t e : TypeId} {v v' : Value} {k m : Nat} {xs ys : List Value} {tmp : Obj}
    (hv : Boxed W L t v) (hL : L < n₀) (hrow : W.ownsRow n₀ e 1 v k xs) (hn₀ : n₀ ≤ W.heap.size)
    (hown' : w1.ownsRow n₀ e 1 v' m ys) (hgrow : (W.alloc tmp).grownBy w1 v.ownBlock) :
    Boxed w1 L t v ∧ Boxed (w1.setCell ⟨L, 0, none⟩ v') L t v' ∧ (w1.setCell ⟨L, 0, none⟩ v').ownsRow n₀ e 1 v' m ys ∧ KeepsOthers W (w1.setCell ⟨L, 0, none⟩ v') ∧ KeepAll n₀ L W (w1.setCell ⟨L, 0, none⟩ v') ∧
      ∀ B, B ≤ L → Below B W (w1.setCell ⟨L, 0, none⟩ v') := by
  have hob := own_block hrow
  have hv1 : Boxed w1 L t v := (hv.alloc tmp).kept hgrow (by intro e'; have := hob L e'.symm; omega)
  refine ⟨hv1, hv1.set v', ownsRow_setCell_below hown' (a := ⟨L, 0, none⟩) hL v', ?_, ?_, ?_⟩
  · refine ((KeepsOthers.alloc W tmp).trans (KeepsOthers.of_grownBy hgrow fun j o ej hj => ?_)).trans (KeepsOthers.setCell _ _ _)
    rcases (hrow.alloc tmp).2 with ⟨rfl, _⟩ | ⟨g, cap, cur, rfl, _, hgb, _⟩
    · simp [Value.ownBlock] at ej
    · obtain rfl : g = j := by simpa [Value.ownBlock] using ej
      rw [hgb] at hj; cases hj; rfl
  · refine ⟨Nat.le_trans (Nat.le_trans (by simp) hgrow.size) (by simp), fun j hj hne => ?_⟩
    rw [Below.heap_setCell _ _ _ _ (show j ≠ L from hne), hgrow.block j (by simp; omega) (by intro e'; have := hob j e'.symm; omega)]
    exact Below.heap_alloc _ _ _ (by omega)
  · intro B hB
    exact (((Below.refl B W).alloc (by omega) tmp).grown hgrow (by simp; omega) (fun j ej => by have := hob j ej; omega)).setCell (p := ⟨L, 0, none⟩) hB v'

theorem own_mono {w : World} {base base' e size n : Nat} {v : Value} {xs : List Value} (h : w.ownsRow base e size v n xs) (hb : base' ≤ base) : w.ownsRow base' e size v n xs := by
  refine ⟨h.1, ?_⟩
  rcases h.2 with h | ⟨g, cap, cur, h1, h2, h3⟩
  · exact .inl h
  · exact .inr ⟨g, cap, cur, h1, by omega, h3⟩

theorem cutsTo_mono (s : ByteArray) (p : UInt8 → Bool) (k m : Nat) : (cutsTo s p k).1.length ≤ (cutsTo s p (k + m)).1.length := by
  induction m with
  | zero => exact Nat.le_refl _
  | succ m ih =>
    rw [← Nat.add_assoc]
    refine Nat.le_trans ih ?_
    simp only [cutsTo]
    split
    · split
      · simp
      · exact Nat.le_refl _
    · exact Nat.le_refl _
theorem cutsTo_few (s : ByteArray) (p : UInt8 → Bool) (k : Nat) (hk : k ≤ s.size) : (cutsTo s p k).1.length < (partsOf s p).length := by
  have := cutsTo_mono s p k (s.size - k)
  rw [Nat.add_sub_cancel' hk] at this
  simp [partsOf]
  omega

theorem sepIs (b c : UInt8) (Bc : Nat) (w : World) (hc : w.cell? ⟨Bc, 0, none⟩ = some (.int .u8 c.toNat)) :
    Calls Try.prog 40 #[.int .u8 b.toNat, .pointer (some ⟨Bc, 0, none⟩)] w fun e w' => e = .returned (.bool (b == c)) ∧ w = w' := by
  have h3 : Hid (((b.toNat : Int) == (c.toNat : Int)) = (b == c)) := by
    unfold Hid
    by_cases h : b = c
    · subst h; simp
    · have h' : (b == c) = false := by simpa using h
      rw [h', beq_eq_false_iff_ne]
      intro e
      exact h (UInt8.toNat_inj.1 (Int.ofNat_inj.1 e))
  go_enter Try.func40, Try.ntmps40
  go_wp2
  go_ret
  exact ⟨by rw [← h3.out]; rfl, rfl⟩

set_option maxRecDepth 100000 in
set_option maxHeartbeats 2000000 in
theorem iter_split (n : Nat) (hn : 3 ≤ n) (l Bs Bf n₀ L : Nat) (s : ByteArray) (c : UInt8) (Bc : Nat) (hs : s.size ≤ 1048576) (J Jx : List ByteArray → World → Prop)
    (hY : ∀ pre x W, J pre W → pre.length < (partsOf s (· == c)).length → YieldAt Fence.wide (n - 1) Try.prog l #[.string x] W fun e W' =>
      (e = .returned (.bool true) ∧ J (pre ++ [x]) W' ∧ KeepAll n₀ L W W') ∨ (e = .returned (.bool false) ∧ Jx (pre ++ [x]) W'))
    (hJ : ∀ pre (W W' : World), J pre W → Below W.heap.size W W' → J pre W')
    (W : World) (hBs : Boxed W Bs 9 (.string s)) (hBf : Boxed W Bf 52 (.func (.func 40) #[] #[.pointer (some ⟨Bc, 0, none⟩)])) (hBc : Boxed W Bc 5 (.int .u8 c.toNat)) (hb5 : Bc < n₀) (hb6 : Bc ≠ L) (hb1 : Bs < n₀) (hb2 : Bf < n₀) (hb3 : Bs ≠ L) (hb4 : Bf ≠ L) (h0 : J [] W) :
    CallsIn Fence.wide n Try.prog 55 #[.func (.yield l) #[] #[], .pointer (some ⟨Bs, 0, none⟩), .pointer (some ⟨Bf, 0, none⟩)] W fun e W' => (∃ v, e = .returned v) ∧
      ((∃ ys, ys = partsOf s (· == c) ∧ J ys W') ∨ (∃ pre, True ∧ Jx pre W')) := by
  have h1 : 1 ≤ n := by omega
  have h1' : 1 ≤ n - 1 := by omega
  refine callsIn_of_wp Try.func55 rfl trivial ?_ rfl
  simp only [Try.ntmps55, List.size_toArray, List.length_cons, List.length_nil, Nat.reduceAdd, Nat.reduceSub, Array.replicate_succ, Array.replicate_zero, List.push_toArray, List.append_toArray, List.nil_append, List.cons_append]
  have cs := hBs.cell
  gi_wp2
  clear cs
  gi_loopw [4, 8] (fun f i wr => ∃ (k ff : Nat) (l : List ByteArray), k ≤ s.size ∧ i = .int .i64 k ∧ f = .int .i64 ff ∧ ff ≤ k ∧ Hid (cutsTo s (· == c) k = (l, ff)) ∧ J l wr ∧ Boxed wr Bs 9 (.string s) ∧ Boxed wr Bf 52 (.func (.func 40) #[] #[.pointer (some ⟨Bc, 0, none⟩)]) ∧ Boxed wr Bc 5 (.int .u8 c.toNat)) (fun _ i _ => s.size - (intOf i).toNat)
  case atStart => exact ⟨0, 0, [], Nat.zero_le _, rfl, rfl, Nat.le_refl _, rfl, h0, hBs, hBf, hBc⟩
  case round =>
    clear hBs hBf hBc h0
    obtain ⟨k, ff, l, hk, rfl, rfl, hff, hcut, hJl, hBs, hBf, hBc⟩ := hrel
    by_cases hlt : k < s.size
    · have kcs := cell_regrown hBs.cell
      have kcf := cell_regrown hBf.cell
      have ks : Hid (∀ d os, Calls Try.prog 40 #[.int .u8 s[k].toNat, .pointer (some ⟨Bc, 0, none⟩)] (grow (redrawn wr d) os) fun e w' => e = .returned (.bool ((· == c) s[k])) ∧ ∃ p : Regrown, w' = grow (redrawn wr p.d) p.os) := by
        intro d os
        exact Calls.regrown_of ((sepIs s[k] c Bc _ (cell_regrown hBc.cell d os)).mono fun e w' ⟨he, hw⟩ => ⟨he, hw ▸ Below.refl _ _⟩)
      have hkI : (k : Int) < (s.size : Int) := by omega
      cases hp : (· == c) s[k]
      · rw [hp] at ks
        have hcut2 : Hid (cutsTo s (· == c) (k + 1) = (l, ff)) := by unfold Hid; rw [cutsTo_miss hlt hp, hcut.out]
        clear hcut hp hY
        gi_wp2_with fail
        refine wpIn_wide.2 ?_
        refine wp_region_quiet_below (by kernel_rfl) (by kernel_rfl) ?_
        repeat (go_big_quiet_step (exact ks.out _ _))
        refine wpQuiet_nil ?_
        intro _ hw'
        obtain ⟨⟨dq, osq⟩, hw''⟩ := hw'
        subst hw''
        have hb := below_regrown wr dq osq
        have hJ2 := hJ l _ _ hJl hb
        have hBs2 : Boxed _ Bs _ _ := (hb.block Bs hBs.lt).trans hBs
        have hBf2 : Boxed _ Bf _ _ := (hb.block Bf hBf.lt).trans hBf
        have hBc2 : Boxed _ Bc _ _ := (hb.block Bc hBc.lt).trans hBc
        clear kcs kcf ks
        gi_wp2
        go_roundw
        case rel => exact ⟨k + 1, ff, l, by omega, by go_num, rfl, by omega, hcut2, hJ2, hBs2, hBf2, hBc2⟩
        case measure => simp [intOf]; omega
      · rw [hp] at ks
        have hcut2 : Hid (cutsTo s (· == c) (k + 1) = (l ++ [s.extract ff k], k + 1)) := by unfold Hid; rw [cutsTo_hit hlt hp, hcut.out]
        have hfew : l.length < (partsOf s (· == c)).length := by have := cutsTo_few s (· == c) k (by omega); rw [hcut.out] at this; exact this
        have q1 : (ff : Int) ≤ (k : Int) := by omega
        have q2 : (k : Int) ≤ (s.size : Int) := by omega
        clear hcut hp
        gi_wp2_with fail
        refine wpIn_wide.2 ?_
        refine wp_region_quiet_below (by kernel_rfl) (by kernel_rfl) ?_
        repeat (go_big_quiet_step (exact ks.out _ _))
        refine wpQuiet_nil ?_
        intro _ hw'
        obtain ⟨⟨dq, osq⟩, hw''⟩ := hw'
        subst hw''
        have hb := below_regrown wr dq osq
        have hJ2 := hJ l _ _ hJl hb
        have hBs2 : Boxed _ Bs _ _ := (hb.block Bs hBs.lt).trans hBs
        have hBf2 : Boxed _ Bf _ _ := (hb.block Bf hBf.lt).trans hBf
        have hBc2 : Boxed _ Bc _ _ := (hb.block Bc hBc.lt).trans hBc
        clear kcs kcf ks hb hJl hBs hBf hBc
        generalize grow (redrawn wr { d := dq, os := osq : Regrown }.d) { d := dq, os := osq : Regrown }.os = w2 at *
        obtain ⟨fn, tmps, assign, body, hy, hR⟩ := hY l (s.extract ff k) w2 hJ2 hfew
        have cs2 := hBs2.cell
        gi_wp2
        refine hR.mono ?_
        rintro e W3 (⟨rfl, hJ3, hk3⟩ | ⟨rfl, hJx3⟩)
        · have hBs3 := hk3.boxed hBs2 hb1 hb3
          have hBf3 := hk3.boxed hBf2 hb2 hb4
          have hBc3 := hk3.boxed hBc2 hb5 hb6
          clear hy cs2 hR
          gi_wp2
          go_roundw
          case rel => exact ⟨k + 1, k + 1, l ++ [s.extract ff k], by omega, by go_num, by go_num, Nat.le_refl _, hcut2, hJ3, hBs3, hBf3, hBc3⟩
          case measure => simp [intOf]; omega
        · gi_wp2
          refine bodyPost_ret (results_none rfl _ _ _) rfl ?_
          exact ⟨⟨_, rfl⟩, .inr ⟨_, trivial, hJx3⟩⟩
    · obtain rfl : k = s.size := by omega
      have hfin : Hid (partsOf s (· == c) = l ++ [s.extract ff s.size]) := by unfold Hid partsOf; rw [hcut.out]
      have hfew : l.length < (partsOf s (· == c)).length := by rw [hfin.out]; simp
      have q1 : (ff : Int) ≤ (s.size : Int) := by omega
      clear hcut
      obtain ⟨fn, tmps, assign, body, hy, hR⟩ := hY l (s.extract ff s.size) wr hJl hfew
      have cs2 := hBs.cell
      gi_wp2
      refine hR.mono ?_
      rintro e W3 (⟨rfl, hJ3, hk3⟩ | ⟨rfl, hJx3⟩)
      · gi_wp2
        go_end0
        exact ⟨⟨_, rfl⟩, .inl ⟨_, hfin.out.symm, hJ3⟩⟩
      · gi_wp2
        go_end0
        exact ⟨⟨_, rfl⟩, .inr ⟨_, trivial, hJx3⟩⟩

theorem parts_in (s : ByteArray) (f : Nat) (cap : Array Value) (w : World) :
    Calls Try.prog 39 #[.string s, .func (.func f) #[] cap] w fun e w' => e = .returned (.func (.func 55) #[] #[.pointer (some ⟨w.heap.size, 0, none⟩), .pointer (some ⟨w.heap.size + 1, 0, none⟩)]) ∧ w' = (w.alloc (.cells #[.string s] 9)).alloc (.cells #[.func (.func f) #[] cap] 52) := by
  go_enter Try.func39, Try.ntmps39
  go_wp2
  go_ret
  exact ⟨rfl, rfl⟩

set_option maxRecDepth 100000 in
set_option maxHeartbeats 2000000 in
theorem split_impl (s : ByteArray) (c : UInt8) (w : World) (hs : s.size ≤ 1048576) :
    Calls Try.prog 15 #[.string s, .int .u8 c.toNat] w (OwnTexts w (splitOf s (· == c))) := by
  refine (callsIn_wide (n := 5)).1 ?_
  refine callsIn_of_wp_marks Try.func15 rfl trivial ?_ rfl
  simp only [Try.ntmps15, List.size_toArray, List.length_cons, List.length_nil, Nat.reduceAdd, Nat.reduceSub, Array.replicate_succ, Array.replicate_zero, List.push_toArray, List.append_toArray, List.nil_append, List.cons_append]
  by_cases h0 : s.size = 0
  · have h1 : s.data.toList = [] := by apply List.eq_nil_of_length_eq_zero; simpa using h0
    have h2 : s = ⟨#[]⟩ := by apply ByteArray.ext; apply Array.toList_inj.1; exact h1
    subst h2
    clear h1 h0
    gi_wp2
    exact ⟨_, results_tmp rfl _ _ _, show OwnTexts w (splitOf ⟨#[]⟩ (· == c)) _ _ from ⟨_, rfl, World.ownsRow_nil _ _ _ _, (Below.refl _ _).alloc (Nat.le_refl _) _⟩⟩
  · have h1 : s.toList.isEmpty = false := by
      rw [Lib.toList_data]
      cases h : s.data.toList with
      | nil => exfalso; have h3 := Lib.size_eq s; rw [h, List.length_nil] at h3; omega
      | cons c t => rfl
    have h2 : (s.toList == []) = false := by
      rw [Lib.toList_data]
      cases h : s.data.toList with
      | nil => exfalso; have h3 := Lib.size_eq s; rw [h, List.length_nil] at h3; omega
      | cons c t => rfl
    gi_wp2_with (refine ⟨trivial, ?_⟩; gi_at_call 39; refine (callsIn_wide.2 (parts_in s _ _ _)).mono ?_; rintro e w' ⟨rfl, rfl⟩)
    have bC := Boxed.new w 5 (.int .u8 (c.toNat : Int))
    have bL := Boxed.new (w.alloc (.cells #[.int .u8 (c.toNat : Int)] 5)) 26 (.slice none 0 0)
    have bS := Boxed.new ((w.alloc (.cells #[.int .u8 (c.toNat : Int)] 5)).alloc (.cells #[.slice none 0 0] 26)) 9 (.string s)
    have bF := Boxed.new (((w.alloc (.cells #[.int .u8 (c.toNat : Int)] 5)).alloc (.cells #[.slice none 0 0] 26)).alloc (.cells #[.string s] 9)) 52 (.func (.func 40) #[] #[.pointer (some ⟨w.heap.size, 0, none⟩)])
    simp only [World.size_alloc] at bL bS bF
    have bC0 := ((bC.alloc (.cells #[.slice none 0 0] 26)).alloc (.cells #[.string s] 9)).alloc (.cells #[.func (.func 40) #[] #[.pointer (some ⟨w.heap.size, 0, none⟩)]] 52)
    have bL0 := (bL.alloc (.cells #[.string s] 9)).alloc (.cells #[.func (.func 40) #[] #[.pointer (some ⟨w.heap.size, 0, none⟩)]] 52)
    have bS0 := bS.alloc (.cells #[.func (.func 40) #[] #[.pointer (some ⟨w.heap.size, 0, none⟩)]] 52)
    have hB0 : Below w.heap.size w ((((w.alloc (.cells #[.int .u8 (c.toNat : Int)] 5)).alloc (.cells #[.slice none 0 0] 26)).alloc (.cells #[.string s] 9)).alloc (.cells #[.func (.func 40) #[] #[.pointer (some ⟨w.heap.size, 0, none⟩)]] 52)) :=
      ((((Below.refl _ w).alloc (Nat.le_refl _) _).alloc (by simp) _).alloc (by simp; omega) _).alloc (by simp; omega) _
    have hsz : ((((w.alloc (.cells #[.int .u8 (c.toNat : Int)] 5)).alloc (.cells #[.slice none 0 0] 26)).alloc (.cells #[.string s] 9)).alloc (.cells #[.func (.func 40) #[] #[.pointer (some ⟨w.heap.size, 0, none⟩)]] 52)).heap.size = w.heap.size + 4 := by simp
    clear bC bL bS
    generalize (((w.alloc (.cells #[.int .u8 (c.toNat : Int)] 5)).alloc (.cells #[.slice none 0 0] 26)).alloc (.cells #[.string s] 9)).alloc (.cells #[.func (.func 40) #[] #[.pointer (some ⟨w.heap.size, 0, none⟩)]] 52) = W0 at *
    have hseq : SeqStopsK Fence.wide (5 - 1) Try.prog 55 #[.pointer (some ⟨w.heap.size + 1 + 1, 0, none⟩), .pointer (some ⟨w.heap.size + 1 + 1 + 1, 0, none⟩)] (fun x : ByteArray => #[Value.string x]) (KeepAll (w.heap.size + 4) (w.heap.size + 1)) (fun ys => ys = partsOf s (· == c)) (fun _ => True) (partsOf s (· == c)).length W0 :=
      fun l J Jx W hW hJ hJx hY hj0 => iter_split (5 - 1) (by decide) l (w.heap.size + 1 + 1) (w.heap.size + 1 + 1 + 1) (w.heap.size + 4) (w.heap.size + 1) s c w.heap.size hs J Jx hY
        (fun pre A A' hj hb => hJ pre A A' none hj ⟨hb.os, hb.tape, hb.output, hb.size, fun k hk _ => hb.block k hk⟩ (fun r e => by cases e)) W ((hW.block _ bS0.lt).trans bS0) ((hW.block _ bF.lt).trans bF) ((hW.block _ bC0.lt).trans bC0) (by omega) (by omega) (by omega) (by omega) (by omega) (by omega) hj0
    obtain ⟨i0, hi, hz0, hz1, hz2⟩ := info_parts info_string
    have hpl := partsOf_len s (· == c)
    have HS := Lib.hid hsz
    clear hsz
    refine wpIn_rangeFunc_ownG rfl (by decide) (gf := 55) (lb := #[.pointer (some ⟨w.heap.size + 1 + 1, 0, none⟩), .pointer (some ⟨w.heap.size + 1 + 1 + 1, 0, none⟩)]) rfl trivial (enters_of Try.func55 (by kernel_rfl) rfl)
      hseq KeepAll.t (KeepAll.b (by have := HS.out; omega)) (Below.refl _ _) (fun _ => rfl)
      (fun pre W => (∃ v, Boxed W (w.heap.size + 1) 26 v ∧ W.ownsRow (w.heap.size + 4) 9 1 v pre.length (pre.map Value.string) ∧ True) ∧ Below w.heap.size w W ∧ w.heap.size + 4 ≤ W.heap.size)
      (fun _ _ _ => False)
      ?hI (fun _ _ _ _ _ hs _ _ => hs) ⟨⟨_, bL0, World.ownsRow_nil _ _ _ _, trivial⟩, hB0, by have := HS.out; omega⟩
      (fun x => { tmps := #[.string s, .int .u8 (c.toNat : Int), undef, .pointer (some ⟨w.heap.size, 0, none⟩), .slice none 0 0, .pointer (some ⟨w.heap.size + 1, 0, none⟩), .string x, .string s, .bool false, .string s, .func (.func 40) #[] #[.pointer (some ⟨w.heap.size, 0, none⟩)], .func (.func 55) #[] #[.pointer (some ⟨w.heap.size + 1 + 1, 0, none⟩), .pointer (some ⟨w.heap.size + 1 + 1 + 1, 0, none⟩)], .string x, undef, undef, undef, undef, undef], defers := [] }) ?assign ?body ?done ?stop
    case hI =>
      refine OwnFrom.and (Own.from (holdsRow_own (w.heap.size + 4) (w.heap.size + 1) 26 9 1 (fun pre : List ByteArray => pre.length) (fun pre => pre.map Value.string) (fun _ _ => True)) _) (OwnFrom.and (ownFrom_below (Nat.le_refl _) (by have := HS.out; omega)) ?_)
      intro pre A A' row h hg hr
      exact Nat.le_trans h hg.size
    case assign =>
      intro l x W K hK
      gi_wp2
      exact hK
    case body =>
      rintro l pre x W ⟨⟨v, hv, hrow, _⟩, hB, hWs⟩ hlt
      have hc := hv.cell
      gi_wp2_with (gi_at_builtin; refine wpListIn_append_own _ rfl _ _ 26 rfl (w.heap.size + 4) 9 i0 (.string ByteArray.empty) 1 16 Try.underlying26 hi hz0 hz1 hz2 rfl (by decide) _ _ _ rfl (hrow.alloc _) ⟨W.heap.size, 0, none⟩ 1 1 [.string x] rfl rfl (cell_one_new _ _ _) (by simp [Value.oneCell']) (by unfold maxLen; omega) (by omega) (by simp; omega) ?_; intro v' w1 hown' hgrow _; obtain ⟨g', cap', rfl⟩ := ownsRow_succ hown'; obtain ⟨hv1, hv2, hr2, hk2, hka, hbl⟩ := gathered hv (by omega) hrow hWs hown' hgrow; have hc1 := hv1.cell; have hf1 := hv1.frozen)
      exact ⟨hk2.from _, hka, ⟨_, hv2, by simpa using hr2⟩, hB.trans (hbl _ (by omega)), Nat.le_trans hWs hka.1⟩
    case done =>
      rintro D ys W hD rfl ⟨⟨v, hv, hrow, _⟩, hB, hWs⟩ hK
      have hc := hv.cell
      gi_wp2
      refine ⟨by simp, .inl ⟨_, _, rfl, run_takeDeferred hK, ?_⟩⟩
      have hD' : w.heap.size ≤ D := by have := HS.out; omega
      have hsp : Hid (splitOf s (· == c) = partsOf s (· == c)) := by unfold Hid splitOf; rw [if_neg h0]
      exact ⟨_, results_tmp rfl _ _ _, show OwnTexts w (splitOf s (· == c)) _ _ from ⟨v, rfl, by rw [hsp.out]; exact own_mono (ownsRow_putObj hrow _ hK rfl) (by omega), hB.trans (belowK_b (w := w) (Nat.le_refl _) W D _ _ hD' hK rfl rfl)⟩⟩
    case stop =>
      rintro D c pre W _ _ h _
      exact h.elim

end Go.Proofs.Ytkhcdopnohbieaa
