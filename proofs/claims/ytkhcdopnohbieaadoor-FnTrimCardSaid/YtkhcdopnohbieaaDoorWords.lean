/- Words: the model's function, and the program's over the iterator. -/
import Derived.Test.YtkhcdopnohbieaaDoorProg
import Derived.Test.YtkhcdopnohbieaaDoorPlain
import Derived.Test.YtkhcdopnohbieaaDoorCut
import Derived.Test.YtkhcdopnohbieaaDoorTrim
import Derived.Test.YtkhcdopnohbieaaDoorTexts
import Derived.Test.YtkhcdopnohbieaaDoorSplit
import Derived.Test.YtkhcdopnohbieaaDoorIter
import Derived.RangeFuncBox
import Derived.RangeFuncNested
import Derived.RangeFuncBound
import Derived.RangeFuncCalls
import Derived.RangeFuncLeaves
import Derived.Shelf.Abstract
import Derived.Shelf.RegionOpen
import Derived.WalkKit
import Derived.OwnWalkIn
import Derived.TacticsInMore
import Derived.LoopNIn
import Derived.LoopIn
import Derived.Maps.AppendAt
import Derived.BigQuiet
import Derived.Deep.QuietTactic
import Derived.Lib.QuietBelow
import Derived.Lib.Hide
namespace Go.Proofs.YtkhcdopnohbieaaDoor
open Go.RowKit Go.Shelf Go.Sort
set_option linter.unusedVariables false
attribute [local go_sem] Oper.semAt_some

def neB (x : ByteArray) : Bool := decide (x.size ≠ 0)
def wordsOf (s : ByteArray) : List ByteArray := (partsOf s blankB).filter neB

theorem cutsTo_few2 (s : ByteArray) (p : UInt8 → Bool) (k : Nat) : (cutsTo s p k).1.length ≤ (cutsTo s p k).2 := by
  induction k with
  | zero => exact Nat.le_refl _
  | succ k ih =>
    have := (cutsTo_le s p k).1
    simp only [cutsTo]
    split
    · split
      · simp; omega
      · exact ih
    · exact ih
theorem cutsTo_run {s : ByteArray} {p : UInt8 → Bool} {k e : Nat} (hke : k ≤ e) (he : e ≤ s.size) (h : ∀ j (hj : j < s.size), k ≤ j → j < e → p s[j] = false) : cutsTo s p e = cutsTo s p k := by
  induction e with
  | zero => have : k = 0 := by omega
            subst this; rfl
  | succ e ih =>
    by_cases e1 : k = e + 1
    · subst e1; rfl
    · rw [cutsTo_miss (by omega) (h e (by omega) (by omega) (by omega)), ih (by omega) (by omega) (fun j hj h1 h2 => h j hj h1 (by omega))]

/-- the words that are found ahead of k -/
def WAt (s : ByteArray) (k : Nat) (l : List ByteArray) : Prop :=
  l.length ≤ k ∧ (((cutsTo s blankB k).2 = k ∧ l = (cutsTo s blankB k).1.filter neB) ∨
    ((cutsTo s blankB k).2 < k ∧ (∀ h : k < s.size, blankB s[k] = true) ∧ l = (cutsTo s blankB k).1.filter neB ++ [s.extract (cutsTo s blankB k).2 k]))
theorem wAt_zero (s : ByteArray) : WAt s 0 [] := ⟨Nat.le_refl _, .inl ⟨rfl, rfl⟩⟩
theorem size_cut (s : ByteArray) (a b : Nat) (hab : a ≤ b) (hb : b ≤ s.size) : (s.extract a b).size = b - a := by
  simp [ByteArray.size_extract]; omega
theorem wAt_blank {s : ByteArray} {k : Nat} {l : List ByteArray} (h : WAt s k l) (hk : k < s.size) (hb : blankB s[k] = true) : WAt s (k + 1) l := by
  obtain ⟨hl, h⟩ := h
  refine ⟨by omega, .inl ?_⟩
  rw [cutsTo_hit hk hb]
  refine ⟨rfl, ?_⟩
  rw [List.filter_append]
  rcases h with ⟨h1, rfl⟩ | ⟨h1, _, rfl⟩
  · have : neB (s.extract (cutsTo s blankB k).2 k) = false := by
      unfold neB; rw [size_cut s _ _ (by omega) (by omega), h1]; simp
    simp [this]
  · have : neB (s.extract (cutsTo s blankB k).2 k) = true := by
      unfold neB; rw [size_cut s _ _ (by omega) (by omega)]; simp; omega
    simp [this]
theorem wAt_word {s : ByteArray} {k e : Nat} {l : List ByteArray} (h : WAt s k l) (hk : k < s.size) (hb : blankB s[k] = false) (hke : k < e) (he : e ≤ s.size) (hn : ∀ j (hj : j < s.size), k ≤ j → j < e → blankB s[j] = false) (hend : ∀ h : e < s.size, blankB s[e] = true) : WAt s e (l ++ [s.extract k e]) := by
  obtain ⟨hl, h⟩ := h
  rcases h with ⟨h1, rfl⟩ | ⟨h1, h2, _⟩
  · have hr := cutsTo_run (p := blankB) (Nat.le_of_lt hke) he hn
    refine ⟨by simp at hl ⊢; omega, .inr ?_⟩
    rw [hr, h1]
    exact ⟨hke, hend, rfl⟩
  · have := h2 hk; rw [hb] at this; cases this
theorem wAt_end {s : ByteArray} {l : List ByteArray} (h : WAt s s.size l) : wordsOf s = l := by
  obtain ⟨hl, h⟩ := h
  unfold wordsOf partsOf
  rw [List.filter_append]
  rcases h with ⟨h1, rfl⟩ | ⟨h1, _, rfl⟩
  · have : neB (s.extract (cutsTo s blankB s.size).2 s.size) = false := by
      unfold neB; rw [size_cut s _ _ (by omega) (by omega), h1]; simp
    simp [this]
  · have : neB (s.extract (cutsTo s blankB s.size).2 s.size) = true := by
      unfold neB; rw [size_cut s _ _ (by omega) (by omega)]; simp; omega
    simp [this]
theorem wordsOf_len (s : ByteArray) : (wordsOf s).length ≤ s.size + 1 := Nat.le_trans (List.length_filter_le _ _) (partsOf_len s blankB)
theorem wAt_fresh {s : ByteArray} {k : Nat} {l : List ByteArray} (h : WAt s k l) (hk : k < s.size) (hb : blankB s[k] = false) : l.length ≤ k := h.1

def NoB (s : ByteArray) (k e : Nat) : Prop := ∀ j (hj : j < s.size), k ≤ j → j < e → blankB s[j] = false

set_option maxRecDepth 100000 in
set_option maxHeartbeats 1600000 in
theorem words_spec (s : ByteArray) (w : World) (hs : s.size ≤ 1048576) :
    Calls Tryd.prog 24 #[.string s] w (OwnTexts w (wordsOf s)) := by
  obtain ⟨i0, hi, hz0, hz1, hz2⟩ := info_parts info_string
  go_enter Tryd.func24, Tryd.ntmps24
  go_wp2
  go_loopw [3, 4] (fun v i wr => ∃ (k : Nat) (l : List ByteArray), k ≤ s.size ∧ i = .int .i64 k ∧ l.length ≤ k ∧ Hid (WAt s k l) ∧ wr.ownsRow w.heap.size 9 1 v l.length (l.map Value.string) ∧ Below w.heap.size w wr) (fun _ i _ => s.size - (intOf i).toNat)
  case atStart => exact ⟨0, [], Nat.zero_le _, rfl, Nat.le_refl _, wAt_zero s, World.ownsRow_lit w #[] 0 (Nat.le_refl _) (Nat.zero_le _) rfl, (Below.refl _ _).alloc (Nat.le_refl _) _⟩
  case round =>
    obtain ⟨k, l, hk, rfl, hll, hW, hown, hb⟩ := hrel
    have hsz := hb.size
    by_cases hlt : k < s.size
    · cases hbl : blankB s[k]
      · have HB := Lib.hid hbl
        clear hbl
        go_wp2_with fail
        refine (blank_any s[k] _).mono ?_
        rintro e w' ⟨rfl, rfl⟩
        rw [HB.out]
        go_wp2
        obtain ⟨wo, rfl⟩ : ∃ wo : World, wo = wr := ⟨_, rfl⟩
        go_loop [5] (fun y => ∃ e : Nat, k ≤ e ∧ e ≤ s.size ∧ y = .int .i64 e ∧ NoB s k e) (fun y => s.size - (intOf y).toNat)
        case atStart => exact ⟨k, Nat.le_refl _, by omega, rfl, fun j _ h1 h2 => by omega⟩
        case round =>
          obtain ⟨e, hke, hes, rfl, hno⟩ := hrel
          by_cases hel : e < s.size
          · cases hbe : blankB s[e]
            · have hno2 : NoB s k (e + 1) := by
                intro j hj h1 h2
                by_cases e1 : j = e
                · subst e1; exact hbe
                · exact hno j hj h1 (by omega)
              have HE := Lib.hid hbe
              clear hbe hno
              go_wp2_with fail
              refine (blank_any s[e] _).mono ?_
              rintro e w' ⟨rfl, rfl⟩
              rw [HE.out]
              go_wp2
              go_round
              case rel => exact ⟨e + 1, by omega, by omega, by go_num, hno2⟩
              case measure => simp [intOf]; omega
            · have hke2 : k < e := by
                rcases Nat.lt_or_ge k e with h | h
                · exact h
                · exfalso
                  have e1 : k = e := by omega
                  subst e1
                  rw [HB.out] at hbe
                  cases hbe
              have hW2 : Hid (WAt s e (l ++ [s.extract k e])) := wAt_word hW.out hlt HB.out hke2 hes hno (fun _ => hbe)
              have HE := Lib.hid hbe
              have q1 : (k : Int) ≤ (e : Int) := by omega
              have q2 : (e : Int) ≤ (s.size : Int) := by omega
              clear hbe hno
              go_wp2_with fail
              refine (blank_any s[e] _).mono ?_
              rintro e w' ⟨rfl, rfl⟩
              rw [HE.out]
              go_wp2_with (at_builtin; refine wpList_append_own _ rfl _ _ 35 rfl w.heap.size 9 i0 (.string ByteArray.empty) 1 16 Tryd.underlying35 hi hz0 hz1 hz2 rfl (by decide) _ _ _ rfl (hown.alloc _) ⟨wo.heap.size, 0, none⟩ 1 1 [.string (s.extract k e)] rfl rfl (cell_one_new _ _ _) (by simp [Value.oneCell']) (by unfold maxLen; omega) (by omega) (by simp; omega) ?_; intro v' w1 hown' hgrow _)
              obtain ⟨ho2, hb2⟩ := own_step hb hown hown' hgrow
              clear hown hown' hgrow hb
              go_wp2
              go_roundw
              case rel => exact ⟨e, l ++ [s.extract k e], by omega, rfl, hW2.out.1, hW2, ho2, hb2⟩
              case measure => simp [intOf]; omega
          · obtain rfl : e = s.size := by omega
            have hW2 : Hid (WAt s s.size (l ++ [s.extract k s.size])) := wAt_word hW.out hlt HB.out hlt hes hno (fun h => by omega)
            have q1 : (k : Int) ≤ (s.size : Int) := by omega
            clear hno
            go_wp2_with (at_builtin; refine wpList_append_own _ rfl _ _ 35 rfl w.heap.size 9 i0 (.string ByteArray.empty) 1 16 Tryd.underlying35 hi hz0 hz1 hz2 rfl (by decide) _ _ _ rfl (hown.alloc _) ⟨wo.heap.size, 0, none⟩ 1 1 [.string (s.extract k s.size)] rfl rfl (cell_one_new _ _ _) (by simp [Value.oneCell']) (by unfold maxLen; omega) (by omega) (by simp; omega) ?_; intro v' w1 hown' hgrow _)
            obtain ⟨ho2, hb2⟩ := own_step hb hown hown' hgrow
            clear hown hown' hgrow hb
            go_wp2
            go_roundw
            case rel => exact ⟨s.size, l ++ [s.extract k s.size], by omega, rfl, hW2.out.1, hW2, ho2, hb2⟩
            case measure => simp [intOf]; omega
      · have hW2 : Hid (WAt s (k + 1) l) := wAt_blank hW.out hlt hbl
        have HB := Lib.hid hbl
        clear hbl hW
        go_wp2_with fail
        refine (blank_any s[k] _).mono ?_
        rintro e w' ⟨rfl, rfl⟩
        rw [HB.out]
        go_wp2
        go_roundw
        case rel => exact ⟨k + 1, l, by omega, by go_num, by omega, hW2, hown, hb⟩
        case measure => simp [intOf]; omega
    · obtain rfl : k = s.size := by omega
      have hfin : Hid (wordsOf s = l) := wAt_end hW.out
      clear hW
      go_wp2
      go_ret
      exact ⟨_, rfl, by rw [hfin.out]; exact hown, hb⟩

theorem isBlank_any (c : UInt8) (w : World) :
    Calls Tryd.prog 35 #[.int .u8 c.toNat] w fun e w' => e = .returned (.bool (blankB c)) ∧ w = w' := by
  have h3 : Hid (hasB ⟨#[32, 9]⟩ c = blankB c) := blank_set c
  go_enter Tryd.func35, Tryd.ntmps35
  go_wp2_with fail
  refine (hasByte_any ⟨#[32, 9]⟩ c _).mono ?_
  rintro e w' ⟨rfl, rfl⟩
  rw [h3.out]
  go_wp2
  go_ret
  exact ⟨rfl, rfl⟩

set_option maxRecDepth 100000 in
set_option maxHeartbeats 2000000 in
theorem iter_words (n : Nat) (hn : 3 ≤ n) (l Bs Bf n₀ L : Nat) (s : ByteArray) (hs : s.size ≤ 1048576) (J Jx : List ByteArray → World → Prop)
    (hY : ∀ pre x W, J pre W → pre.length < (partsOf s blankB).length → YieldAt Fence.wide (n - 1) Tryd.prog l #[.string x] W fun e W' =>
      (e = .returned (.bool true) ∧ J (pre ++ [x]) W' ∧ KeepAll n₀ L W W') ∨ (e = .returned (.bool false) ∧ Jx (pre ++ [x]) W'))
    (hJ : ∀ pre (W W' : World), J pre W → Below W.heap.size W W' → J pre W')
    (W : World) (hBs : Boxed W Bs 9 (.string s)) (hBf : Boxed W Bf 56 (.func (.func 35) #[] #[])) (hb1 : Bs < n₀) (hb2 : Bf < n₀) (hb3 : Bs ≠ L) (hb4 : Bf ≠ L) (h0 : J [] W) :
    CallsIn Fence.wide n Tryd.prog 52 #[.func (.yield l) #[] #[], .pointer (some ⟨Bs, 0, none⟩), .pointer (some ⟨Bf, 0, none⟩)] W fun e W' => (∃ v, e = .returned v) ∧
      ((∃ ys, ys = partsOf s blankB ∧ J ys W') ∨ (∃ pre, True ∧ Jx pre W')) := by
  have h1 : 1 ≤ n := by omega
  have h1' : 1 ≤ n - 1 := by omega
  refine callsIn_of_wp Tryd.func52 rfl trivial ?_ rfl
  simp only [Tryd.ntmps52, List.size_toArray, List.length_cons, List.length_nil, Nat.reduceAdd, Nat.reduceSub, Array.replicate_succ, Array.replicate_zero, List.push_toArray, List.append_toArray, List.nil_append, List.cons_append]
  have cs := hBs.cell
  gi_wp2
  clear cs
  gi_loopw [4, 8] (fun f i wr => ∃ (k ff : Nat) (l : List ByteArray), k ≤ s.size ∧ i = .int .i64 k ∧ f = .int .i64 ff ∧ ff ≤ k ∧ Hid (cutsTo s blankB k = (l, ff)) ∧ J l wr ∧ Boxed wr Bs 9 (.string s) ∧ Boxed wr Bf 56 (.func (.func 35) #[] #[])) (fun _ i _ => s.size - (intOf i).toNat)
  case atStart => exact ⟨0, 0, [], Nat.zero_le _, rfl, rfl, Nat.le_refl _, rfl, h0, hBs, hBf⟩
  case round =>
    clear hBs hBf h0
    obtain ⟨k, ff, l, hk, rfl, rfl, hff, hcut, hJl, hBs, hBf⟩ := hrel
    by_cases hlt : k < s.size
    · have kcs := cell_regrown hBs.cell
      have kcf := cell_regrown hBf.cell
      have ks : Hid (∀ d os, Calls Tryd.prog 35 #[.int .u8 s[k].toNat] (grow (redrawn wr d) os) fun e w' => e = .returned (.bool (blankB s[k])) ∧ ∃ p : Regrown, w' = grow (redrawn wr p.d) p.os) := by
        intro d os
        exact Calls.regrown_of ((isBlank_any s[k] _).mono fun e w' ⟨he, hw⟩ => ⟨he, hw ▸ Below.refl _ _⟩)
      have hkI : (k : Int) < (s.size : Int) := by omega
      cases hp : blankB s[k]
      · rw [hp] at ks
        have hcut2 : Hid (cutsTo s blankB (k + 1) = (l, ff)) := by unfold Hid; rw [cutsTo_miss hlt hp, hcut.out]
        clear hcut hp hY
        gi_wp2_with fail
        refine wpIn_wide.2 ?_
        refine wp_region_quiet_below (by kernel_rfl) (by kernel_rfl) ?_
        repeat (go_big_quiet_step (exact ks.out _ _))
        refine wpQuiet_nil ?_
        intro _ hw'
        obtain ⟨⟨dq, osq⟩, hw''⟩ := hw'
        subst hw''
        have hb := below_regrown wr dq osq
        have hJ2 := hJ l _ _ hJl hb
        have hBs2 : Boxed _ Bs _ _ := (hb.block Bs hBs.lt).trans hBs
        have hBf2 : Boxed _ Bf _ _ := (hb.block Bf hBf.lt).trans hBf
        skip
        clear kcs kcf ks
        gi_wp2
        go_roundw
        case rel => exact ⟨k + 1, ff, l, by omega, by go_num, rfl, by omega, hcut2, hJ2, hBs2, hBf2⟩
        case measure => simp [intOf]; omega
      · rw [hp] at ks
        have hcut2 : Hid (cutsTo s blankB (k + 1) = (l ++ [s.extract ff k], k + 1)) := by unfold Hid; rw [cutsTo_hit hlt hp, hcut.out]
        have hfew : l.length < (partsOf s blankB).length := by have := cutsTo_few s blankB k (by omega); rw [hcut.out] at this; exact this
        have q1 : (ff : Int) ≤ (k : Int) := by omega
        have q2 : (k : Int) ≤ (s.size : Int) := by omega
        clear hcut hp
        gi_wp2_with fail
        refine wpIn_wide.2 ?_
        refine wp_region_quiet_below (by kernel_rfl) (by kernel_rfl) ?_
        repeat (go_big_quiet_step (exact ks.out _ _))
        refine wpQuiet_nil ?_
        intro _ hw'
        obtain ⟨⟨dq, osq⟩, hw''⟩ := hw'
        subst hw''
        have hb := below_regrown wr dq osq
        have hJ2 := hJ l _ _ hJl hb
        have hBs2 : Boxed _ Bs _ _ := (hb.block Bs hBs.lt).trans hBs
        have hBf2 : Boxed _ Bf _ _ := (hb.block Bf hBf.lt).trans hBf
        skip
        clear kcs kcf ks hb hJl hBs hBf 
        generalize grow (redrawn wr { d := dq, os := osq : Regrown }.d) { d := dq, os := osq : Regrown }.os = w2 at *
        obtain ⟨fn, tmps, assign, body, hy, hR⟩ := hY l (s.extract ff k) w2 hJ2 hfew
        have cs2 := hBs2.cell
        gi_wp2
        refine hR.mono ?_
        rintro e W3 (⟨rfl, hJ3, hk3⟩ | ⟨rfl, hJx3⟩)
        · have hBs3 := hk3.boxed hBs2 hb1 hb3
          have hBf3 := hk3.boxed hBf2 hb2 hb4
          skip
          clear hy cs2 hR
          gi_wp2
          go_roundw
          case rel => exact ⟨k + 1, k + 1, l ++ [s.extract ff k], by omega, by go_num, by go_num, Nat.le_refl _, hcut2, hJ3, hBs3, hBf3⟩
          case measure => simp [intOf]; omega
        · gi_wp2
          refine bodyPost_ret (results_none rfl _ _ _) rfl ?_
          exact ⟨⟨_, rfl⟩, .inr ⟨_, trivial, hJx3⟩⟩
    · obtain rfl : k = s.size := by omega
      have hfin : Hid (partsOf s blankB = l ++ [s.extract ff s.size]) := by unfold Hid partsOf; rw [hcut.out]
      have hfew : l.length < (partsOf s blankB).length := by rw [hfin.out]; simp
      have q1 : (ff : Int) ≤ (s.size : Int) := by omega
      clear hcut
      obtain ⟨fn, tmps, assign, body, hy, hR⟩ := hY l (s.extract ff s.size) wr hJl hfew
      have cs2 := hBs.cell
      gi_wp2
      refine hR.mono ?_
      rintro e W3 (⟨rfl, hJ3, hk3⟩ | ⟨rfl, hJx3⟩)
      · gi_wp2
        go_end0
        exact ⟨⟨_, rfl⟩, .inl ⟨_, hfin.out.symm, hJ3⟩⟩
      · gi_wp2
        go_end0
        exact ⟨⟨_, rfl⟩, .inr ⟨_, trivial, hJx3⟩⟩

set_option maxRecDepth 100000 in
set_option maxHeartbeats 2000000 in
theorem words_impl (s : ByteArray) (w : World) (hs : s.size ≤ 1048576) :
    Calls Tryd.prog 18 #[.string s] w (OwnTexts w (wordsOf s)) := by
  refine (callsIn_wide (n := 5)).1 ?_
  refine callsIn_of_wp_marks Tryd.func18 rfl trivial ?_ rfl
  simp only [Tryd.ntmps18, List.size_toArray, List.length_cons, List.length_nil, Nat.reduceAdd, Nat.reduceSub, Array.replicate_succ, Array.replicate_zero, List.push_toArray, List.append_toArray, List.nil_append, List.cons_append]
  gi_wp2_with (refine ⟨trivial, ?_⟩; gi_at_call 34; refine (callsIn_wide.2 (parts_in s _ _ _)).mono ?_; rintro e w' ⟨rfl, rfl⟩)
  have bL := Boxed.new w 35 (.slice none 0 0)
  have bS := Boxed.new (w.alloc (.cells #[.slice none 0 0] 35)) 9 (.string s)
  have bF := Boxed.new ((w.alloc (.cells #[.slice none 0 0] 35)).alloc (.cells #[.string s] 9)) 56 (.func (.func 35) #[] #[])
  simp only [World.size_alloc] at bL bS bF
  have bL0 := (bL.alloc (.cells #[.string s] 9)).alloc (.cells #[.func (.func 35) #[] #[]] 56)
  have bS0 := bS.alloc (.cells #[.func (.func 35) #[] #[]] 56)
  have hB0 : Below w.heap.size w (((w.alloc (.cells #[.slice none 0 0] 35)).alloc (.cells #[.string s] 9)).alloc (.cells #[.func (.func 35) #[] #[]] 56)) :=
    (((Below.refl _ w).alloc (Nat.le_refl _) _).alloc (by simp) _).alloc (by simp; omega) _
  have hsz : (((w.alloc (.cells #[.slice none 0 0] 35)).alloc (.cells #[.string s] 9)).alloc (.cells #[.func (.func 35) #[] #[]] 56)).heap.size = w.heap.size + 3 := by simp
  clear bL bS
  generalize ((w.alloc (.cells #[.slice none 0 0] 35)).alloc (.cells #[.string s] 9)).alloc (.cells #[.func (.func 35) #[] #[]] 56) = W0 at *
  have hseq : SeqStopsK Fence.wide (5 - 1) Tryd.prog 52 #[.pointer (some ⟨w.heap.size + 1, 0, none⟩), .pointer (some ⟨w.heap.size + 1 + 1, 0, none⟩)] (fun x : ByteArray => #[Value.string x]) (KeepAll (w.heap.size + 3) w.heap.size) (fun ys => ys = partsOf s blankB) (fun _ => True) (partsOf s blankB).length W0 :=
    fun l J Jx W hW hJ hJx hY hj0 => iter_words (5 - 1) (by decide) l (w.heap.size + 1) (w.heap.size + 1 + 1) (w.heap.size + 3) w.heap.size s hs J Jx hY
      (fun pre A A' hj hb => hJ pre A A' none hj ⟨hb.os, hb.tape, hb.output, hb.size, fun k hk _ => hb.block k hk⟩ (fun r e => by cases e)) W ((hW.block _ bS0.lt).trans bS0) ((hW.block _ bF.lt).trans bF) (by omega) (by omega) (by omega) (by omega) hj0
  obtain ⟨i0, hi, hz0, hz1, hz2⟩ := info_parts info_string
  have hpl := partsOf_len s blankB
  have HS := Lib.hid hsz
  clear hsz
  refine wpIn_rangeFunc_ownG rfl (by decide) (gf := 52) (lb := #[.pointer (some ⟨w.heap.size + 1, 0, none⟩), .pointer (some ⟨w.heap.size + 1 + 1, 0, none⟩)]) rfl trivial (enters_of Tryd.func52 (by kernel_rfl) rfl)
    hseq KeepAll.t (KeepAll.b (by have := HS.out; omega)) (Below.refl _ _) (fun _ => rfl)
    (fun pre W => (∃ v, Boxed W w.heap.size 35 v ∧ W.ownsRow (w.heap.size + 3) 9 1 v (pre.filter neB).length ((pre.filter neB).map Value.string) ∧ True) ∧ Below w.heap.size w W ∧ w.heap.size + 3 ≤ W.heap.size)
    (fun _ _ _ => False)
    ?hI (fun _ _ _ _ _ hs _ _ => hs) ⟨⟨_, bL0, World.ownsRow_nil _ _ _ _, trivial⟩, hB0, by have := HS.out; omega⟩
    (fun x => { tmps := #[.string s, undef, .slice none 0 0, .pointer (some ⟨w.heap.size, 0, none⟩), .string x, .string s, .func (.func 52) #[] #[.pointer (some ⟨w.heap.size + 1, 0, none⟩), .pointer (some ⟨w.heap.size + 1 + 1, 0, none⟩)], .string x, undef, undef, undef, undef, undef, undef, undef], defers := [] }) ?assign ?body ?done ?stop
  case hI =>
    refine OwnFrom.and (Own.from (holdsRow_own (w.heap.size + 3) w.heap.size 35 9 1 (fun pre : List ByteArray => (pre.filter neB).length) (fun pre => (pre.filter neB).map Value.string) (fun _ _ => True)) _) (OwnFrom.and (ownFrom_below (Nat.le_refl _) (by have := HS.out; omega)) ?_)
    intro pre A A' row h hg hr
    exact Nat.le_trans h hg.size
  case assign =>
    intro l x W K hK
    gi_wp2
    exact hK
  case body =>
    rintro l pre x W ⟨⟨v, hv, hrow, _⟩, hB, hWs⟩ hlt
    have hc := hv.cell
    have hfl : (pre.filter neB).length ≤ pre.length := List.length_filter_le _ _
    by_cases hx0 : x.size = 0
    · have h1 : x.data.toList = [] := by apply List.eq_nil_of_length_eq_zero; simpa using hx0
      have h2 : x = ⟨#[]⟩ := by apply ByteArray.ext; apply Array.toList_inj.1; exact h1
      subst h2
      have hf : Hid ((pre ++ [(⟨#[]⟩ : ByteArray)]).filter neB = pre.filter neB) := by
        unfold Hid
        rw [List.filter_append, show [(⟨#[]⟩ : ByteArray)].filter neB = [] from rfl, List.append_nil]
      clear h1 hx0
      gi_wp2
      exact ⟨KeepsFrom.refl _ _, ⟨Nat.le_refl _, fun _ _ _ => rfl⟩, ⟨v, hv, by rw [hf.out]; exact hrow, trivial⟩, hB, hWs⟩
    · have h1 : x.toList.isEmpty = false := by
        rw [Lib.toList_data]
        cases h : x.data.toList with
        | nil => exfalso; have h3 := Lib.size_eq x; rw [h, List.length_nil] at h3; omega
        | cons c t => rfl
      have h2 : (x.toList == []) = false := by
        rw [Lib.toList_data]
        cases h : x.data.toList with
        | nil => exfalso; have h3 := Lib.size_eq x; rw [h, List.length_nil] at h3; omega
        | cons c t => rfl
      have hf : Hid ((pre ++ [x]).filter neB = pre.filter neB ++ [x]) := by
        unfold Hid
        rw [List.filter_append]
        simp [neB, hx0]
      clear hx0
      gi_wp2_with (gi_at_builtin; refine wpListIn_append_own _ rfl _ _ 35 rfl (w.heap.size + 3) 9 i0 (.string ByteArray.empty) 1 16 Tryd.underlying35 hi hz0 hz1 hz2 rfl (by decide) _ _ _ rfl (hrow.alloc _) ⟨W.heap.size, 0, none⟩ 1 1 [.string x] rfl rfl (cell_one_new _ _ _) (by simp [Value.oneCell']) (by unfold maxLen; omega) (by omega) (by simp; omega) ?_; intro v' w1 hown' hgrow _; obtain ⟨g', cap', rfl⟩ := ownsRow_succ hown'; obtain ⟨hv1, hv2, hr2, hk2, hka, hbl⟩ := gathered hv (by omega) hrow hWs hown' hgrow; have hc1 := hv1.cell; have hf1 := hv1.frozen)
      refine ⟨hk2.from _, hka, ?_, hB.trans (hbl _ (by omega)), Nat.le_trans hWs hka.1⟩
      rw [hf.out]
      first | exact ⟨_, hv2, by simpa using hr2⟩ | exact ⟨_, hv2, by simpa using hr2, trivial⟩
  case done =>
    rintro D ys W hD rfl ⟨⟨v, hv, hrow, _⟩, hB, hWs⟩ hK
    have hc := hv.cell
    gi_wp2
    refine ⟨by simp, .inl ⟨_, _, rfl, run_takeDeferred hK, ?_⟩⟩
    have hD' : w.heap.size ≤ D := by have := HS.out; omega
    exact ⟨_, results_tmp rfl _ _ _, show OwnTexts w (wordsOf s) _ _ from ⟨v, rfl, own_mono (ownsRow_putObj hrow _ hK rfl) (by omega), hB.trans (belowK_b (w := w) (Nat.le_refl _) W D _ _ hD' hK rfl rfl)⟩⟩
  case stop =>
    rintro D c pre W _ _ h _
    exact h.elim

end Go.Proofs.YtkhcdopnohbieaaDoor
