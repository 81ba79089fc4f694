/- The walk of the law FnHeads. -/
import Derived.Test.YtdkghalcnaogfaaProg
import Derived.Test.YtdkghalcnaogfaaPlain
import Derived.Test.YtdkghalcnaogfaaDraw
import Derived.Test.YtdkghalcnaogfaaTexts
import Derived.Test.YtdkghalcnaogfaaKit
import Derived.Test.YtdkghalcnaogfaaRows0
import Derived.Test.YtdkghalcnaogfaaRecRows
import Derived.Test.YtdkghalcnaogfaaRecArg
import Derived.Test.YtdkghalcnaogfaaRecNum
import Derived.Test.YtdkghalcnaogfaaRecSects
import Derived.Test.YtdkghalcnaogfaaRecDraw
import Derived.WalkKit
import Derived.WalkLawsBesides
import Derived.OwnWalk
import Derived.BigQuiet
import Derived.Deep.QuietTactic
import Derived.Laws.IdiomStrings
import Derived.Lib.Hide
import Derived.IntWalk
namespace Go.Proofs.Ytdkghalcnaogfaa
open Go.RowKit Go.Sort
set_option linter.unusedVariables false

theorem stepS_nodup {z : List ByteArray} (h : z.Nodup) (x : RecD) : (stepS z x).Nodup := by
  unfold stepS
  split
  · rename_i hc
    rw [List.nodup_append]
    refine ⟨h, by simp, ?_⟩
    intro a ha b hb
    rw [List.mem_singleton] at hb
    subst hb
    intro e
    subst e
    exact hc.2 ha
  · exact h
theorem foldS_nodup (l : List RecD) {z : List ByteArray} (h : z.Nodup) : (l.foldl stepS z).Nodup := by
  induction l generalizing z with
  | nil => exact h
  | cons x l ih => exact ih (stepS_nodup h x)
theorem sectsL_nodup (l : List RecD) : (sectsL l).Nodup := foldS_nodup l List.nodup_nil
/-- all of them stand there already -/
theorem foldS_same (l : List RecD) (z : List ByteArray) (h : ∀ x ∈ l, x.kind = 2 → x.sect ∈ z) : l.foldl stepS z = z := by
  induction l with
  | nil => rfl
  | cons x l ih =>
    have hx : stepS z x = z := by
      unfold stepS
      rw [if_neg]
      intro hc
      exact hc.2 (h x List.mem_cons_self hc.1)
    rw [List.foldl_cons, hx]
    exact ih (fun y hy => h y (List.mem_cons_of_mem _ hy))
theorem sectsL_twice (l : List RecD) : sectsL (l ++ l) = sectsL l := by
  unfold sectsL
  rw [List.foldl_append]
  exact foldS_same l _ (fun x hx h2 => (mem_sectsL x.sect l).2 ⟨x, hx, h2, rfl⟩)
/-- how often it stands there -/
def cntT (z : List ByteArray) (x : ByteArray) : Nat := (z.filter (fun y => decide (y = x))).length
theorem cntT_yes (z : List ByteArray) (k : Nat) (h : k < z.length) (x : ByteArray) (e : z[k] = x) : cntT (z.take (k + 1)) x = cntT (z.take k) x + 1 := by
  unfold cntT
  rw [List.take_succ_eq_append_getElem h, List.filter_append, List.length_append]
  simp [e]
theorem cntT_no (z : List ByteArray) (k : Nat) (h : k < z.length) (x : ByteArray) (e : z[k] ≠ x) : cntT (z.take (k + 1)) x = cntT (z.take k) x := by
  unfold cntT
  rw [List.take_succ_eq_append_getElem h, List.filter_append, List.length_append]
  simp [e]
theorem cntT_le (z : List ByteArray) (k : Nat) (x : ByteArray) : cntT (z.take k) x ≤ k := by
  unfold cntT
  have := List.length_filter_le (fun y => decide (y = x)) (z.take k)
  rw [List.length_take] at this
  omega
theorem cntT_one (z : List ByteArray) (x : ByteArray) (h : z.Nodup) (hx : x ∈ z) : cntT z x = 1 := by
  unfold cntT
  induction z with
  | nil => simp at hx
  | cons y z ih =>
    rw [List.nodup_cons] at h
    by_cases e : y = x
    · subst e
      rw [List.filter_cons_of_pos (by simp)]
      have : z.filter (fun a => decide (a = y)) = [] := by
        rw [List.filter_eq_nil_iff]
        intro a ha
        simp only [decide_eq_true_eq]
        intro e2
        subst e2
        exact h.1 ha
      rw [this]
      rfl
    · rw [List.filter_cons_of_neg (by simpa using e)]
      refine ih h.2 ?_
      rcases List.mem_cons.1 hx with h2 | h2
      · exact absurd h2.symm e
      · exact h2
theorem costRec_twice (l : List RecD) : costRec (l ++ l) = costRec l + costRec l := by
  simp only [costRec, List.length_append, List.map_append, List.sum_append]
  omega
theorem rows_kept_news {w w1 : World} {v : Value} {g : Nat} {l : List RecD} (h : RowsRd recS w v g 0 l) (ad : Addr) (hg : l ≠ [] → ad = ⟨g, 0, none⟩) (hk : l ≠ [] → w1.heap[g]? = w.heap[g]?) : ∀ j u, (rowCells recS l)[j]? = some u → w1.cell? (ad.add j) = some u := by
  intro j u hu
  have hj : j < l.length * 6 := by
    have := (List.getElem?_eq_some_iff.1 hu).1
    rw [rowCells_length] at this
    exact this
  have hl : l ≠ [] := by intro e; subst e; simp at hj
  have h2 := rows_news (h.kept (w' := w1) hk) ad hg (.cells #[] 0) j u hu
  obtain rfl := hg hl
  have ha : (⟨g, 0, none⟩ : Addr).add j = ⟨g, j, none⟩ := row_addr g j
  rw [ha] at h2 ⊢
  rw [World.cell?_of_block (a := ⟨g, j, none⟩) (Below.heap_alloc w1 _ _ ((h.kept (w' := w1) hk).lt hl))] at h2
  exact h2

set_option maxRecDepth 100000 in
set_option maxHeartbeats 3200000 in
theorem fnHeads_walk (a0 : Option Addr) (len0 cap0 : Nat) (w : World) (hB : BytesIn w a0 len0) (hlow : ∀ x, a0 = some x → len0 ≠ 0 → x.block < w.heap.size) :
    Calls Try.prog 4 #[.slice a0 len0 cap0] w fun e w' => e = .returned (.bool true) ∧ Below w.heap.size w w' := by
  by_cases h0 : len0 ≤ 1048576
  · have HB := Lib.hid hB
    have HLOW := Lib.hid hlow
    clear hB hlow
    go_enter Try.func4, Try.ntmps4
    go_wp2_with fail
    refine (big_no _ _ _ _ h0).mono ?_
    rintro e w1 ⟨rfl, rfl⟩
    go_wp2_with fail
    refine (drawSections w a0 len0 cap0 h0 HB.out HLOW.out).mono ?_
    rintro e w2 ⟨v, g, l, hc, rfl, hI, hg, hb2⟩
    clear HB HLOW
    have hll : l.length ≤ 100 := by unfold costRec at hc; omega
    obtain ⟨a, cap, rfl, ha⟩ := hI.form
    have H2 := Lib.hid hI
    have HA := Lib.hid ha
    have HG2 : Hid (l ≠ [] → g < w2.heap.size) := fun h => hI.lt h
    clear hI ha
    have HM := Lib.hid (fun x (hx : x ∈ l) (h2 : x.kind = 2) => cntT_one (sectsL l) x.sect (sectsL_nodup l) ((mem_sectsL x.sect l).2 ⟨x, hx, h2, rfl⟩))
    have HT := Lib.hid (sectsL_twice l)
    have hzl := sectsL_len l
    have KI := Lib.hid (fun (w : World) (v : Value) (g : Nat) (l : List RecD) (hI : RowsIs recS w v g 0 l) (hc : costRec l ≤ 1048576) => sections_impl w v g 0 l hI.toRowsRd hc)
    have KS := Lib.hid (fun (w : World) (v : Value) (g : Nat) (l : List RecD) (hI : RowsIs recS w v g 0 l) (hc : costRec l ≤ 1048576) => sections_spec w v g 0 l hI.toRowsRd hc)
    go_wp2_with fail
    refine (KI.out w2 _ g l H2.out (by omega)).mono ?_
    rintro e w3 ⟨vo, go, rfl, hO, hgo, hb3⟩
    have H3 := Lib.hid (H2.out.over hb3)
    have hb3' := hb2.trans (hb3.mono hb2.size)
    clear H2 hb2
    go_wp2_with fail
    refine (KS.out w3 _ g l H3.out (by omega)).mono ?_
    rintro e w4 ⟨vs, gs, rfl, hS, hgs, hb4⟩
    have H4 := Lib.hid (H3.out.over hb4)
    have hO4 := hO.over hb4
    have hb4' := hb3'.trans (hb4.mono hb3'.size)
    have hs34 := hb4.size
    clear H3 hb3' hb4 hO
    go_wp2_with fail
    refine (sameTexts_any w4 vo vs go gs (sectsL l) (sectsL l) hO4 hS (by omega) (by omega)).mono ?_
    rintro e w5 ⟨rfl, n5, rfl⟩
    rw [show decide (sectsL l = sectsL l) = true by simp]
    have hb5 := drew_belowK (w := w4) n5
    have H5 := Lib.hid (H4.out.over hb5)
    have hO5 := hO4.over hb5
    have hb5' := hb4'.trans (hb5.mono hb4'.size)
    have hs5 : w2.heap.size ≤ (w4.drewN n5).heap.size := Nat.le_trans hb3.size (Nat.le_trans hs34 hb5.size)
    clear H4 hO4 hb4' hb5 hS hb3
    generalize w4.drewN n5 = w5 at *
    obtain ⟨ao, co, rfl, hao⟩ := hO5.form
    have HO5 := Lib.hid hO5
    have HAO := Lib.hid hao
    clear hO5 hao
    generalize hzz : sectsL l = z at *
    have HZ := Lib.hid hzz
    clear hzz
    go_wp2
    go_loopw [5] (fun i wr => ∃ k n : Nat, k ≤ l.length ∧ i = .int .i64 k ∧ wr = w5.drewN n) (fun i _ => l.length - (intOf i).toNat)
    case atStart => exact ⟨0, 0, Nat.zero_le _, rfl, rfl⟩
    case round =>
      obtain ⟨k, n, hk, rfl, rfl⟩ := hrel
      by_cases hlt : k < l.length
      · have hln : l ≠ [] := by intro e; subst e; simp at hlt
        obtain rfl := HA.out hln
        have q0 := rec_c0 H5.out.toRowsRd k hlt
        have q2 := rec_c2 H5.out.toRowsRd k hlt
        simp only [Nat.zero_add] at q0 q2
        have hone := Lib.hid (HM.out l[k] (List.getElem_mem _))
        have hjn : (k : Int) < (l.length : Int) := by omega
        generalize l[k].sect = x2 at *
        generalize l[k].kind = x0 at *
        go_wp2
        go_loopw [6, 7] (fun c i wr => ∃ j n : Nat, j ≤ z.length ∧ i = .int .i64 j ∧ c = .int .i64 ((cntT (z.take j) x2 : Nat) : Int) ∧ wr = w5.drewN n) (fun _ i _ => z.length - (intOf i).toNat)
        case atStart => exact ⟨0, n, Nat.zero_le _, rfl, rfl, rfl⟩
        case round =>
          obtain ⟨j, n2, hj, rfl, rfl, rfl⟩ := hrel
          by_cases hjl : j < z.length
          · have hzn : z ≠ [] := by intro e; subst e; simp at hjl
            obtain rfl := HAO.out hzn
            have q1 := HO5.out.cell j hjl
            have htl := cntT_le z j x2
            have hjn2 : (j : Int) < (z.length : Int) := by omega
            by_cases heq : z[j] = x2
            · have hbb := txt_same _ _ heq
              have ht2 := Lib.hid (cntT_yes z j hjl x2 heq)
              clear heq
              generalize z[j] = y at *
              generalize cntT (z.take j) x2 = c at *
              go_wp2_with fail
              go_quiet (fail)
              go_wp2
              go_roundw
              case rel => exact ⟨j + 1, n2 + nq, by omega, by go_num, by rw [ht2.out]; go_num, by simp⟩
              case measure => simp [intOf]; omega
            · have hbb := txt_differ _ _ heq
              have ht2 := Lib.hid (cntT_no z j hjl x2 heq)
              clear heq
              generalize z[j] = y at *
              generalize cntT (z.take j) x2 = c at *
              go_wp2_with fail
              go_quiet (fail)
              go_wp2
              go_roundw
              case rel => exact ⟨j + 1, n2 + nq, by omega, by go_num, by rw [ht2.out], by simp⟩
              case measure => simp [intOf]; omega
          · obtain rfl : j = z.length := by omega
            rw [List.take_length]
            by_cases h2 : x0 = 2
            · have e2 : (x0 == 2) = true := by simp [h2]
              have e3 : cntT z x2 = 1 := hone.out h2
              rw [e3]
              clear h2 e3
              go_wp2
              go_roundw
              case rel => exact ⟨k + 1, n2, by omega, by go_num, rfl⟩
              case measure => simp [intOf]; omega
            · have e2 : (x0 == 2) = false := by simp [h2]
              clear h2
              generalize cntT z x2 = c at *
              go_wp2
              go_roundw
              case rel => exact ⟨k + 1, n2, by omega, by go_num, rfl⟩
              case measure => simp [intOf]; omega
      · have hb6 := drew_belowK (w := w5) n
        have H6 := Lib.hid (H5.out.over hb6)
        have HO6 := Lib.hid (HO5.out.over hb6)
        have hb6' := hb5'.trans (hb6.mono hb5'.size)
        have hs6 : w2.heap.size ≤ (w5.drewN n).heap.size := Nat.le_trans hs5 hb6.size
        clear H5 HO5 hb5' hb6 hs5
        generalize w5.drewN n = w6 at *
        have HRL := Lib.hid (rowCells_length recS l)
        obtain ⟨i0, hi, hz0, hz1, hz2⟩ := info_parts info_rec
        have hcl := costRec_twice l
        cases a with
        | none =>
          have hn : l = [] := Classical.byContradiction (fun h => by have := HA.out h; cases this)
          have hn0 : l.length = 0 := by rw [hn]; rfl
          rw [hn0]
          have hIX : RowsIs recS (w6.alloc (.cells #[] 36)) (.slice (some ⟨w6.heap.size, 0, none⟩) 0 0) w6.heap.size 0 (l ++ l) := by rw [hn]; exact RowsIs.nil _ _ rfl
          have hbX := (Below.refl w6.heap.size w6).alloc (Nat.le_refl _) (.cells #[] 36)
          clear hn hn0
          go_wp2_with fail
          refine (KI.out _ _ _ (l ++ l) hIX (by omega)).mono ?_
          rintro e w8 ⟨v8, g8, rfl, hT8, hg8, hb8⟩
          rw [HT.out] at hT8
          have HO8 := Lib.hid ((HO6.out.over hbX).over hb8)
          have hbX' := hb6'.trans (hbX.mono hb6'.size)
          have hb8' := hbX'.trans (hb8.mono hbX'.size)
          clear hIX hbX hbX' hb8 HO6 H6 KI KS
          go_wp2_with fail
          refine (sameTexts_any w8 v8 _ g8 go z z hT8 HO8.out (by omega) (by omega)).mono ?_
          rintro e w9 ⟨rfl, n9, rfl⟩
          rw [show decide (z = z) = true by simp]
          have hb9 := drew_belowK (w := w8) n9
          have hb9' := hb8'.trans (hb9.mono hb8'.size)
          clear hT8 hb8' hb9
          go_wp2
          go_ret
          exact ⟨rfl, hb9'⟩
        | some ad =>
          have HAD : Hid (l ≠ [] → ad = ⟨g, 0, none⟩) := fun h => by have := HA.out h; injection this
          have HK6 : Hid (∀ w7 : World, (w6.alloc (.cells #[] 36)).grownBy w7 (some w6.heap.size) → l ≠ [] → w7.heap[g]? = w6.heap[g]?) := by
            intro w7 hg7 hl
            have := HG2.out hl
            rw [hg7.block g (by simp; omega) (by intro e; injection e with e; omega), Below.heap_alloc _ _ _ (by omega)]
          go_wp2_with (first
            | (at_builtin; refine wpList_append_own _ rfl _ _ 24 rfl w6.heap.size 36 i0 (recV noRec) 6 80 Try.underlying24 hi hz0 hz1 hz2 rfl (by decide) _ _ _ rfl (World.ownsRow_lit w6 #[] 0 (Nat.le_refl _) (Nat.zero_le _) rfl) ad l.length cap (rowCells recS l) rfl HRL.out (rows_news H6.out.toRowsRd ad HAD.out _) (rowCells_one recS l) (by unfold maxLen; omega) (by omega) (by simp) ?_; intro v7 w7 hown7 hgrow7 _)
            | (at_builtin; refine wpList_append_own _ rfl _ _ 24 rfl w6.heap.size 36 i0 (recV noRec) 6 80 Try.underlying24 hi hz0 hz1 hz2 rfl (by decide) _ _ _ rfl hown7 ad l.length cap (rowCells recS l) rfl HRL.out (rows_kept_news H6.out.toRowsRd ad HAD.out (HK6.out w7 hgrow7)) (rowCells_one recS l) (by unfold maxLen; omega) (by omega) (by have := hgrow7.size; simp at this; omega) ?_; intro v8 wX hown8 hgrow8 _))
          have hb7 : Below w6.heap.size w6 w7 := ((Below.refl w6.heap.size w6).alloc (Nat.le_refl _) _).grown hgrow7 (by simp) (fun j hj => by cases hj; exact Nat.le_refl _)
          have hbX : Below w6.heap.size w6 wX := hb7.grown hgrow8 hb7.size (own_blockR hown7)
          obtain ⟨gX, hIX, hgX⟩ := rowsIs_of_owns (S := recS) (l := l ++ l) (by rw [rowCells_append]; exact hown8) (by simp) hbX.size
          clear hown7 hown8 hgrow7 hgrow8 hb7 HK6
          refine (KI.out wX _ gX (l ++ l) hIX (by omega)).mono ?_
          rintro e w8 ⟨v8, g8, rfl, hT8, hg8, hb8⟩
          rw [HT.out] at hT8
          have HO8 := Lib.hid ((HO6.out.over hbX).over hb8)
          have hbX' := hb6'.trans (hbX.mono hb6'.size)
          have hb8' := hbX'.trans (hb8.mono hbX'.size)
          clear hIX hbX hbX' hb8 HO6 H6 KI KS
          go_wp2_with fail
          refine (sameTexts_any w8 v8 _ g8 go z z hT8 HO8.out (by omega) (by omega)).mono ?_
          rintro e w9 ⟨rfl, n9, rfl⟩
          rw [show decide (z = z) = true by simp]
          have hb9 := drew_belowK (w := w8) n9
          have hb9' := hb8'.trans (hb9.mono hb8'.size)
          clear hT8 hb8' hb9
          go_wp2
          go_ret
          exact ⟨rfl, hb9'⟩
  · go_enter Try.func4, Try.ntmps4
    go_wp2_with fail
    refine (big_yes _ _ _ _ (by omega)).mono ?_
    rintro e w1 ⟨rfl, rfl⟩
    go_wp2
    go_ret
    exact ⟨rfl, Below.refl _ _⟩

end Go.Proofs.Ytdkghalcnaogfaa
