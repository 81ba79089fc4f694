/- The walk of the law FnEnds. -/
import Derived.Test.YtikhanickkhnbaaProg
import Derived.Test.YtikhanickkhnbaaPlain
import Derived.Test.YtikhanickkhnbaaDraw
import Derived.Test.YtikhanickkhnbaaTexts
import Derived.Test.YtikhanickkhnbaaLines
import Derived.Test.YtikhanickkhnbaaLinesArg
import Derived.Test.YtikhanickkhnbaaLinesEq
import Derived.Test.YtikhanickkhnbaaSplitSpec
import Derived.Test.YtikhanickkhnbaaSplitImpl
import Derived.Test.YtikhanickkhnbaaJoin
import Derived.Test.YtikhanickkhnbaaLinesOk
import Derived.Test.YtikhanickkhnbaaEndOf
import Derived.Test.YtikhanickkhnbaaLinesDraw
import Derived.WalkKit
import Derived.WalkLawsBesides
import Derived.Lib.Hide
import Derived.IntWalk
namespace Go.Proofs.Ytikhanickkhnbaa
open Go.RowKit
set_option linter.unusedVariables false

def SomeLines (w : World) (e : Ending) (w' : World) : Prop := ∃ (v : Value) (g : Nat) (l : List Ln), costL l ≤ 100 ∧ e = .returned v ∧ LinesIs w' v g 0 l ∧ w.heap.size ≤ g ∧ Below w.heap.size w w'
theorem drawLinesOk (w : World) (a : Option Addr) (len cap : Nat) (hlen : len ≤ 1048576) (hB : BytesIn w a len) (hlow : ∀ x, a = some x → len ≠ 0 → x.block < w.heap.size) :
    Calls Try.prog 10 #[.slice a len cap] w (SomeLines w) := by
  go_enter Try.func10, Try.ntmps10
  go_wp2_with fail
  refine (new_draw w a len cap hlen hB hlow).mono ?_
  rintro e w1 ⟨rfl, hC1, hb1⟩
  clear hB hlow
  go_wp2_with fail
  refine (lines2_draw w1 w.heap.size w.heap.size a len cap (by omega) hC1).mono ?_
  rintro e w2 ⟨v, g, l, hc, rfl, hI, hg, hC2, hg2⟩
  have hb2 := hb1.trans (grownBy_below hg2 (Nat.le_refl _) hb1.size)
  have HI := Lib.hid hI
  have hgg : w.heap.size ≤ g := Nat.le_trans hb1.size hg
  clear hC1 hC2 hg2 hb1 hI
  go_wp2
  go_ret
  exact ⟨v, g, l, hc, rfl, HI.out, hgg, hb2⟩

set_option maxHeartbeats 3200000 in
theorem fnEnds_walk (a0 : Option Addr) (len0 cap0 : Nat) (w : World) (hB : BytesIn w a0 len0) (hlow : ∀ x, a0 = some x → len0 ≠ 0 → x.block < w.heap.size) :
    Calls Try.prog 3 #[.slice a0 len0 cap0] w fun e w' => e = .returned (.bool true) ∧ Below w.heap.size w w' := by
  by_cases h0 : len0 ≤ 1048576
  · have HB := Lib.hid hB
    have HLOW := Lib.hid hlow
    clear hB hlow
    go_enter Try.func3, Try.ntmps3
    go_wp2_with fail
    refine (big_no _ _ _ _ h0).mono ?_
    rintro e w1 ⟨rfl, rfl⟩
    go_wp2_with fail
    refine (drawLinesOk w a0 len0 cap0 h0 HB.out HLOW.out).mono ?_
    rintro e w2 ⟨v, g, l, hc, rfl, hI, hg, hb2⟩
    clear HB HLOW
    have hll : l.length ≤ 100 := Nat.le_trans (costL_len l) hc
    obtain ⟨a, cap, rfl, ha⟩ := hI.form
    have H2 := Lib.hid hI
    clear hI
    go_wp2_with fail
    refine (linesOk_impl w2 _ g 0 l H2.out.toLinesRd (by omega) (fun h => H2.out.lt h)).mono ?_
    rintro e w3 ⟨rfl, hb3⟩
    have H3 := Lib.hid (H2.out.below hb3 (fun h => H2.out.lt h))
    have hb3' := hb2.trans (hb3.mono hb2.size)
    clear H2 hb2 hb3
    go_wp2_with fail
    refine (linesOk_spec w3 _ g 0 l H3.out.toLinesRd (by omega) (fun h => H3.out.lt h)).mono ?_
    rintro e w4 ⟨rfl, hb4⟩
    have H4 := Lib.hid (H3.out.below hb4 (fun h => H3.out.lt h))
    have hb4' := hb3'.trans (hb4.mono hb3'.size)
    clear H3 hb3' hb4
    have KI := Lib.hid (fun (w : World) (hI : LinesIs w (.slice a l.length cap) g 0 l) => endOf_impl w _ g 0 l hI.toLinesRd (by omega) (fun h => hI.lt h))
    have KS := Lib.hid (fun (w : World) (hI : LinesIs w (.slice a l.length cap) g 0 l) => endOf_spec w _ g 0 l hI.toLinesRd (by omega) (fun h => hI.lt h))
    have KJ := Lib.hid (fun (w : World) (hI : LinesIs w (.slice a l.length cap) g 0 l) => joinLines_impl w _ g 0 l hI.toLinesRd (by omega) (fun h => hI.lt h))
    have hE := Lib.hid (endB_is l)
    have HA := Lib.hid ha
    clear ha
    have hok : linesOkB l = decide (linesOf (joinT l) = l) := rfl
    have hjt : (⟨(joinB l).toArray⟩ : ByteArray) = joinT l := rfl
    have hjs : (joinT l).size ≤ 100 := Nat.le_trans (joinT_size l) hc
    rw [hjt] at KJ
    have KT := Lib.hid (fun (w : World) => splitLines_impl (joinT l) w (by omega))
    generalize hT : joinT l = T at *
    clear hT hjt
    cases hr : linesOkB l
    · clear hr hok
      go_wp2_with fail
      refine (KI.out w4 H4.out).mono ?_
      rintro e w6 ⟨rfl, hb6⟩
      have H6 := Lib.hid (H4.out.below hb6 (fun h => H4.out.lt h))
      have hb6' := hb4'.trans (hb6.mono hb4'.size)
      clear H4 hb4' hb6 KI KJ KT
      go_wp2_with fail
      refine (KS.out w6 H6.out).mono ?_
      rintro e w7 ⟨rfl, hb7⟩
      have H7 := Lib.hid (H6.out.below hb7 (fun h => H6.out.lt h))
      have hb7' := hb6'.trans (hb7.mono hb6'.size)
      clear H6 hb6' hb7 KS
      generalize endB l = ee at *
      have hee : (ee.toList == ee.toList) = true := by simp
      go_wp2
      go_loopw [6] (fun i wr => ∃ k : Nat, k ≤ l.length ∧ i = .int .i64 k ∧ w7 = wr ∧ Hid (∀ j (h : j < l.length), j < k → l[j].2 ≠ ee)) (fun i _ => l.length - (intOf i).toNat)
      case atStart => exact ⟨0, Nat.zero_le _, rfl, rfl, fun j h hj => by omega⟩
      case round =>
        obtain ⟨k, hk, rfl, rfl, hno⟩ := hrel
        by_cases hlt : k < l.length
        · have hln : l ≠ [] := by intro e; subst e; simp at hlt
          obtain rfl := HA.out hln
          have q2 := H7.out.c1 k hlt
          simp only [Nat.zero_add] at q2
          have hjn : (k : Int) < (l.length : Int) := by omega
          by_cases heq : l[k].2 = ee
          · have hbb : (l[k].2.toList == ee.toList) = true := by rw [beq_texts]; simp [heq]
            clear hno heq
            generalize l[k].2 = x at *
            go_wp2
            go_ret
            exact ⟨rfl, hb7'⟩
          · have hbb : (l[k].2.toList == ee.toList) = false := by rw [beq_texts]; simp [heq]
            have hno2 : Hid (∀ j (h : j < l.length), j < k + 1 → l[j].2 ≠ ee) := by
              intro j h hj
              by_cases e : j = k
              · subst e; exact heq
              · exact hno.out j h (by omega)
            clear hno heq
            generalize l[k].2 = x at *
            go_wp2
            go_roundw
            case rel => exact ⟨k + 1, by omega, by go_num, trivial, hno2⟩
            case measure => simp [intOf]; omega
        · obtain rfl : k = l.length := by omega
          have hAll : Hid ((∀ x ∈ l, x.2 = noB) ∧ ee = ⟨#[10]⟩) := by
            rcases hE.out with ⟨x, hx, he⟩ | h
            · exfalso
              obtain ⟨j, hj, rfl⟩ := List.getElem_of_mem hx
              exact hno.out j hj hj he
            · exact h
          have hnl := hAll.out.2
          subst hnl
          clear hno hE
          go_wp2
          go_loopw [7] (fun i wr => ∃ k : Nat, k ≤ l.length ∧ i = .int .i64 k ∧ w7 = wr) (fun i _ => l.length - (intOf i).toNat)
          case atStart => exact ⟨0, Nat.zero_le _, rfl, rfl⟩
          case round =>
            obtain ⟨k, hk, rfl, rfl⟩ := hrel
            by_cases hlt : k < l.length
            · have hln : l ≠ [] := by intro e; subst e; simp at hlt
              obtain rfl := HA.out hln
              have q2 := H7.out.c1 k hlt
              simp only [Nat.zero_add] at q2
              rw [hAll.out.1 l[k] (List.getElem_mem _)] at q2
              have hjn : (k : Int) < (l.length : Int) := by omega
              go_wp2
              go_roundw
              case rel => exact ⟨k + 1, by omega, by go_num, trivial⟩
              case measure => simp [intOf]; omega
            · obtain rfl : k = l.length := by omega
              go_wp2
              go_ret
              exact ⟨rfl, hb7'⟩
    · have hdec : decide (linesOf T = l) = true := by rw [← hok]; exact hr
      have hfew := Nat.le_trans (linesOf_few T) hjs
      clear hr hok
      go_wp2_with fail
      refine (KJ.out w4 H4.out).mono ?_
      rintro e w4b ⟨rfl, hb4b⟩
      have H4b := Lib.hid (H4.out.below hb4b (fun h => H4.out.lt h))
      have hb4b' := hb4'.trans (hb4b.mono hb4'.size)
      clear H4 hb4' hb4b
      go_wp2_with fail
      refine (KT.out w4b).mono ?_
      rintro e w4c ⟨vc, gc, rfl, hIc, hgc, hb4c⟩
      have H4c := Lib.hid (H4b.out.below hb4c (fun h => H4b.out.lt h))
      have hb4c' := hb4b'.trans (hb4c.mono hb4b'.size)
      clear H4b hb4b' hb4c
      go_wp2_with fail
      refine (sameLines_any w4c vc _ gc 0 g 0 _ l hIc.toLinesRd H4c.out.toLinesRd (by omega) (by omega)).mono ?_
      rintro e w4d ⟨rfl, n, rfl⟩
      rw [hdec]
      have H4d : Hid (LinesIs (w4c.drewN n) (.slice a l.length cap) g 0 l) := H4c.out.kept (fun _ => rfl)
      have hb4d := below_drewN hb4c' n
      clear H4c hb4c' hIc hgc
      generalize w4c.drewN n = w5 at *
      go_wp2_with fail
      refine (KI.out w5 H4d.out).mono ?_
      rintro e w6 ⟨rfl, hb6⟩
      have H6 := Lib.hid (H4d.out.below hb6 (fun h => H4d.out.lt h))
      have hb6' := hb4d.trans (hb6.mono hb4d.size)
      clear H4d hb4d hb6 KI KJ KT
      go_wp2_with fail
      refine (KS.out w6 H6.out).mono ?_
      rintro e w7 ⟨rfl, hb7⟩
      have H7 := Lib.hid (H6.out.below hb7 (fun h => H6.out.lt h))
      have hb7' := hb6'.trans (hb7.mono hb6'.size)
      clear H6 hb6' hb7 KS
      generalize endB l = ee at *
      have hee : (ee.toList == ee.toList) = true := by simp
      go_wp2
      go_loopw [6] (fun i wr => ∃ k : Nat, k ≤ l.length ∧ i = .int .i64 k ∧ w7 = wr ∧ Hid (∀ j (h : j < l.length), j < k → l[j].2 ≠ ee)) (fun i _ => l.length - (intOf i).toNat)
      case atStart => exact ⟨0, Nat.zero_le _, rfl, rfl, fun j h hj => by omega⟩
      case round =>
        obtain ⟨k, hk, rfl, rfl, hno⟩ := hrel
        by_cases hlt : k < l.length
        · have hln : l ≠ [] := by intro e; subst e; simp at hlt
          obtain rfl := HA.out hln
          have q2 := H7.out.c1 k hlt
          simp only [Nat.zero_add] at q2
          have hjn : (k : Int) < (l.length : Int) := by omega
          by_cases heq : l[k].2 = ee
          · have hbb : (l[k].2.toList == ee.toList) = true := by rw [beq_texts]; simp [heq]
            clear hno heq
            generalize l[k].2 = x at *
            go_wp2
            go_ret
            exact ⟨rfl, hb7'⟩
          · have hbb : (l[k].2.toList == ee.toList) = false := by rw [beq_texts]; simp [heq]
            have hno2 : Hid (∀ j (h : j < l.length), j < k + 1 → l[j].2 ≠ ee) := by
              intro j h hj
              by_cases e : j = k
              · subst e; exact heq
              · exact hno.out j h (by omega)
            clear hno heq
            generalize l[k].2 = x at *
            go_wp2
            go_roundw
            case rel => exact ⟨k + 1, by omega, by go_num, trivial, hno2⟩
            case measure => simp [intOf]; omega
        · obtain rfl : k = l.length := by omega
          have hAll : Hid ((∀ x ∈ l, x.2 = noB) ∧ ee = ⟨#[10]⟩) := by
            rcases hE.out with ⟨x, hx, he⟩ | h
            · exfalso
              obtain ⟨j, hj, rfl⟩ := List.getElem_of_mem hx
              exact hno.out j hj hj he
            · exact h
          have hnl := hAll.out.2
          subst hnl
          clear hno hE
          go_wp2
          go_loopw [7] (fun i wr => ∃ k : Nat, k ≤ l.length ∧ i = .int .i64 k ∧ w7 = wr) (fun i _ => l.length - (intOf i).toNat)
          case atStart => exact ⟨0, Nat.zero_le _, rfl, rfl⟩
          case round =>
            obtain ⟨k, hk, rfl, rfl⟩ := hrel
            by_cases hlt : k < l.length
            · have hln : l ≠ [] := by intro e; subst e; simp at hlt
              obtain rfl := HA.out hln
              have q2 := H7.out.c1 k hlt
              simp only [Nat.zero_add] at q2
              rw [hAll.out.1 l[k] (List.getElem_mem _)] at q2
              have hjn : (k : Int) < (l.length : Int) := by omega
              go_wp2
              go_roundw
              case rel => exact ⟨k + 1, by omega, by go_num, trivial⟩
              case measure => simp [intOf]; omega
            · obtain rfl : k = l.length := by omega
              go_wp2
              go_ret
              exact ⟨rfl, hb7'⟩
  · go_enter Try.func3, Try.ntmps3
    go_wp2_with fail
    refine (big_yes _ _ _ _ (by omega)).mono ?_
    rintro e w1 ⟨rfl, rfl⟩
    go_wp2
    go_ret
    exact ⟨rfl, Below.refl _ _⟩

end Go.Proofs.Ytikhanickkhnbaa
