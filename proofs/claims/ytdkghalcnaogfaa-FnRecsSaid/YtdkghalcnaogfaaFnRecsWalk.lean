/- The walk of the law FnRecs. -/
import Derived.Test.YtdkghalcnaogfaaProg
import Derived.Test.YtdkghalcnaogfaaPlain
import Derived.Test.YtdkghalcnaogfaaDraw
import Derived.Test.YtdkghalcnaogfaaTexts
import Derived.Test.YtdkghalcnaogfaaKit
import Derived.Test.YtdkghalcnaogfaaRows0
import Derived.Test.YtdkghalcnaogfaaRecRows
import Derived.Test.YtdkghalcnaogfaaRecArg
import Derived.Test.YtdkghalcnaogfaaRecRaw
import Derived.Test.YtdkghalcnaogfaaRecOdd
import Derived.Test.YtdkghalcnaogfaaRecLast
import Derived.Test.YtdkghalcnaogfaaRecNum
import Derived.Test.YtdkghalcnaogfaaRecSects
import Derived.Test.YtdkghalcnaogfaaRecSame
import Derived.Test.YtdkghalcnaogfaaRecDraw
import Derived.WalkKit
import Derived.WalkLawsBesides
import Derived.Laws.IdiomStrings
import Derived.Lib.Hide
import Derived.IntWalk
namespace Go.Proofs.Ytdkghalcnaogfaa
open Go.RowKit
set_option linter.unusedVariables false

set_option maxRecDepth 100000 in
set_option maxHeartbeats 6400000 in
theorem fnRecs_walk (a0 : Option Addr) (len0 cap0 : Nat) (w : World) (hB : BytesIn w a0 len0) (hlow : ∀ x, a0 = some x → len0 ≠ 0 → x.block < w.heap.size) :
    Calls Try.prog 3 #[.slice a0 len0 cap0] w fun e w' => e = .returned (.bool true) ∧ Below w.heap.size w w' := by
  by_cases h0 : len0 ≤ 1048576
  · have HB := Lib.hid hB
    have HLOW := Lib.hid hlow
    clear hB hlow
    have KN := Lib.hid (fun (w : World) (v : Value) (g : Nat) (l : List RecD) (hI : RowsIs recS w v g 0 l) (hc : costRec l ≤ 1048576) => numbered_impl w v g 0 l hI.toRowsRd hc)
    have KNS := Lib.hid (fun (w : World) (v : Value) (g : Nat) (l : List RecD) (hI : RowsIs recS w v g 0 l) (hc : costRec l ≤ 1048576) => numbered_spec w v g 0 l hI.toRowsRd hc)
    have KR := Lib.hid (fun (w : World) (v : Value) (g : Nat) (l : List RecD) (hI : RowsIs recS w v g 0 l) (hc : costRec l ≤ 1048576) => rawOf_impl w v g 0 l hI.toRowsRd hc)
    go_enter Try.func3, Try.ntmps3
    go_wp2_with fail
    refine (big_no _ _ _ _ h0).mono ?_
    rintro e w1 ⟨rfl, rfl⟩
    go_wp2_with fail
    refine (drawNumbered w a0 len0 cap0 h0 HB.out HLOW.out).mono ?_
    rintro e w2 ⟨v, g, l, hc, rfl, hI2, hg, hb2⟩
    have hcn : costRec (numL l) ≤ 100 := by rw [costRec_num]; exact hc
    have hll : l.length ≤ 100 := by unfold costRec at hc; omega
    have hnl := numL_length l
    have HAG := Lib.hid (numL_again l)
    have HRN := Lib.hid (rawB_num l)
    go_wp2_with fail
    refine (KN.out w2 _ g l hI2 (by omega)).mono ?_
    rintro e w3 ⟨v3, g3, rfl, hO3, hg3, hb3⟩
    have hI3 := hI2.over hb3
    have hb3' := hb2.trans (hb3.mono hb2.size)
    clear hI2 hb2 hb3
    go_wp2_with fail
    refine (KNS.out w3 _ g l hI3 (by omega)).mono ?_
    rintro e w4 ⟨v4, g4, rfl, hS4, hg4, hb4⟩
    have hI4 := hI3.over hb4
    have hO4 := hO3.over hb4
    have hb4' := hb3'.trans (hb4.mono hb3'.size)
    clear hI3 hb3' hb4 hO3
    go_wp2_with fail
    refine (same_recs w4 v3 v4 g3 0 g4 0 (numL l) hO4.toRowsRd hS4.toRowsRd (by omega)).mono ?_
    rintro e w5 ⟨rfl, hb5⟩
    have hI5 := hI4.over hb5
    have hO5 := hO4.over hb5
    have hb5' := hb4'.trans (hb5.mono hb4'.size)
    clear hI4 hb4' hb5 hO4 hS4
    go_wp2_with fail
    refine (KR.out w5 _ g3 (numL l) hO5 (by omega)).mono ?_
    rintro e w6 ⟨rfl, hb6⟩
    rw [HRN.out]
    have hI6 := hI5.over hb6
    have hO6 := hO5.over hb6
    have hb6' := hb5'.trans (hb6.mono hb5'.size)
    clear hI5 hb5' hb6 hO5
    go_wp2_with fail
    refine (KR.out w6 _ g l hI6 (by omega)).mono ?_
    rintro e w7 ⟨rfl, hb7⟩
    have hO7 := hO6.over hb7
    have hb7' := hb6'.trans (hb7.mono hb6'.size)
    clear hI6 hb6' hb7 hO6
    generalize (⟨(rawB l).toArray⟩ : ByteArray) = r at *
    have hrr : (r.toList == r.toList) = true := by simp
    go_wp2_with fail
    refine (KN.out w7 _ g3 (numL l) hO7 (by omega)).mono ?_
    rintro e w8 ⟨v8, g8, rfl, hA8, hg8, hb8⟩
    rw [HAG.out] at hA8
    have hO8 := hO7.over hb8
    have hb8' := hb7'.trans (hb8.mono hb7'.size)
    clear hb7' hb8 hO7
    go_wp2_with fail
    refine (same_recs w8 v8 v3 g8 0 g3 0 (numL l) hA8.toRowsRd hO8.toRowsRd (by omega)).mono ?_
    rintro e w9 ⟨rfl, hb9⟩
    have hb9' := hb8'.trans (hb9.mono hb8'.size)
    clear hb8' hb9 hO8 hA8 KN KNS KR
    have HB9 : Hid (BytesIn w9 a0 len0) := bytesIn_kept (b := 0) HB.out (fun x hx hne => hb9'.block x.block (HLOW.out x hx hne))
    have HLOW9 : Hid (∀ x, a0 = some x → len0 ≠ 0 → x.block < w9.heap.size) := fun x hx hne => Nat.lt_of_lt_of_le (HLOW.out x hx hne) hb9'.size
    clear HB HLOW hg hg3 hg4 hg8 HAG HRN hcn hc hll hnl
    go_wp2_with fail
    refine (drawLastOf w9 a0 len0 cap0 h0 HB9.out HLOW9.out).mono ?_
    rintro e w10 ⟨vr, gr, m, s, t, hcm, hss, hts, rfl, hM, hgr, hb10⟩
    have hb10' := hb9'.trans (hb10.mono hb9'.size)
    have hml : m.length ≤ 100 := by unfold costRec at hcm; omega
    clear HB9 HLOW9 hb9' hb10 hgr
    go_wp2_with fail
    refine (lastOf_impl w10 vr gr 0 m hM.toRowsRd (by omega) s t (by omega) (by omega)).mono ?_
    rintro e w11 ⟨rfl, hb11⟩
    have hM11 := hM.over hb11
    have hb11' := hb10'.trans (hb11.mono hb10'.size)
    clear hM hb10' hb11
    have HLN := Lib.hid (fun i (hi : i < m.length) (h : lastOf m s t < (i : Int)) => lastTo_none m s t m.length (Nat.le_refl _) i hi h)
    go_wp2_with fail
    refine (lastOf_spec w11 vr gr 0 m hM11.toRowsRd (by omega) s t (by omega) (by omega)).mono ?_
    rintro e w12 ⟨rfl, hb12⟩
    have hM12 := hM11.over hb12
    have hb12' := hb11'.trans (hb12.mono hb11'.size)
    have hlr := lastTo_ge m s t m.length
    have hlr2 : -1 ≤ lastOf m s t ∧ lastOf m s t < m.length := hlr
    clear hM11 hb11' hb12 hlr
    generalize lastOf m s t = la at *
    have hla : (la != la) = false := by simp
    go_wp2_with fail
    refine (sections_impl w12 vr gr 0 m hM12.toRowsRd (by omega)).mono ?_
    rintro e w13 ⟨v13, g13, rfl, hT13, hg13, hb13⟩
    have hM13 := hM12.over hb13
    have hb13' := hb12'.trans (hb13.mono hb12'.size)
    clear hM12 hb12' hb13
    go_wp2_with fail
    refine (sections_spec w13 vr gr 0 m hM13.toRowsRd (by omega)).mono ?_
    rintro e w14 ⟨v14, g14, rfl, hT14, hg14, hb14⟩
    have hM14 := hM13.over hb14
    have hT134 := hT13.over hb14
    have hb14' := hb13'.trans (hb14.mono hb13'.size)
    have hzl := sectsL_len m
    clear hM13 hb13' hb14 hT13
    go_wp2_with fail
    refine (sameTexts_any w14 v13 v14 g13 g14 (sectsL m) (sectsL m) hT134 hT14 (by omega) (by omega)).mono ?_
    rintro e w15 ⟨rfl, n15, rfl⟩
    rw [show decide (sectsL m = sectsL m) = true by simp]
    have hb15 := drew_belowK (w := w14) n15
    have hM15 := hM14.over hb15
    have hb15' := hb14'.trans (hb15.mono hb14'.size)
    clear hM14 hb14' hb15 hT134 hT14 hzl hg13 hg14
    generalize w14.drewN n15 = w15 at *
    obtain ⟨am, cm, rfl, ham⟩ := hM15.form
    have HM := Lib.hid hM15
    have HAM := Lib.hid ham
    have HB15 := Lib.hid hb15'
    clear hM15 ham hb15'
    go_wp2
    go_loopw [9, 10] (fun n i wr => ∃ k : Nat, k ≤ m.length ∧ i = .int .i64 k ∧ n = .int .i64 (((oddL (m.take k)).length : Nat) : Int) ∧ wr = w15) (fun _ i _ => m.length - (intOf i).toNat)
    case atStart => exact ⟨0, Nat.zero_le _, rfl, rfl, rfl⟩
    case round =>
      obtain ⟨k, hk, rfl, rfl, rfl⟩ := hrel
      by_cases hlt : k < m.length
      · have hmn : m ≠ [] := by intro e; subst e; simp at hlt
        obtain rfl := HAM.out hmn
        have q0 := rec_c0 HM.out.toRowsRd k hlt
        have q2 := rec_c2 HM.out.toRowsRd k hlt
        have q3 := rec_c3 HM.out.toRowsRd k hlt
        simp only [Nat.zero_add] at q0 q2 q3
        have hno := Lib.hid (HLN.out k hlt)
        have hol := oddL_take_len m k
        have hjn : (k : Int) < (m.length : Int) := by omega
        by_cases h4 : m[k].kind = 4
        · have ho : Hid ((oddL (m.take (k + 1))).length = (oddL (m.take k)).length + 1) := by unfold Hid; rw [oddL_yes m k hlt h4, List.length_append]; rfl
          have e4 : (m[k].kind == 4) = true := by simp [h4]
          have e3 : (m[k].kind == 3) = false := by simp [h4]
          generalize (oddL (m.take k)).length = c at *
          generalize m[k].kind = x0 at *
          generalize m[k].sect = x2 at *
          generalize m[k].key = x3 at *
          clear h4 hno
          by_cases h2 : la < (k : Int)
          · have h3 : True := trivial
            have d2 : decide (la < (k : Int)) = true := by simpa using h2
            clear h2 h3
            go_wp2
            go_roundw
            case rel => exact ⟨k + 1, by omega, by go_num, by rw [ho.out]; go_num, trivial⟩
            case measure => simp [intOf]; omega
          · have h3 : True := trivial
            have d2 : decide (la < (k : Int)) = false := by simpa using h2
            clear h2 h3
            go_wp2
            go_roundw
            case rel => exact ⟨k + 1, by omega, by go_num, by rw [ho.out]; go_num, trivial⟩
            case measure => simp [intOf]; omega
        · have ho : Hid ((oddL (m.take (k + 1))).length = (oddL (m.take k)).length) := by unfold Hid; rw [oddL_no m k hlt h4]
          have e4 : (m[k].kind == 4) = false := by simp [h4]
          generalize (oddL (m.take k)).length = c at *
          clear h4
          by_cases h2 : la < (k : Int)
          · have d2 : decide (la < (k : Int)) = true := by simpa using h2
            have hp := hno.out h2
            unfold pairOf at hp
            clear hno
            by_cases h3 : m[k].kind = 3
            · have e3 : (m[k].kind == 3) = true := by simp [h3]
              by_cases h5 : m[k].sect = s
              · have e5 := txt_same _ _ h5
                have h6 : m[k].key ≠ t := by
                  intro h6
                  rw [decide_eq_false_iff_not] at hp
                  exact hp ⟨h3, h5, h6⟩
                have e6 := txt_differ _ _ h6
                clear hp h5 h6
                generalize m[k].kind = x0 at *
                generalize m[k].sect = x2 at *
                generalize m[k].key = x3 at *
                clear h2 h3
                go_wp2
                go_roundw
                case rel => exact ⟨k + 1, by omega, by go_num, by rw [ho.out], trivial⟩
                case measure => simp [intOf]; omega
              · have e5 := txt_differ _ _ h5
                clear hp h5
                generalize m[k].kind = x0 at *
                generalize m[k].sect = x2 at *
                generalize m[k].key = x3 at *
                clear h2 h3
                go_wp2
                go_roundw
                case rel => exact ⟨k + 1, by omega, by go_num, by rw [ho.out], trivial⟩
                case measure => simp [intOf]; omega
            · have e3 : (m[k].kind == 3) = false := by simp [h3]
              clear hp
              generalize m[k].kind = x0 at *
              generalize m[k].sect = x2 at *
              generalize m[k].key = x3 at *
              clear h2 h3
              go_wp2
              go_roundw
              case rel => exact ⟨k + 1, by omega, by go_num, by rw [ho.out], trivial⟩
              case measure => simp [intOf]; omega
          · have h3 : True := trivial
            have d2 : decide (la < (k : Int)) = false := by simpa using h2
            generalize m[k].kind = x0 at *
            generalize m[k].sect = x2 at *
            generalize m[k].key = x3 at *
            clear hno
            clear h2 h3
            go_wp2
            go_roundw
            case rel => exact ⟨k + 1, by omega, by go_num, by rw [ho.out], trivial⟩
            case measure => simp [intOf]; omega
      · obtain rfl : k = m.length := by omega
        rw [List.take_length]
        have K := Lib.hid (oddLines_impl wr (.slice am m.length cm) gr 0 m HM.out.toRowsRd (by omega))
        have hol := oddL_len m
        generalize oddL m = z at *
        have hzz : ((z.length : Int) == (z.length : Int)) = true := by simp
        go_wp2_with fail
        refine K.out.mono ?_
        rintro e w16 ⟨v16, g16, rfl, hI16, hg16, hb16⟩
        obtain ⟨a16, c16, rfl, _⟩ := hI16.form
        have hb16' := HB15.out.trans (hb16.mono HB15.out.size)
        clear hI16 hb16 K
        go_wp2
        go_ret
        exact ⟨rfl, hb16'⟩
  · go_enter Try.func3, Try.ntmps3
    go_wp2_with fail
    refine (big_yes _ _ _ _ (by omega)).mono ?_
    rintro e w1 ⟨rfl, rfl⟩
    go_wp2
    go_ret
    exact ⟨rfl, Below.refl _ _⟩

end Go.Proofs.Ytdkghalcnaogfaa
