/- The walk of the law FnLines. -/
import Derived.Test.YtikhanickkhnbaaDoorProg
import Derived.Test.YtikhanickkhnbaaDoorPlain
import Derived.Test.YtikhanickkhnbaaDoorDraw
import Derived.Test.YtikhanickkhnbaaDoorTexts
import Derived.Test.YtikhanickkhnbaaDoorLines
import Derived.Test.YtikhanickkhnbaaDoorLinesArg
import Derived.Test.YtikhanickkhnbaaDoorLinesPure
import Derived.Test.YtikhanickkhnbaaDoorLinesEq
import Derived.Test.YtikhanickkhnbaaDoorSplitSpec
import Derived.Test.YtikhanickkhnbaaDoorSplitImpl
import Derived.Test.YtikhanickkhnbaaDoorLinesLaw
import Derived.Test.YtikhanickkhnbaaDoorJoin
import Derived.Test.YtikhanickkhnbaaDoorLinesOk
import Derived.Test.YtikhanickkhnbaaDoorLinesDraw
import Derived.Test.YtikhanickkhnbaaDoorTail
import Derived.WalkKit
import Derived.WalkLawsBesides
import Derived.Lib.Hide
import Derived.IntWalk
namespace Go.Proofs.YtikhanickkhnbaaDoor
open Go.RowKit
set_option linter.unusedVariables false

theorem map_of_toB (l : List (List UInt8 × List UInt8)) : (l.map toB).map ofB = l := by
  rw [List.map_map]
  have : ofB ∘ toB = id := by funext x; exact ofB_toB x
  rw [this, List.map_id]
theorem join_lines (s : ByteArray) : joinT (linesOf s) = s := by
  apply ByteArray.ext; apply Array.toList_inj.1
  show (joinB (linesOf s)).toArray.toList = _
  rw [List.toList_toArray, joinB_is, linesOf, map_of_toB, join_split]
  rfl
theorem lines_ok (s : ByteArray) : linesOkB (linesOf s) = true := by
  unfold linesOkB
  rw [join_lines]
  simp
theorem lines_ends (s : ByteArray) (i : Nat) (h : i + 1 < (linesOf s).length) (h2 : i < (linesOf s).length) : (linesOf s)[i].2.size ≠ 0 := by
  unfold linesOf at h h2 ⊢
  rw [List.length_map] at h
  rw [List.getElem_map]
  have := split_ends s.data.toList [] i h _ (List.getElem?_eq_getElem (by omega))
  intro e
  apply this
  unfold toB at e
  simp only at e
  exact List.eq_nil_of_length_eq_zero (by simpa [ByteArray.size] using e)

set_option maxHeartbeats 3200000 in
theorem fnLines_walk (a0 : Option Addr) (len0 cap0 : Nat) (w : World) (hB : BytesIn w a0 len0) (hlow : ∀ x, a0 = some x → len0 ≠ 0 → x.block < w.heap.size) :
    Calls Tryd.prog 3 #[.slice a0 len0 cap0] w fun e w' => e = .returned (.bool true) ∧ Below w.heap.size w w' := by
  by_cases h0 : len0 ≤ 1048576
  · go_enter Tryd.func3, Tryd.ntmps3
    go_wp2_with fail
    refine (big_no _ _ _ _ h0).mono ?_
    rintro e w1 ⟨rfl, rfl⟩
    go_wp2_with fail
    refine (drawSplitLines w a0 len0 cap0 h0 hB hlow).mono ?_
    rintro e w2 ⟨s, hs, rfl, hb2⟩
    clear hB hlow
    have hcost := linesOf_cost s
    have hjt := join_lines s
    have hok := lines_ok s
    have hends := Lib.hid (lines_ends s)
    have K1 := Lib.hid (fun w => splitLines_impl s w (by omega))
    have K2 := Lib.hid (fun w => (splitLines_spec s w (by omega)).mono (fun e w' h => own_new h))
    have K3 := Lib.hid (fun w => tail_impl s w (by unfold maxLen; omega))
    have K4 := Lib.hid (fun w => tail_spec s w (by unfold maxLen; omega))
    generalize linesOf s = l at *
    generalize tailN s = n at *
    have hll : l.length ≤ 100 := Nat.le_trans (costL_len l) (by omega)
    have e1 : ((n : Int) == (n : Int)) = true := by simp
    have hss : (s.toList == s.toList) = true := by simp
    go_wp2_with fail
    refine (K1.out _).mono ?_
    rintro e w3 ⟨v, g, rfl, hI3, hg3, hb3⟩
    have hb3' := hb2.trans (hb3.mono hb2.size)
    clear hb2 hb3 K1 hg3
    obtain ⟨a, cap, rfl, ha⟩ := hI3.form
    have HA := Lib.hid ha
    have H3 := Lib.hid hI3
    clear ha hI3
    go_wp2_with fail
    have KJ := joinLines_impl w3 _ g 0 l H3.out.toLinesRd (by omega) (fun h => H3.out.lt h)
    rw [show (⟨(joinB l).toArray⟩ : ByteArray) = joinT l from rfl, hjt] at KJ
    refine KJ.mono ?_
    clear KJ hjt
    rintro e w4 ⟨rfl, hb4⟩
    have H4 := Lib.hid (H3.out.below hb4 (fun h => H3.out.lt h))
    have hb4' := hb3'.trans (hb4.mono hb3'.size)
    clear H3 hb3' hb4
    go_wp2_with fail
    refine (K2.out _).mono ?_
    rintro e w5 ⟨v5, g5, rfl, hI5, hg5, hb5⟩
    have H5 := Lib.hid (H4.out.below hb5 (fun h => H4.out.lt h))
    have hb5' := hb4'.trans (hb5.mono hb4'.size)
    clear H4 hb4' hb5 K2
    go_wp2_with fail
    refine (sameLines_any w5 _ v5 g 0 g5 0 l l H5.out.toLinesRd hI5.toLinesRd (by omega) (by omega)).mono ?_
    rintro e w6 ⟨rfl, n6, rfl⟩
    rw [show decide (l = l) = true by simp]
    have H6 : Hid (LinesIs (w5.drewN n6) (.slice a l.length cap) g 0 l) := H5.out.kept (fun _ => rfl)
    have hb6 := below_drewN hb5' n6
    clear H5 hb5' hI5 hg5
    generalize w5.drewN n6 = w6 at *
    go_wp2_with fail
    have KO := linesOk_impl w6 _ g 0 l H6.out.toLinesRd (by omega) (fun h => H6.out.lt h)
    rw [hok] at KO
    refine KO.mono ?_
    clear KO hok
    rintro e w7 ⟨rfl, hb7⟩
    have H7 := Lib.hid (H6.out.below hb7 (fun h => H6.out.lt h))
    have hb7' := hb6.trans (hb7.mono hb6.size)
    clear H6 hb6 hb7
    go_wp2
    go_loopw [5] (fun i wr => ∃ k : Nat, k ≤ l.length ∧ i = .int .i64 k ∧ w7 = wr) (fun i _ => l.length - (intOf i).toNat)
    case atStart => exact ⟨0, Nat.zero_le _, rfl, rfl⟩
    case round =>
      obtain ⟨k, hk, rfl, rfl⟩ := hrel
      by_cases hlt : k + 1 < l.length
      · have hln : l ≠ [] := by intro e; subst e; simp at hlt
        obtain rfl := HA.out hln
        have q2 := H7.out.c1 k (by omega)
        simp only [Nat.zero_add] at q2
        have hjn : (k : Int) + 1 < (l.length : Int) := by omega
        have hjn2 : (k : Int) < (l.length : Int) := by omega
        have hne := hends.out k hlt (by omega)
        have e2 : l[k].2.toList.isEmpty = false := by
          rw [Lib.toList_data]
          cases h : l[k].2.data.toList with
          | nil => exfalso; apply hne; rw [Lib.size_eq, h]; rfl
          | cons c u => rfl
        have e3 : (l[k].2.toList == []) = false := by
          rw [Lib.toList_data]
          cases h : l[k].2.data.toList with
          | nil => exfalso; apply hne; rw [Lib.size_eq, h]; rfl
          | cons c u => rfl
        clear hne
        generalize l[k].2 = x at *
        go_wp2
        go_roundw
        case rel => exact ⟨k + 1, by omega, by go_num, trivial⟩
        case measure => simp [intOf]; omega
      · have hjn : decide ((k : Int) + 1 < (l.length : Int)) = false := by simp; omega
        go_wp2_with fail
        refine (K3.out _).mono ?_
        rintro e w8 ⟨rfl, hb8⟩
        have hb8' := hb7'.trans (hb8.mono hb7'.size)
        clear hb7' hb8
        go_wp2_with fail
        refine (K4.out _).mono ?_
        rintro e w9 ⟨rfl, rfl⟩
        go_wp2
        go_ret
        exact ⟨rfl, hb8'⟩
  · go_enter Tryd.func3, Tryd.ntmps3
    go_wp2_with fail
    refine (big_yes _ _ _ _ (by omega)).mono ?_
    rintro e w1 ⟨rfl, rfl⟩
    go_wp2
    go_ret
    exact ⟨rfl, Below.refl _ _⟩

end Go.Proofs.YtikhanickkhnbaaDoor
