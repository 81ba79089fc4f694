/- The walk of the law FnSign. -/
import Derived.Test.YtffglpbjbocdiaaDoorProg
import Derived.Test.YtffglpbjbocdiaaDoorPlain
import Derived.Test.YtffglpbjbocdiaaDoorDraw
import Derived.Test.YtffglpbjbocdiaaDoorRunePure
import Derived.Test.YtffglpbjbocdiaaDoorRuneText
import Derived.Test.YtffglpbjbocdiaaDoorInts
import Derived.Test.YtffglpbjbocdiaaDoorTextOf
import Derived.Test.YtffglpbjbocdiaaDoorValid
import Derived.Test.YtffglpbjbocdiaaDoorSigns
import Derived.Test.YtffglpbjbocdiaaDoorSignDraw
import Derived.WalkKit
import Derived.WalkLawsBesides
import Derived.Lib.Hide
import Derived.IntWalk
namespace Go.Proofs.YtffglpbjbocdiaaDoor
open Go.RowKit
set_option linter.unusedVariables false

theorem signB_one (r : Nat) (h : r < 128) : signB r = [u8 r] := by
  unfold signB
  rw [if_pos h]
theorem signs_between (m : Nat) (hm : isSign m = true) : signsL (97 :: (signB m ++ [98])) = some [97, m, 98] := by
  have h := signs_text [97, m, 98] (by
    intro r hr
    simp only [List.mem_cons, List.not_mem_nil, or_false] at hr
    rcases hr with rfl | rfl | rfl
    · decide
    · exact hm
    · decide)
  have e : [97, m, 98].flatMap signB = 97 :: (signB m ++ [98]) := by
    rw [List.flatMap_cons, List.flatMap_cons, List.flatMap_cons, List.flatMap_nil, List.append_nil, signB_one 97 (by decide), signB_one 98 (by decide)]
    rfl
  rw [e] at h
  exact h
theorem signs_less (m : Nat) (hm : isSign m = true) : signsO ((signB m).dropLast ++ [98]) = decide ((signB m).length = 1) := by
  by_cases h : (signB m).length = 1
  · obtain ⟨c, hc⟩ := List.length_eq_one_iff.1 h
    rw [decide_eq_true h, hc]
    rfl
  · have := signB_pos m
    rw [decide_eq_false h]
    unfold signsO
    rw [signs_cut m hm (by omega) 98 (by decide)]
    rfl
theorem data_two (a b : ByteArray) : (a ++ b).data.toList = a.data.toList ++ b.data.toList := by simp

set_option maxRecDepth 100000 in
set_option maxHeartbeats 3200000 in
theorem fnSign_walk (a0 : Option Addr) (len0 cap0 : Nat) (w : World) (hB : BytesIn w a0 len0) (hlow : ∀ x, a0 = some x → len0 ≠ 0 → x.block < w.heap.size) (hT : TabsV w) :
    Calls Tryd.prog 5 #[.slice a0 len0 cap0] w fun e w' => e = .returned (.bool true) ∧ Below w.heap.size w w' := by
  have HT := Lib.hid hT
  clear hT
  by_cases h0 : len0 ≤ 1048576
  · go_enter Tryd.func5, Tryd.ntmps5
    go_wp2_with fail
    refine (big_no _ _ _ _ h0).mono ?_
    rintro e w1 ⟨rfl, rfl⟩
    go_wp2_with fail
    refine (drawSignText w a0 len0 cap0 h0 hB hlow).mono ?_
    rintro e w2 ⟨r, hr0, hr1, rfl, hb2⟩
    clear hB hlow
    have K1 := Lib.hid (signText_impl r)
    have K2 := Lib.hid (signText_spec r)
    cases hs : sgn r
    · have hbad := Lib.hid (textRes_bad (l := [r]) (by unfold allSgn; rw [List.all_cons, hs]; rfl))
      rw [signT_bad hs] at K1 K2
      clear hs
      go_wp2_with fail
      refine (K1.out _).mono ?_
      rintro e w3 ⟨rfl, rfl⟩
      go_wp2_with fail
      refine (K2.out _).mono ?_
      rintro e w4 ⟨rfl, hb4⟩
      have hb5 := hb2.trans (hb4.mono hb2.size)
      clear K1 K2 hb2 hb4
      have hb6 := hb5.alloc hb5.size (.cells #[.int .i64 r] 3)
      have hrd : IntsRd (w4.alloc (.cells #[.int .i64 r] 3)) (.slice (some ⟨w4.heap.size, 0, none⟩) 1 1) w4.heap.size 0 [r] :=
        ⟨⟨some ⟨w4.heap.size, 0, none⟩, 1, rfl, fun _ => rfl⟩, fun i hi => by
          have hi0 : i = 0 := by simp at hi; omega
          subst hi0
          simp⟩
      have K3 := Lib.hid (textOf_impl _ _ _ _ [r] hrd (by simp))
      clear hrd
      go_wp2_with fail
      refine K3.out.mono ?_
      rintro e w5 ⟨rfl, hb7⟩
      have hb8 := hb6.trans (hb7.mono hb6.size)
      rw [hbad.out]
      clear K3 hb7 hb6 hb5
      go_wp2
      go_ret
      exact ⟨rfl, hb8⟩
    · have hbd := (sgn_iff r).1 hs
      obtain ⟨m, rfl⟩ := Int.eq_ofNat_of_zero_le hbd.1.1
      have hm : isSign m = true := by rw [← sgn_nat]; exact hs
      rw [signT_good hs] at K1 K2
      have hpos := signB_pos m
      have hsize := toList_size (signB m)
      have hdata : (⟨(signB m).toArray⟩ : ByteArray).data.toList = signB m := rfl
      have e1 := signs_between m hm
      have e2 := signs_less m hm
      have hI : (signsI (97 :: (signB m ++ [98]))) = [97, (m : Int), 98] := (signs_good e1).1
      have hO : (signsO (97 :: (signB m ++ [98]))) = true := (signs_good e1).2
      have hne : signB m ≠ [] := by intro e; rw [e] at hpos; simp at hpos
      clear e1 hs hm
      generalize signB m = tx at *
      generalize hbs : (⟨tx.toArray⟩ : ByteArray) = bs at *
      have hd1 : (⟨#[97]⟩ ++ bs ++ ⟨#[98]⟩ : ByteArray).data.toList = 97 :: (tx ++ [98]) := by rw [data_two, data_two, hdata]; rfl
      have hd2 : (bs.extract 0 (bs.size - 1) ++ ⟨#[98]⟩ : ByteArray).data.toList = tx.dropLast ++ [98] := by
        rw [data_two, extract_toList, hdata, List.dropLast_eq_take, List.drop_zero, Nat.sub_zero, hsize]
      have K3 := Lib.hid (signs_impl (⟨#[97]⟩ ++ bs ++ ⟨#[98]⟩) (by rw [ByteArray.size_append, ByteArray.size_append, hsize]; show 1 + tx.length + 1 ≤ _; omega))
      have K4 := Lib.hid (signs_impl (bs.extract 0 (bs.size - 1) ++ ⟨#[98]⟩) (by rw [ByteArray.size_append, ByteArray.size_extract, hsize]; show _ + 1 ≤ _; omega))
      rw [hd1] at K3
      rw [hd2] at K4
      have hbe : (bs.toList == []) = false := by
        rw [Lib.toList_data, hdata]
        exact beq_eq_false_iff_ne.2 hne
      have hbe2 : bs.toList.isEmpty = false := by
        rw [Lib.toList_data, hdata]
        exact List.isEmpty_eq_false_iff.2 hne
      have hbq : (bs.toList == bs.toList) = true := by simp
      have hl4 : (bs.size : Int) ≤ 4 := by omega
      have hl1 : 1 ≤ (bs.size : Int) := by omega
      have hcut : ∀ W : World, (Instr.slice 9 (.string bs) none (some (.int .i64 ((bs.size : Int) - 1))) none).run Tryd.prog W = .ok (.string (bs.extract 0 (bs.size - 1))) W := by
        intro W
        rw [run_slice_string_to_if (h := Tryd.underlying9), if_pos (by omega)]
        have e2 : ((bs.size : Int) - 1).toNat = bs.size - 1 := by omega
        rw [e2]
      have HI := Lib.hid hI
      have HO := Lib.hid hO
      have HE2 := Lib.hid e2
      have hsz : tx.length = bs.size := hsize.symm
      rw [hsz] at HE2
      clear hI hO e2 hd1 hd2 hne hdata hpos hsz hsize hbs
      have HCUT := Lib.hid hcut
      clear hcut
      go_wp2_with fail
      refine (K1.out _).mono ?_
      rintro e w3 ⟨rfl, rfl⟩
      go_wp2_with fail
      refine (K2.out _).mono ?_
      rintro e w4 ⟨rfl, hb4⟩
      have hb5 := hb2.trans (hb4.mono hb2.size)
      clear K1 K2 hb2 hb4
      go_wp2_with fail
      refine (K3.out w4 (tabs_over HT.out hb5)).mono ?_
      rintro e w5 ⟨v5, g5, rfl, hI5, hg5, hb6⟩
      rw [HI.out] at hI5
      rw [HO.out]
      have hb7 := hb5.trans (hb6.mono hb5.size)
      clear K3 hb5 hb6 hg5 HI HO
      have hcut := HCUT.out
      clear HCUT
      go_wp2_with fail
      refine (K4.out w5 (tabs_over HT.out hb7)).mono ?_
      rintro e w6 ⟨v6, g6, rfl, hI6, hg6, hb8⟩
      have hb9 := hb7.trans (hb8.mono hb7.size)
      have hI7 := hI5.over hb8
      rw [HE2.out]
      clear K4 hb7 hb8 hg6 hI6 hI5 hcut HE2
      obtain ⟨⟨⟨a7, c7, rfl, ha7⟩, hc7⟩, _⟩ := hI7
      have hc := hc7 1 (by simp)
      obtain rfl := ha7 (by simp)
      simp only [List.length_cons, List.length_nil] at *
      have hc2 : w6.cell? ⟨g5, 1, none⟩ = some (.int .i64 (m : Int)) := hc
      clear hc7 ha7 hc
      have hmm : ((m : Int) == (m : Int)) = true := by simp
      have hdd : (decide (bs.size = 1) == ((bs.size : Int) == 1)) = true := by
        by_cases h : bs.size = 1
        · rw [h]; rfl
        · rw [decide_eq_false h, beq_eq_false_iff_ne.2 (show ((bs.size : Int) ≠ 1) by omega)]; rfl
      generalize decide (bs.size = 1) = dd at *
      go_wp2
      go_ret
      exact ⟨rfl, hb9⟩
  · go_enter Tryd.func5, Tryd.ntmps5
    go_wp2_with fail
    refine (big_yes _ _ _ _ (by omega)).mono ?_
    rintro e w1 ⟨rfl, rfl⟩
    go_wp2
    go_ret
    exact ⟨rfl, Below.refl _ _⟩

end Go.Proofs.YtffglpbjbocdiaaDoor
