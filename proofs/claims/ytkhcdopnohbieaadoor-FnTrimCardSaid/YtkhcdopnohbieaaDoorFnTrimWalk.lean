/- The walk of the law FnTrim. -/
import Derived.Test.YtkhcdopnohbieaaDoorProg
import Derived.Test.YtkhcdopnohbieaaDoorLib
import Derived.Test.YtkhcdopnohbieaaDoorPlain
import Derived.Test.YtkhcdopnohbieaaDoorDraw
import Derived.Test.YtkhcdopnohbieaaDoorDrawFn
import Derived.Test.YtkhcdopnohbieaaDoorTrimDraw
import Derived.Test.YtkhcdopnohbieaaDoorTrimPure
import Derived.Test.YtkhcdopnohbieaaDoorTrim
import Derived.Test.YtkhcdopnohbieaaDoorTrimWalk
import Derived.Test.YtkhcdopnohbieaaDoorTexts
import Derived.Test.YtkhcdopnohbieaaDoorSplit
import Derived.Test.YtkhcdopnohbieaaDoorWords
import Derived.Test.YtkhcdopnohbieaaDoorBefore
import Derived.WalkKit
import Derived.WalkLawsBesides
import Derived.Lib.Hide
import Derived.IntWalk
namespace Go.Proofs.YtkhcdopnohbieaaDoor
open Go.RowKit
set_option linter.unusedVariables false

theorem bytes_below {B : Nat} {w w' : World} {a : Option Addr} {len : Nat} (h : BytesIn w a len) (hlow : ∀ x, a = some x → len ≠ 0 → x.block < B) (hb : Below B w w') : BytesIn w' a len :=
  bytesIn_kept (b := 0) h (fun x hx hl => hb.block _ (hlow x hx hl))
theorem cat_list (a b : ByteArray) : (a ++ b).data.toList = a.data.toList ++ b.data.toList := by simp
theorem size_list {a : ByteArray} {l : List UInt8} (h : a.data.toList = l) : a.size = l.length := by rw [← h, Lib.size_eq]
theorem trimL_size (s : ByteArray) : (⟨(trimL s.data.toList).toArray⟩ : ByteArray).size ≤ s.size := by
  rw [show (⟨(trimL s.data.toList).toArray⟩ : ByteArray).size = (trimL s.data.toList).length from rfl, Lib.size_eq]
  unfold trimL Lib.trimS Lib.trimLeftS Lib.trimRightS
  refine Nat.le_trans (List.Sublist.length_le (List.dropWhile_sublist _)) ?_
  rw [List.length_reverse]
  refine Nat.le_trans (List.Sublist.length_le (List.dropWhile_sublist _)) ?_
  rw [List.length_reverse]
  exact Nat.le_refl _

set_option maxRecDepth 100000 in
set_option maxHeartbeats 6400000 in
theorem fnTrim_walk (a0 : Option Addr) (len0 cap0 : Nat) (w : World) (hB : BytesIn w a0 len0) (hlow : ∀ x, a0 = some x → len0 ≠ 0 → x.block < w.heap.size) :
    Calls Tryd.prog 4 #[.slice a0 len0 cap0] w fun e w' => e = .returned (.bool true) ∧ Below w.heap.size w w' := by
  by_cases hbig : len0 ≤ 1048576
  · have KB : Hid (∀ w', Below w.heap.size w w' → BytesIn w' a0 len0 ∧ (∀ x, a0 = some x → len0 ≠ 0 → x.block < w'.heap.size) ∧ rd w' a0 len0 = rd w a0 len0) := by
      intro w' hb
      exact ⟨bytes_below hB hlow hb, fun x hx hl => Nat.lt_of_lt_of_le (hlow x hx hl) hb.size, rd_kept (fun x hx hl => hb.block _ (hlow x hx hl))⟩
    have T1 : Hid (trimL (trimL (drTrim (rd w a0 len0) len0).data.toList) = trimL (drTrim (rd w a0 len0) len0).data.toList) := trimL_twice _
    have DW : Hid (∀ w', Below w.heap.size w w' → Calls Tryd.prog 19 #[.slice a0 len0 cap0] w' (fun e w2 => e = .returned (.string (drWords (rd w a0 len0) len0)) ∧ Below w'.heap.size w' w2)) := by
      intro w' hb
      obtain ⟨k1, k2, k3⟩ := KB.out w' hb
      rw [← k3]
      exact drawWords w' a0 len0 cap0 hbig k1 k2
    have DT := Lib.hid (drawTrim w a0 len0 cap0 hbig hB hlow)
    have hsT := drTrim_size (rd w a0 len0) len0
    have hsW := drWords_size (rd w a0 len0) len0
    clear hB hlow
    generalize drTrim (rd w a0 len0) len0 = s at *
    generalize drWords (rd w a0 len0) len0 = q at *
    go_enter Tryd.func4, Tryd.ntmps4
    go_wp2_with fail
    refine (big_no _ _ _ _ hbig).mono ?_
    rintro e w1 ⟨rfl, rfl⟩
    go_wp2_with fail
    refine DT.out.mono ?_
    rintro e w2 ⟨rfl, hb2⟩
    clear DT
    go_wp2_with fail
    refine (trim_impl s _ (by unfold maxLen; omega)).mono ?_
    rintro e w3 ⟨rfl, hb3⟩
    replace hb3 := hb2.trans (hb3.mono hb2.size)
    clear hb2
    have hts := trimL_size s
    obtain ⟨t, hte⟩ : ∃ t : ByteArray, (⟨(trimL s.data.toList).toArray⟩ : ByteArray) = t := ⟨_, rfl⟩
    have HTE := Lib.hid hte
    have HT1 : Hid ((⟨(trimL t.data.toList).toArray⟩ : ByteArray) = t) := by
      unfold Hid
      rw [← hte]
      simp only [List.toList_toArray]
      rw [T1.out]
    have HT2 : Hid ((⟨(trimL ((⟨#[32]⟩ : ByteArray) ++ s ++ (⟨#[9]⟩ : ByteArray)).data.toList).toArray⟩ : ByteArray) = t) := by
      unfold Hid
      rw [cat_list, cat_list, ← hte]
      rw [show (⟨#[32]⟩ : ByteArray).data.toList ++ s.data.toList ++ (⟨#[9]⟩ : ByteArray).data.toList = 32 :: (s.data.toList ++ [9]) by simp, trimL_pad]
    rw [hte] at hts ⊢
    clear hte T1
    have htt : (t.toList == t.toList) = true := by simp
    go_wp2_with fail
    refine (DW.out _ hb3).mono ?_
    rintro e w4 ⟨rfl, hb4⟩
    replace hb4 := hb3.trans (hb4.mono hb3.size)
    clear hb3
    go_wp2_with fail
    refine (words_impl q _ (by omega)).mono ?_
    rintro e w5 ⟨vl, rfl, hrl, hb5⟩
    have hlen := wordsOf_len q
    have WA := Lib.hid (words_are q)
    have WG := Lib.hid (words_again q)
    have WS := Lib.hid (fun w => words_spec q w (by omega))
    generalize wordsOf q = l at *
    obtain ⟨gl, hTl, hgl⟩ := textsIs_of_owns hrl rfl hb5.size
    replace hb5 := hb4.trans (hb5.mono hb4.size)
    clear hrl hb4
    have HT := Lib.hid hTl
    obtain ⟨⟨al, cap, rfl, ha⟩, cu, fu⟩ := hTl
    have HC := Lib.hid cu
    have HA := Lib.hid ha
    have hlt : l ≠ [] → gl < w5.heap.size := fun hl => World.block_lt_of_cell? _ _ (cu 0 (List.length_pos_iff.2 hl))
    have HLT := Lib.hid hlt
    clear cu ha fu hlt
    go_wp2
    go_loopw [6, 7] (fun o i wr => ∃ (k : Nat) (j : ByteArray), k ≤ l.length ∧ i = .int .i64 k ∧ o = .string j ∧ Hid (j.data.toList = spaced (l.take k)) ∧ wr = w5) (fun _ i _ => l.length - (intOf i).toNat)
    case atStart => exact ⟨0, ⟨#[]⟩, Nat.zero_le _, rfl, rfl, rfl, rfl⟩
    case round =>
      obtain ⟨k, j, hk, rfl, rfl, hj, rfl⟩ := hrel
      have hjs : j.size ≤ 1000 := by
        rw [size_list hj.out]
        have h1 := spaced_len (l.take k) (fun x hx => by have := (WA.out x (List.mem_of_mem_take hx)).1; omega)
        rw [List.length_take] at h1
        omega
      by_cases hkl : k < l.length
      · have hne : l ≠ [] := by intro e; subst e; simp at hkl
        obtain rfl := HA.out hne
        have hcell := HC.out k hkl
        have hxs := (WA.out l[k] (List.getElem_mem hkl)).1
        have hj2 : Hid ((j ++ l[k] ++ ⟨#[32]⟩).data.toList = spaced (l.take (k + 1))) := by
          unfold Hid
          rw [List.take_succ_eq_append_getElem hkl, spaced_snoc, cat_list, cat_list, hj.out]
          simp
        generalize l[k] = x at *
        have hsz : (j ++ x).size = j.size + x.size := ByteArray.size_append
        clear hj
        go_wp2
        go_roundw
        case rel => exact ⟨k + 1, _, by omega, by go_num, rfl, hj2, by first | rfl | trivial⟩
        case measure => simp [intOf]; omega
      · obtain rfl : k = l.length := by omega
        have hjj : Hid (j.data.toList = spaced l) := by unfold Hid; rw [hj.out, List.take_length]
        have HJW : Hid (wordsOf j = l) := WG.out j hjj.out
        clear hj hjj HC HA HLT WG WA
        obtain ⟨k1, k2, _⟩ := KB.out _ hb5
        go_wp2_with fail
        refine (drawBefore _ a0 len0 cap0 hbig k1 k2).mono ?_
        rintro e w6 ⟨x, y, hx, hy, rfl, hb6⟩
        have HT6 := Lib.hid (HT.out.below hb6 (fun hl => HT.out.lt hl))
        replace hb6 := hb5.trans (hb6.mono hb5.size)
        clear hb5 HT k1 k2 KB
        rcases less_tri x.toList y.toList with ⟨h1, h2, h3⟩ | ⟨h1, h2, h3⟩ | ⟨h1, h2, h3⟩
        · have HL1 := Lib.hid h1
          have HL2 := Lib.hid h2
          have he : (x.toList == y.toList) = false := by rw [beq_eq_false_iff_ne]; exact h3
          clear h1 h2 h3
          go_wp2_with fail
          refine (before_impl x y _).mono ?_
          rintro e w7 ⟨rfl, rfl⟩
          rw [HL1.out]
          go_wp2_with fail
          refine (before_impl y x _).mono ?_
          rintro e w7 ⟨rfl, rfl⟩
          rw [HL2.out]
          go_wp2_with fail
          refine (trim_spec s _ (by unfold maxLen; omega)).mono ?_
          rintro e w7 ⟨rfl, rfl⟩
          rw [HTE.out]
          go_wp2_with fail
          refine (trim_impl t _ (by unfold maxLen; omega)).mono ?_
          rintro e w7 ⟨rfl, hb7⟩
          rw [HT1.out]
          have HT7 := Lib.hid (HT6.out.below hb7 (fun hl => HT6.out.lt hl))
          replace hb7 := hb6.trans (hb7.mono hb6.size)
          clear HT6 hb6
          go_wp2_with fail
          refine (trim_impl _ _ (by rw [ByteArray.size_append, ByteArray.size_append, show (⟨#[32]⟩ : ByteArray).size = 1 from rfl, show (⟨#[9]⟩ : ByteArray).size = 1 from rfl]; unfold maxLen; omega)).mono ?_
          rintro e w8 ⟨rfl, hb8⟩
          rw [HT2.out]
          have HT8 := Lib.hid (HT7.out.below hb8 (fun hl => HT7.out.lt hl))
          replace hb8 := hb7.trans (hb8.mono hb7.size)
          clear HT7 hb7
          go_wp2_with fail
          refine (words_impl j _ (by omega)).mono ?_
          rintro e w9 ⟨vj, rfl, hrj, hb9⟩
          rw [HJW.out] at hrj
          obtain ⟨gj, hTj, hgj⟩ := textsIs_of_owns hrj rfl hb9.size
          have HT9 := Lib.hid (HT8.out.below hb9 (fun hl => HT8.out.lt hl))
          replace hb9 := hb8.trans (hb9.mono hb8.size)
          have HTJ := Lib.hid hTj
          clear HT8 hb8 hrj hTj
          go_wp2_with fail
          refine (sameTexts_any _ _ _ gj gl l l HTJ.out HT9.out (by omega) (by omega)).mono ?_
          rintro e w10 ⟨rfl, n10, rfl⟩
          rw [show decide (l = l) = true by simp]
          have HT10 : Hid (TextsIs (w9.drewN n10) (.slice al l.length cap) gl l) := HT9.out.kept (fun _ => rfl)
          have hb10 := below_drewN hb9 n10
          clear HT9 HTJ hb9
          generalize w9.drewN n10 = w10 at *
          go_wp2_with fail
          refine (DW.out _ hb10).mono ?_
          rintro e w11 ⟨rfl, hb11⟩
          have HT11 := Lib.hid (HT10.out.below hb11 (fun hl => HT10.out.lt hl))
          replace hb11 := hb10.trans (hb11.mono hb10.size)
          clear HT10 hb10
          go_wp2_with fail
          refine (WS.out _).mono ?_
          rintro e w12 ⟨vs, rfl, hrs, hb12⟩
          obtain ⟨gs, hTs, hgs⟩ := textsIs_of_owns hrs rfl hb12.size
          have HT12 := Lib.hid (HT11.out.below hb12 (fun hl => HT11.out.lt hl))
          replace hb12 := hb11.trans (hb12.mono hb11.size)
          have HTS := Lib.hid hTs
          clear HT11 hb11 hrs hTs
          go_wp2_with fail
          refine (sameTexts_any _ _ _ gl gs l l HT12.out HTS.out (by omega) (by omega)).mono ?_
          rintro e w13 ⟨rfl, n13, rfl⟩
          rw [show decide (l = l) = true by simp]
          have hb13 := below_drewN hb12 n13
          go_wp2
          go_ret
          exact ⟨rfl, hb13⟩
        · have HL1 := Lib.hid h1
          have HL2 := Lib.hid h2
          have he : (x.toList == y.toList) = false := by rw [beq_eq_false_iff_ne]; exact h3
          clear h1 h2 h3
          go_wp2_with fail
          refine (before_impl x y _).mono ?_
          rintro e w7 ⟨rfl, rfl⟩
          rw [HL1.out]
          go_wp2_with fail
          refine (before_impl y x _).mono ?_
          rintro e w7 ⟨rfl, rfl⟩
          rw [HL2.out]
          go_wp2_with fail
          refine (trim_spec s _ (by unfold maxLen; omega)).mono ?_
          rintro e w7 ⟨rfl, rfl⟩
          rw [HTE.out]
          go_wp2_with fail
          refine (trim_impl t _ (by unfold maxLen; omega)).mono ?_
          rintro e w7 ⟨rfl, hb7⟩
          rw [HT1.out]
          have HT7 := Lib.hid (HT6.out.below hb7 (fun hl => HT6.out.lt hl))
          replace hb7 := hb6.trans (hb7.mono hb6.size)
          clear HT6 hb6
          go_wp2_with fail
          refine (trim_impl _ _ (by rw [ByteArray.size_append, ByteArray.size_append, show (⟨#[32]⟩ : ByteArray).size = 1 from rfl, show (⟨#[9]⟩ : ByteArray).size = 1 from rfl]; unfold maxLen; omega)).mono ?_
          rintro e w8 ⟨rfl, hb8⟩
          rw [HT2.out]
          have HT8 := Lib.hid (HT7.out.below hb8 (fun hl => HT7.out.lt hl))
          replace hb8 := hb7.trans (hb8.mono hb7.size)
          clear HT7 hb7
          go_wp2_with fail
          refine (words_impl j _ (by omega)).mono ?_
          rintro e w9 ⟨vj, rfl, hrj, hb9⟩
          rw [HJW.out] at hrj
          obtain ⟨gj, hTj, hgj⟩ := textsIs_of_owns hrj rfl hb9.size
          have HT9 := Lib.hid (HT8.out.below hb9 (fun hl => HT8.out.lt hl))
          replace hb9 := hb8.trans (hb9.mono hb8.size)
          have HTJ := Lib.hid hTj
          clear HT8 hb8 hrj hTj
          go_wp2_with fail
          refine (sameTexts_any _ _ _ gj gl l l HTJ.out HT9.out (by omega) (by omega)).mono ?_
          rintro e w10 ⟨rfl, n10, rfl⟩
          rw [show decide (l = l) = true by simp]
          have HT10 : Hid (TextsIs (w9.drewN n10) (.slice al l.length cap) gl l) := HT9.out.kept (fun _ => rfl)
          have hb10 := below_drewN hb9 n10
          clear HT9 HTJ hb9
          generalize w9.drewN n10 = w10 at *
          go_wp2_with fail
          refine (DW.out _ hb10).mono ?_
          rintro e w11 ⟨rfl, hb11⟩
          have HT11 := Lib.hid (HT10.out.below hb11 (fun hl => HT10.out.lt hl))
          replace hb11 := hb10.trans (hb11.mono hb10.size)
          clear HT10 hb10
          go_wp2_with fail
          refine (WS.out _).mono ?_
          rintro e w12 ⟨vs, rfl, hrs, hb12⟩
          obtain ⟨gs, hTs, hgs⟩ := textsIs_of_owns hrs rfl hb12.size
          have HT12 := Lib.hid (HT11.out.below hb12 (fun hl => HT11.out.lt hl))
          replace hb12 := hb11.trans (hb12.mono hb11.size)
          have HTS := Lib.hid hTs
          clear HT11 hb11 hrs hTs
          go_wp2_with fail
          refine (sameTexts_any _ _ _ gl gs l l HT12.out HTS.out (by omega) (by omega)).mono ?_
          rintro e w13 ⟨rfl, n13, rfl⟩
          rw [show decide (l = l) = true by simp]
          have hb13 := below_drewN hb12 n13
          go_wp2
          go_ret
          exact ⟨rfl, hb13⟩
        · have HL1 := Lib.hid h1
          have HL2 := Lib.hid h2
          have he : (x.toList == y.toList) = true := by rw [h3]; simp
          clear h1 h2 h3
          go_wp2_with fail
          refine (before_impl x y _).mono ?_
          rintro e w7 ⟨rfl, rfl⟩
          rw [HL1.out]
          go_wp2_with fail
          refine (before_impl y x _).mono ?_
          rintro e w7 ⟨rfl, rfl⟩
          rw [HL2.out]
          go_wp2_with fail
          refine (trim_spec s _ (by unfold maxLen; omega)).mono ?_
          rintro e w7 ⟨rfl, rfl⟩
          rw [HTE.out]
          go_wp2_with fail
          refine (trim_impl t _ (by unfold maxLen; omega)).mono ?_
          rintro e w7 ⟨rfl, hb7⟩
          rw [HT1.out]
          have HT7 := Lib.hid (HT6.out.below hb7 (fun hl => HT6.out.lt hl))
          replace hb7 := hb6.trans (hb7.mono hb6.size)
          clear HT6 hb6
          go_wp2_with fail
          refine (trim_impl _ _ (by rw [ByteArray.size_append, ByteArray.size_append, show (⟨#[32]⟩ : ByteArray).size = 1 from rfl, show (⟨#[9]⟩ : ByteArray).size = 1 from rfl]; unfold maxLen; omega)).mono ?_
          rintro e w8 ⟨rfl, hb8⟩
          rw [HT2.out]
          have HT8 := Lib.hid (HT7.out.below hb8 (fun hl => HT7.out.lt hl))
          replace hb8 := hb7.trans (hb8.mono hb7.size)
          clear HT7 hb7
          go_wp2_with fail
          refine (words_impl j _ (by omega)).mono ?_
          rintro e w9 ⟨vj, rfl, hrj, hb9⟩
          rw [HJW.out] at hrj
          obtain ⟨gj, hTj, hgj⟩ := textsIs_of_owns hrj rfl hb9.size
          have HT9 := Lib.hid (HT8.out.below hb9 (fun hl => HT8.out.lt hl))
          replace hb9 := hb8.trans (hb9.mono hb8.size)
          have HTJ := Lib.hid hTj
          clear HT8 hb8 hrj hTj
          go_wp2_with fail
          refine (sameTexts_any _ _ _ gj gl l l HTJ.out HT9.out (by omega) (by omega)).mono ?_
          rintro e w10 ⟨rfl, n10, rfl⟩
          rw [show decide (l = l) = true by simp]
          have HT10 : Hid (TextsIs (w9.drewN n10) (.slice al l.length cap) gl l) := HT9.out.kept (fun _ => rfl)
          have hb10 := below_drewN hb9 n10
          clear HT9 HTJ hb9
          generalize w9.drewN n10 = w10 at *
          go_wp2_with fail
          refine (DW.out _ hb10).mono ?_
          rintro e w11 ⟨rfl, hb11⟩
          have HT11 := Lib.hid (HT10.out.below hb11 (fun hl => HT10.out.lt hl))
          replace hb11 := hb10.trans (hb11.mono hb10.size)
          clear HT10 hb10
          go_wp2_with fail
          refine (WS.out _).mono ?_
          rintro e w12 ⟨vs, rfl, hrs, hb12⟩
          obtain ⟨gs, hTs, hgs⟩ := textsIs_of_owns hrs rfl hb12.size
          have HT12 := Lib.hid (HT11.out.below hb12 (fun hl => HT11.out.lt hl))
          replace hb12 := hb11.trans (hb12.mono hb11.size)
          have HTS := Lib.hid hTs
          clear HT11 hb11 hrs hTs
          go_wp2_with fail
          refine (sameTexts_any _ _ _ gl gs l l HT12.out HTS.out (by omega) (by omega)).mono ?_
          rintro e w13 ⟨rfl, n13, rfl⟩
          rw [show decide (l = l) = true by simp]
          have hb13 := below_drewN hb12 n13
          go_wp2
          go_ret
          exact ⟨rfl, hb13⟩
  · go_enter Tryd.func4, Tryd.ntmps4
    go_wp2_with fail
    refine (big_yes _ _ _ _ (by omega)).mono ?_
    rintro e w1 ⟨rfl, rfl⟩
    go_wp2
    go_ret
    exact ⟨rfl, Below.refl _ _⟩

end Go.Proofs.YtkhcdopnohbieaaDoor
