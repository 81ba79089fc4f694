/- Lines of property files: the program's skipWhite, splitProp, propRec. -/
import Derived.Test.YtflnpkckdjmljaaDoorProg
import Derived.Test.YtflnpkckdjmljaaDoorPlain
import Derived.Test.YtflnpkckdjmljaaDoorCut
import Derived.Test.YtflnpkckdjmljaaDoorTail
import Derived.Test.YtflnpkckdjmljaaDoorTrimLeft
import Derived.Test.YtflnpkckdjmljaaDoorRecRows
import Derived.Test.YtflnpkckdjmljaaDoorPropOne
import Derived.Test.YtflnpkckdjmljaaDoorLines
import Derived.Test.YtflnpkckdjmljaaDoorPropPure
import Derived.Test.YtflnpkckdjmljaaDoorPropSpec
import Derived.Test.YtflnpkckdjmljaaDoorPropCut
import Derived.Test.YtflnpkckdjmljaaDoorPropTails
import Derived.Test.YtflnpkckdjmljaaDoorPropImpl
import Derived.WalkKit
import Derived.WalkLawsBesides
import Derived.Laws.IdiomStrings
import Derived.Lib.Hide
import Derived.IntWalk
import Derived.Test.YtflnpkckdjmljaaDoorBuild
import Derived.Test.YtflnpkckdjmljaaDoorTextOf
import Derived.Test.YtflnpkckdjmljaaDoorPutEsc
import Derived.Test.YtflnpkckdjmljaaDoorLayProp
import Derived.Test.YtflnpkckdjmljaaDoorPropRecs
import Derived.Test.YtflnpkckdjmljaaDoorRows0
import Derived.Test.YtflnpkckdjmljaaDoorRecArg
import Derived.Test.YtflnpkckdjmljaaDoorSplitSpec
import Derived.Test.YtflnpkckdjmljaaDoorSplitImpl
import Derived.Test.YtflnpkckdjmljaaDoorJoin
import Derived.Test.YtflnpkckdjmljaaDoorRecRaw
import Derived.OwnWalk
import Derived.Maps.AppendAt
set_option maxRecDepth 100000
namespace Go.Proofs.YtflnpkckdjmljaaDoor
open Go.RowKit
set_option linter.unusedVariables false

abbrev whiteB : ByteArray := ⟨#[32, 9, 12]⟩
theorem ascii_white : ∀ (j : Nat) b, whiteB.data.toList[j]? = some b → b.toNat < 128 := by
  intro j b h
  match j, h with
  | 0, h => simp at h; subst h; decide
  | 1, h => simp at h; subst h; decide
  | 2, h => simp at h; subst h; decide
theorem lead_list (s : ByteArray) : (⟨(Lib.trimLeftS s.data.toList [32, 9, 12]).toArray⟩ : ByteArray) = leadP s := by
  unfold Lib.trimLeftS leadP
  have hp : (fun x => List.contains [32, 9, 12] x) = gapB := by
    funext x
    unfold gapB
    simp only [List.contains_cons, List.contains_nil, Bool.or_false, Bool.or_assoc]
  rw [hp]
theorem skipWhite_impl (s : ByteArray) (w : World) :
    Calls Tryd.prog 45 #[.string s] w fun e w' => e = .returned (.string (leadP s)) ∧ Below w.heap.size w w' := by
  have h := Lib.hid (lead_list s)
  go_enter Tryd.func45, Tryd.ntmps45
  go_wp2_with fail
  refine (Any.strings_TrimLeft_laid lays161 (by kernel_rfl) s whiteB w (by decide) ascii_white).mono ?_
  rintro e w2 ⟨rfl, hb⟩
  have h2 : Hid ((⟨(Lib.trimLeftS s.data.toList whiteB.data.toList).toArray⟩ : ByteArray) = leadP s) := h.out
  rw [h2.out]
  clear h h2
  go_wp2
  go_ret
  exact ⟨rfl, hb⟩

abbrev stopsB : ByteArray := ⟨#[32, 9, 12, 61, 58]⟩
abbrev sepsB : ByteArray := ⟨#[61, 58]⟩
theorem stops_has (c : UInt8) : hasB stopsB c = (gapB c || c == 61 || c == 58) := by
  unfold hasB gapB
  show ([32, 9, 12, 61, 58] : List UInt8).contains c = _
  simp only [List.contains_cons, List.contains_nil, Bool.or_false, Bool.or_assoc]
theorem seps_has (c : UInt8) : hasB sepsB c = sepP c := by
  unfold hasB sepP
  show ([61, 58] : List UInt8).contains c = _
  simp only [List.contains_cons, List.contains_nil, Bool.or_false]
theorem odd_step (s : ByteArray) (k : Nat) (h : k < s.size) : (tailN (s.extract 0 (k + 1)) % 2 == 1) = (s[k] == 92 && !(tailN (s.extract 0 k) % 2 == 1)) := by
  rw [tailN_step s k h]
  by_cases hc : s[k] = 92
  · rw [if_pos hc, hc]
    rcases (show tailN (s.extract 0 k) % 2 = 0 ∨ tailN (s.extract 0 k) % 2 = 1 by omega) with h2 | h2
    · rw [show (tailN (s.extract 0 k) + 1) % 2 = 1 by omega, h2]; rfl
    · rw [show (tailN (s.extract 0 k) + 1) % 2 = 0 by omega, h2]; rfl
  · rw [if_neg hc, show (s[k] == 92) = false by simpa using hc]
    rfl

set_option maxHeartbeats 3200000 in
theorem splitProp_impl (s : ByteArray) (w : World) (hs : (s.size : Int) ≤ 100000000) :
    Calls Tryd.prog 72 #[.string s] w fun e w' => e = .returned (.tuple #[.string (cutP s).1, .string (cutP s).2]) ∧ Below w.heap.size w w' := by
  have HCU : Hid (∀ k, k ≤ s.size → (∀ j, j < k → endP s j = false) → (k < s.size → endP s k = true) → cutP s = (s.extract 0 k, restP (s.extract k s.size))) := fun k h1 h2 h3 => by
    unfold cutP keyEnd
    rw [findIdx_rangeP (endP s) s.size k h1 h2 h3]
  have hb0 := Below.refl w.heap.size w
  go_enter Tryd.func72, Tryd.ntmps72
  go_wp2
  go_step3
  go_wp2
  go_step3
  go_wp2
  go_loopw [4, 5] (fun i e wr => ∃ k : Nat, k ≤ s.size ∧ i = .int .i64 k ∧ e = .bool (tailN (s.extract 0 k) % 2 == 1) ∧ Hid (∀ j, j < k → endP s j = false) ∧ Below w.heap.size w wr) (fun i _ _ => s.size - (intOf i).toNat)
  case atStart => exact ⟨0, Nat.zero_le _, rfl, by rw [show tailN (s.extract 0 0) = 0 from by have := tailN_le (s.extract 0 0); rw [ByteArray.size_extract] at this; omega]; rfl, fun j hj => absurd hj (Nat.not_lt_zero j), hb0⟩
  case round =>
    obtain ⟨k, hk, rfl, rfl, hno, hb⟩ := hrel
    clear hb0
    by_cases hlt : k < s.size
    · have hat : endP s k = ((gapB s[k] || s[k] == 61 || s[k] == 58) && tailN (s.extract 0 k) % 2 == 0) := by unfold endP; rw [dif_pos hlt]
      have hod := odd_step s k hlt
      have hkz : (k : Int) < (s.size : Int) := by omega
      have HNX : Hid (endP s k = false → ∀ j, j < k + 1 → endP s j = false) := by
        intro h j hj
        by_cases e : j = k
        · rw [e]; exact h
        · exact hno.out j (by omega)
      have HEN : Hid (endP s k = true → cutP s = (s.extract 0 k, restP (s.extract k s.size))) := fun h => HCU.out k hk hno.out (fun _ => h)
      have heo : (tailN (s.extract 0 k) % 2 == 0) = !(tailN (s.extract 0 k) % 2 == 1) := by
        rcases (show tailN (s.extract 0 k) % 2 = 0 ∨ tailN (s.extract 0 k) % 2 = 1 by omega) with h | h <;> rw [h] <;> rfl
      rw [heo] at hat
      cases hodd : (tailN (s.extract 0 k) % 2 == 1)
      · rw [hodd] at hat hod
        by_cases hc : s[k] = 92
        · have u1 : ((s[k].toNat : Int) == (((⟨#[92]⟩ : ByteArray)[0]'(by decide)).toNat : Int)) = true := by rw [hc]; rfl
          have hno2 := Lib.hid (HNX.out (by rw [hat, hc]; rfl))
          have hod : (tailN (s.extract 0 (k + 1)) % 2 == 1) = true := by rw [hod, hc]; rfl
          clear HNX HEN hat hno heo hodd hc
          clear HCU
          go_wp2
          go_roundw
          case rel => exact ⟨k + 1, by omega, by go_num, by rw [hod], hno2, hb⟩
          case measure => simp [intOf]; omega
        · have u1 : ((s[k].toNat : Int) == (((⟨#[92]⟩ : ByteArray)[0]'(by decide)).toNat : Int)) = false := by rw [beq_eq_false_iff_ne]; intro e; exact hc (UInt8.toNat_inj.1 (Int.ofNat_inj.1 e))
          have hod : (tailN (s.extract 0 (k + 1)) % 2 == 1) = false := by rw [hod, show (s[k] == 92) = false by simpa using hc]; rfl
          have KH := Lib.hid (fun w => hasByte_any stopsB s[k] w)
          rw [stops_has] at KH
          cases hst : (gapB s[k] || s[k] == 61 || s[k] == 58)
          · rw [hst] at hat KH
            have hno2 := Lib.hid (HNX.out (by rw [hat]; rfl))
            clear HNX HEN hat hno heo hodd hc hst HCU
            go_wp2_with fail
            refine (KH.out _).mono ?_
            rintro e w3 ⟨rfl, rfl⟩
            go_wp2
            go_roundw
            case rel => exact ⟨k + 1, by omega, by go_num, by rw [hod], hno2, hb⟩
            case measure => simp [intOf]; omega
          · rw [hst] at hat KH
            have HV := Lib.hid (HEN.out (by rw [hat]; rfl))
            have hle2 : (k : Int) ≤ (s.size : Int) := by omega
            clear HNX HEN hat hno heo hodd hc hst HCU hod
            go_wp2_with fail
            refine (KH.out _).mono ?_
            rintro e w3 ⟨rfl, rfl⟩
            clear KH
            go_wp2_with fail
            have KL := Lib.hid (fun w => skipWhite_impl (s.extract k s.size) w)
            have HRP : Hid (restP (s.extract k s.size) = if h : 0 < (leadP (s.extract k s.size)).size then (if sepP (leadP (s.extract k s.size))[0] then leadP ((leadP (s.extract k s.size)).extract 1 (leadP (s.extract k s.size)).size) else leadP (s.extract k s.size)) else leadP (s.extract k s.size)) := rfl
            have hys := leadP_size (s.extract k s.size)
            generalize s.extract k s.size = x at *
            generalize hy : leadP x = y at *
            clear hy
            refine (KL.out _).mono ?_
            rintro e w4 ⟨rfl, hb4⟩
            have hb5 := hb.trans (hb4.mono hb.size)
            clear KL hb4 hb
            by_cases hy0 : 0 < y.size
            · obtain ⟨f1, f2⟩ := text_someP y hy0
              have f3 : (y.toList != []) = true := by simp [bne, f1]
              have hyi : (0 : Int) < (y.size : Int) := by omega
              have HRP2 : Hid (restP x = if sepP y[0] then leadP (y.extract 1 y.size) else y) := by unfold Hid; rw [HRP.out, dif_pos hy0]
              clear HRP
              have KH := Lib.hid (fun w => hasByte_any sepsB y[0] w)
              rw [seps_has] at KH
              have hyo : (1 : Int) ≤ (y.size : Int) := by omega
              cases hsp : sepP y[0]
              · have HV2 : Hid (cutP s = (s.extract 0 k, y)) := by unfold Hid; rw [HV.out, HRP2.out, hsp]; rfl
                rw [hsp] at KH
                clear HV HRP2 hsp
                go_wp2_with fail
                refine (KH.out _).mono ?_
                rintro e w5 ⟨rfl, rfl⟩
                go_wp2
                (try simp only [Exit.noGoto])
                go_ret2
                exact ⟨by rw [HV2.out]; rfl, hb5⟩
              · have HV2 : Hid (cutP s = (s.extract 0 k, leadP (y.extract 1 y.size))) := by unfold Hid; rw [HV.out, HRP2.out, hsp]; rfl
                rw [hsp] at KH
                have KL2 := Lib.hid (fun w => skipWhite_impl (y.extract 1 y.size) w)
                clear HV HRP2 hsp
                go_wp2_with fail
                refine (KH.out _).mono ?_
                rintro e w5 ⟨rfl, rfl⟩
                go_wp2_with fail
                refine (KL2.out _).mono ?_
                rintro e w5 ⟨rfl, hb6⟩
                have hb7 := hb5.trans (hb6.mono hb5.size)
                clear hb5 hb6
                go_wp2
                (try simp only [Exit.noGoto])
                go_ret2
                exact ⟨by rw [HV2.out]; rfl, hb7⟩
            · obtain ⟨f1, f2⟩ := text_noneP y (by omega)
              have f3 : (y.toList != []) = false := by simp [bne, f1]
              have HV2 : Hid (cutP s = (s.extract 0 k, y)) := by unfold Hid; rw [HV.out, HRP.out, dif_neg hy0]
              clear HV HRP
              go_wp2
              (try simp only [Exit.noGoto])
              go_ret2
              exact ⟨by rw [HV2.out]; rfl, hb5⟩
      · rw [hodd] at hat hod
        have hno2 := Lib.hid (HNX.out (by rw [hat, Bool.not_true, Bool.and_false]))
        have hod : (tailN (s.extract 0 (k + 1)) % 2 == 1) = false := by rw [hod, Bool.not_true, Bool.and_false]
        clear HNX HEN hat hno heo hodd
        clear HCU
        go_wp2
        go_roundw
        case rel => exact ⟨k + 1, by omega, by go_num, by rw [hod], hno2, hb⟩
        case measure => simp [intOf]; omega
    · have HV := Lib.hid (HCU.out k hk hno.out (fun h => absurd h hlt))
      have hle2 : (k : Int) ≤ (s.size : Int) := by omega
      have hkn : ¬ (k : Int) < (s.size : Int) := by omega
      clear HCU hno hlt
      go_wp2_with fail
      have KL := Lib.hid (fun w => skipWhite_impl (s.extract k s.size) w)
      have HRP : Hid (restP (s.extract k s.size) = if h : 0 < (leadP (s.extract k s.size)).size then (if sepP (leadP (s.extract k s.size))[0] then leadP ((leadP (s.extract k s.size)).extract 1 (leadP (s.extract k s.size)).size) else leadP (s.extract k s.size)) else leadP (s.extract k s.size)) := rfl
      have hys := leadP_size (s.extract k s.size)
      generalize s.extract k s.size = x at *
      generalize hy : leadP x = y at *
      clear hy
      refine (KL.out _).mono ?_
      rintro e w4 ⟨rfl, hb4⟩
      have hb5 := hb.trans (hb4.mono hb.size)
      clear KL hb4 hb
      by_cases hy0 : 0 < y.size
      · obtain ⟨f1, f2⟩ := text_someP y hy0
        have f3 : (y.toList != []) = true := by simp [bne, f1]
        have hyi : (0 : Int) < (y.size : Int) := by omega
        have HRP2 : Hid (restP x = if sepP y[0] then leadP (y.extract 1 y.size) else y) := by unfold Hid; rw [HRP.out, dif_pos hy0]
        clear HRP
        have KH := Lib.hid (fun w => hasByte_any sepsB y[0] w)
        rw [seps_has] at KH
        have hyo : (1 : Int) ≤ (y.size : Int) := by omega
        cases hsp : sepP y[0]
        · have HV2 : Hid (cutP s = (s.extract 0 k, y)) := by unfold Hid; rw [HV.out, HRP2.out, hsp]; rfl
          rw [hsp] at KH
          clear HV HRP2 hsp
          go_wp2_with fail
          refine (KH.out _).mono ?_
          rintro e w5 ⟨rfl, rfl⟩
          go_wp2
          (try simp only [Exit.noGoto])
          go_ret2
          exact ⟨by rw [HV2.out]; rfl, hb5⟩
        · have HV2 : Hid (cutP s = (s.extract 0 k, leadP (y.extract 1 y.size))) := by unfold Hid; rw [HV.out, HRP2.out, hsp]; rfl
          rw [hsp] at KH
          have KL2 := Lib.hid (fun w => skipWhite_impl (y.extract 1 y.size) w)
          clear HV HRP2 hsp
          go_wp2_with fail
          refine (KH.out _).mono ?_
          rintro e w5 ⟨rfl, rfl⟩
          go_wp2_with fail
          refine (KL2.out _).mono ?_
          rintro e w5 ⟨rfl, hb6⟩
          have hb7 := hb5.trans (hb6.mono hb5.size)
          clear hb5 hb6
          go_wp2
          (try simp only [Exit.noGoto])
          go_ret2
          exact ⟨by rw [HV2.out]; rfl, hb7⟩
      · obtain ⟨f1, f2⟩ := text_noneP y (by omega)
        have f3 : (y.toList != []) = false := by simp [bne, f1]
        have HV2 : Hid (cutP s = (s.extract 0 k, y)) := by unfold Hid; rw [HV.out, HRP.out, dif_neg hy0]
        clear HV HRP
        go_wp2
        (try simp only [Exit.noGoto])
        go_ret2
        exact ⟨by rw [HV2.out]; rfl, hb5⟩

end Go.Proofs.YtflnpkckdjmljaaDoor

/- One record of a property file: the program's joinProps, propRec and firstProp. -/
set_option maxRecDepth 100000
namespace Go.Proofs.YtflnpkckdjmljaaDoor
open Go.RowKit
set_option linter.unusedVariables false

theorem trim_last (p : ByteArray) (h : tailN p % 2 = 1) : (⟨(Lib.trimSuffix p.data.toList [92]).toArray⟩ : ByteArray) = p.extract 0 (p.size - 1) := by
  obtain ⟨h1, h2, h3⟩ := tail_cut h
  unfold Lib.trimSuffix Lib.hasSuffix
  rw [if_pos (by rw [List.isSuffixOf_iff_suffix]; exact ⟨_, h3.symm⟩)]
  apply ByteArray.ext
  apply Array.toList_inj.1
  rw [cut_last p h1, List.dropLast_eq_take]
  rfl

set_option maxHeartbeats 3200000 in
theorem joinProps_impl (w : World) (u : Value) (g o : Nat) (l : List Ln) (hu : LinesRd w u g o l) (h0 : 0 < l.length) (hc : costL l ≤ 1048576) :
    Calls Tryd.prog 47 #[u] w fun e w' => e = .returned (.tuple #[.string (joinP (leadP l[0].1) (l.drop 1) 1).1, .int .i64 ((joinP (leadP l[0].1) (l.drop 1) 1).2 : Int)]) ∧ Below w.heap.size w w' := by
  obtain ⟨a, cap, rfl, ha⟩ := hu.form
  have hln : l ≠ [] := by intro e; rw [e] at h0; exact absurd h0 (by simp)
  obtain rfl := ha hln
  have hgl := hu.lt hln
  have CU := Lib.hid hu
  have hll : l.length ≤ 1048576 := by unfold costL at hc; omega
  obtain ⟨J, hJ⟩ : ∃ J, joinP (leadP l[0].1) (l.drop 1) 1 = J := ⟨_, rfl⟩
  have HB0 : Hid (BuiltF w.heap.size w.heap.size [] (w.alloc (.cells #[.pointer none, .slice none 0 0] 73))) := Lib.IsBuilderF.of (Lib.fresh_isBuilder 73 5 w)
  have hb0 : Below w.heap.size w (w.alloc (.cells #[.pointer none, .slice none 0 0] 73)) := (Below.refl _ _).alloc (Nat.le_refl _) _
  have H00 : Hid (∀ hk : 0 < l.length, J = joinP ((⟨#[]⟩ : ByteArray) ++ leadP l[0].1) (l.drop (0 + 1)) (0 + 1)) := by
    intro hk
    rw [← hJ]
    congr 1
  rw [hJ]
  clear hu ha hJ
  go_enter Tryd.func47, Tryd.ntmps47
  go_wp2
  go_loopw [10] (fun i wr => ∃ (k : Nat) (A : ByteArray), k ≤ l.length ∧ i = .int .i64 k ∧ tailN A % 2 = 0 ∧ A.size ≤ costL (l.take k) ∧ Hid (∀ hk : k < l.length, J = joinP (A ++ leadP l[k].1) (l.drop (k + 1)) (k + 1)) ∧ Hid (k = l.length → J = (A, l.length)) ∧ Hid (BuiltF w.heap.size w.heap.size A.data.toList wr) ∧ w.heap.size < wr.heap.size ∧ Below w.heap.size w wr) (fun i _ => l.length - (intOf i).toNat)
  case atStart => exact ⟨0, ⟨#[]⟩, Nat.zero_le _, rfl, rfl, Nat.zero_le _, H00, fun h => absurd h (by omega), HB0, by simp, hb0⟩
  case round =>
    obtain ⟨k, A, hk, rfl, hev, hAz, hJ1, hJ2, hB, hsz, hb⟩ := hrel
    clear HB0 hb0 H00
    have hct := costL_take l k hk
    by_cases hlt : k < l.length
    · have q1 := (hb.cell (p := ⟨g, o + k * 2, none⟩) hgl).trans (CU.out.c0 k hlt)
      have q2 := (hb.cell (p := ⟨g, o + k * 2 + 1, none⟩) hgl).trans (CU.out.c1 k hlt)
      have hts := costL_take_succ l k hlt
      have hct2 := costL_take l (k + 1) (by omega)
      have HJ := Lib.hid (hJ1.out hlt)
      have hls := leadP_size l[k].1
      have KL := Lib.hid (fun w => skipWhite_impl l[k].1 w)
      have hkz : (k : Int) < (l.length : Int) := by omega
      have hlz : (l.length : Int) ≤ 1048576 := by omega
      clear hJ1 hJ2
      generalize hpe : leadP l[k].1 = p at *
      have KT := Lib.hid (fun w => tail_impl p w (by unfold maxLen; omega))
      have hap := tailN_app A p hev
      have htl := tailN_le p
      have HP : Hid (tailN p % 2 = 1 → (⟨(Lib.trimSuffix p.data.toList [92]).toArray⟩ : ByteArray) = p.extract 0 (p.size - 1)) := trim_last p
      have HTC : Hid (tailN p % 2 = 1 → 0 < p.size ∧ tailN (p.extract 0 (p.size - 1)) % 2 = 0) := fun h => ⟨(tail_cut h).1, (tail_cut h).2.1⟩
      generalize htn : tailN p = tn at *
      generalize l[k] = x at *
      obtain ⟨x1, x2⟩ := x
      simp only at hts hls KL q1 q2
      have hB1 : Hid (BuiltF w.heap.size w.heap.size A.data.toList (wr.alloc (.cells #[.string x1, .string x2] 65))) := hB.out.alloc _
      have hb1 := hb.alloc (by omega) (.cells #[.string x1, .string x2] 65)
      have hs1 : w.heap.size < (wr.alloc (.cells #[.string x1, .string x2] 65)).heap.size := by simp; omega
      go_wp2_with fail
      generalize wr.alloc (.cells #[.string x1, .string x2] 65) = W1 at *
      clear hB hb q1 q2
      refine (KL.out _).mono ?_
      rintro e w2 ⟨rfl, hb2⟩
      have HB2 := Lib.hid (built_over hB1.out hb2)
      have hb3 := hb1.trans (hb2.mono hb1.size)
      have hs2 : w.heap.size < w2.heap.size := Nat.lt_of_lt_of_le hs1 hb2.size
      clear hB1 hb1 hb2 KL
      go_wp2_with fail
      refine (KT.out _).mono ?_
      rintro e w3 ⟨rfl, hb4⟩
      have HB4 := Lib.hid (built_over HB2.out hb4)
      have hb5 := hb3.trans (hb4.mono hb3.size)
      have hs5 : w.heap.size < w3.heap.size := Nat.lt_of_lt_of_le hs2 hb4.size
      clear HB2 hb3 hb4 KT
      rcases (show tn % 2 = 0 ∨ tn % 2 = 1 by omega) with hpar | hpar
      · have e0 : ((tn : Int) % 2 == 0) = true := by rw [beq_iff_eq]; omega
        have hstop : J = (A ++ p, k + 1) := by rw [HJ.out]; exact joinP_stop _ _ (by rw [hap]; omega)
        have HS := Lib.hid hstop
        clear hstop HJ HP HTC
        go_wp2_with fail
        refine (built_write w.heap.size w.heap.size A.data.toList p _ HB4.out (by rw [← Lib.size_eq]; omega) hb5.size).mono ?_
        rintro e w4 ⟨rfl, hB5, hb6, _⟩
        have hb7 := hb5.trans hb6
        have HB5 := Lib.hid hB5
        clear hB5 hb6 hb5 HB4
        go_wp2_with fail
        refine (built_string w.heap.size w.heap.size _ _ HB5.out hb7.size).mono ?_
        rintro e w5 ⟨rfl, _, hb8, _⟩
        have hb9 := hb7.trans hb8
        clear hb8 hb7 HB5
        go_wp2
        go_ret2
        refine ⟨?_, hb9⟩
        rw [HS.out]
        have e1 : (⟨(A.data.toList ++ p.data.toList).toArray⟩ : ByteArray) = A ++ p := by
          apply ByteArray.ext
          apply Array.toList_inj.1
          rw [ByteArray.data_append, Array.toList_append]
        have e2 : (((k + 1 : Nat) : Nat) : Int) = (k : Int) + 1 := by omega
        rw [e1, e2]
        rfl
      · have e0 : ((tn : Int) % 2 == 0) = false := by rw [beq_eq_false_iff_ne]; omega
        obtain ⟨hp0, hp2⟩ := HTC.out hpar
        obtain ⟨q, hq⟩ : ∃ q, p.extract 0 (p.size - 1) = q := ⟨_, rfl⟩
        have hcut := app_cut A p hp0
        have htr := HP.out hpar
        have hodd : tailN (A ++ p) % 2 = 1 := by rw [hap]; exact hpar
        rw [hq] at hp2 hcut htr
        have hqz : q.size + 1 = p.size := by rw [← hq, ByteArray.size_extract]; omega
        have KX := Lib.hid (fun w => Any.strings_TrimSuffix lays102 p ⟨#[92]⟩ w (by omega))
        have htr2 : (⟨(Lib.trimSuffix p.data.toList (⟨#[92]⟩ : ByteArray).data.toList).toArray⟩ : ByteArray) = q := htr
        rw [htr2] at KX
        have HN1 : Hid (∀ hk : k + 1 < l.length, J = joinP ((A ++ q) ++ leadP l[k + 1].1) (l.drop (k + 1 + 1)) (k + 1 + 1)) := by
          intro hk2
          rw [HJ.out, List.drop_eq_getElem_cons hk2, joinP_on _ _ _ hodd, hcut]
        have HN2 : Hid (k + 1 = l.length → J = (A ++ q, l.length)) := by
          intro hk2
          rw [HJ.out, List.drop_of_length_le (by omega), joinP_end _ hodd, hcut, hk2]
        have hev2 : tailN (A ++ q) % 2 = 0 := by rw [tailN_app A q hev]; exact hp2
        have hz2 : (A ++ q).size ≤ costL (l.take (k + 1)) := by rw [ByteArray.size_append]; omega
        clear HJ HP HTC hq hcut htr htr2 hodd hp2 hev hap
        go_wp2_with fail
        refine (KX.out _).mono ?_
        rintro e w4 ⟨rfl, rfl⟩
        go_wp2_with fail
        refine (built_write w.heap.size w.heap.size A.data.toList q _ HB4.out (by rw [← Lib.size_eq]; omega) hb5.size).mono ?_
        rintro e w5 ⟨rfl, hB5, hb6, _⟩
        have hb7 := hb5.trans hb6
        have hs7 : w.heap.size < w5.heap.size := Nat.lt_of_lt_of_le hs5 hb6.size
        have HB5 : Hid (BuiltF w.heap.size w.heap.size (A ++ q).data.toList w5) := by unfold Hid; rw [ByteArray.data_append, Array.toList_append]; exact hB5
        clear hB5 hb6 hb5 HB4
        go_wp2
        go_roundw
        case rel => exact ⟨k + 1, A ++ q, by omega, by go_num, hev2, hz2, HN1, HN2, HB5, hs7, hb7⟩
        case measure => simp [intOf]; omega
    · have hkl : k = l.length := by omega
      have HF := Lib.hid (hJ2.out hkl)
      have hkz : ¬ (k : Int) < (l.length : Int) := by omega
      clear hJ1 hJ2
      go_wp2_with fail
      refine (built_string w.heap.size w.heap.size _ _ hB.out hb.size).mono ?_
      rintro e w5 ⟨rfl, _, hb8, _⟩
      have hb9 := hb.trans hb8
      clear hb8 hb hB
      go_wp2
      go_ret2
      exact ⟨by rw [HF.out]; rfl, hb9⟩


theorem rec_new0 (w : World) : RecIn (w.alloc (.cells #[.int .i64 0, .string ⟨#[]⟩, .string ⟨#[]⟩, .string ⟨#[]⟩, .string ⟨#[]⟩, .int .i64 0] 29)) w.heap.size (kindP 0) := heap_alloc_new _ _
set_option maxHeartbeats 1600000 in
theorem propRec_impl (t : ByteArray) (w : World) (ht : (t.size : Int) ≤ 1048576) :
    Calls Tryd.prog 48 #[.string t] w fun e w' => e = .returned (recV (pairP t)) ∧ Below w.heap.size w w' := by
  have KC := Lib.hid (fun w => splitProp_impl t w (by omega))
  obtain ⟨hc1, hc2⟩ := cutP_size t
  have KA := Lib.hid (fun w => propText_impl (cutP t).1 w (by omega))
  have KB := Lib.hid (fun w => propText_impl (cutP t).2 w (by omega))
  have hpv : Hid (pairP t = if (propT (cutP t).1).2 = true ∧ (propT (cutP t).2).2 = true then ⟨3, ⟨#[]⟩, ⟨#[]⟩, (propT (cutP t).1).1, (propT (cutP t).2).1, 0⟩ else kindP 4) := rfl
  generalize pairP t = r at *
  generalize propT (cutP t).1 = ra at *
  generalize propT (cutP t).2 = rb at *
  generalize cutP t = c at *
  obtain ⟨ca, cb⟩ := c
  obtain ⟨ka, oka⟩ := ra
  obtain ⟨kb, okb⟩ := rb
  simp only at KC KA KB hpv
  have hb0 := (Below.refl w.heap.size w).alloc (Nat.le_refl _) (.cells #[.int .i64 0, .string ⟨#[]⟩, .string ⟨#[]⟩, .string ⟨#[]⟩, .string ⟨#[]⟩, .int .i64 0] 29)
  have HR0 := Lib.hid (rec_new0 w)
  have hw0 : w.heap.size < (w.alloc (.cells #[.int .i64 0, .string ⟨#[]⟩, .string ⟨#[]⟩, .string ⟨#[]⟩, .string ⟨#[]⟩, .int .i64 0] 29)).heap.size := by simp
  go_enter Tryd.func48, Tryd.ntmps48
  go_wp2_with fail
  generalize w.alloc (.cells #[.int .i64 0, .string ⟨#[]⟩, .string ⟨#[]⟩, .string ⟨#[]⟩, .string ⟨#[]⟩, .int .i64 0] 29) = W0 at *
  refine (KC.out _).mono ?_
  rintro e w4 ⟨rfl, hb4⟩
  clear KC
  go_wp2_with fail
  refine (KA.out _).mono ?_
  rintro e w5 ⟨rfl, hb5⟩
  clear KA
  go_wp2_with fail
  refine (KB.out _).mono ?_
  rintro e w6 ⟨rfl, hb6⟩
  clear KB
  have hb56 := hb4.trans ((hb5.trans (hb6.mono hb5.size)).mono hb4.size)
  have hb7 := hb0.trans (hb56.mono hb0.size)
  have HR7 := Lib.hid (HR0.out.over hb56 hw0)
  clear hb4 hb5 hb6 hb56 HR0 hb0
  cases oka
  · have hpv2 : Hid (r = kindP 4) := by unfold Hid; rw [hpv.out, if_neg (by simp)]
    clear hpv
    obtain ⟨z0, z1, z2, z3, z4, z5⟩ := HR7.out.cells
    simp only [kindP] at z0 z1 z2 z3 z4 z5
    have f0 := HR7.out.free 0
    have f1 := HR7.out.free 1
    have f2 := HR7.out.free 2
    have f3 := HR7.out.free 3
    have f4 := HR7.out.free 4
    have f5 := HR7.out.free 5
    go_wp2
    (try simp only [Exit.inBlock, Exit.then])
    have hq7 := HR7.out.put (kindP 4)
    have hq8 := below_put hb7 (Nat.le_refl _) (kindP 4)
    try simp only [kindP] at hq7 hq8
    refine bodyPost_ret (results_cell_row rfl _ _ w.heap.size 29 _ (0, 0) _ rfl hq7 Tryd.underlying29 rfl (by kernel_rfl)) rfl ⟨?_, hq8⟩
    rw [hpv2.out]
    simp only [recV, kindP]
  · cases okb
    · have hpv2 : Hid (r = kindP 4) := by unfold Hid; rw [hpv.out, if_neg (by simp)]
      clear hpv
      obtain ⟨z0, z1, z2, z3, z4, z5⟩ := HR7.out.cells
      simp only [kindP] at z0 z1 z2 z3 z4 z5
      have f0 := HR7.out.free 0
      have f1 := HR7.out.free 1
      have f2 := HR7.out.free 2
      have f3 := HR7.out.free 3
      have f4 := HR7.out.free 4
      have f5 := HR7.out.free 5
      go_wp2
      (try simp only [Exit.inBlock, Exit.then])
      have hq7 := HR7.out.put (kindP 4)
      have hq8 := below_put hb7 (Nat.le_refl _) (kindP 4)
      try simp only [kindP] at hq7 hq8
      refine bodyPost_ret (results_cell_row rfl _ _ w.heap.size 29 _ (0, 0) _ rfl hq7 Tryd.underlying29 rfl (by kernel_rfl)) rfl ⟨?_, hq8⟩
      rw [hpv2.out]
      simp only [recV, kindP]
    · have hpv2 : Hid (r = ⟨3, ⟨#[]⟩, ⟨#[]⟩, ka, kb, 0⟩) := by unfold Hid; rw [hpv.out, if_pos ⟨rfl, rfl⟩]
      clear hpv
      obtain ⟨z0, z1, z2, z3, z4, z5⟩ := HR7.out.cells
      simp only [kindP] at z0 z1 z2 z3 z4 z5
      have f0 := HR7.out.free 0
      have f1 := HR7.out.free 1
      have f2 := HR7.out.free 2
      have f3 := HR7.out.free 3
      have f4 := HR7.out.free 4
      have f5 := HR7.out.free 5
      go_wp2
      (try simp only [Exit.inBlock, Exit.then])
      have hq7 := HR7.out.put (⟨3, ⟨#[]⟩, ⟨#[]⟩, ka, kb, 0⟩ : RecD)
      have hq8 := below_put hb7 (Nat.le_refl _) (⟨3, ⟨#[]⟩, ⟨#[]⟩, ka, kb, 0⟩ : RecD)
      try simp only at hq7 hq8
      refine bodyPost_ret (results_cell_row rfl _ _ w.heap.size 29 _ (0, 0) _ rfl hq7 Tryd.underlying29 rfl (by kernel_rfl)) rfl ⟨?_, hq8⟩
      rw [hpv2.out]
      rfl

abbrev notesP : ByteArray := ⟨#[35, 33]⟩
theorem notes_has (c : UInt8) : hasB notesP c = (c == 35 || c == 33) := by
  unfold hasB
  show ([35, 33] : List UInt8).contains c = _
  simp only [List.contains_cons, List.contains_nil, Bool.or_false]
theorem joinP_size (l : List Ln) : ∀ (t : ByteArray) (n : Nat), (joinP t l n).1.size ≤ t.size + costL l := by
  induction l with
  | nil =>
    intro t n
    unfold joinP
    split
    · show (t.extract 0 (t.size - 1)).size ≤ _
      rw [ByteArray.size_extract]
      omega
    · show t.size ≤ _
      omega
  | cons x l ih =>
    intro t n
    have hx := leadP_size x.1
    have hcl : costL (x :: l) = costL l + 1 + x.1.size + x.2.size := by
      unfold costL
      simp only [List.length_cons, List.map_cons, List.sum_cons]
      omega
    unfold joinP
    split
    · have h := ih (t.extract 0 (t.size - 1) ++ leadP x.1) (n + 1)
      rw [ByteArray.size_append, ByteArray.size_extract] at h
      omega
    · show t.size ≤ _
      omega

set_option maxHeartbeats 1600000 in
theorem firstProp_impl (w : World) (u : Value) (g o : Nat) (x : Ln) (l : List Ln) (hu : LinesRd w u g o (x :: l)) (hc : costL (x :: l) ≤ 1000000) :
    Calls Tryd.prog 29 #[u] w fun e w' => e = .returned (.tuple #[recV (oneP x l).1, .int .i64 ((oneP x l).2 : Int)]) ∧ Below w.heap.size w w' := by
  obtain ⟨a, cap, rfl, ha⟩ := hu.form
  obtain rfl := ha (by simp)
  have hgl := hu.lt (by simp)
  have q1 := hu.c0 0 (by simp)
  rw [Nat.zero_mul, Nat.add_zero] at q1
  have q1 : w.cell? ⟨g, o, none⟩ = some (.string x.1) := q1
  have hls := leadP_size x.1
  have hcl : costL (x :: l) = costL l + 1 + x.1.size + x.2.size := by
    unfold costL
    simp only [List.length_cons, List.map_cons, List.sum_cons]
    omega
  have hnl : l.length ≤ costL l := by unfold costL; omega
  have KL := Lib.hid (fun w => skipWhite_impl x.1 w)
  have KJ : Hid (∀ W, Below w.heap.size w W → Calls Tryd.prog 47 #[.slice (some ⟨g, o, none⟩) (x :: l).length cap] W fun e w' => e = .returned (.tuple #[.string (joinP (leadP x.1) l 1).1, .int .i64 ((joinP (leadP x.1) l 1).2 : Int)]) ∧ Below W.heap.size W w') := by
    intro W hW
    have := joinProps_impl W _ g o (x :: l) (hu.below hW (fun _ => hgl)) (by simp) (by omega)
    simpa using this
  have hjz := joinP_size l (leadP x.1) 1
  have KP := Lib.hid (fun w => propRec_impl (joinP (leadP x.1) l 1).1 w (by omega))
  have hcnt := joinP_count l (leadP x.1) 1
  have HV : Hid (oneP x l = if h : 0 < (leadP x.1).size then (if (leadP x.1)[0] = 35 ∨ (leadP x.1)[0] = 33 then (kindP 1, 1) else (pairP (joinP (leadP x.1) l 1).1, (joinP (leadP x.1) l 1).2)) else (kindP 0, 1)) := rfl
  generalize joinP (leadP x.1) l 1 = J at *
  obtain ⟨jt, jn⟩ := J
  simp only at KJ KP HV hcnt
  generalize oneP x l = r at *
  generalize leadP x.1 = t0 at *
  generalize x.1 = x1 at *
  have hlz : (1 : Int) ≤ (((x :: l).length : Nat) : Int) := by simp; omega
  generalize (x :: l).length = n at *
  clear hu ha
  have hb0 := (Below.refl w.heap.size w).alloc (Nat.le_refl _) (.cells #[.int .i64 0, .string ⟨#[]⟩, .string ⟨#[]⟩, .string ⟨#[]⟩, .string ⟨#[]⟩, .int .i64 0] 29)
  have HR0 := Lib.hid (rec_new0 w)
  have hw0 : w.heap.size < (w.alloc (.cells #[.int .i64 0, .string ⟨#[]⟩, .string ⟨#[]⟩, .string ⟨#[]⟩, .string ⟨#[]⟩, .int .i64 0] 29)).heap.size := by simp
  have q2 := (hb0.cell (p := ⟨g, o, none⟩) hgl).trans q1
  go_enter Tryd.func29, Tryd.ntmps29
  go_wp2_with fail
  generalize w.alloc (.cells #[.int .i64 0, .string ⟨#[]⟩, .string ⟨#[]⟩, .string ⟨#[]⟩, .string ⟨#[]⟩, .int .i64 0] 29) = W0 at *
  refine (KL.out _).mono ?_
  rintro e w1 ⟨rfl, hb1⟩
  have hb7 := hb0.trans (hb1.mono hb0.size)
  have HR7 := Lib.hid (HR0.out.over hb1 hw0)
  have hw1 : w.heap.size < w1.heap.size := Nat.lt_of_lt_of_le hw0 hb1.size
  clear KL hb1 hb0 HR0 q1 q2
  by_cases h0 : t0.size = 0
  · obtain ⟨t1, t2⟩ := text_noneP t0 h0
    have HF : Hid (r = (kindP 0, 1)) := by unfold Hid; rw [HV.out, dif_neg (by omega)]
    clear HV
    obtain ⟨z0, z1, z2, z3, z4, z5⟩ := HR7.out.cells
    simp only [kindP] at z0 z1 z2 z3 z4 z5
    have f0 := HR7.out.free 0
    have f1 := HR7.out.free 1
    have f2 := HR7.out.free 2
    have f3 := HR7.out.free 3
    have f4 := HR7.out.free 4
    have f5 := HR7.out.free 5
    go_wp2
    (try simp only [Exit.inBlock, Exit.then])
    refine bodyPost_ret (results_cell1 rfl _ _ w.heap.size 29 _ (0, 0) _ rfl (HR7.out.put (kindP 0)) Tryd.underlying29 rfl (by kernel_rfl)) rfl ⟨?_, below_put hb7 (Nat.le_refl _) (kindP 0)⟩
    rw [HF.out]; rfl
  · obtain ⟨t1, t2⟩ := text_someP t0 (by omega)
    have h1 : 0 < t0.size := by omega
    have h1i : (0 : Int) < (t0.size : Int) := by omega
    have HV2 : Hid (r = if t0[0] = 35 ∨ t0[0] = 33 then (kindP 1, 1) else (pairP jt, jn)) := by unfold Hid; rw [HV.out, dif_pos h1]
    have KH := Lib.hid (fun w => hasByte_any notesP t0[0] w)
    rw [notes_has] at KH
    clear HV
    cases hq : (t0[0] == 35 || t0[0] == 33)
    · have HF : Hid (r = (pairP jt, jn)) := by
        unfold Hid
        rw [HV2.out, if_neg]
        rw [Bool.or_eq_false_iff] at hq
        rintro (h | h)
        · rw [h] at hq; exact absurd hq.1 (by decide)
        · rw [h] at hq; exact absurd hq.2 (by decide)
      rw [hq] at KH
      clear HV2 hq
      go_wp2_with fail
      refine (KH.out _).mono ?_
      rintro e w2 ⟨rfl, rfl⟩
      go_wp2_with fail
      refine (KJ.out _ hb7).mono ?_
      rintro e w2 ⟨rfl, hb2⟩
      go_wp2_with fail
      refine (KP.out _).mono ?_
      rintro e w3 ⟨rfl, hb3⟩
      have hb23 := hb2.trans (hb3.mono hb2.size)
      replace HR7 := Lib.hid (HR7.out.over hb23 hw1)
      replace hb7 := hb7.trans (hb23.mono hb7.size)
      clear hb2 hb3 hb23 KH KJ KP
      generalize pairP jt = y at *
      obtain ⟨y0, y1, y2, y3, y4, y5⟩ := y
      unfold recV
      obtain ⟨z0, z1, z2, z3, z4, z5⟩ := HR7.out.cells
      simp only [kindP] at z0 z1 z2 z3 z4 z5
      have f0 := HR7.out.free 0
      have f1 := HR7.out.free 1
      have f2 := HR7.out.free 2
      have f3 := HR7.out.free 3
      have f4 := HR7.out.free 4
      have f5 := HR7.out.free 5
      go_wp2
      (try simp only [Exit.inBlock, Exit.then])
      refine bodyPost_ret (results_cell1 rfl _ _ w.heap.size 29 _ (0, 0) _ rfl (HR7.out.put ⟨y0, y1, y2, y3, y4, y5⟩) Tryd.underlying29 rfl (by kernel_rfl)) rfl ⟨?_, below_put hb7 (Nat.le_refl _) ⟨y0, y1, y2, y3, y4, y5⟩⟩
      rw [HF.out]; rfl
    · have HF : Hid (r = (kindP 1, 1)) := by
        unfold Hid
        rw [HV2.out, if_pos]
        rw [Bool.or_eq_true, beq_iff_eq, beq_iff_eq] at hq
        exact hq
      rw [hq] at KH
      clear HV2 hq
      go_wp2_with fail
      refine (KH.out _).mono ?_
      rintro e w2 ⟨rfl, rfl⟩
      clear KH KJ KP
      obtain ⟨z0, z1, z2, z3, z4, z5⟩ := HR7.out.cells
      simp only [kindP] at z0 z1 z2 z3 z4 z5
      have f0 := HR7.out.free 0
      have f1 := HR7.out.free 1
      have f2 := HR7.out.free 2
      have f3 := HR7.out.free 3
      have f4 := HR7.out.free 4
      have f5 := HR7.out.free 5
      go_wp2
      (try simp only [Exit.inBlock, Exit.then])
      refine bodyPost_ret (results_cell1 rfl _ _ w.heap.size 29 _ (0, 0) _ rfl (HR7.out.put (kindP 1)) Tryd.underlying29 rfl (by kernel_rfl)) rfl ⟨?_, below_put hb7 (Nat.le_refl _) (kindP 1)⟩
      rw [HF.out]; rfl

end Go.Proofs.YtflnpkckdjmljaaDoor

/- A file of properties: the program's ParseProps, over a contract of limitRecs. -/
set_option maxRecDepth 100000
namespace Go.Proofs.YtflnpkckdjmljaaDoor
open Go.RowKit
set_option linter.unusedVariables false

theorem costL_dropP (l : List Ln) (k : Nat) : costL (l.drop k) ≤ costL l := by
  induction l generalizing k with
  | nil => simp
  | cons x l ih =>
    cases k with
    | zero => simp
    | succ k =>
      have := ih k
      simp only [List.drop_succ_cons, costL, List.length_cons, List.map_cons, List.sum_cons] at *
      omega
theorem costL_cutP (l : List Ln) (k n : Nat) : costL ((l.drop k).take n) ≤ costL l := by
  by_cases h : n ≤ (l.drop k).length
  · have h1 := costL_take (l.drop k) n h
    have h2 := costL_dropP l k
    omega
  · rw [List.take_of_length_le (by omega)]
    exact costL_dropP l k
theorem lines_fromP {w : World} {g n cap : Nat} {l : List Ln} (h : LinesRd w (.slice (some ⟨g, 0, none⟩) l.length n) g 0 l) (k c : Nat) (hk : k + c ≤ l.length) : LinesRd w (.slice (some ⟨g, k * 2, none⟩) c cap) g (k * 2) ((l.drop k).take c) := by
  have hl : ((l.drop k).take c).length = c := by rw [List.length_take, List.length_drop]; omega
  refine ⟨⟨some ⟨g, k * 2, none⟩, cap, by rw [hl], fun _ => rfl⟩, fun i hi => ?_, fun i hi => ?_⟩
  · have := h.c0 (k + i) (by omega)
    rw [Nat.zero_add, Nat.add_mul] at this
    rw [this]
    simp
  · have := h.c1 (k + i) (by omega)
    rw [Nat.zero_add, Nat.add_mul] at this
    rw [this]
    simp

theorem linesOf_join (s : ByteArray) : joinB (linesOf s) = s.data.toList := by
  rw [joinB_is]
  unfold linesOf
  rw [List.map_map, show (ofB ∘ toB) = id from funext ofB_toB, List.map_id, join_split]
  rfl
theorem linesOf_costP (s : ByteArray) : costL (linesOf s) ≤ 2 * s.size := by
  have h1 := joinB_len (linesOf s)
  have h2 := linesOf_few s
  rw [linesOf_join, ← Lib.size_eq] at h1
  omega
/-- what ParseProps tells -/
def propsL (s : ByteArray) : List RecD := if s.size ≤ 6000 then limG (recsP (linesOf s) 0) else []
theorem propsL_len (s : ByteArray) : (propsL s).length ≤ 200 := by
  unfold propsL
  split
  · exact limG_len _
  · exact Nat.zero_le _
theorem info_recP : (Tryd.prog.info? 29).map (fun i => (i.zero, i.size, i.bytes)) = some (some (recV noRec), 6, 80) := by kernel_rfl
/-- what limitRecs does with a list that the call has made -/
def LimOk (m : List RecD) : Prop := ∀ (B : Nat) (W : World) (v : Value), B ≤ W.heap.size → W.ownsRow B 29 6 v m.length (rowCells recS m) → Calls Tryd.prog 31 #[v] W fun e w' => ∃ v' g, e = .returned v' ∧ RowsIs recS w' v' g 0 (limG m) ∧ B ≤ g ∧ Below B W w'
theorem limit_fewP (m : List RecD) (hm : m.length ≤ 200) : LimOk m := by
  intro B W v hB hown
  obtain ⟨g, hr, hg⟩ := rowsIs_of_owns (S := recS) hown rfl hB
  obtain ⟨a, cap, rfl, _⟩ := hr.form
  have HR := Lib.hid hr
  have HL := Lib.hid (limG_few hm)
  have h1 : (m.length : Int) ≤ 200 := by omega
  clear hr hown
  go_enter Tryd.func31, Tryd.ntmps31
  go_wp2
  go_ret
  exact ⟨_, g, rfl, by rw [HL.out]; exact HR.out, hg, Below.refl _ _⟩
theorem kept_setP {w : World} {B e size n : Nat} {v : Value} {xs : List Value} (h : w.ownsRow B e size v n xs) {b j : Nat} (hb : v.ownBlock ≠ some b) (x : Value) : (w.setCell ⟨b, j, none⟩ x).ownsRow B e size v n xs :=
  h.kept (row := some b) ⟨rfl, rfl, rfl, by simp, fun k _ hk => Below.heap_setCell _ _ _ k (fun e => hk (by rw [e]))⟩ (.inr (fun e => hb e))

theorem oneAt_sect (l : List Ln) (k : Nat) (hk : k < l.length) : (oneAt l k hk).1.sect = ⟨#[]⟩ := by
  unfold oneAt oneP
  split
  · split
    · rfl
    · show (pairP _).sect = _
      unfold pairP
      split <;> rfl
  · rfl
theorem own_formP {w : World} {base e size n : Nat} {v : Value} {xs : List Value} (h : w.ownsRow base e size v n xs) : ∃ a cap, v = .slice a n cap := by
  rcases h.2 with ⟨rfl, rfl⟩ | ⟨g, cap, cur, rfl, _⟩
  · exact ⟨none, 0, rfl⟩
  · exact ⟨_, cap, rfl⟩
theorem own_ltP {w : World} {base e size n : Nat} {v : Value} {xs : List Value} (h : w.ownsRow base e size v n xs) : ∀ k, v.ownBlock = some k → k < w.heap.size := by
  intro k hk
  rcases h.2 with ⟨rfl, _⟩ | ⟨g, cap, cur, rfl, hb, hg, _⟩
  · cases hk
  · simp only [Value.ownBlock] at hk
    cases hk
    exact (Array.getElem?_eq_some_iff.1 hg).1

set_option maxHeartbeats 6400000 in
theorem parseProps_core (s : ByteArray) (w : World) (hs : s.size ≤ 6000) (KLIM : LimOk (recsP (linesOf s) 0)) :
    Calls Tryd.prog 10 #[.string s] w (NewRows recS w (limG (recsP (linesOf s) 0))) := by
  have KS := Lib.hid (splitLines_tight s w (by omega))
  have hco := linesOf_costP s
  have HST := Lib.hid (recsP_step (linesOf s))
  have HEN := Lib.hid (recsP_end (linesOf s))
  have HRL := Lib.hid (recsP_len (linesOf s) 0)
  have HLE := Lib.hid (oneAt_le (linesOf s))
  have HK := Lib.hid KLIM
  have HG : Hid (∀ r, recsP (linesOf s) 0 = r → limG (recsP (linesOf s) 0) = limG r) := fun r h => by rw [h]
  clear KLIM
  generalize linesOf s = l at *
  have hll : l.length ≤ 12000 := by unfold costL at hco; omega
  have hsz : ¬ (6000 : Int) < (s.size : Int) := by omega
  have hsz2 : (s.size : Int) ≤ 6000 := by omega
  go_enter Tryd.func10, Tryd.ntmps10
  go_wp2_with fail
  refine KS.out.mono ?_
  rintro e Wf ⟨a, g, rfl, hL, hg, hbf⟩
  clear KS
  have hgl : l ≠ [] → g < Wf.heap.size := fun h => hL.toLinesRd.lt h
  have HLN := Lib.hid hL.toLinesRd
  have haf : l ≠ [] → a = some ⟨g, 0, none⟩ := fun h => by
    obtain ⟨a2, c2, hv, ha2⟩ := hL.form
    injection hv with h1 h2 h3
    rw [h1]; exact ha2 h
  clear hL
  obtain ⟨i0, hi, hz0, hz1, hz2⟩ := info_parts info_recP
  have H00 : Hid (recsP l 0 = [] ++ recsP l 0) := by unfold Hid; simp
  go_wp2
  go_loopw [4, 5] (fun v i wr => ∃ (k : Nat) (m : List RecD) (oa : Option Addr) (ocap : Nat), v = .slice oa m.length ocap ∧ k ≤ l.length ∧ m.length ≤ k ∧ i = .int .i64 k ∧ Hid (recsP l 0 = m ++ recsP l k) ∧ Hid (wr.ownsRow Wf.heap.size 29 6 (.slice oa m.length ocap) m.length (rowCells recS m)) ∧ Wf.heap.size ≤ wr.heap.size ∧ Below Wf.heap.size Wf wr) (fun _ i _ => l.length - (intOf i).toNat)
  case atStart => exact ⟨0, [], none, 0, rfl, Nat.zero_le _, Nat.le_refl _, rfl, H00, ⟨rfl, .inl ⟨rfl, rfl⟩⟩, Nat.le_refl _, Below.refl _ _⟩
  case round =>
    obtain ⟨k, m, oa, ocap, rfl, hkl, hmk, rfl, hF, hown, hsw, hb⟩ := hrel
    clear H00
    by_cases hlt : k < l.length
    · have hne : l ≠ [] := by intro e; rw [e] at hlt; simp at hlt
      have hgW := hgl hne
      obtain rfl := haf hne
      have hkz : (k : Int) < (l.length : Int) := by omega
      have hkz2 : (k : Int) ≤ (l.length : Int) := by omega
      have hst := HST.out k hlt
      have hle := HLE.out k hlt
      have hsx := oneAt_sect l k hlt
      have hone : oneAt l k hlt = oneP l[k] (l.drop (k + 1)) := rfl
      have hdk : l.drop k = l[k] :: l.drop (k + 1) := List.drop_eq_getElem_cons hlt
      have hLk : LinesRd wr (.slice (some ⟨g, k * 2, none⟩) (l.length - k) (l.length - k)) g (k * 2) (l[k] :: l.drop (k + 1)) := by
        have := lines_fromP (cap := l.length - k) (HLN.out.below hb (fun _ => hgW)) k (l.length - k) (by omega)
        rw [List.take_of_length_le (by rw [List.length_drop]; omega), hdk] at this
        exact this
      have hck : costL (l[k] :: l.drop (k + 1)) ≤ 1000000 := by
        have := costL_dropP l k
        rw [hdk] at this
        omega
      have K1 := Lib.hid (firstProp_impl wr _ g (k * 2) l[k] (l.drop (k + 1)) hLk hck)
      rw [← hone] at K1
      generalize oneAt l k hlt = q at *
      obtain ⟨x, c⟩ := q
      simp only at hst hle K1 hsx
      have hcc := Nat.le_trans (costL_cutP l k c) hco
      have KJ : Hid (∀ W, Below Wf.heap.size Wf W → Calls Tryd.prog 30 #[.slice (some ⟨g, k * 2, none⟩) c (l.length - k)] W fun e w' => e = .returned (.string (rawP l k c)) ∧ Below W.heap.size W w') := by
        intro W hW
        exact joinLines_impl W _ g (k * 2) ((l.drop k).take c) (lines_fromP (HLN.out.below hW (fun _ => hgW)) k c hle.2) (by omega) (fun _ => Nat.lt_of_lt_of_le hgW hW.size)
      have HF : Hid (recsP l 0 = (m ++ [putP l k c x]) ++ recsP l (k + c)) := by
        unfold Hid
        rw [hF.out, hst]
        simp
      clear hF hst hone hdk hLk hck hcc HLE
      obtain ⟨y0, y1, y2, y3, y4, y5⟩ := x
      simp only at hsx
      subst hsx
      unfold recV at K1
      unfold putP at HF
      simp only at K1 HF
      have r0 : ¬ l.length = k := by omega
      have r1 : (k : Int) + (c : Int) ≤ (l.length : Int) := by omega
      have r2 : (k : Int) ≤ (k : Int) + (c : Int) := by omega
      have r4 : ((k : Int) + (c : Int)).toNat = k + c := by omega
      have r5 : k + c - k = c := by omega
      go_wp2_with fail
      refine K1.out.mono ?_
      rintro e w2 ⟨rfl, hb2⟩
      have hown2 := Lib.hid (ownsRow_below hown.out hb2)
      have hb3 := hb.trans (hb2.mono hb.size)
      have hs2 : Wf.heap.size ≤ w2.heap.size := Nat.le_trans hsw hb2.size
      have hq : Hid (RecIn (w2.alloc (.cells #[.int .i64 y0, .string y1, .string ⟨#[]⟩, .string y3, .string y4, .int .i64 y5] 29)) w2.heap.size ⟨y0, y1, ⟨#[]⟩, y3, y4, y5⟩) := heap_alloc_new _ _
      have hbq : Hid (Below w2.heap.size w2 (w2.alloc (.cells #[.int .i64 y0, .string y1, .string ⟨#[]⟩, .string y3, .string y4, .int .i64 y5] 29))) := (Below.refl w2.heap.size w2).alloc (Nat.le_refl _) _
      have hlt2 := own_ltP hown.out
      have hb2s := hb2.size
      clear K1 hown hb hb2
      go_wp2_with fail
      have hb4 := hb3.trans (hbq.out.mono hb3.size)
      have hwq : w2.heap.size < (w2.alloc (.cells #[.int .i64 y0, .string y1, .string ⟨#[]⟩, .string y3, .string y4, .int .i64 y5] 29)).heap.size := (Array.getElem?_eq_some_iff.1 hq.out).1
      generalize (w2.alloc (.cells #[.int .i64 y0, .string y1, .string ⟨#[]⟩, .string y3, .string y4, .int .i64 y5] 29)) = W3 at *
      refine (KJ.out W3 hb4).mono ?_
      rintro e w4 ⟨rfl, hb5⟩
      have HR4 := Lib.hid (hq.out.over hb5 hwq)
      have hb6 := hb4.trans (hb5.mono hb4.size)
      have hbb : Below w2.heap.size w2 w4 := hbq.out.trans (hb5.mono (Nat.le_of_lt hwq))
      have hw4 : w2.heap.size < w4.heap.size := Nat.lt_of_lt_of_le hwq hb5.size
      have hown4 := Lib.hid (ownsRow_below hown2.out hbb)
      have hnb := own_blockL hown4.out
      have hbl : (Value.slice oa m.length ocap).ownBlock ≠ some w2.heap.size := fun e => by have := hlt2 _ e; omega
      have hown5 := Lib.hid (kept_setP (j := 5) (kept_setP (j := 1) hown4.out hbl (.string (rawP l k c))) hbl (.int .i64 ((k : Int) + 1)))
      clear hq hbq hb3 hb4 hb5 KJ hown2 hown4
      obtain ⟨z0, z1, z2, z3, z4, z5⟩ := HR4.out.cells
      simp only at z0 z1 z2 z3 z4 z5
      have f1 := HR4.out.free 1
      have f5 := HR4.out.free 5
      have hs5 : (((w4.setCell ⟨w2.heap.size, 1, none⟩ (.string (rawP l k c))).setCell ⟨w2.heap.size, 5, none⟩ (.int .i64 ((k : Int) + 1)))).heap.size = w4.heap.size := by simp
      have hnew5 := heap_alloc_new ((w4.setCell ⟨w2.heap.size, 1, none⟩ (.string (rawP l k c))).setCell ⟨w2.heap.size, 5, none⟩ (.int .i64 ((k : Int) + 1))) (.cells #[.int .i64 y0, .string (rawP l k c), .string ⟨#[]⟩, .string y3, .string y4, .int .i64 ((k : Int) + 1)] 29)
      rw [hs5] at hnew5
      have HNW := Lib.hid hnew5
      have hb5 := (hb6.setCell (p := ⟨w2.heap.size, 1, none⟩) hs2 (.string (rawP l k c))).setCell (p := ⟨w2.heap.size, 5, none⟩) hs2 (.int .i64 ((k : Int) + 1))
      clear hnew5 hb6 hbb
      go_wp2_with (at_builtin; refine wpList_append_own _ rfl _ _ 25 rfl Wf.heap.size 29 i0 (recV noRec) 6 80 Tryd.underlying25 hi hz0 hz1 hz2 rfl (by decide) _ _ _ rfl (hown5.out.alloc _) ⟨w4.heap.size, 0, none⟩ 1 1 (recCs ⟨y0, rawP l k c, ⟨#[]⟩, y3, y4, (k : Int) + 1⟩) rfl rfl (World.news_of_block (cs := #[.int .i64 y0, .string (rawP l k c), .string ⟨#[]⟩, .string y3, .string y4, .int .i64 ((k : Int) + 1)]) (t := 29) (fr := (0, 0)) HNW.out) (recS.one _) (by unfold maxLen; omega) (by omega) (by simp; omega) ?_; intro v7 w7 hown7 hgrow7 _)
      have hb8 := (hb5.alloc (by rw [hs5]; omega) _).grown hgrow7 (by simp; omega) (own_blockL hown5.out)
      obtain ⟨oa7, ocap7, rfl⟩ := own_formP hown7
      have hrow7 : Hid (w7.ownsRow Wf.heap.size 29 6 (.slice oa7 (m ++ [(⟨y0, rawP l k c, ⟨#[]⟩, y3, y4, (k : Int) + 1⟩ : RecD)]).length ocap7) (m ++ [(⟨y0, rawP l k c, ⟨#[]⟩, y3, y4, (k : Int) + 1⟩ : RecD)]).length (rowCells recS (m ++ [⟨y0, rawP l k c, ⟨#[]⟩, y3, y4, (k : Int) + 1⟩]))) := by
        unfold Hid
        rw [rowCells_append, rowCells_single, List.length_append]
        exact hown7
      have hs8 : Wf.heap.size ≤ w7.heap.size := hb8.size
      clear hown7 hgrow7 hown5 HNW hb5 z0 z1 z2 z3 z4 z5 f1 f5 HR4
      go_wp2
      go_roundw
      case rel => exact ⟨k + c, m ++ [⟨y0, rawP l k c, ⟨#[]⟩, y3, y4, (k : Int) + 1⟩], oa7, ocap7, by simp, by omega, by simp; omega, by go_num, HF, hrow7, hs8, hb8⟩
      case measure => simp [intOf]; omega
    · obtain rfl : k = l.length := by omega
      have hE : recsP l 0 = m := by rw [hF.out, HEN.out l.length (Nat.le_refl _), List.append_nil]
      have KL := HK.out Wf.heap.size wr (.slice oa m.length ocap) hsw (by rw [hE]; exact hown.out)
      have K := Lib.hid KL
      have hkz : ¬ (l.length : Int) < (l.length : Int) := by omega
      have hb9 := hbf.trans (hb.mono hbf.size)
      clear hF hown KL hb
      go_wp2_with fail
      refine K.out.mono ?_
      rintro e w2 ⟨v2, g2, rfl, hr2, hg2, hb2⟩
      have hb3 := hb9.trans (hb2.mono hbf.size)
      have HR2 := Lib.hid hr2
      have hgw : w.heap.size ≤ g2 := Nat.le_trans hbf.size hg2
      clear hr2 hb2 hb9
      go_wp2
      go_ret
      exact ⟨v2, g2, rfl, HR2.out, hgw, hb3⟩

theorem parseProps_impl (s : ByteArray) (w : World) (hs : s.size ≤ 1048576) (KLIM : s.size ≤ 6000 → LimOk (recsP (linesOf s) 0)) :
    Calls Tryd.prog 10 #[.string s] w (NewRows recS w (propsL s)) := by
  by_cases h : s.size ≤ 6000
  · have := parseProps_core s w h (KLIM h)
    unfold propsL
    rw [if_pos h]
    exact this
  · have HP : Hid (propsL s = []) := by unfold Hid propsL; rw [if_neg h]
    have hsz : (6000 : Int) < (s.size : Int) := by omega
    clear KLIM
    go_enter Tryd.func10, Tryd.ntmps10
    go_wp2
    go_ret
    exact ⟨_, w.heap.size, rfl, by rw [HP.out]; exact RowsIs.nil none 0 rfl, Nat.le_refl _, Below.refl _ _⟩

end Go.Proofs.YtflnpkckdjmljaaDoor
