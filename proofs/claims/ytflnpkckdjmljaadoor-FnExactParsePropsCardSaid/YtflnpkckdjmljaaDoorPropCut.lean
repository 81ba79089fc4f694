/- Keys and values of property files, as they are written: the model's contracts of l07Gap, l07Lead, l07Cut. -/
import Derived.Test.YtflnpkckdjmljaaDoorProg
import Derived.Test.YtflnpkckdjmljaaDoorPlain
import Derived.Test.YtflnpkckdjmljaaDoorCut
import Derived.Test.YtflnpkckdjmljaaDoorTail
import Derived.WalkKit
import Derived.WalkLawsBesides
import Derived.Laws.IdiomStrings
import Derived.Lib.Hide
import Derived.IntWalk
set_option maxRecDepth 100000
namespace Go.Proofs.YtflnpkckdjmljaaDoor
open Go.RowKit
set_option linter.unusedVariables false

/-- white space of property files -/
def gapB (c : UInt8) : Bool := c == 32 || c == 9 || c == 12
theorem gap_any (c : UInt8) (w : World) :
    Calls Tryd.prog 75 #[.int .u8 c.toNat] w fun e w' => e = .returned (.bool (gapB c)) ∧ w = w' := by
  have f : ∀ d : UInt8, c ≠ d → ((c.toNat : Int) == (d.toNat : Int)) = false := fun d h => by
    rw [beq_eq_false_iff_ne]; intro e; exact h (UInt8.toNat_inj.1 (Int.ofNat_inj.1 e))
  by_cases h1 : c = 32
  · have hb : ((c.toNat : Int) == 32) = true := by rw [h1]; rfl
    have h3 : Hid (gapB c = true) := by unfold Hid gapB; rw [h1]; rfl
    clear h1 f
    go_enter Tryd.func75, Tryd.ntmps75
    go_wp2
    go_ret
    exact ⟨by rw [h3.out]; rfl, rfl⟩
  · have hb : ((c.toNat : Int) == 32) = false := f 32 h1
    by_cases h2 : c = 9
    · have hb2 : ((c.toNat : Int) == 9) = true := by rw [h2]; rfl
      have h3 : Hid (gapB c = true) := by unfold Hid gapB; rw [h2]; rfl
      clear h1 h2 f
      go_enter Tryd.func75, Tryd.ntmps75
      go_wp2
      go_ret
      exact ⟨by rw [h3.out]; rfl, rfl⟩
    · have hb2 : ((c.toNat : Int) == 9) = false := f 9 h2
      by_cases h4 : c = 12
      · have hb4 : ((c.toNat : Int) == 12) = true := by rw [h4]; rfl
        have h3 : Hid (gapB c = true) := by unfold Hid gapB; rw [h4]; rfl
        clear h1 h2 h4 f
        go_enter Tryd.func75, Tryd.ntmps75
        go_wp2
        go_ret
        exact ⟨by rw [h3.out]; rfl, rfl⟩
      · have hb4 : ((c.toNat : Int) == 12) = false := f 12 h4
        have h3 : Hid (gapB c = false) := by unfold Hid gapB; simp [h1, h2, h4]
        clear h1 h2 h4 f
        go_enter Tryd.func75, Tryd.ntmps75
        go_wp2
        go_ret
        exact ⟨by rw [h3.out]; rfl, rfl⟩

theorem text_noneP (x : ByteArray) (h : x.size = 0) : (x.toList == []) = true ∧ x.toList.isEmpty = true := by
  have : x.toList = [] := by
    rw [Lib.toList_data]
    apply List.eq_nil_of_length_eq_zero
    rw [← Lib.size_eq]
    exact h
  rw [this]
  exact ⟨rfl, rfl⟩
theorem text_someP (x : ByteArray) (h : 0 < x.size) : (x.toList == []) = false ∧ x.toList.isEmpty = false := by
  rw [Lib.toList_data]
  cases hl : x.data.toList with
  | nil =>
    have h2 := Lib.size_eq x
    rw [hl, List.length_nil] at h2
    omega
  | cons c t => exact ⟨rfl, rfl⟩
theorem head_tailP (z : ByteArray) (h : 0 < z.size) : z.data.toList = z[0] :: (z.extract 1 z.size).data.toList := by
  have hl : 0 < z.data.toList.length := by rw [← Lib.size_eq]; exact h
  have h1 : (z.extract 1 z.size).data.toList = z.data.toList.drop 1 := by
    rw [Lib.extract_eq]
    simp only [Lib.size_eq]
    rw [List.take_of_length_le (by simp)]
  rw [h1]
  conv => lhs; rw [← List.drop_zero (l := z.data.toList), List.drop_eq_getElem_cons hl]
  rfl
/-- a text without the gaps at its beginning -/
def leadP (s : ByteArray) : ByteArray := ⟨(s.data.toList.dropWhile gapB).toArray⟩
theorem leadP_none (z : ByteArray) (h : z.size = 0) : leadP z = z := by
  have : z.data.toList = [] := by apply List.eq_nil_of_length_eq_zero; rw [← Lib.size_eq]; exact h
  apply ByteArray.ext
  apply Array.toList_inj.1
  show z.data.toList.dropWhile gapB = z.data.toList
  rw [this]
  rfl
theorem leadP_here (z : ByteArray) (h : 0 < z.size) (hb : gapB z[0] = false) : leadP z = z := by
  apply ByteArray.ext
  apply Array.toList_inj.1
  show z.data.toList.dropWhile gapB = z.data.toList
  rw [head_tailP z h, List.dropWhile_cons_of_neg (by simp [hb])]
theorem leadP_on (z : ByteArray) (h : 0 < z.size) (hb : gapB z[0] = true) : leadP (z.extract 1 z.size) = leadP z := by
  apply ByteArray.ext
  apply Array.toList_inj.1
  show (z.extract 1 z.size).data.toList.dropWhile gapB = z.data.toList.dropWhile gapB
  rw [head_tailP z h, List.dropWhile_cons_of_pos hb]
theorem leadP_size (z : ByteArray) : (leadP z).size ≤ z.size := by
  rw [Lib.size_eq, Lib.size_eq]
  exact (List.dropWhile_sublist _).length_le
def textLen (v : Value) : Nat := match v with | .string z => z.size | _ => 0
set_option maxHeartbeats 1600000 in
theorem lead_spec (s : ByteArray) (w : World) (hs : s.size ≤ 100000000) :
    Calls Tryd.prog 51 #[.string s] w fun e w' => e = .returned (.string (leadP s)) ∧ w = w' := by
  go_enter Tryd.func51, Tryd.ntmps51
  go_wp2
  go_loopw [0] (fun x wr => ∃ z : ByteArray, x = .string z ∧ z.size ≤ 100000000 ∧ Hid (leadP z = leadP s) ∧ w = wr) (fun x _ => textLen x)
  case atStart => exact ⟨s, rfl, hs, rfl, rfl⟩
  case round =>
    obtain ⟨z, rfl, hz, hzz, rfl⟩ := hrel
    by_cases hz0 : z.size = 0
    · obtain ⟨f1, f2⟩ := text_noneP z hz0
      have hfin : Hid (z = leadP s) := by unfold Hid; rw [← hzz.out, leadP_none z hz0]
      clear hzz hz0
      go_wp2
      go_ret
      exact ⟨by rw [← hfin.out]; rfl, rfl⟩
    · obtain ⟨f1, f2⟩ := text_someP z (by omega)
      have hz1 : 0 < z.size := by omega
      have hzi : (0 : Int) < (z.size : Int) := by omega
      have KZ := Lib.hid (fun w => gap_any z[0] w)
      cases hbz : gapB z[0]
      · have hfin : Hid (z = leadP s) := by unfold Hid; rw [← hzz.out, leadP_here z hz1 hbz]
        rw [hbz] at KZ
        clear hzz hbz
        go_wp2_with fail
        refine (KZ.out _).mono ?_
        rintro e w4 ⟨rfl, rfl⟩
        clear KZ
        go_wp2
        go_ret
        exact ⟨by rw [← hfin.out]; rfl, rfl⟩
      · have hz2 : Hid (leadP (z.extract 1 z.size) = leadP s) := by unfold Hid; rw [← hzz.out, leadP_on z hz1 hbz]
        have hz3 : (z.extract 1 z.size).size = z.size - 1 := by rw [ByteArray.size_extract]; omega
        have hzo : (1 : Int) ≤ (z.size : Int) := by omega
        rw [hbz] at KZ
        clear hzz hbz
        go_wp2_with fail
        refine (KZ.out _).mono ?_
        rintro e w4 ⟨rfl, rfl⟩
        clear KZ
        go_wp2
        go_roundw
        case rel => exact ⟨z.extract 1 z.size, rfl, by omega, hz2, trivial⟩
        case measure => simp only [textLen]; omega

/-- a key ends here -/
def endP (s : ByteArray) (i : Nat) : Bool := if h : i < s.size then (gapB s[i] || s[i] == 61 || s[i] == 58) && tailN (s.extract 0 i) % 2 == 0 else false
/-- where the key ends -/
def keyEnd (s : ByteArray) : Nat := (List.range s.size).findIdx (endP s)
theorem findIdx_rangeP (p : Nat → Bool) (n i : Nat) (hi : i ≤ n) (h1 : ∀ j, j < i → p j = false) (h2 : i < n → p i = true) : (List.range n).findIdx p = i := by
  by_cases h : i < n
  · have hl : i < (List.range n).length := by simpa using h
    rw [List.findIdx_eq hl]
    refine ⟨by simpa using h2 h, fun j hj => by simpa using h1 j hj⟩
  · obtain rfl : i = n := by omega
    have : (List.range i).findIdx p = (List.range i).length := by
      rw [List.findIdx_eq_length]
      intro x hx
      exact h1 x (by simpa using hx)
    simpa using this
/-- a separator -/
def sepP (c : UInt8) : Bool := c == 61 || c == 58
/-- what stands behind the key, without the separator and the gaps -/
def restP (s : ByteArray) : ByteArray := if h : 0 < (leadP s).size then (if sepP (leadP s)[0] then leadP ((leadP s).extract 1 (leadP s).size) else leadP s) else leadP s
/-- a key and a value as they are written -/
def cutP (s : ByteArray) : ByteArray × ByteArray := (s.extract 0 (keyEnd s), restP (s.extract (keyEnd s) s.size))
theorem keyEnd_le (s : ByteArray) : keyEnd s ≤ s.size := by
  unfold keyEnd
  have := List.findIdx_le_length (p := endP s) (xs := List.range s.size)
  rwa [List.length_range] at this
theorem restP_size (s : ByteArray) : (restP s).size ≤ s.size := by
  have h1 := leadP_size s
  unfold restP
  split
  · split
    · have h2 := leadP_size ((leadP s).extract 1 (leadP s).size)
      rw [ByteArray.size_extract] at h2
      omega
    · exact h1
  · exact h1
theorem cutP_size (s : ByteArray) : (cutP s).1.size ≤ s.size ∧ (cutP s).2.size ≤ s.size := by
  have h1 := keyEnd_le s
  have h2 := restP_size (s.extract (keyEnd s) s.size)
  rw [ByteArray.size_extract] at h2
  unfold cutP
  generalize restP (s.extract (keyEnd s) s.size) = y at *
  generalize keyEnd s = k at *
  refine ⟨?_, ?_⟩ <;> simp only [ByteArray.size_extract] <;> omega

set_option maxHeartbeats 3200000 in
theorem cutP_spec (s : ByteArray) (w : World) (hs : s.size ≤ 100000000) :
    Calls Tryd.prog 53 #[.string s] w fun e w' => e = .returned (.tuple #[.string (cutP s).1, .string (cutP s).2]) ∧ w = w' := by
  have HCU : Hid (∀ k, k ≤ s.size → (∀ j, j < k → endP s j = false) → (k < s.size → endP s k = true) → cutP s = (s.extract 0 k, restP (s.extract k s.size))) := fun k h1 h2 h3 => by
    unfold cutP keyEnd
    rw [findIdx_rangeP (endP s) s.size k h1 h2 h3]
  go_enter Tryd.func53, Tryd.ntmps53
  go_wp2
  go_loopw [4] (fun i wr => ∃ k : Nat, k ≤ s.size ∧ i = .int .i64 k ∧ Hid (∀ j, j < k → endP s j = false) ∧ w = wr) (fun i _ => s.size - (intOf i).toNat)
  case atStart => exact ⟨0, Nat.zero_le _, rfl, fun j hj => absurd hj (Nat.not_lt_zero j), rfl⟩
  case round =>
    obtain ⟨k, hk, rfl, hno, rfl⟩ := hrel
    by_cases hlt : k < s.size
    · have hat : endP s k = ((gapB s[k] || s[k] == 61 || s[k] == 58) && tailN (s.extract 0 k) % 2 == 0) := by unfold endP; rw [dif_pos hlt]
      have hkz : (k : Int) < (s.size : Int) := by omega
      have hkz2 : (k : Int) ≤ (s.size : Int) := by omega
      have hex : (s.extract 0 k).size ≤ maxLen := by rw [ByteArray.size_extract]; unfold maxLen; omega
      have KG := Lib.hid (fun w => gap_any s[k] w)
      have KT := Lib.hid (fun w => tail_spec (s.extract 0 k) w hex)
      have hml := tailN_le (s.extract 0 k)
      rw [ByteArray.size_extract] at hml
      generalize htn : tailN (s.extract 0 k) = tn at *
      clear hex htn
      have HNX : Hid (endP s k = false → ∀ j, j < k + 1 → endP s j = false) := by
        intro h j hj
        by_cases e : j = k
        · rw [e]; exact h
        · exact hno.out j (by omega)
      have HEN : Hid (endP s k = true → cutP s = (s.extract 0 k, restP (s.extract k s.size))) := fun h => HCU.out k hk hno.out (fun _ => h)
      have t61 : ((s[k].toNat : Int) == 61) = (s[k] == 61) := by
        by_cases e : s[k] = 61
        · rw [e]; rfl
        · have h1 : (s[k] == 61) = false := by simpa using e
          rw [h1, beq_eq_false_iff_ne]; intro e2; exact e (UInt8.toNat_inj.1 (Int.ofNat_inj.1 e2))
      have t58 : ((s[k].toNat : Int) == 58) = (s[k] == 58) := by
        by_cases e : s[k] = 58
        · rw [e]; rfl
        · have h1 : (s[k] == 58) = false := by simpa using e
          rw [h1, beq_eq_false_iff_ne]; intro e2; exact e (UInt8.toNat_inj.1 (Int.ofNat_inj.1 e2))
      have tmod : ((tn : Int) % 2 == 0) = (tn % 2 == 0) := by
        rcases (show tn % 2 = 0 ∨ tn % 2 = 1 by omega) with h | h
        · rw [h, show (tn : Int) % 2 = 0 by omega]; rfl
        · rw [h, show (tn : Int) % 2 = 1 by omega]; rfl
      generalize gapB s[k] = b0 at *
      generalize (s[k] == 61) = b1 at *
      generalize (s[k] == 58) = b2 at *
      generalize (tn % 2 == 0) = b3 at *
      cases b0
      · cases b1
        · cases b2
          · have hno2 := Lib.hid (HNX.out (by rw [hat]; rfl))
            clear KT HNX HEN hat hno HCU tmod
            go_wp2_with fail
            refine (KG.out _).mono ?_
            rintro e w4 ⟨rfl, rfl⟩
            clear KG
            go_wp2
            go_roundw
            case rel => exact ⟨k + 1, by omega, by go_num, hno2, trivial⟩
            case measure => simp [intOf]; omega
          · skip
            go_wp2_with fail
            refine (KG.out _).mono ?_
            rintro e w4 ⟨rfl, rfl⟩
            go_wp2_with fail
            refine (KT.out _).mono ?_
            rintro e w4 ⟨rfl, rfl⟩
            cases b3
            · have hno2 := Lib.hid (HNX.out (by rw [hat]; rfl))
              clear KG KT HNX HEN hat hno HCU
              go_wp2
              go_roundw
              case rel => exact ⟨k + 1, by omega, by go_num, hno2, trivial⟩
              case measure => simp [intOf]; omega
            · have HV := Lib.hid (HEN.out (by rw [hat]; rfl))
              clear KG KT HNX HEN HCU
              clear hno hat
              have hle2 : (k : Int) ≤ (s.size : Int) := by omega
              go_wp2_with fail
              have hx1 : (s.extract k s.size).size ≤ 100000000 := by rw [ByteArray.size_extract]; omega
              have KL := Lib.hid (fun w => lead_spec (s.extract k s.size) w hx1)
              have HRP : Hid (restP (s.extract k s.size) = if h : 0 < (leadP (s.extract k s.size)).size then (if sepP (leadP (s.extract k s.size))[0] then leadP ((leadP (s.extract k s.size)).extract 1 (leadP (s.extract k s.size)).size) else leadP (s.extract k s.size)) else leadP (s.extract k s.size)) := rfl
              have hys := leadP_size (s.extract k s.size)
              generalize s.extract k s.size = x at *
              generalize hy : leadP x = y at *
              clear hy
              refine (KL.out _).mono ?_
              rintro e w4 ⟨rfl, rfl⟩
              clear KL
              by_cases hy0 : 0 < y.size
              · obtain ⟨f1, f2⟩ := text_someP y hy0
                have hyi : (0 : Int) < (y.size : Int) := by omega
                have HRP2 : Hid (restP x = if sepP y[0] then leadP (y.extract 1 y.size) else y) := by unfold Hid; rw [HRP.out, dif_pos hy0]
                have hs0 : sepP y[0] = (y[0] == 61 || y[0] == 58) := rfl
                clear HRP
                have hx2 : (y.extract 1 y.size).size ≤ 100000000 := by rw [ByteArray.size_extract]; omega
                have KL2 := Lib.hid (fun w => lead_spec (y.extract 1 y.size) w hx2)
                have hyo : (1 : Int) ≤ (y.size : Int) := by omega
                by_cases t1 : y[0] = 61
                · have u1 : ((y[0].toNat : Int) == 61) = true := by rw [t1]; rfl
                  have HV2 : Hid (cutP s = (s.extract 0 k, leadP (y.extract 1 y.size))) := by unfold Hid; rw [HV.out, HRP2.out, if_pos (by rw [hs0, t1]; rfl)]
                  clear HV HRP2 hs0 t1
                  go_wp2_with fail
                  refine (KL2.out _).mono ?_
                  rintro e w5 ⟨rfl, rfl⟩
                  go_wp2
                  go_ret2
                  exact ⟨by rw [HV2.out]; rfl, rfl⟩
                · have u1 : ((y[0].toNat : Int) == 61) = false := by rw [beq_eq_false_iff_ne]; intro e; exact t1 (UInt8.toNat_inj.1 (Int.ofNat_inj.1 e))
                  by_cases t2 : y[0] = 58
                  · have u2 : ((y[0].toNat : Int) == 58) = true := by rw [t2]; rfl
                    have HV2 : Hid (cutP s = (s.extract 0 k, leadP (y.extract 1 y.size))) := by unfold Hid; rw [HV.out, HRP2.out, if_pos (by rw [hs0, t2]; rfl)]
                    clear HV HRP2 hs0 t1 t2
                    go_wp2_with fail
                    refine (KL2.out _).mono ?_
                    rintro e w5 ⟨rfl, rfl⟩
                    go_wp2
                    go_ret2
                    exact ⟨by rw [HV2.out]; rfl, rfl⟩
                  · have u2 : ((y[0].toNat : Int) == 58) = false := by rw [beq_eq_false_iff_ne]; intro e; exact t2 (UInt8.toNat_inj.1 (Int.ofNat_inj.1 e))
                    have HV2 : Hid (cutP s = (s.extract 0 k, y)) := by unfold Hid; rw [HV.out, HRP2.out, if_neg (by rw [hs0]; simp [t1, t2])]
                    clear HV HRP2 hs0 t1 t2 KL2
                    go_wp2
                    go_ret2
                    exact ⟨by rw [HV2.out]; rfl, rfl⟩
              · obtain ⟨f1, f2⟩ := text_noneP y (by omega)
                have HV2 : Hid (cutP s = (s.extract 0 k, y)) := by unfold Hid; rw [HV.out, HRP.out, dif_neg hy0]
                clear HV HRP
                go_wp2
                go_ret2
                exact ⟨by rw [HV2.out]; rfl, rfl⟩
        · skip
          go_wp2_with fail
          refine (KG.out _).mono ?_
          rintro e w4 ⟨rfl, rfl⟩
          go_wp2_with fail
          refine (KT.out _).mono ?_
          rintro e w4 ⟨rfl, rfl⟩
          cases b3
          · have hno2 := Lib.hid (HNX.out (by rw [hat]; rfl))
            clear KG KT HNX HEN hat hno HCU
            go_wp2
            go_roundw
            case rel => exact ⟨k + 1, by omega, by go_num, hno2, trivial⟩
            case measure => simp [intOf]; omega
          · have HV := Lib.hid (HEN.out (by rw [hat]; rfl))
            clear KG KT HNX HEN HCU
            clear hno hat
            have hle2 : (k : Int) ≤ (s.size : Int) := by omega
            go_wp2_with fail
            have hx1 : (s.extract k s.size).size ≤ 100000000 := by rw [ByteArray.size_extract]; omega
            have KL := Lib.hid (fun w => lead_spec (s.extract k s.size) w hx1)
            have HRP : Hid (restP (s.extract k s.size) = if h : 0 < (leadP (s.extract k s.size)).size then (if sepP (leadP (s.extract k s.size))[0] then leadP ((leadP (s.extract k s.size)).extract 1 (leadP (s.extract k s.size)).size) else leadP (s.extract k s.size)) else leadP (s.extract k s.size)) := rfl
            have hys := leadP_size (s.extract k s.size)
            generalize s.extract k s.size = x at *
            generalize hy : leadP x = y at *
            clear hy
            refine (KL.out _).mono ?_
            rintro e w4 ⟨rfl, rfl⟩
            clear KL
            by_cases hy0 : 0 < y.size
            · obtain ⟨f1, f2⟩ := text_someP y hy0
              have hyi : (0 : Int) < (y.size : Int) := by omega
              have HRP2 : Hid (restP x = if sepP y[0] then leadP (y.extract 1 y.size) else y) := by unfold Hid; rw [HRP.out, dif_pos hy0]
              have hs0 : sepP y[0] = (y[0] == 61 || y[0] == 58) := rfl
              clear HRP
              have hx2 : (y.extract 1 y.size).size ≤ 100000000 := by rw [ByteArray.size_extract]; omega
              have KL2 := Lib.hid (fun w => lead_spec (y.extract 1 y.size) w hx2)
              have hyo : (1 : Int) ≤ (y.size : Int) := by omega
              by_cases t1 : y[0] = 61
              · have u1 : ((y[0].toNat : Int) == 61) = true := by rw [t1]; rfl
                have HV2 : Hid (cutP s = (s.extract 0 k, leadP (y.extract 1 y.size))) := by unfold Hid; rw [HV.out, HRP2.out, if_pos (by rw [hs0, t1]; rfl)]
                clear HV HRP2 hs0 t1
                go_wp2_with fail
                refine (KL2.out _).mono ?_
                rintro e w5 ⟨rfl, rfl⟩
                go_wp2
                go_ret2
                exact ⟨by rw [HV2.out]; rfl, rfl⟩
              · have u1 : ((y[0].toNat : Int) == 61) = false := by rw [beq_eq_false_iff_ne]; intro e; exact t1 (UInt8.toNat_inj.1 (Int.ofNat_inj.1 e))
                by_cases t2 : y[0] = 58
                · have u2 : ((y[0].toNat : Int) == 58) = true := by rw [t2]; rfl
                  have HV2 : Hid (cutP s = (s.extract 0 k, leadP (y.extract 1 y.size))) := by unfold Hid; rw [HV.out, HRP2.out, if_pos (by rw [hs0, t2]; rfl)]
                  clear HV HRP2 hs0 t1 t2
                  go_wp2_with fail
                  refine (KL2.out _).mono ?_
                  rintro e w5 ⟨rfl, rfl⟩
                  go_wp2
                  go_ret2
                  exact ⟨by rw [HV2.out]; rfl, rfl⟩
                · have u2 : ((y[0].toNat : Int) == 58) = false := by rw [beq_eq_false_iff_ne]; intro e; exact t2 (UInt8.toNat_inj.1 (Int.ofNat_inj.1 e))
                  have HV2 : Hid (cutP s = (s.extract 0 k, y)) := by unfold Hid; rw [HV.out, HRP2.out, if_neg (by rw [hs0]; simp [t1, t2])]
                  clear HV HRP2 hs0 t1 t2 KL2
                  go_wp2
                  go_ret2
                  exact ⟨by rw [HV2.out]; rfl, rfl⟩
            · obtain ⟨f1, f2⟩ := text_noneP y (by omega)
              have HV2 : Hid (cutP s = (s.extract 0 k, y)) := by unfold Hid; rw [HV.out, HRP.out, dif_neg hy0]
              clear HV HRP
              go_wp2
              go_ret2
              exact ⟨by rw [HV2.out]; rfl, rfl⟩
      · skip
        go_wp2_with fail
        refine (KG.out _).mono ?_
        rintro e w4 ⟨rfl, rfl⟩
        go_wp2_with fail
        refine (KT.out _).mono ?_
        rintro e w4 ⟨rfl, rfl⟩
        cases b3
        · have hno2 := Lib.hid (HNX.out (by rw [hat]; rfl))
          clear KG KT HNX HEN hat hno HCU
          go_wp2
          go_roundw
          case rel => exact ⟨k + 1, by omega, by go_num, hno2, trivial⟩
          case measure => simp [intOf]; omega
        · have HV := Lib.hid (HEN.out (by rw [hat]; rfl))
          clear KG KT HNX HEN HCU
          clear hno hat
          have hle2 : (k : Int) ≤ (s.size : Int) := by omega
          go_wp2_with fail
          have hx1 : (s.extract k s.size).size ≤ 100000000 := by rw [ByteArray.size_extract]; omega
          have KL := Lib.hid (fun w => lead_spec (s.extract k s.size) w hx1)
          have HRP : Hid (restP (s.extract k s.size) = if h : 0 < (leadP (s.extract k s.size)).size then (if sepP (leadP (s.extract k s.size))[0] then leadP ((leadP (s.extract k s.size)).extract 1 (leadP (s.extract k s.size)).size) else leadP (s.extract k s.size)) else leadP (s.extract k s.size)) := rfl
          have hys := leadP_size (s.extract k s.size)
          generalize s.extract k s.size = x at *
          generalize hy : leadP x = y at *
          clear hy
          refine (KL.out _).mono ?_
          rintro e w4 ⟨rfl, rfl⟩
          clear KL
          by_cases hy0 : 0 < y.size
          · obtain ⟨f1, f2⟩ := text_someP y hy0
            have hyi : (0 : Int) < (y.size : Int) := by omega
            have HRP2 : Hid (restP x = if sepP y[0] then leadP (y.extract 1 y.size) else y) := by unfold Hid; rw [HRP.out, dif_pos hy0]
            have hs0 : sepP y[0] = (y[0] == 61 || y[0] == 58) := rfl
            clear HRP
            have hx2 : (y.extract 1 y.size).size ≤ 100000000 := by rw [ByteArray.size_extract]; omega
            have KL2 := Lib.hid (fun w => lead_spec (y.extract 1 y.size) w hx2)
            have hyo : (1 : Int) ≤ (y.size : Int) := by omega
            by_cases t1 : y[0] = 61
            · have u1 : ((y[0].toNat : Int) == 61) = true := by rw [t1]; rfl
              have HV2 : Hid (cutP s = (s.extract 0 k, leadP (y.extract 1 y.size))) := by unfold Hid; rw [HV.out, HRP2.out, if_pos (by rw [hs0, t1]; rfl)]
              clear HV HRP2 hs0 t1
              go_wp2_with fail
              refine (KL2.out _).mono ?_
              rintro e w5 ⟨rfl, rfl⟩
              go_wp2
              go_ret2
              exact ⟨by rw [HV2.out]; rfl, rfl⟩
            · have u1 : ((y[0].toNat : Int) == 61) = false := by rw [beq_eq_false_iff_ne]; intro e; exact t1 (UInt8.toNat_inj.1 (Int.ofNat_inj.1 e))
              by_cases t2 : y[0] = 58
              · have u2 : ((y[0].toNat : Int) == 58) = true := by rw [t2]; rfl
                have HV2 : Hid (cutP s = (s.extract 0 k, leadP (y.extract 1 y.size))) := by unfold Hid; rw [HV.out, HRP2.out, if_pos (by rw [hs0, t2]; rfl)]
                clear HV HRP2 hs0 t1 t2
                go_wp2_with fail
                refine (KL2.out _).mono ?_
                rintro e w5 ⟨rfl, rfl⟩
                go_wp2
                go_ret2
                exact ⟨by rw [HV2.out]; rfl, rfl⟩
              · have u2 : ((y[0].toNat : Int) == 58) = false := by rw [beq_eq_false_iff_ne]; intro e; exact t2 (UInt8.toNat_inj.1 (Int.ofNat_inj.1 e))
                have HV2 : Hid (cutP s = (s.extract 0 k, y)) := by unfold Hid; rw [HV.out, HRP2.out, if_neg (by rw [hs0]; simp [t1, t2])]
                clear HV HRP2 hs0 t1 t2 KL2
                go_wp2
                go_ret2
                exact ⟨by rw [HV2.out]; rfl, rfl⟩
          · obtain ⟨f1, f2⟩ := text_noneP y (by omega)
            have HV2 : Hid (cutP s = (s.extract 0 k, y)) := by unfold Hid; rw [HV.out, HRP.out, dif_neg hy0]
            clear HV HRP
            go_wp2
            go_ret2
            exact ⟨by rw [HV2.out]; rfl, rfl⟩
    · have HV := Lib.hid (HCU.out k hk hno.out (fun h => absurd h hlt))
      have hkd : decide (k < s.size) = false := by rw [decide_eq_false_iff_not]; omega
      have hat : True := trivial
      clear HCU hlt
      clear hno hat
      have hle2 : (k : Int) ≤ (s.size : Int) := by omega
      go_wp2_with fail
      have hx1 : (s.extract k s.size).size ≤ 100000000 := by rw [ByteArray.size_extract]; omega
      have KL := Lib.hid (fun w => lead_spec (s.extract k s.size) w hx1)
      have HRP : Hid (restP (s.extract k s.size) = if h : 0 < (leadP (s.extract k s.size)).size then (if sepP (leadP (s.extract k s.size))[0] then leadP ((leadP (s.extract k s.size)).extract 1 (leadP (s.extract k s.size)).size) else leadP (s.extract k s.size)) else leadP (s.extract k s.size)) := rfl
      have hys := leadP_size (s.extract k s.size)
      generalize s.extract k s.size = x at *
      generalize hy : leadP x = y at *
      clear hy
      refine (KL.out _).mono ?_
      rintro e w4 ⟨rfl, rfl⟩
      clear KL
      by_cases hy0 : 0 < y.size
      · obtain ⟨f1, f2⟩ := text_someP y hy0
        have hyi : (0 : Int) < (y.size : Int) := by omega
        have HRP2 : Hid (restP x = if sepP y[0] then leadP (y.extract 1 y.size) else y) := by unfold Hid; rw [HRP.out, dif_pos hy0]
        have hs0 : sepP y[0] = (y[0] == 61 || y[0] == 58) := rfl
        clear HRP
        have hx2 : (y.extract 1 y.size).size ≤ 100000000 := by rw [ByteArray.size_extract]; omega
        have KL2 := Lib.hid (fun w => lead_spec (y.extract 1 y.size) w hx2)
        have hyo : (1 : Int) ≤ (y.size : Int) := by omega
        by_cases t1 : y[0] = 61
        · have u1 : ((y[0].toNat : Int) == 61) = true := by rw [t1]; rfl
          have HV2 : Hid (cutP s = (s.extract 0 k, leadP (y.extract 1 y.size))) := by unfold Hid; rw [HV.out, HRP2.out, if_pos (by rw [hs0, t1]; rfl)]
          clear HV HRP2 hs0 t1
          go_wp2_with fail
          refine (KL2.out _).mono ?_
          rintro e w5 ⟨rfl, rfl⟩
          go_wp2
          go_ret2
          exact ⟨by rw [HV2.out]; rfl, rfl⟩
        · have u1 : ((y[0].toNat : Int) == 61) = false := by rw [beq_eq_false_iff_ne]; intro e; exact t1 (UInt8.toNat_inj.1 (Int.ofNat_inj.1 e))
          by_cases t2 : y[0] = 58
          · have u2 : ((y[0].toNat : Int) == 58) = true := by rw [t2]; rfl
            have HV2 : Hid (cutP s = (s.extract 0 k, leadP (y.extract 1 y.size))) := by unfold Hid; rw [HV.out, HRP2.out, if_pos (by rw [hs0, t2]; rfl)]
            clear HV HRP2 hs0 t1 t2
            go_wp2_with fail
            refine (KL2.out _).mono ?_
            rintro e w5 ⟨rfl, rfl⟩
            go_wp2
            go_ret2
            exact ⟨by rw [HV2.out]; rfl, rfl⟩
          · have u2 : ((y[0].toNat : Int) == 58) = false := by rw [beq_eq_false_iff_ne]; intro e; exact t2 (UInt8.toNat_inj.1 (Int.ofNat_inj.1 e))
            have HV2 : Hid (cutP s = (s.extract 0 k, y)) := by unfold Hid; rw [HV.out, HRP2.out, if_neg (by rw [hs0]; simp [t1, t2])]
            clear HV HRP2 hs0 t1 t2 KL2
            go_wp2
            go_ret2
            exact ⟨by rw [HV2.out]; rfl, rfl⟩
      · obtain ⟨f1, f2⟩ := text_noneP y (by omega)
        have HV2 : Hid (cutP s = (s.extract 0 k, y)) := by unfold Hid; rw [HV.out, HRP.out, dif_neg hy0]
        clear HV HRP
        go_wp2
        go_ret2
        exact ⟨by rw [HV2.out]; rfl, rfl⟩

end Go.Proofs.YtflnpkckdjmljaaDoor
