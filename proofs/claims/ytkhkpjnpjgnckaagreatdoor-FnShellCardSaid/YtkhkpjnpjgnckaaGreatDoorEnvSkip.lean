/- Environment files: 'export' skipped, what lies behind a line; the program's skipExport, behindLine, bareEnv. -/
import Derived.Shelf.Strings.Prefix
import Derived.Test.YtkhkpjnpjgnckaaGreatDoorProg
import Derived.Test.YtkhkpjnpjgnckaaGreatDoorPlain
import Derived.Test.YtkhkpjnpjgnckaaGreatDoorCut
import Derived.Test.YtkhkpjnpjgnckaaGreatDoorTrim
import Derived.Test.YtkhkpjnpjgnckaaGreatDoorTail
import Derived.Test.YtkhkpjnpjgnckaaGreatDoorLines
import Derived.Test.YtkhkpjnpjgnckaaGreatDoorSplitImpl
import Derived.Test.YtkhkpjnpjgnckaaGreatDoorDialectRows
import Derived.Test.YtkhkpjnpjgnckaaGreatDoorQuotSpec
import Derived.Test.YtkhkpjnpjgnckaaGreatDoorBareImpl
import Derived.Test.YtkhkpjnpjgnckaaGreatDoorEnvOne
import Derived.Test.YtkhkpjnpjgnckaaGreatDoorEnvTrim
import Derived.Test.YtkhkpjnpjgnckaaGreatDoorEnvLay
import Derived.Test.YtkhkpjnpjgnckaaGreatDoorEnvCut
import Derived.WalkKit
import Derived.WalkLawsBesides
import Derived.OwnWalk
import Derived.Laws.IdiomStrings
import Derived.Lib.Hide
import Derived.IntWalk
import Derived.Outline
set_option maxRecDepth 100000
namespace Go.Proofs.YtkhkpjnpjgnckaaGreatDoor
open Go.RowKit Go.Shelf
set_option linter.unusedVariables false

abbrev exportB : ByteArray := ⟨#[101, 120, 112, 111, 114, 116]⟩
/-- a text without 'export' ahead -/
def exP (t : ByteArray) : ByteArray := ⟨(Lib.trimPrefix t.data.toList exportB.data.toList).toArray⟩
def skipE (t : ByteArray) : ByteArray := if (start5 (exP t)).toList == (exP t).toList then t else start5 (exP t)
theorem exP_size (t : ByteArray) : (exP t).size ≤ t.size := by
  unfold exP Lib.trimPrefix
  rw [Lib.size_eq, Lib.size_eq]
  simp only []
  split
  · rw [List.length_drop]; omega
  · exact Nat.le_refl _
set_option maxHeartbeats 1600000 in
theorem skip_impl (t : ByteArray) (w : World) (ht : t.size ≤ 1048576) :
    Calls Tryz.prog 66 #[.string t] w fun e w' => e = .returned (.string (skipE t)) ∧ Below w.heap.size w w' := by
  have KT := Lib.hid (fun w => Any.strings_TrimPrefix lays101 t exportB w)
  have KS := Lib.hid (fun w => trimStart_impl (exP t) w)
  have HV : Hid (skipE t = if (start5 (exP t)).toList == (exP t).toList then t else start5 (exP t)) := rfl
  have HX : Hid ((⟨(Lib.trimPrefix t.data.toList exportB.data.toList).toArray⟩ : ByteArray) = exP t) := rfl
  rw [HX.out] at KT
  clear HX
  generalize skipE t = r at *
  generalize start5 (exP t) = u at *
  generalize exP t = x at *
  obtain ⟨b, hb⟩ : ∃ b, (u.toList == x.toList) = b := ⟨_, rfl⟩
  rw [hb] at HV
  have hb2 : (u.toList != x.toList) = !b := by rw [← hb]; rfl
  cases b
  · have HF : Hid (r = u) := HV.out
    clear HV
    go_enter Tryz.func66, Tryz.ntmps66
    go_wp2_with fail
    refine (KT.out _).mono ?_
    rintro e w1 ⟨rfl, rfl⟩
    go_wp2_with fail
    refine (KS.out _).mono ?_
    rintro e w1 ⟨rfl, hb1⟩
    go_wp2
    go_ret
    exact ⟨by rw [HF.out]; rfl, hb1⟩
  · have HF : Hid (r = t) := HV.out
    clear HV
    go_enter Tryz.func66, Tryz.ntmps66
    go_wp2_with fail
    refine (KT.out _).mono ?_
    rintro e w1 ⟨rfl, rfl⟩
    go_wp2_with fail
    refine (KS.out _).mono ?_
    rintro e w1 ⟨rfl, hb1⟩
    go_wp2
    go_ret
    exact ⟨by rw [HF.out]; rfl, hb1⟩

/-- what lies behind the first line -/
def behindL (s : ByteArray) : ByteArray := s.extract ((firstL s).1.size + (firstL s).2.size) s.size
theorem firstL_le (s : ByteArray) : (firstL s).1.size + (firstL s).2.size ≤ s.size := by
  by_cases h : s.size = 0
  · have h1 : endAt s = 0 := by have := endAt_le s; omega
    have e1 : (firstL s).1.size = 0 := by rw [show (firstL s).1 = s.extract 0 (endAt s) from rfl, ByteArray.size_extract]; omega
    have h2 : (s.extract (endAt s) s.size).size = 0 := by rw [ByteArray.size_extract]; omega
    have h3 : (s.extract (endAt s) s.size).data.toList = [] := List.eq_nil_of_length_eq_zero (by rw [← Lib.size_eq]; exact h2)
    have e2 : (firstL s).2.size = 0 := by
      show (leadB (s.extract (endAt s) s.size)).size = 0
      unfold leadB
      rw [if_neg (by rw [h3]; decide), ByteArray.size_extract]
      omega
    omega
  · exact (first_line s h).2.1
theorem behindL_size (s : ByteArray) : (behindL s).size ≤ s.size := by
  unfold behindL
  rw [ByteArray.size_extract]
  omega
set_option maxHeartbeats 1600000 in
theorem behindLine_impl (s : ByteArray) (w : World) (hs : s.size ≤ 1048576) :
    Calls Tryz.prog 71 #[.string s] w fun e w' => e = .returned (.string (behindL s)) ∧ Below w.heap.size w w' := by
  have KF := Lib.hid (fun w => firstLine_any s w hs)
  have hle := firstL_le s
  have HV : Hid (behindL s = s.extract ((firstL s).1.size + (firstL s).2.size) s.size) := rfl
  generalize behindL s = r at *
  generalize firstL s = x at *
  obtain ⟨x1, x2⟩ := x
  unfold lnV at KF
  simp only at KF hle HV
  have q0 : (0 : Int) ≤ (x1.size : Int) + (x2.size : Int) := by omega
  have q1 : (x1.size : Int) + (x2.size : Int) ≤ (s.size : Int) := by omega
  have q2 : ((x1.size : Int) + (x2.size : Int)).toNat = x1.size + x2.size := by omega
  go_enter Tryz.func71, Tryz.ntmps71
  go_wp2_with fail
  refine (KF.out _).mono ?_
  rintro e w1 ⟨rfl, hb1⟩
  have hb2 := hb1.alloc hb1.size (.cells #[.string x1, .string x2] 75)
  clear KF hb1
  go_wp2
  go_ret
  exact ⟨by rw [HV.out]; rfl, hb2⟩

/-- a value that isn't quoted -/
theorem hasTwo (v : ByteArray) : decide (firstIn (hasB ⟨#[39, 34]⟩) v < v.size) = (hasB v 39 || hasB v 34) := by
  have hc : ∀ c, hasB ⟨#[39, 34]⟩ c = (c == 39 || c == 34) := by
    intro c
    unfold hasB
    show ([39, 34] : List UInt8).contains c = _
    rw [List.contains_cons, List.contains_cons, List.contains_nil, Bool.or_false]
  unfold firstIn hasB
  by_cases h : List.findIdx (hasB ⟨#[39, 34]⟩) v.data.toList < v.size
  · rw [decide_eq_true (by exact h)]
    have h2 : List.findIdx (hasB ⟨#[39, 34]⟩) v.data.toList < v.data.toList.length := by rw [← Lib.size_eq]; exact h
    have h3 := List.findIdx_getElem (xs := v.data.toList) (p := hasB ⟨#[39, 34]⟩) (w := h2)
    have h4 := List.getElem_mem h2
    rw [hc] at h3
    generalize v.data.toList[List.findIdx (hasB ⟨#[39, 34]⟩) v.data.toList] = c at *
    symm
    rw [Bool.or_eq_true]
    rcases Bool.or_eq_true_iff.1 h3 with e | e
    · have e2 := beq_iff_eq.1 e
      subst e2
      exact .inl (by simpa using h4)
    · have e2 := beq_iff_eq.1 e
      subst e2
      exact .inr (by simpa using h4)
  · rw [decide_eq_false (by exact h)]
    have h1 : List.findIdx (hasB ⟨#[39, 34]⟩) v.data.toList = v.data.toList.length := by
      have := List.findIdx_le_length (xs := v.data.toList) (p := hasB ⟨#[39, 34]⟩)
      rw [← Lib.size_eq] at this ⊢
      omega
    have hn : ∀ c ∈ v.data.toList, hasB ⟨#[39, 34]⟩ c = false := by
      intro c hm
      have := (List.findIdx_eq_length).1 h1 c hm
      simpa using this
    symm
    rw [Bool.or_eq_false_iff]
    constructor
    · rw [Bool.eq_false_iff]
      intro e
      have := hn 39 (by simpa using e)
      rw [hc] at this
      cases this
    · rw [Bool.eq_false_iff]
      intro e
      have := hn 34 (by simpa using e)
      rw [hc] at this
      cases this
/-- a byte that is no blank stays where blanks go -/
theorem trim_has (v : ByteArray) (c : UInt8) (h : blankB c = false) : hasB (trimE v) c = hasB v c := by
  unfold hasB trimE
  show (trimL v.data.toList).contains c = _
  have hd : ∀ l : List UInt8, (l.dropWhile blankB).contains c = l.contains c := by
    intro l
    induction l with
    | nil => rfl
    | cons a l ih =>
      by_cases ha : blankB a = true
      · rw [List.dropWhile_cons_of_pos ha, ih, List.contains_cons]
        have : (c == a) = false := by
          rw [beq_eq_false_iff_ne]
          intro e
          subst e
          rw [h] at ha
          cases ha
        rw [this, Bool.false_or]
      · rw [List.dropWhile_cons_of_neg ha]
  have hr : ∀ l : List UInt8, l.reverse.contains c = l.contains c := by
    intro l
    rw [Bool.eq_iff_iff]
    simp
  have hp : (fun x => List.contains [32, 9] x) = blankB := by funext x; exact blank_set x
  unfold trimL Lib.trimS Lib.trimRightS Lib.trimLeftS
  simp only [hp]
  first
    | rw [hr, hd, hr, hd]
    | rw [hd, hr, hd, hr]
set_option maxHeartbeats 1600000 in
theorem bareEnv_impl (s : ByteArray) (w : World) (hs : s.size ≤ 1048576) :
    Calls Tryz.prog 102 #[.string s] w fun e w' => e = .returned (.tuple #[.string (bareE s).1, .bool (bareE s).2]) ∧ Below w.heap.size w w' := by
  have HV : Hid (bareE s = (trimE (s.extract 0 (cutE s)), !(hasB (s.extract 0 (cutE s)) 39 || hasB (s.extract 0 (cutE s)) 34))) := by
    unfold Hid bareE
    rw [trim_has _ 39 (by decide), trim_has _ 34 (by decide), Bool.not_or]
  have HS : Hid (BoxAt (w.alloc (.cells #[.string s] 9)) w.heap.size s) := heap_alloc_new _ _
  have hb0 : Below w.heap.size w (w.alloc (.cells #[.string s] 9)) := (Below.refl _ _).alloc (Nat.le_refl _) _
  have hw0 : w.heap.size < (w.alloc (.cells #[.string s] 9)).heap.size := by simp
  have KW := Lib.hid (cutWhere_note s (w.alloc (.cells #[.string s] 9)) w.heap.size HS.out hw0 hs)
  have HR : Hid (∃ x2 o, cutRes s (cutE s) = .tuple #[.string (s.extract 0 (cutE s)), .string x2, .bool o]) := cutRes_text s (cutE s) (by
    unfold cutE
    have := List.findIdx_le_length (xs := List.range s.size) (p := noteE s)
    rw [List.length_range] at this
    exact this)
  have hvz : (s.extract 0 (cutE s)).size ≤ 1048576 := by rw [ByteArray.size_extract]; omega
  obtain ⟨x2, o, hx⟩ := HR.out
  rw [hx] at KW
  clear HR hx
  generalize s.extract 0 (cutE s) = v at *
  have KC := Lib.hid (fun w => cutAt_impl v ⟨#[39, 34]⟩ w hvz (by decide))
  have KT := Lib.hid (fun w => trimE_impl v w (by omega))
  have HO := Lib.hid (hasTwo v)
  have hcr : Hid (∃ y1 y2, cutRes v (firstIn (hasB ⟨#[39, 34]⟩) v) = .tuple #[.string y1, .string y2, .bool (hasB v 39 || hasB v 34)]) := by
    rw [← hasTwo v]
    unfold Hid cutRes
    by_cases h : firstIn (hasB ⟨#[39, 34]⟩) v < v.size
    · rw [if_pos h, decide_eq_true h]; exact ⟨_, _, rfl⟩
    · rw [if_neg h, decide_eq_false h]; exact ⟨_, _, rfl⟩
  obtain ⟨y1, y2, hy⟩ := hcr.out
  rw [hy] at KC
  generalize hq : (hasB v 39 || hasB v 34) = q at *
  generalize bareE s = r at *
  generalize trimE v = tv at *
  clear hcr hy HO hq
  have HS1 := HS.out.cell
  go_enter Tryz.func102, Tryz.ntmps102
  go_wp2_with fail
  generalize w.alloc (.cells #[.string s] 9) = W0 at *
  refine KW.out.mono ?_
  rintro e w1 ⟨rfl, hb1⟩
  have hb2 := hb0.trans (hb1.mono hb0.size)
  clear hb0 hb1 KW HS HS1
  go_wp2_with fail
  refine (KC.out _).mono ?_
  rintro e w2 ⟨rfl, n1, rfl⟩
  have hb3 := hb2.trans ((_root_.Go.below_drewN (Below.refl w1.heap.size w1) n1).mono hb2.size)
  clear hb2 KC
  generalize w1.drewN n1 = w3 at *
  go_wp2_with fail
  refine (KT.out _).mono ?_
  rintro e w4 ⟨rfl, hb4⟩
  have hb5 := hb3.trans (hb4.mono hb3.size)
  clear hb3 hb4 KT
  cases q
  all_goals
    go_wp2
    go_ret2
    exact ⟨by rw [HV.out]; rfl, hb5⟩

end Go.Proofs.YtkhkpjnpjgnckaaGreatDoor
