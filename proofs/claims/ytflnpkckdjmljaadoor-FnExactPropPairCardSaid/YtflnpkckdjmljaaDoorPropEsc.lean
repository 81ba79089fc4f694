/- Texts of property files written: the program's PropKey, PropValue and PropPair. -/
import Derived.Test.YtflnpkckdjmljaaDoorProg
import Derived.Test.YtflnpkckdjmljaaDoorPlain
import Derived.Test.YtflnpkckdjmljaaDoorHex
import Derived.Test.YtflnpkckdjmljaaDoorCut
import Derived.Test.YtflnpkckdjmljaaDoorRunePure
import Derived.Test.YtflnpkckdjmljaaDoorRuneText
import Derived.Test.YtflnpkckdjmljaaDoorInts
import Derived.Test.YtflnpkckdjmljaaDoorBuild
import Derived.Test.YtflnpkckdjmljaaDoorBuiltByte
import Derived.Test.YtflnpkckdjmljaaDoorTextOf
import Derived.Test.YtflnpkckdjmljaaDoorNextSpec
import Derived.Test.YtflnpkckdjmljaaDoorValid
import Derived.Test.YtflnpkckdjmljaaDoorSigns
import Derived.Test.YtflnpkckdjmljaaDoorPutEsc
import Derived.Test.YtflnpkckdjmljaaDoorLayProp
import Derived.Test.YtflnpkckdjmljaaDoorPropPure
import Derived.Test.YtflnpkckdjmljaaDoorPropWrite
import Derived.Test.YtflnpkckdjmljaaDoorPropPut
import Derived.Test.YtflnpkckdjmljaaDoorPropPair
import Derived.WalkKit
import Derived.WalkLawsBesides
import Derived.OwnWalk
import Derived.Lib.AppendStr
import Derived.Laws.IdiomStrings
import Derived.Lib.Hide
import Derived.IntWalk
set_option maxRecDepth 100000
namespace Go.Proofs.YtflnpkckdjmljaaDoor
open Go.RowKit
set_option linter.unusedVariables false

/-- the cell of a variable of the library's own holds some number -/
def MaxV (w : World) : Prop := ∃ m, w.cell? ⟨2, 0, none⟩ = some (.int .i64 m)
theorem MaxV.over {w w' : World} (h : MaxV w) (hb : Below w.heap.size w w') : MaxV w' := by
  obtain ⟨m, hm⟩ := h
  exact ⟨m, (hb.cell (p := ⟨2, 0, none⟩) (World.block_lt_of_cell? _ _ hm)).trans hm⟩
/-- all that the program's writing asks of the library's variables -/
def Tabs7 (w : World) : Prop := TabsV w ∧ MaxV w
theorem Tabs7.over {w w' : World} (h : Tabs7 w) (hb : Below w.heap.size w w') : Tabs7 w' := ⟨tabs_over h.1 hb, h.2.over hb⟩

/-- the bytes that get a byte 92 -/
def marksB (all : Bool) : ByteArray := if all then ⟨#[61, 58, 35, 33, 92, 32]⟩ else ⟨#[61, 58, 35, 33, 92]⟩
theorem marksB_has (all : Bool) (c : UInt8) : (marksB all).data.toList.contains c = propM all c := by
  cases all
  · show ([61, 58, 35, 33, 92] : List UInt8).contains c = propM false c
    unfold propM
    simp only [List.contains_cons, List.contains_nil, Bool.or_false, Bool.and_false]
    cases c == 61 <;> cases c == 58 <;> cases c == 35 <;> cases c == 33 <;> cases c == 92 <;> rfl
  · show ([61, 58, 35, 33, 92, 32] : List UInt8).contains c = propM true c
    unfold propM
    simp only [List.contains_cons, List.contains_nil, Bool.or_false, Bool.and_true]
    cases c == 61 <;> cases c == 58 <;> cases c == 35 <;> cases c == 33 <;> cases c == 92 <;> cases c == 32 <;> rfl
theorem idx_one (c : UInt8) (l : List UInt8) : Lib.contains l [c] = l.contains c := by
  unfold Lib.contains
  induction l with
  | nil => rfl
  | cons b l ih =>
    have hg := Lib.index_ge l [c]
    have hp : [c].isPrefixOf (b :: l) = (c == b) := by simp [List.isPrefixOf]
    rw [List.contains_cons]
    unfold Lib.index
    rw [hp]
    cases hcb : c == b
    · rw [if_neg (by simp), Bool.false_or, ← ih]
      by_cases h1 : Lib.index l [c] = -1
      · rw [if_pos (by simp [h1]), h1]
      · rw [if_neg (by simpa using h1), decide_eq_true (by omega), decide_eq_true (by omega)]
    · rw [if_pos rfl, Bool.true_or]
      rfl
theorem idx_none (c : UInt8) (t : List UInt8) (l : List UInt8) (h : l.contains c = false) : Lib.contains l (c :: t) = false := by
  have key : Lib.index l (c :: t) = -1 := by
    induction l with
    | nil => rfl
    | cons b l ih =>
      rw [List.contains_cons, Bool.or_eq_false_iff] at h
      have hp : (c :: t).isPrefixOf (b :: l) = false := by simp [List.isPrefixOf, h.1]
      unfold Lib.index
      rw [hp, ih h.2]
      rfl
  unfold Lib.contains
  rw [key]
  rfl
theorem signB_low {r : Nat} (h : r < 128) : signB r = [u8 r] := by unfold signB; rw [if_pos h]
theorem signB_highE {r : Nat} (h : ¬ r < 128) (hr : isSign r = true) : ∃ c t, signB r = c :: t ∧ 192 ≤ c.toNat := by
  have hb := (isSign_iff r).1 hr
  unfold signB
  rw [if_neg h]
  split
  · exact ⟨_, _, rfl, by rw [u8_nat _ (by omega)]; omega⟩
  · split
    · exact ⟨_, _, rfl, by rw [u8_nat _ (by omega)]; omega⟩
    · exact ⟨_, _, rfl, by rw [u8_nat _ (by omega)]; omega⟩
theorem marks_sign (all : Bool) (r : Nat) (hr : isSign r = true) : Lib.contains (marksB all).data.toList (signB r) = (decide (r < 128) && propM all (u8 r)) := by
  by_cases h : r < 128
  · rw [signB_low h, idx_one, marksB_has, decide_eq_true h, Bool.true_and]
  · obtain ⟨c, t, hc, hn⟩ := signB_highE h hr
    rw [hc, decide_eq_false h, Bool.false_and]
    refine idx_none c t _ ?_
    rw [marksB_has, ← Bool.not_eq_true]
    intro hm
    rcases propM_byte hm with e | e | e | e | e | e <;> (rw [e] at hn; exact absurd hn (by decide))
theorem marksB_size (all : Bool) : (marksB all).size ≤ 6 := by cases all <;> decide

set_option maxHeartbeats 1600000 in
theorem propEscape_impl (all : Bool) (r : Nat) (hr : isSign r = true) (w : World) (hm : MaxV w) :
    Calls Tryd.prog 63 #[.int .i64 (r : Int), .string (marksB all)] w fun e w' => e = .returned (.string ⟨(eW all r).toArray⟩) ∧ Below w.heap.size w w' := by
  obtain ⟨m, hm⟩ := hm
  have hb := (isSign_iff r).1 hr
  have KC := Lib.hid (fun w h => Any.strings_Contains lays144 (marksB all) ⟨(signB r).toArray⟩ m w (by have := marksB_size all; omega) h)
  have hcq : Lib.contains (marksB all).data.toList (⟨(signB r).toArray⟩ : ByteArray).data.toList = (decide (r < 128) && propM all (u8 r)) := marks_sign all r hr
  rw [hcq] at KC
  have KS := Lib.hid (fun w => signText_impl (r : Int) w)
  rw [signT_good (r := r) (by rw [sgn_nat]; exact hr)] at KS
  have KE := Lib.hid (fun w => escaped_impl (r : Int) w (by rw [sgn_nat]; exact hr))
  have hes : escI (r : Int) = escB r := by unfold escI; rw [Int.toNat_natCast]
  rw [hes] at KE
  have HM := Lib.hid hm
  clear hcq hes hm
  generalize marksB all = mb at *
  by_cases e10 : r = 10
  · subst e10
    go_enter Tryd.func63, Tryd.ntmps63
    go_wp2
    go_ret
    exact ⟨rfl, Below.refl _ _⟩
  · by_cases e9 : r = 9
    · subst e9
      go_enter Tryd.func63, Tryd.ntmps63
      go_wp2
      go_ret
      exact ⟨rfl, Below.refl _ _⟩
    · by_cases e13 : r = 13
      · subst e13
        go_enter Tryd.func63, Tryd.ntmps63
        go_wp2
        go_ret
        exact ⟨rfl, Below.refl _ _⟩
      · by_cases e12 : r = 12
        · subst e12
          go_enter Tryd.func63, Tryd.ntmps63
          go_wp2
          go_ret
          exact ⟨rfl, Below.refl _ _⟩
        · have n10 : ((r : Int) == 10) = false := by rw [beq_eq_false_iff_ne]; omega
          have n9 : ((r : Int) == 9) = false := by rw [beq_eq_false_iff_ne]; omega
          have n13 : ((r : Int) == 13) = false := by rw [beq_eq_false_iff_ne]; omega
          have n12 : ((r : Int) == 12) = false := by rw [beq_eq_false_iff_ne]; omega
          cases hq : (decide (r < 128) && propM all (u8 r))
          · rw [hq] at KC
            have HV := Lib.hid (eW_rest (all := all) e10 e9 e13 e12 (fun h => by rw [decide_eq_true h, Bool.true_and] at hq; exact hq))
            clear hq e10 e9 e13 e12 hb
            generalize signB r = tx at *
            generalize (r : Int) = rz at *
            go_enter Tryd.func63, Tryd.ntmps63
            go_wp2_with fail
            refine (KS.out _).mono ?_
            rintro e w1 ⟨rfl, rfl⟩
            go_wp2_with fail
            refine (KC.out w HM.out).mono ?_
            rintro e w1 ⟨rfl, rfl⟩
            go_wp2_with fail
            refine (KE.out _).mono ?_
            rintro e w1 ⟨rfl, hb1⟩
            go_wp2
            go_ret
            exact ⟨by rw [HV.out]; rfl, hb1⟩
          · rw [hq] at KC
            rw [Bool.and_eq_true, decide_eq_true_eq] at hq
            have HV := Lib.hid (eW_mark hq.1 e10 e9 e13 e12 hq.2)
            have HT := Lib.hid (signB_low hq.1)
            have HJ : Hid ((⟨#[92]⟩ : ByteArray) ++ ⟨(signB r).toArray⟩ = ⟨#[92, u8 r]⟩) := by unfold Hid; rw [HT.out]; rfl
            have htz : (⟨(signB r).toArray⟩ : ByteArray).size = 1 := by rw [HT.out]; rfl
            clear hq e10 e9 e13 e12 hb HT
            generalize (⟨(signB r).toArray⟩ : ByteArray) = tx at *
            generalize (r : Int) = rz at *
            go_enter Tryd.func63, Tryd.ntmps63
            go_wp2_with fail
            refine (KS.out _).mono ?_
            rintro e w1 ⟨rfl, rfl⟩
            go_wp2_with fail
            refine (KC.out w HM.out).mono ?_
            rintro e w1 ⟨rfl, rfl⟩
            go_wp2
            go_ret
            refine ⟨?_, Below.refl _ _⟩
            rw [HV.out]
            exact congrArg (fun x => Ending.returned (.string x)) HJ.out

end Go.Proofs.YtflnpkckdjmljaaDoor
