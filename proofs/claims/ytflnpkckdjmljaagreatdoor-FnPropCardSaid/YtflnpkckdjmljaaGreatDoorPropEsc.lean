/- Texts of property files written: the program's PropKey, PropValue and PropPair. -/
import Derived.Test.YtflnpkckdjmljaaGreatDoorProg
import Derived.Test.YtflnpkckdjmljaaGreatDoorPlain
import Derived.Test.YtflnpkckdjmljaaGreatDoorHex
import Derived.Test.YtflnpkckdjmljaaGreatDoorCut
import Derived.Test.YtflnpkckdjmljaaGreatDoorRunePure
import Derived.Test.YtflnpkckdjmljaaGreatDoorRuneText
import Derived.Test.YtflnpkckdjmljaaGreatDoorInts
import Derived.Test.YtflnpkckdjmljaaGreatDoorBuild
import Derived.Test.YtflnpkckdjmljaaGreatDoorBuiltByte
import Derived.Test.YtflnpkckdjmljaaGreatDoorTextOf
import Derived.Test.YtflnpkckdjmljaaGreatDoorNextSpec
import Derived.Test.YtflnpkckdjmljaaGreatDoorValid
import Derived.Test.YtflnpkckdjmljaaGreatDoorSigns
import Derived.Test.YtflnpkckdjmljaaGreatDoorPutEsc
import Derived.Test.YtflnpkckdjmljaaGreatDoorLayProp
import Derived.Test.YtflnpkckdjmljaaGreatDoorPropPure
import Derived.Test.YtflnpkckdjmljaaGreatDoorPropWrite
import Derived.Test.YtflnpkckdjmljaaGreatDoorPropPair
import Derived.WalkKit
import Derived.WalkLawsBesides
import Derived.OwnWalk
import Derived.Lib.AppendStr
import Derived.Laws.IdiomStrings
import Derived.Lib.Hide
import Derived.IntWalk
import Derived.Test.YtflnpkckdjmljaaGreatDoorSign
import Derived.Lib.OthersKept
set_option maxRecDepth 100000
namespace Go.Proofs.YtflnpkckdjmljaaGreatDoor
open Go.RowKit
set_option linter.unusedVariables false

/-- the cell of a variable of the library's own holds some number -/
def MaxV (w : World) : Prop := ∃ m, w.cell? ⟨2, 0, none⟩ = some (.int .i64 m)
theorem MaxV.over {w w' : World} (h : MaxV w) (hb : Below w.heap.size w w') : MaxV w' := by
  obtain ⟨m, hm⟩ := h
  exact ⟨m, (hb.cell (p := ⟨2, 0, none⟩) (World.block_lt_of_cell? _ _ hm)).trans hm⟩
/-- all that the program's writing asks of the library's variables -/
def Tabs7 (w : World) : Prop := TabsV w ∧ MaxV w
theorem Tabs7.over {w w' : World} (h : Tabs7 w) (hb : Below w.heap.size w w') : Tabs7 w' := ⟨tabs_over h.1 hb, h.2.over hb⟩

/-- the bytes that get a byte 92 -/
def marksB (all : Bool) : ByteArray := if all then ⟨#[61, 58, 35, 33, 92, 32]⟩ else ⟨#[61, 58, 35, 33, 92]⟩
theorem marksB_has (all : Bool) (c : UInt8) : (marksB all).data.toList.contains c = propM all c := by
  cases all
  · show ([61, 58, 35, 33, 92] : List UInt8).contains c = propM false c
    unfold propM
    simp only [List.contains_cons, List.contains_nil, Bool.or_false, Bool.and_false]
    cases c == 61 <;> cases c == 58 <;> cases c == 35 <;> cases c == 33 <;> cases c == 92 <;> rfl
  · show ([61, 58, 35, 33, 92, 32] : List UInt8).contains c = propM true c
    unfold propM
    simp only [List.contains_cons, List.contains_nil, Bool.or_false, Bool.and_true]
    cases c == 61 <;> cases c == 58 <;> cases c == 35 <;> cases c == 33 <;> cases c == 92 <;> cases c == 32 <;> rfl
theorem idx_one (c : UInt8) (l : List UInt8) : Lib.contains l [c] = l.contains c := by
  unfold Lib.contains
  induction l with
  | nil => rfl
  | cons b l ih =>
    have hg := Lib.index_ge l [c]
    have hp : [c].isPrefixOf (b :: l) = (c == b) := by simp [List.isPrefixOf]
    rw [List.contains_cons]
    unfold Lib.index
    rw [hp]
    cases hcb : c == b
    · rw [if_neg (by simp), Bool.false_or, ← ih]
      by_cases h1 : Lib.index l [c] = -1
      · rw [if_pos (by simp [h1]), h1]
      · rw [if_neg (by simpa using h1), decide_eq_true (by omega), decide_eq_true (by omega)]
    · rw [if_pos rfl, Bool.true_or]
      rfl
theorem idx_none (c : UInt8) (t : List UInt8) (l : List UInt8) (h : l.contains c = false) : Lib.contains l (c :: t) = false := by
  have key : Lib.index l (c :: t) = -1 := by
    induction l with
    | nil => rfl
    | cons b l ih =>
      rw [List.contains_cons, Bool.or_eq_false_iff] at h
      have hp : (c :: t).isPrefixOf (b :: l) = false := by simp [List.isPrefixOf, h.1]
      unfold Lib.index
      rw [hp, ih h.2]
      rfl
  unfold Lib.contains
  rw [key]
  rfl
theorem signB_low {r : Nat} (h : r < 128) : signB r = [u8 r] := by unfold signB; rw [if_pos h]
theorem signB_highE {r : Nat} (h : ¬ r < 128) (hr : isSign r = true) : ∃ c t, signB r = c :: t ∧ 192 ≤ c.toNat := by
  have hb := (isSign_iff r).1 hr
  unfold signB
  rw [if_neg h]
  split
  · exact ⟨_, _, rfl, by rw [u8_nat _ (by omega)]; omega⟩
  · split
    · exact ⟨_, _, rfl, by rw [u8_nat _ (by omega)]; omega⟩
    · exact ⟨_, _, rfl, by rw [u8_nat _ (by omega)]; omega⟩
theorem marks_sign (all : Bool) (r : Nat) (hr : isSign r = true) : Lib.contains (marksB all).data.toList (signB r) = (decide (r < 128) && propM all (u8 r)) := by
  by_cases h : r < 128
  · rw [signB_low h, idx_one, marksB_has, decide_eq_true h, Bool.true_and]
  · obtain ⟨c, t, hc, hn⟩ := signB_highE h hr
    rw [hc, decide_eq_false h, Bool.false_and]
    refine idx_none c t _ ?_
    rw [marksB_has, ← Bool.not_eq_true]
    intro hm
    rcases propM_byte hm with e | e | e | e | e | e <;> (rw [e] at hn; exact absurd hn (by decide))
theorem marksB_size (all : Bool) : (marksB all).size ≤ 6 := by cases all <;> decide

set_option maxHeartbeats 1600000 in
theorem propEscape_impl (all : Bool) (r : Nat) (hr : isSign r = true) (w : World) (hm : MaxV w) :
    Calls Tryz.prog 47 #[.int .i64 (r : Int), .string (marksB all)] w fun e w' => e = .returned (.string ⟨(eW all r).toArray⟩) ∧ Below w.heap.size w w' := by
  obtain ⟨m, hm⟩ := hm
  have hb := (isSign_iff r).1 hr
  have KC := Lib.hid (fun w h => Any.strings_Contains lays144 (marksB all) ⟨(signB r).toArray⟩ m w (by have := marksB_size all; omega) h)
  have hcq : Lib.contains (marksB all).data.toList (⟨(signB r).toArray⟩ : ByteArray).data.toList = (decide (r < 128) && propM all (u8 r)) := marks_sign all r hr
  rw [hcq] at KC
  have KS := Lib.hid (fun w => signText_impl (r : Int) w)
  rw [signT_good (r := r) (by rw [sgn_nat]; exact hr)] at KS
  have KE := Lib.hid (fun w => escaped_impl (r : Int) w (by rw [sgn_nat]; exact hr))
  have hes : escI (r : Int) = escB r := by unfold escI; rw [Int.toNat_natCast]
  rw [hes] at KE
  have HM := Lib.hid hm
  clear hcq hes hm
  generalize marksB all = mb at *
  by_cases e10 : r = 10
  · subst e10
    go_enter Tryz.func47, Tryz.ntmps47
    go_wp2
    go_ret
    exact ⟨rfl, Below.refl _ _⟩
  · by_cases e9 : r = 9
    · subst e9
      go_enter Tryz.func47, Tryz.ntmps47
      go_wp2
      go_ret
      exact ⟨rfl, Below.refl _ _⟩
    · by_cases e13 : r = 13
      · subst e13
        go_enter Tryz.func47, Tryz.ntmps47
        go_wp2
        go_ret
        exact ⟨rfl, Below.refl _ _⟩
      · by_cases e12 : r = 12
        · subst e12
          go_enter Tryz.func47, Tryz.ntmps47
          go_wp2
          go_ret
          exact ⟨rfl, Below.refl _ _⟩
        · have n10 : ((r : Int) == 10) = false := by rw [beq_eq_false_iff_ne]; omega
          have n9 : ((r : Int) == 9) = false := by rw [beq_eq_false_iff_ne]; omega
          have n13 : ((r : Int) == 13) = false := by rw [beq_eq_false_iff_ne]; omega
          have n12 : ((r : Int) == 12) = false := by rw [beq_eq_false_iff_ne]; omega
          cases hq : (decide (r < 128) && propM all (u8 r))
          · rw [hq] at KC
            have HV := Lib.hid (eW_rest (all := all) e10 e9 e13 e12 (fun h => by rw [decide_eq_true h, Bool.true_and] at hq; exact hq))
            clear hq e10 e9 e13 e12 hb
            generalize signB r = tx at *
            generalize (r : Int) = rz at *
            go_enter Tryz.func47, Tryz.ntmps47
            go_wp2_with fail
            refine (KS.out _).mono ?_
            rintro e w1 ⟨rfl, rfl⟩
            go_wp2_with fail
            refine (KC.out w HM.out).mono ?_
            rintro e w1 ⟨rfl, rfl⟩
            go_wp2_with fail
            refine (KE.out _).mono ?_
            rintro e w1 ⟨rfl, hb1⟩
            go_wp2
            go_ret
            exact ⟨by rw [HV.out]; rfl, hb1⟩
          · rw [hq] at KC
            rw [Bool.and_eq_true, decide_eq_true_eq] at hq
            have HV := Lib.hid (eW_mark hq.1 e10 e9 e13 e12 hq.2)
            have HT := Lib.hid (signB_low hq.1)
            have HJ : Hid ((⟨#[92]⟩ : ByteArray) ++ ⟨(signB r).toArray⟩ = ⟨#[92, u8 r]⟩) := by unfold Hid; rw [HT.out]; rfl
            have htz : (⟨(signB r).toArray⟩ : ByteArray).size = 1 := by rw [HT.out]; rfl
            clear hq e10 e9 e13 e12 hb HT
            generalize (⟨(signB r).toArray⟩ : ByteArray) = tx at *
            generalize (r : Int) = rz at *
            go_enter Tryz.func47, Tryz.ntmps47
            go_wp2_with fail
            refine (KS.out _).mono ?_
            rintro e w1 ⟨rfl, rfl⟩
            go_wp2_with fail
            refine (KC.out w HM.out).mono ?_
            rintro e w1 ⟨rfl, rfl⟩
            go_wp2
            go_ret
            refine ⟨?_, Below.refl _ _⟩
            rw [HV.out]
            exact congrArg (fun x => Ending.returned (.string x)) HJ.out

end Go.Proofs.YtflnpkckdjmljaaGreatDoor

/- Texts of property files written: the program's escapeProp, PropKey, PropValue and PropPair. -/
set_option maxRecDepth 100000
namespace Go.Proofs.YtflnpkckdjmljaaGreatDoor
open Go.RowKit
set_option linter.unusedVariables false

theorem others_ints {b g : Nat} {w w' : World} {cs : Array Value} {fz : Nat × Nat} (h : Others b w w') (hg : w.heap[g]? = some (.cells cs 3 fz)) (hne : g ≠ b) : w'.heap[g]? = some (.cells cs 3 fz) :=
  h g _ hg (by simpa using hne) (fun c fz2 e => by injection e with _ e2 _; exact absurd e2 (by decide))
theorem flat_take {α : Type} (f : α → List UInt8) (l : List α) (k : Nat) (h : k < l.length) : (l.take (k + 1)).flatMap f = (l.take k).flatMap f ++ f l[k] := by
  rw [List.take_succ_eq_append_getElem h, List.flatMap_append]
  simp
theorem flat_len {α : Type} (f : α → List UInt8) (hf : ∀ x, (f x).length ≤ 12) (l : List α) : (l.flatMap f).length ≤ 12 * l.length := by
  induction l with
  | nil => simp
  | cons x l ih =>
    have := hf x
    simp only [List.flatMap_cons, List.length_append, List.length_cons]
    omega
theorem flat_take_len {α : Type} (f : α → List UInt8) (hf : ∀ x, (f x).length ≤ 12) (l : List α) (k : Nat) : ((l.take k).flatMap f).length ≤ 12 * l.length := by
  have h1 := flat_len f hf (l.take k)
  rw [List.length_take] at h1
  omega
theorem escL7_none {all : Bool} {l : List UInt8} (h : signsO l = false) : escL7 all l = l.flatMap (propP all) := by
  unfold signsO at h
  unfold escL7
  rw [h]
  rfl
theorem escL7_some {all : Bool} {l : List UInt8} {rs : List Nat} (h : signsL l = some rs) : escL7 all l = rs.flatMap (eW all) := by
  unfold escL7
  rw [h]
  rfl

set_option maxHeartbeats 3200000 in
theorem escapeProp_impl (all : Bool) (s : ByteArray) (w : World) (hs : (s.size : Int) ≤ 1048576) (hT : Tabs7 w) :
    Calls Tryz.prog 27 #[.string s, .string (marksB all)] w fun e w' => e = .returned (.string ⟨(escL7 all s.data.toList).toArray⟩) ∧ Below w.heap.size w w' := by
  have HT := Lib.hid hT
  have HL := Lib.hid (Lib.size_eq s)
  have HB0 : Hid (BuiltF w.heap.size w.heap.size [] (w.alloc (.cells #[.pointer none, .slice none 0 0] 44))) := Lib.IsBuilderF.of (Lib.fresh_isBuilder 44 5 w)
  have hb0 : Below w.heap.size w (w.alloc (.cells #[.pointer none, .slice none 0 0] 44)) := (Below.refl _ _).alloc (Nat.le_refl _) _
  have hs0 : (w.alloc (.cells #[.pointer none, .slice none 0 0] 44)).heap.size = w.heap.size + 1 := by simp
  have KS := Lib.hid (signs_implO s (by omega) (w.alloc (.cells #[.pointer none, .slice none 0 0] 44)) (hT.over hb0).1)
  have KP := Lib.hid (fun r (hr : isSign r = true) W (hW : Below w.heap.size w W) => propEscape_impl all r hr W (hT.over hW).2)
  clear hT
  go_enter Tryz.func27, Tryz.ntmps27
  go_wp2_with fail
  refine KS.out.mono ?_
  rintro e w1 ⟨v, g, rfl, hI, hg, hb1, hty⟩
  have HB1 := Lib.hid (built_over HB0.out hb1)
  have hbw1 := hb0.trans (hb1.mono hb0.size)
  rw [hs0] at hg
  clear HB0 KS hb1 hb0 hs0
  generalize w.alloc (.cells #[.pointer none, .slice none 0 0] 44) = W0 at *
  cases ho : signsO s.data.toList
  · have HV := Lib.hid (escL7_none (all := all) ho)
    clear hI hty hg ho
    go_wp2_with fail
    go_loopw [31] (fun i wr => ∃ (k : Nat), k ≤ s.size ∧ i = .int .i64 k ∧ Hid (BuiltF w.heap.size w.heap.size ((s.data.toList.take k).flatMap (propP all)) wr) ∧ Below w.heap.size w wr) (fun i _ => s.size - (intOf i).toNat)
    case atStart => exact ⟨0, Nat.zero_le _, rfl, HB1, hbw1⟩
    case round =>
      obtain ⟨k, hk, rfl, hB, hb⟩ := hrel
      clear HB1 hbw1
      by_cases hlt : k < s.size
      · have hlt2 : k < s.data.toList.length := by rw [← HL.out]; exact hlt
        have hj0 := flat_take (propP all) s.data.toList k hlt2
        have hll := flat_take_len (propP all) (propP_len12 all) s.data.toList k
        rw [← HL.out] at hll
        rw [show s.data.toList[k] = s[k] from rfl] at hj0
        have hkz : (k : Int) < (s.size : Int) := by omega
        by_cases hc : s[k].toNat < 128
        · have hcz : ((s[k].toNat : Nat) : Int) < 128 := by omega
          have KP1 := KP.out s[k].toNat ((isSign_iff _).2 (by omega)) wr hb
          have he : eW all s[k].toNat = propP all s[k] := by unfold eW; rw [if_pos hc, u8_of]
          rw [he] at KP1
          have hl12 := propP_len12 all s[k]
          have HJ := Lib.hid hj0
          have K1 := Lib.hid KP1
          clear he hj0 KP1
          generalize propP all s[k] = t at *
          go_wp2_with fail
          refine K1.out.mono ?_
          rintro e w2 ⟨rfl, hb2⟩
          have HB2 := Lib.hid (built_over hB.out hb2)
          have hb3 := hb.trans (hb2.mono hb.size)
          clear hB hb2 hb K1
          go_wp2_with fail
          refine (built_write w.heap.size w.heap.size _ ⟨t.toArray⟩ _ HB2.out (by rw [toList_size]; omega) hb3.size).mono ?_
          rintro e w3 ⟨rfl, hB3, hb4, _⟩
          have hb5 := hb3.trans hb4
          have HB3 : Hid (BuiltF w.heap.size w.heap.size ((s.data.toList.take (k + 1)).flatMap (propP all)) w3) := by unfold Hid; rw [HJ.out]; exact hB3
          clear hB3 hb4 hb3 HB2 HJ
          go_wp2
          go_roundw
          case rel => exact ⟨k + 1, by omega, by go_num, HB3, hb5⟩
          case measure => simp [intOf]; omega
        · have hcz : ¬ ((s[k].toNat : Nat) : Int) < 128 := by omega
          have he := propP_high all s[k] (by omega)
          rw [he] at hj0
          have HJ := Lib.hid hj0
          have KB := Lib.hid (built_byte w.heap.size w.heap.size ((s.data.toList.take k).flatMap (propP all)) s[k] wr hB.out (by omega) hb.size)
          clear he hj0
          go_wp2_with fail
          refine KB.out.mono ?_
          rintro e w3 ⟨rfl, hB3, hb4, _⟩
          have hb5 := hb.trans hb4
          have HB3 : Hid (BuiltF w.heap.size w.heap.size ((s.data.toList.take (k + 1)).flatMap (propP all)) w3) := by unfold Hid; rw [HJ.out]; exact hB3
          clear hB3 hb4 hb HJ KB hB
          go_wp2
          go_roundw
          case rel => exact ⟨k + 1, by omega, by go_num, HB3, hb5⟩
          case measure => simp [intOf]; omega
      · obtain rfl : k = s.size := by omega
        have hall : s.data.toList.take s.size = s.data.toList := Pl.take_all s
        rw [hall] at hB
        go_wp2_with fail
        refine (built_string w.heap.size w.heap.size _ _ hB.out hb.size).mono ?_
        rintro e w2 ⟨rfl, _, hb4, _⟩
        have hb5 := hb.trans hb4
        clear hB hb4 hb
        go_wp2
        go_ret
        exact ⟨by rw [HV.out]; rfl, hb5⟩
  · obtain ⟨rs, hrs⟩ : ∃ rs, signsL s.data.toList = some rs := Option.isSome_iff_exists.1 ho
    have HV := Lib.hid (escL7_some (all := all) hrs)
    have hfew := signs_few _ _ hrs
    rw [← HL.out] at hfew
    have HS := Lib.hid (text_signs _ _ hrs).1
    have hsi := (signs_good hrs).1
    rw [hsi] at hI hty
    obtain ⟨a, cap, rfl, ha⟩ := hI.form
    rw [intsOf_length] at *
    have HA := Lib.hid ha
    have HI := Lib.hid hI
    have HY := Lib.hid hty
    clear hrs hsi ha hI hty ho
    go_wp2_with fail
    go_loopw [19] (fun i wr => ∃ (k : Nat), k ≤ rs.length ∧ i = .int .i64 k ∧ Hid (BuiltF w.heap.size w.heap.size ((rs.take k).flatMap (eW all)) wr) ∧ Hid (IntsIs wr (.slice a rs.length cap) g 0 (intsOf rs)) ∧ Hid (intsOf rs ≠ [] → ∃ cs fz, wr.heap[g]? = some (.cells cs 3 fz)) ∧ Below w.heap.size w wr) (fun i _ => rs.length - (intOf i).toNat)
    case atStart => exact ⟨0, Nat.zero_le _, rfl, HB1, HI, HY, hbw1⟩
    case round =>
      obtain ⟨k, hk, rfl, hB, hI, hY, hb⟩ := hrel
      clear HB1 hbw1 HI HY
      by_cases hlt : k < rs.length
      · have hln : intsOf rs ≠ [] := by intro e; have h9 := congrArg List.length e; rw [intsOf_length, List.length_nil] at h9; omega
        obtain rfl := HA.out hln
        have hki : k < (intsOf rs).length := by rw [intsOf_length]; exact hlt
        have q1 := hI.out.toIntsRd.cell k hki
        rw [Nat.zero_add, show (intsOf rs)[k] = ((rs[k] : Nat) : Int) by simp [intsOf]] at q1
        have hj0 := flat_take (eW all) rs k hlt
        have hll := flat_take_len (eW all) (eW_len all) rs k
        have KP1 := KP.out rs[k] (HS.out _ (List.getElem_mem hlt)) wr hb
        have hl12 := eW_len all rs[k]
        have HJ := Lib.hid hj0
        have K1 := Lib.hid KP1
        have hkz : (k : Int) < (rs.length : Int) := by omega
        have hkb : (k : Int) < 100000000 := by omega
        have hbl : ((rs.take k).flatMap (eW all)).length + (eW all rs[k]).length ≤ 140737488355328 := by omega
        clear hj0 KP1 hki
        generalize eW all rs[k] = t at *
        generalize ((rs[k] : Nat) : Int) = xz at *
        go_wp2_with fail
        refine K1.out.mono ?_
        rintro e w2 ⟨rfl, hb2⟩
        have HB2 := Lib.hid (built_over hB.out hb2)
        have HI2 := Lib.hid (hI.out.over hb2)
        obtain ⟨cs, fz, hcs⟩ := hY.out hln
        have hcs2 := (hb2.block g (Array.getElem?_eq_some_iff.1 hcs).1).trans hcs
        have hb3 := hb.trans (hb2.mono hb.size)
        clear hB hb2 hb K1 hI hY q1 hcs
        go_wp2_with fail
        refine (built_write w.heap.size w.heap.size _ ⟨t.toArray⟩ _ HB2.out (by rw [toList_size]; exact hbl) hb3.size).mono ?_
        rintro e w3 ⟨rfl, hB3, hb4, hoth⟩
        have hb5 := hb3.trans hb4
        have hcs3 := others_ints hoth hcs2 (by omega)
        have HI3 := Lib.hid (HI2.out.kept (fun _ => hcs3.trans hcs2.symm))
        have HY3 : Hid (intsOf rs ≠ [] → ∃ cs fz, w3.heap[g]? = some (.cells cs 3 fz)) := fun _ => ⟨_, _, hcs3⟩
        have HB3 : Hid (BuiltF w.heap.size w.heap.size ((rs.take (k + 1)).flatMap (eW all)) w3) := by unfold Hid; rw [HJ.out]; exact hB3
        clear hB3 hb4 hb3 HB2 HJ hoth hcs2 hcs3 HI2
        go_wp2
        go_roundw
        case rel => exact ⟨k + 1, by omega, by go_num, HB3, HI3, HY3, hb5⟩
        case measure => simp [intOf]; omega
      · obtain rfl : k = rs.length := by omega
        rw [List.take_length] at hB
        clear hI hY
        go_wp2_with fail
        refine (built_string w.heap.size w.heap.size _ _ hB.out hb.size).mono ?_
        rintro e w2 ⟨rfl, _, hb4, _⟩
        have hb5 := hb.trans hb4
        clear hB hb4 hb
        go_wp2
        go_ret
        exact ⟨by rw [HV.out]; rfl, hb5⟩

theorem propKey_impl (s : ByteArray) (w : World) (hs : (s.size : Int) ≤ 1048576) (hT : Tabs7 w) :
    Calls Tryz.prog 10 #[.string s] w fun e w' => e = .returned (.string (propPutT true s)) ∧ Below w.heap.size w w' := by
  have K := Lib.hid (escapeProp_impl true s w hs hT)
  rw [← propL_key] at K
  go_enter Tryz.func10, Tryz.ntmps10
  go_wp2_with fail
  refine K.out.mono ?_
  rintro e w1 ⟨rfl, hb1⟩
  go_wp2
  go_ret
  exact ⟨rfl, hb1⟩

end Go.Proofs.YtflnpkckdjmljaaGreatDoor

/- Values and pairs of property files written: the program's PropValue and PropPair. -/
set_option maxRecDepth 100000
namespace Go.Proofs.YtflnpkckdjmljaaGreatDoor
open Go.RowKit
set_option linter.unusedVariables false

/-- begins with a space -/
def opensS (s : ByteArray) : Bool := if h : 0 < s.size then s[0] == 32 else false
abbrev spaceB : ByteArray := ⟨#[32]⟩
theorem head_dataS (s : ByteArray) (h : 0 < s.size) : s.data.toList = s[0] :: s.data.toList.drop 1 := by
  have h9 : 0 < s.data.toList.length := by rw [← Lib.size_eq]; exact h
  have := List.drop_eq_getElem_cons h9
  rw [List.drop_zero] at this
  exact this
theorem opensS_first (s : ByteArray) (h : 0 < s.size) : ((s.extract 0 1).toList == spaceB.toList) = opensS s := by
  rw [Lib.toList_data, Lib.toList_data, Lib.extract_eq]
  simp only [List.drop_zero, Nat.sub_zero]
  rw [head_dataS s h]
  unfold opensS
  rw [dif_pos h]
  simp
set_option maxHeartbeats 1600000 in
theorem hasSpace_any (s : ByteArray) (w : World) (hs : (s.size : Int) ≤ 1048576) :
    Calls Tryz.prog 74 #[.string s, .string spaceB] w fun e w' => e = .returned (.bool (opensS s)) ∧ w = w' := by
  by_cases hz : 0 < s.size
  · have h1 := opensS_first s hz
    have hz2 : (1 : Int) ≤ (s.size : Int) := by omega
    have hz3 : Hid ((1 : Int) ≤ (s.size : Int)) := hz2
    generalize opensS s = r at *
    go_enter Tryz.func74, Tryz.ntmps74
    go_wp2
    go_ret
    exact ⟨by first | rfl | (rw [← h1]; rfl) | simp_all, rfl⟩
  · have h1 : Hid (opensS s = false) := by unfold Hid opensS; rw [dif_neg hz]
    have hz2 : (s.size : Int) = 0 := by omega
    go_enter Tryz.func74, Tryz.ntmps74
    go_wp2
    go_ret
    exact ⟨by rw [h1.out]; rfl, rfl⟩
/-- the text behind a space that opens it -/
def innerS (s : ByteArray) : ByteArray := if opensS s then s.extract 1 s.size else s
set_option maxHeartbeats 1600000 in
theorem cutSpace_lite (s : ByteArray) (w : World) (hs : (s.size : Int) ≤ 1048576) :
    Calls Tryz.prog 49 #[.string s, .string spaceB] w fun e w' => e = .returned (.tuple #[.string (innerS s), .bool (opensS s)]) ∧ w = w' := by
  have K := Lib.hid (fun w => hasSpace_any s w hs)
  cases ho : opensS s
  · have hi : Hid (innerS s = s) := by unfold Hid innerS; rw [ho]; rfl
    rw [ho] at K
    clear ho
    go_enter Tryz.func49, Tryz.ntmps49
    go_wp2_with fail
    refine (K.out _).mono ?_
    rintro e w' ⟨rfl, rfl⟩
    go_wp2
    go_ret2
    exact ⟨by rw [hi.out]; rfl, rfl⟩
  · have hi : Hid (innerS s = s.extract 1 s.size) := by unfold Hid innerS; rw [ho]; rfl
    have hz : 0 < s.size := by
      rcases Nat.eq_zero_or_pos s.size with h | h
      · unfold opensS at ho; rw [dif_neg (by omega)] at ho; cases ho
      · exact h
    have hz2 : (1 : Int) ≤ (s.size : Int) := by omega
    rw [ho] at K
    clear ho
    go_enter Tryz.func49, Tryz.ntmps49
    go_wp2_with fail
    refine (K.out _).mono ?_
    rintro e w' ⟨rfl, rfl⟩
    go_wp2
    go_ret2
    exact ⟨by rw [hi.out]; rfl, rfl⟩
theorem cutSpace_any (s : ByteArray) (w : World) (hs : (s.size : Int) ≤ 1048576) :
    Calls Tryz.prog 28 #[.string s, .string spaceB] w fun e w' => e = .returned (.tuple #[.string (innerS s), .bool (opensS s)]) ∧ w = w' := by
  have K := Lib.hid (fun w => cutSpace_lite s w hs)
  generalize innerS s = x at *
  generalize opensS s = o at *
  go_enter Tryz.func28, Tryz.ntmps28
  go_wp2_with fail
  refine (K.out _).mono ?_
  rintro e w' ⟨rfl, rfl⟩
  go_wp2
  go_ret2
  exact ⟨rfl, rfl⟩

set_option maxHeartbeats 1600000 in
theorem propValue_impl (s : ByteArray) (w : World) (hs : (s.size : Int) ≤ 1048576) (hT : Tabs7 w) :
    Calls Tryz.prog 11 #[.string s] w fun e w' => e = .returned (.string (propPutT false s)) ∧ Below w.heap.size w w' := by
  have KC := Lib.hid (cutSpace_any s w hs)
  cases ho : opensS s
  · have hi : innerS s = s := by unfold innerS; rw [ho]; rfl
    have hn : s.data.toList[0]? ≠ some 32 := by
      intro e
      have hz : 0 < s.size := by rw [Lib.size_eq]; exact (List.getElem?_eq_some_iff.1 e).1
      have h2 : s[0] = 32 := by
        have h3 := (List.getElem?_eq_some_iff.1 e).2
        exact h3
      unfold opensS at ho
      rw [dif_pos hz, h2] at ho
      cases ho
    have KE := escapeProp_impl false s w hs hT
    rw [← propL_plain _ hn] at KE
    have K := Lib.hid KE
    rw [ho, hi] at KC
    clear ho hi hn KE hT
    go_enter Tryz.func11, Tryz.ntmps11
    go_wp2_with fail
    refine KC.out.mono ?_
    rintro e w1 ⟨rfl, rfl⟩
    go_wp2_with fail
    refine K.out.mono ?_
    rintro e w1 ⟨rfl, hb1⟩
    go_wp2
    go_ret
    exact ⟨rfl, hb1⟩
  · have hi : innerS s = s.extract 1 s.size := by unfold innerS; rw [ho]; rfl
    have hz : 0 < s.size := by
      rcases Nat.eq_zero_or_pos s.size with h | h
      · unfold opensS at ho; rw [dif_neg (by omega)] at ho; cases ho
      · exact h
    have h0 : s[0] = 32 := by
      unfold opensS at ho
      rw [dif_pos hz] at ho
      exact eq_of_beq ho
    obtain ⟨t, ht⟩ : ∃ t, s.extract 1 s.size = t := ⟨_, rfl⟩
    have htl : t.data.toList = s.data.toList.drop 1 := by
      rw [← ht, Lib.extract_eq, List.take_of_length_le]
      rw [List.length_drop, ← Lib.size_eq]
      exact Nat.le_refl _
    have htz : t.size ≤ s.size := by rw [Lib.size_eq, Lib.size_eq, htl, List.length_drop]; omega
    have hsl : s.data.toList = 32 :: t.data.toList := by rw [htl, ← h0]; exact head_dataS s hz
    have KE := Lib.hid (escapeProp_impl false t w (by omega) hT)
    have hpl : propL false s.data.toList = [92, 32] ++ escL7 false t.data.toList := by rw [hsl, propL_space]; rfl
    have HV : Hid ((⟨#[92, 32]⟩ : ByteArray) ++ ⟨(escL7 false t.data.toList).toArray⟩ = propPutT false s) := by
      unfold Hid propPutT
      rw [hpl]
      apply ByteArray.ext
      apply Array.toList_inj.1
      rw [ByteArray.data_append, Array.toList_append]
    have hll : (escL7 false t.data.toList).length ≤ 12 * s.size + 12 := by
      have h1 := propPutT_size false s
      have h2 : (propPutT false s).size = (propL false s.data.toList).length := by unfold propPutT; rw [toList_size]
      rw [h2, hpl, List.length_append] at h1
      omega
    have hlz : (⟨(escL7 false t.data.toList).toArray⟩ : ByteArray).size ≤ 12 * s.size + 12 := by rw [toList_size]; exact hll
    rw [ho, hi, ht] at KC
    clear ho hi hT hpl hsl htl h0 hll ht
    generalize (⟨(escL7 false t.data.toList).toArray⟩ : ByteArray) = y at *
    go_enter Tryz.func11, Tryz.ntmps11
    go_wp2_with fail
    refine KC.out.mono ?_
    rintro e w1 ⟨rfl, rfl⟩
    go_wp2_with fail
    refine KE.out.mono ?_
    rintro e w1 ⟨rfl, hb1⟩
    go_wp2
    go_ret
    exact ⟨congrArg (fun x => Ending.returned (.string x)) HV.out, hb1⟩

theorem propPair_impl (k v : ByteArray) (w : World) (hk : (k.size : Int) ≤ 1048576) (hv : (v.size : Int) ≤ 1048576) (hT : Tabs7 w) :
    Calls Tryz.prog 7 #[.string k, .string v] w fun e w' => e = .returned (.string (propPutT true k ++ ⟨#[61]⟩ ++ propPutT false v)) ∧ Below w.heap.size w w' := by
  have K1 := Lib.hid (propKey_impl k w hk hT)
  have K2 := Lib.hid (fun W (hb : Below w.heap.size w W) => propValue_impl v W hv (hT.over hb))
  have h1 := propPutT_size true k
  have h2 := propPutT_size false v
  clear hT
  generalize propPutT true k = x at *
  generalize propPutT false v = y at *
  go_enter Tryz.func7, Tryz.ntmps7
  go_wp2_with fail
  refine K1.out.mono ?_
  rintro e w1 ⟨rfl, hb1⟩
  have hxz : (x ++ (⟨#[61]⟩ : ByteArray)).size = x.size + 1 := by rw [ByteArray.size_append]; rfl
  go_wp2_with fail
  refine (K2.out w1 hb1).mono ?_
  rintro e w2 ⟨rfl, hb2⟩
  have hb3 := hb1.trans (hb2.mono hb1.size)
  clear hb1 hb2 K1 K2
  go_wp2
  go_ret
  exact ⟨rfl, hb3⟩

end Go.Proofs.YtflnpkckdjmljaaGreatDoor
