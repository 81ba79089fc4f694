/- Texts of property files written: the program's escapeProp, PropKey, PropValue and PropPair. -/
import Derived.Test.YtflnpkckdjmljaaDoorProg
import Derived.Test.YtflnpkckdjmljaaDoorPlain
import Derived.Test.YtflnpkckdjmljaaDoorCut
import Derived.Test.YtflnpkckdjmljaaDoorSign
import Derived.Test.YtflnpkckdjmljaaDoorRunePure
import Derived.Test.YtflnpkckdjmljaaDoorRuneText
import Derived.Test.YtflnpkckdjmljaaDoorInts
import Derived.Test.YtflnpkckdjmljaaDoorBuild
import Derived.Test.YtflnpkckdjmljaaDoorBuiltByte
import Derived.Test.YtflnpkckdjmljaaDoorTextOf
import Derived.Test.YtflnpkckdjmljaaDoorValid
import Derived.Test.YtflnpkckdjmljaaDoorSigns
import Derived.Test.YtflnpkckdjmljaaDoorPutEsc
import Derived.Test.YtflnpkckdjmljaaDoorPropPure
import Derived.Test.YtflnpkckdjmljaaDoorPropWrite
import Derived.Test.YtflnpkckdjmljaaDoorPropPut
import Derived.Test.YtflnpkckdjmljaaDoorPropPair
import Derived.Test.YtflnpkckdjmljaaDoorPropEsc
import Derived.WalkKit
import Derived.WalkLawsBesides
import Derived.OwnWalk
import Derived.Lib.AppendStr
import Derived.Lib.OthersKept
import Derived.Laws.IdiomStrings
import Derived.Lib.Hide
import Derived.IntWalk
set_option maxRecDepth 100000
namespace Go.Proofs.YtflnpkckdjmljaaDoor
open Go.RowKit
set_option linter.unusedVariables false

theorem others_ints {b g : Nat} {w w' : World} {cs : Array Value} {fz : Nat × Nat} (h : Others b w w') (hg : w.heap[g]? = some (.cells cs 3 fz)) (hne : g ≠ b) : w'.heap[g]? = some (.cells cs 3 fz) :=
  h g _ hg (by simpa using hne) (fun c fz2 e => by injection e with _ e2 _; exact absurd e2 (by decide))
theorem flat_take {α : Type} (f : α → List UInt8) (l : List α) (k : Nat) (h : k < l.length) : (l.take (k + 1)).flatMap f = (l.take k).flatMap f ++ f l[k] := by
  rw [List.take_succ_eq_append_getElem h, List.flatMap_append]
  simp
theorem flat_len {α : Type} (f : α → List UInt8) (hf : ∀ x, (f x).length ≤ 12) (l : List α) : (l.flatMap f).length ≤ 12 * l.length := by
  induction l with
  | nil => simp
  | cons x l ih =>
    have := hf x
    simp only [List.flatMap_cons, List.length_append, List.length_cons]
    omega
theorem flat_take_len {α : Type} (f : α → List UInt8) (hf : ∀ x, (f x).length ≤ 12) (l : List α) (k : Nat) : ((l.take k).flatMap f).length ≤ 12 * l.length := by
  have h1 := flat_len f hf (l.take k)
  rw [List.length_take] at h1
  omega
theorem escL7_none {all : Bool} {l : List UInt8} (h : signsO l = false) : escL7 all l = l.flatMap (propP all) := by
  unfold signsO at h
  unfold escL7
  rw [h]
  rfl
theorem escL7_some {all : Bool} {l : List UInt8} {rs : List Nat} (h : signsL l = some rs) : escL7 all l = rs.flatMap (eW all) := by
  unfold escL7
  rw [h]
  rfl

set_option maxHeartbeats 3200000 in
theorem escapeProp_impl (all : Bool) (s : ByteArray) (w : World) (hs : (s.size : Int) ≤ 1048576) (hT : Tabs7 w) :
    Calls Tryd.prog 40 #[.string s, .string (marksB all)] w fun e w' => e = .returned (.string ⟨(escL7 all s.data.toList).toArray⟩) ∧ Below w.heap.size w w' := by
  have HT := Lib.hid hT
  have HL := Lib.hid (Lib.size_eq s)
  have HB0 : Hid (BuiltF w.heap.size w.heap.size [] (w.alloc (.cells #[.pointer none, .slice none 0 0] 73))) := Lib.IsBuilderF.of (Lib.fresh_isBuilder 73 5 w)
  have hb0 : Below w.heap.size w (w.alloc (.cells #[.pointer none, .slice none 0 0] 73)) := (Below.refl _ _).alloc (Nat.le_refl _) _
  have hs0 : (w.alloc (.cells #[.pointer none, .slice none 0 0] 73)).heap.size = w.heap.size + 1 := by simp
  have KS := Lib.hid (signs_implO s (by omega) (w.alloc (.cells #[.pointer none, .slice none 0 0] 73)) (hT.over hb0).1)
  have KP := Lib.hid (fun r (hr : isSign r = true) W (hW : Below w.heap.size w W) => propEscape_impl all r hr W (hT.over hW).2)
  clear hT
  go_enter Tryd.func40, Tryd.ntmps40
  go_wp2_with fail
  refine KS.out.mono ?_
  rintro e w1 ⟨v, g, rfl, hI, hg, hb1, hty⟩
  have HB1 := Lib.hid (built_over HB0.out hb1)
  have hbw1 := hb0.trans (hb1.mono hb0.size)
  rw [hs0] at hg
  clear HB0 KS hb1 hb0 hs0
  generalize w.alloc (.cells #[.pointer none, .slice none 0 0] 73) = W0 at *
  cases ho : signsO s.data.toList
  · have HV := Lib.hid (escL7_none (all := all) ho)
    clear hI hty hg ho
    go_wp2_with fail
    go_loopw [31] (fun i wr => ∃ (k : Nat), k ≤ s.size ∧ i = .int .i64 k ∧ Hid (BuiltF w.heap.size w.heap.size ((s.data.toList.take k).flatMap (propP all)) wr) ∧ Below w.heap.size w wr) (fun i _ => s.size - (intOf i).toNat)
    case atStart => exact ⟨0, Nat.zero_le _, rfl, HB1, hbw1⟩
    case round =>
      obtain ⟨k, hk, rfl, hB, hb⟩ := hrel
      clear HB1 hbw1
      by_cases hlt : k < s.size
      · have hlt2 : k < s.data.toList.length := by rw [← HL.out]; exact hlt
        have hj0 := flat_take (propP all) s.data.toList k hlt2
        have hll := flat_take_len (propP all) (propP_len12 all) s.data.toList k
        rw [← HL.out] at hll
        rw [show s.data.toList[k] = s[k] from rfl] at hj0
        have hkz : (k : Int) < (s.size : Int) := by omega
        by_cases hc : s[k].toNat < 128
        · have hcz : ((s[k].toNat : Nat) : Int) < 128 := by omega
          have KP1 := KP.out s[k].toNat ((isSign_iff _).2 (by omega)) wr hb
          have he : eW all s[k].toNat = propP all s[k] := by unfold eW; rw [if_pos hc, u8_of]
          rw [he] at KP1
          have hl12 := propP_len12 all s[k]
          have HJ := Lib.hid hj0
          have K1 := Lib.hid KP1
          clear he hj0 KP1
          generalize propP all s[k] = t at *
          go_wp2_with fail
          refine K1.out.mono ?_
          rintro e w2 ⟨rfl, hb2⟩
          have HB2 := Lib.hid (built_over hB.out hb2)
          have hb3 := hb.trans (hb2.mono hb.size)
          clear hB hb2 hb K1
          go_wp2_with fail
          refine (built_write w.heap.size w.heap.size _ ⟨t.toArray⟩ _ HB2.out (by rw [toList_size]; omega) hb3.size).mono ?_
          rintro e w3 ⟨rfl, hB3, hb4, _⟩
          have hb5 := hb3.trans hb4
          have HB3 : Hid (BuiltF w.heap.size w.heap.size ((s.data.toList.take (k + 1)).flatMap (propP all)) w3) := by unfold Hid; rw [HJ.out]; exact hB3
          clear hB3 hb4 hb3 HB2 HJ
          go_wp2
          go_roundw
          case rel => exact ⟨k + 1, by omega, by go_num, HB3, hb5⟩
          case measure => simp [intOf]; omega
        · have hcz : ¬ ((s[k].toNat : Nat) : Int) < 128 := by omega
          have he := propP_high all s[k] (by omega)
          rw [he] at hj0
          have HJ := Lib.hid hj0
          have KB := Lib.hid (built_byte w.heap.size w.heap.size ((s.data.toList.take k).flatMap (propP all)) s[k] wr hB.out (by omega) hb.size)
          clear he hj0
          go_wp2_with fail
          refine KB.out.mono ?_
          rintro e w3 ⟨rfl, hB3, hb4, _⟩
          have hb5 := hb.trans hb4
          have HB3 : Hid (BuiltF w.heap.size w.heap.size ((s.data.toList.take (k + 1)).flatMap (propP all)) w3) := by unfold Hid; rw [HJ.out]; exact hB3
          clear hB3 hb4 hb HJ KB hB
          go_wp2
          go_roundw
          case rel => exact ⟨k + 1, by omega, by go_num, HB3, hb5⟩
          case measure => simp [intOf]; omega
      · obtain rfl : k = s.size := by omega
        have hall : s.data.toList.take s.size = s.data.toList := Pl.take_all s
        rw [hall] at hB
        go_wp2_with fail
        refine (built_string w.heap.size w.heap.size _ _ hB.out hb.size).mono ?_
        rintro e w2 ⟨rfl, _, hb4, _⟩
        have hb5 := hb.trans hb4
        clear hB hb4 hb
        go_wp2
        go_ret
        exact ⟨by rw [HV.out]; rfl, hb5⟩
  · obtain ⟨rs, hrs⟩ : ∃ rs, signsL s.data.toList = some rs := Option.isSome_iff_exists.1 ho
    have HV := Lib.hid (escL7_some (all := all) hrs)
    have hfew := signs_few _ _ hrs
    rw [← HL.out] at hfew
    have HS := Lib.hid (text_signs _ _ hrs).1
    have hsi := (signs_good hrs).1
    rw [hsi] at hI hty
    obtain ⟨a, cap, rfl, ha⟩ := hI.form
    rw [intsOf_length] at *
    have HA := Lib.hid ha
    have HI := Lib.hid hI
    have HY := Lib.hid hty
    clear hrs hsi ha hI hty ho
    go_wp2_with fail
    go_loopw [19] (fun i wr => ∃ (k : Nat), k ≤ rs.length ∧ i = .int .i64 k ∧ Hid (BuiltF w.heap.size w.heap.size ((rs.take k).flatMap (eW all)) wr) ∧ Hid (IntsIs wr (.slice a rs.length cap) g 0 (intsOf rs)) ∧ Hid (intsOf rs ≠ [] → ∃ cs fz, wr.heap[g]? = some (.cells cs 3 fz)) ∧ Below w.heap.size w wr) (fun i _ => rs.length - (intOf i).toNat)
    case atStart => exact ⟨0, Nat.zero_le _, rfl, HB1, HI, HY, hbw1⟩
    case round =>
      obtain ⟨k, hk, rfl, hB, hI, hY, hb⟩ := hrel
      clear HB1 hbw1 HI HY
      by_cases hlt : k < rs.length
      · have hln : intsOf rs ≠ [] := by intro e; have h9 := congrArg List.length e; rw [intsOf_length, List.length_nil] at h9; omega
        obtain rfl := HA.out hln
        have hki : k < (intsOf rs).length := by rw [intsOf_length]; exact hlt
        have q1 := hI.out.toIntsRd.cell k hki
        rw [Nat.zero_add, show (intsOf rs)[k] = ((rs[k] : Nat) : Int) by simp [intsOf]] at q1
        have hj0 := flat_take (eW all) rs k hlt
        have hll := flat_take_len (eW all) (eW_len all) rs k
        have KP1 := KP.out rs[k] (HS.out _ (List.getElem_mem hlt)) wr hb
        have hl12 := eW_len all rs[k]
        have HJ := Lib.hid hj0
        have K1 := Lib.hid KP1
        have hkz : (k : Int) < (rs.length : Int) := by omega
        have hkb : (k : Int) < 100000000 := by omega
        have hbl : ((rs.take k).flatMap (eW all)).length + (eW all rs[k]).length ≤ 140737488355328 := by omega
        clear hj0 KP1 hki
        generalize eW all rs[k] = t at *
        generalize ((rs[k] : Nat) : Int) = xz at *
        go_wp2_with fail
        refine K1.out.mono ?_
        rintro e w2 ⟨rfl, hb2⟩
        have HB2 := Lib.hid (built_over hB.out hb2)
        have HI2 := Lib.hid (hI.out.over hb2)
        obtain ⟨cs, fz, hcs⟩ := hY.out hln
        have hcs2 := (hb2.block g (Array.getElem?_eq_some_iff.1 hcs).1).trans hcs
        have hb3 := hb.trans (hb2.mono hb.size)
        clear hB hb2 hb K1 hI hY q1 hcs
        go_wp2_with fail
        refine (built_write w.heap.size w.heap.size _ ⟨t.toArray⟩ _ HB2.out (by rw [toList_size]; exact hbl) hb3.size).mono ?_
        rintro e w3 ⟨rfl, hB3, hb4, hoth⟩
        have hb5 := hb3.trans hb4
        have hcs3 := others_ints hoth hcs2 (by omega)
        have HI3 := Lib.hid (HI2.out.kept (fun _ => hcs3.trans hcs2.symm))
        have HY3 : Hid (intsOf rs ≠ [] → ∃ cs fz, w3.heap[g]? = some (.cells cs 3 fz)) := fun _ => ⟨_, _, hcs3⟩
        have HB3 : Hid (BuiltF w.heap.size w.heap.size ((rs.take (k + 1)).flatMap (eW all)) w3) := by unfold Hid; rw [HJ.out]; exact hB3
        clear hB3 hb4 hb3 HB2 HJ hoth hcs2 hcs3 HI2
        go_wp2
        go_roundw
        case rel => exact ⟨k + 1, by omega, by go_num, HB3, HI3, HY3, hb5⟩
        case measure => simp [intOf]; omega
      · obtain rfl : k = rs.length := by omega
        rw [List.take_length] at hB
        clear hI hY
        go_wp2_with fail
        refine (built_string w.heap.size w.heap.size _ _ hB.out hb.size).mono ?_
        rintro e w2 ⟨rfl, _, hb4, _⟩
        have hb5 := hb.trans hb4
        clear hB hb4 hb
        go_wp2
        go_ret
        exact ⟨by rw [HV.out]; rfl, hb5⟩

theorem propKey_impl (s : ByteArray) (w : World) (hs : (s.size : Int) ≤ 1048576) (hT : Tabs7 w) :
    Calls Tryd.prog 18 #[.string s] w fun e w' => e = .returned (.string (propPutT true s)) ∧ Below w.heap.size w w' := by
  have K := Lib.hid (escapeProp_impl true s w hs hT)
  rw [← propL_key] at K
  go_enter Tryd.func18, Tryd.ntmps18
  go_wp2_with fail
  refine K.out.mono ?_
  rintro e w1 ⟨rfl, hb1⟩
  go_wp2
  go_ret
  exact ⟨rfl, hb1⟩

end Go.Proofs.YtflnpkckdjmljaaDoor
