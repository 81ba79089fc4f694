/- Values and pairs of property files written: the program's PropValue and PropPair. -/
import Derived.Test.YtflnpkckdjmljaaDoorProg
import Derived.Test.YtflnpkckdjmljaaDoorPlain
import Derived.Test.YtflnpkckdjmljaaDoorPropPure
import Derived.Test.YtflnpkckdjmljaaDoorPropWrite
import Derived.Test.YtflnpkckdjmljaaDoorPropPut
import Derived.Test.YtflnpkckdjmljaaDoorPropPair
import Derived.Test.YtflnpkckdjmljaaDoorPropEsc
import Derived.Test.YtflnpkckdjmljaaDoorPropEscTop
import Derived.WalkKit
import Derived.WalkLawsBesides
import Derived.Laws.IdiomStrings
import Derived.Lib.Hide
import Derived.IntWalk
set_option maxRecDepth 100000
namespace Go.Proofs.YtflnpkckdjmljaaDoor
open Go.RowKit
set_option linter.unusedVariables false

/-- begins with a space -/
def opensS (s : ByteArray) : Bool := if h : 0 < s.size then s[0] == 32 else false
abbrev spaceB : ByteArray := ⟨#[32]⟩
theorem head_dataS (s : ByteArray) (h : 0 < s.size) : s.data.toList = s[0] :: s.data.toList.drop 1 := by
  have h9 : 0 < s.data.toList.length := by rw [← Lib.size_eq]; exact h
  have := List.drop_eq_getElem_cons h9
  rw [List.drop_zero] at this
  exact this
theorem opensS_first (s : ByteArray) (h : 0 < s.size) : ((s.extract 0 1).toList == spaceB.toList) = opensS s := by
  rw [Lib.toList_data, Lib.toList_data, Lib.extract_eq]
  simp only [List.drop_zero, Nat.sub_zero]
  rw [head_dataS s h]
  unfold opensS
  rw [dif_pos h]
  simp
set_option maxHeartbeats 1600000 in
theorem hasSpace_any (s : ByteArray) (w : World) (hs : (s.size : Int) ≤ 1048576) :
    Calls Tryd.prog 84 #[.string s, .string spaceB] w fun e w' => e = .returned (.bool (opensS s)) ∧ w = w' := by
  by_cases hz : 0 < s.size
  · have h1 := opensS_first s hz
    have hz2 : (1 : Int) ≤ (s.size : Int) := by omega
    have hz3 : Hid ((1 : Int) ≤ (s.size : Int)) := hz2
    generalize opensS s = r at *
    go_enter Tryd.func84, Tryd.ntmps84
    go_wp2
    go_ret
    exact ⟨by first | rfl | (rw [← h1]; rfl) | simp_all, rfl⟩
  · have h1 : Hid (opensS s = false) := by unfold Hid opensS; rw [dif_neg hz]
    have hz2 : (s.size : Int) = 0 := by omega
    go_enter Tryd.func84, Tryd.ntmps84
    go_wp2
    go_ret
    exact ⟨by rw [h1.out]; rfl, rfl⟩
/-- the text behind a space that opens it -/
def innerS (s : ByteArray) : ByteArray := if opensS s then s.extract 1 s.size else s
set_option maxHeartbeats 1600000 in
theorem cutSpace_lite (s : ByteArray) (w : World) (hs : (s.size : Int) ≤ 1048576) :
    Calls Tryd.prog 65 #[.string s, .string spaceB] w fun e w' => e = .returned (.tuple #[.string (innerS s), .bool (opensS s)]) ∧ w = w' := by
  have K := Lib.hid (fun w => hasSpace_any s w hs)
  cases ho : opensS s
  · have hi : Hid (innerS s = s) := by unfold Hid innerS; rw [ho]; rfl
    rw [ho] at K
    clear ho
    go_enter Tryd.func65, Tryd.ntmps65
    go_wp2_with fail
    refine (K.out _).mono ?_
    rintro e w' ⟨rfl, rfl⟩
    go_wp2
    go_ret2
    exact ⟨by rw [hi.out]; rfl, rfl⟩
  · have hi : Hid (innerS s = s.extract 1 s.size) := by unfold Hid innerS; rw [ho]; rfl
    have hz : 0 < s.size := by
      rcases Nat.eq_zero_or_pos s.size with h | h
      · unfold opensS at ho; rw [dif_neg (by omega)] at ho; cases ho
      · exact h
    have hz2 : (1 : Int) ≤ (s.size : Int) := by omega
    rw [ho] at K
    clear ho
    go_enter Tryd.func65, Tryd.ntmps65
    go_wp2_with fail
    refine (K.out _).mono ?_
    rintro e w' ⟨rfl, rfl⟩
    go_wp2
    go_ret2
    exact ⟨by rw [hi.out]; rfl, rfl⟩
theorem cutSpace_any (s : ByteArray) (w : World) (hs : (s.size : Int) ≤ 1048576) :
    Calls Tryd.prog 41 #[.string s, .string spaceB] w fun e w' => e = .returned (.tuple #[.string (innerS s), .bool (opensS s)]) ∧ w = w' := by
  have K := Lib.hid (fun w => cutSpace_lite s w hs)
  generalize innerS s = x at *
  generalize opensS s = o at *
  go_enter Tryd.func41, Tryd.ntmps41
  go_wp2_with fail
  refine (K.out _).mono ?_
  rintro e w' ⟨rfl, rfl⟩
  go_wp2
  go_ret2
  exact ⟨rfl, rfl⟩

set_option maxHeartbeats 1600000 in
theorem propValue_impl (s : ByteArray) (w : World) (hs : (s.size : Int) ≤ 1048576) (hT : Tabs7 w) :
    Calls Tryd.prog 20 #[.string s] w fun e w' => e = .returned (.string (propPutT false s)) ∧ Below w.heap.size w w' := by
  have KC := Lib.hid (cutSpace_any s w hs)
  cases ho : opensS s
  · have hi : innerS s = s := by unfold innerS; rw [ho]; rfl
    have hn : s.data.toList[0]? ≠ some 32 := by
      intro e
      have hz : 0 < s.size := by rw [Lib.size_eq]; exact (List.getElem?_eq_some_iff.1 e).1
      have h2 : s[0] = 32 := by
        have h3 := (List.getElem?_eq_some_iff.1 e).2
        exact h3
      unfold opensS at ho
      rw [dif_pos hz, h2] at ho
      cases ho
    have KE := escapeProp_impl false s w hs hT
    rw [← propL_plain _ hn] at KE
    have K := Lib.hid KE
    rw [ho, hi] at KC
    clear ho hi hn KE hT
    go_enter Tryd.func20, Tryd.ntmps20
    go_wp2_with fail
    refine KC.out.mono ?_
    rintro e w1 ⟨rfl, rfl⟩
    go_wp2_with fail
    refine K.out.mono ?_
    rintro e w1 ⟨rfl, hb1⟩
    go_wp2
    go_ret
    exact ⟨rfl, hb1⟩
  · have hi : innerS s = s.extract 1 s.size := by unfold innerS; rw [ho]; rfl
    have hz : 0 < s.size := by
      rcases Nat.eq_zero_or_pos s.size with h | h
      · unfold opensS at ho; rw [dif_neg (by omega)] at ho; cases ho
      · exact h
    have h0 : s[0] = 32 := by
      unfold opensS at ho
      rw [dif_pos hz] at ho
      exact eq_of_beq ho
    obtain ⟨t, ht⟩ : ∃ t, s.extract 1 s.size = t := ⟨_, rfl⟩
    have htl : t.data.toList = s.data.toList.drop 1 := by
      rw [← ht, Lib.extract_eq, List.take_of_length_le]
      rw [List.length_drop, ← Lib.size_eq]
      exact Nat.le_refl _
    have htz : t.size ≤ s.size := by rw [Lib.size_eq, Lib.size_eq, htl, List.length_drop]; omega
    have hsl : s.data.toList = 32 :: t.data.toList := by rw [htl, ← h0]; exact head_dataS s hz
    have KE := Lib.hid (escapeProp_impl false t w (by omega) hT)
    have hpl : propL false s.data.toList = [92, 32] ++ escL7 false t.data.toList := by rw [hsl, propL_space]; rfl
    have HV : Hid ((⟨#[92, 32]⟩ : ByteArray) ++ ⟨(escL7 false t.data.toList).toArray⟩ = propPutT false s) := by
      unfold Hid propPutT
      rw [hpl]
      apply ByteArray.ext
      apply Array.toList_inj.1
      rw [ByteArray.data_append, Array.toList_append]
    have hll : (escL7 false t.data.toList).length ≤ 12 * s.size + 12 := by
      have h1 := propPutT_size false s
      have h2 : (propPutT false s).size = (propL false s.data.toList).length := by unfold propPutT; rw [toList_size]
      rw [h2, hpl, List.length_append] at h1
      omega
    have hlz : (⟨(escL7 false t.data.toList).toArray⟩ : ByteArray).size ≤ 12 * s.size + 12 := by rw [toList_size]; exact hll
    rw [ho, hi, ht] at KC
    clear ho hi hT hpl hsl htl h0 hll ht
    generalize (⟨(escL7 false t.data.toList).toArray⟩ : ByteArray) = y at *
    go_enter Tryd.func20, Tryd.ntmps20
    go_wp2_with fail
    refine KC.out.mono ?_
    rintro e w1 ⟨rfl, rfl⟩
    go_wp2_with fail
    refine KE.out.mono ?_
    rintro e w1 ⟨rfl, hb1⟩
    go_wp2
    go_ret
    exact ⟨congrArg (fun x => Ending.returned (.string x)) HV.out, hb1⟩

theorem propPair_impl (k v : ByteArray) (w : World) (hk : (k.size : Int) ≤ 1048576) (hv : (v.size : Int) ≤ 1048576) (hT : Tabs7 w) :
    Calls Tryd.prog 22 #[.string k, .string v] w fun e w' => e = .returned (.string (propPutT true k ++ ⟨#[61]⟩ ++ propPutT false v)) ∧ Below w.heap.size w w' := by
  have K1 := Lib.hid (propKey_impl k w hk hT)
  have K2 := Lib.hid (fun W (hb : Below w.heap.size w W) => propValue_impl v W hv (hT.over hb))
  have h1 := propPutT_size true k
  have h2 := propPutT_size false v
  clear hT
  generalize propPutT true k = x at *
  generalize propPutT false v = y at *
  go_enter Tryd.func22, Tryd.ntmps22
  go_wp2_with fail
  refine K1.out.mono ?_
  rintro e w1 ⟨rfl, hb1⟩
  have hxz : (x ++ (⟨#[61]⟩ : ByteArray)).size = x.size + 1 := by rw [ByteArray.size_append]; rfl
  go_wp2_with fail
  refine (K2.out w1 hb1).mono ?_
  rintro e w2 ⟨rfl, hb2⟩
  have hb3 := hb1.trans (hb2.mono hb1.size)
  clear hb1 hb2 K1 K2
  go_wp2
  go_ret
  exact ⟨rfl, hb3⟩

end Go.Proofs.YtflnpkckdjmljaaDoor
