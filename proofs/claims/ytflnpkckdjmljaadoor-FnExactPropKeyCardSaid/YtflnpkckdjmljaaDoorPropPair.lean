/- A pair as it is written: the model's contracts of PropKey, PropValue and PropPair. -/
import Derived.Test.YtflnpkckdjmljaaDoorProg
import Derived.Test.YtflnpkckdjmljaaDoorPlain
import Derived.Test.YtflnpkckdjmljaaDoorPropPure
import Derived.Test.YtflnpkckdjmljaaDoorPropPut
import Derived.WalkKit
import Derived.WalkLawsBesides
import Derived.Laws.IdiomStrings
import Derived.Lib.Hide
import Derived.IntWalk
set_option maxRecDepth 100000
namespace Go.Proofs.YtflnpkckdjmljaaDoor
open Go.RowKit
set_option linter.unusedVariables false

theorem propPutT_back (all : Bool) (s : ByteArray) : propR (propPutT all s).data.toList = some s.data.toList := propR_put all _
theorem propW_len (ok all : Bool) (f : Nat) (first : Bool) (l : List UInt8) : (propW ok all f first l).length ≤ 12 * l.length := by
  induction f generalizing first l with
  | zero => cases l <;> exact Nat.zero_le _
  | succ f ih =>
    cases l with
    | nil => simp [propW]
    | cons c t =>
      by_cases hc : 127 < c.toNat ∧ ok = true
      · obtain ⟨hc, rfl⟩ := hc
        cases hn : nextS (c :: t) with
        | none =>
          unfold propW
          simp [hc, hn]
        | some p =>
          obtain ⟨r, n⟩ := p
          have hp := next_pos hn
          rw [propW_sign _ _ _ _ _ hc hn, List.length_append]
          have h1 := ih false ((c :: t).drop n)
          have h2 : (escB r).length ≤ 12 := by have := escI_len (r : Int); simpa [escI] using this
          rw [List.length_drop] at h1
          simp only [List.length_cons] at *
          omega
      · rw [propW_byte _ _ _ _ _ _ hc, List.length_append]
        have h1 := ih false t
        have h2 := propP_len (all || first) c
        simp only [List.length_cons]
        omega
theorem propPutT_size (all : Bool) (s : ByteArray) : (propPutT all s).size ≤ 12 * s.size := by
  unfold propPutT
  rw [toList_size]
  have := propW_len (signsL s.data.toList).isSome all s.data.toList.length true s.data.toList
  rw [Lib.size_eq s]
  exact this
theorem propKey_spec (s : ByteArray) (w : World) (hs : s.size ≤ 8000000) :
    Calls Tryd.prog 17 #[.string s] w fun e w' => e = .returned (.string (propPutT true s)) ∧ Below w.heap.size w w' := by
  have K := Lib.hid (propPut_spec s true w hs)
  go_enter Tryd.func17, Tryd.ntmps17
  go_wp2_with fail
  refine K.out.mono ?_
  rintro e w1 ⟨rfl, hb⟩
  go_wp2
  go_ret
  exact ⟨rfl, hb⟩
theorem propValue_spec (s : ByteArray) (w : World) (hs : s.size ≤ 8000000) :
    Calls Tryd.prog 19 #[.string s] w fun e w' => e = .returned (.string (propPutT false s)) ∧ Below w.heap.size w w' := by
  have K := Lib.hid (propPut_spec s false w hs)
  go_enter Tryd.func19, Tryd.ntmps19
  go_wp2_with fail
  refine K.out.mono ?_
  rintro e w1 ⟨rfl, hb⟩
  go_wp2
  go_ret
  exact ⟨rfl, hb⟩
theorem propPair_spec (k v : ByteArray) (w : World) (hk : k.size ≤ 8000000) (hv : v.size ≤ 8000000) :
    Calls Tryd.prog 21 #[.string k, .string v] w fun e w' => e = .returned (.string (propPutT true k ++ ⟨#[61]⟩ ++ propPutT false v)) ∧ Below w.heap.size w w' := by
  have K1 := Lib.hid (propKey_spec k w hk)
  have K2 := Lib.hid (fun w => propValue_spec v w hv)
  go_enter Tryd.func21, Tryd.ntmps21
  go_wp2_with fail
  refine K1.out.mono ?_
  rintro e w1 ⟨rfl, hb⟩
  have hs1 := propPutT_size true k
  have hs2 := propPutT_size false v
  generalize ha : propPutT true k = a at *
  have hsa : a.size < 100000000 := by omega
  have hone : (⟨#[61]⟩ : ByteArray).size = 1 := rfl
  go_wp2_with fail
  refine (K2.out _).mono ?_
  rintro e w2 ⟨rfl, hb2⟩
  generalize hbv : propPutT false v = b at *
  have hsb : b.size < 100000000 := by omega
  have hsab : (a ++ ⟨#[61]⟩).size = a.size + 1 := by rw [ByteArray.size_append]; rfl
  go_wp2
  go_ret
  exact ⟨by rw [ha, hbv]; rfl, hb.trans (hb2.mono hb.size)⟩

end Go.Proofs.YtflnpkckdjmljaaDoor
