/- The walk of FnProp. -/
import Derived.Test.YtflnpkckdjmljaaGreatDoorProg
import Derived.Test.YtflnpkckdjmljaaGreatDoorPlain
import Derived.Test.YtflnpkckdjmljaaGreatDoorDraw
import Derived.Test.YtflnpkckdjmljaaGreatDoorDrawNum
import Derived.Test.YtflnpkckdjmljaaGreatDoorTextOf
import Derived.Test.YtflnpkckdjmljaaGreatDoorRecRows
import Derived.Test.YtflnpkckdjmljaaGreatDoorRows0
import Derived.Test.YtflnpkckdjmljaaGreatDoorPropPure
import Derived.Test.YtflnpkckdjmljaaGreatDoorPropSpec
import Derived.Test.YtflnpkckdjmljaaGreatDoorPropPair
import Derived.Test.YtflnpkckdjmljaaGreatDoorPropImpl
import Derived.Test.YtflnpkckdjmljaaGreatDoorPropEsc
import Derived.Test.YtflnpkckdjmljaaGreatDoorPropRecs
import Derived.Test.YtflnpkckdjmljaaGreatDoorPropParse
import Derived.Test.YtflnpkckdjmljaaGreatDoorPropsCore
import Derived.Test.YtflnpkckdjmljaaGreatDoorPropDraw
import Derived.WalkKit
import Derived.WalkLawsBesides
import Derived.Laws.IdiomStrings
import Derived.Lib.Hide
import Derived.IntWalk
set_option maxRecDepth 100000
namespace Go.Proofs.YtflnpkckdjmljaaGreatDoor
open Go.RowKit
set_option linter.unusedVariables false

theorem bytesIn_over {w w' : World} {a : Option Addr} {len : Nat} (h : BytesIn w a len) (hlow : ∀ x, a = some x → len ≠ 0 → x.block < w.heap.size) (hb : Below w.heap.size w w') : BytesIn w' a len ∧ ∀ x, a = some x → len ≠ 0 → x.block < w'.heap.size :=
  ⟨bytesIn_kept (b := 0) h (fun x hx h0 => hb.block _ (hlow x hx h0)), fun x hx h0 => Nat.lt_of_lt_of_le (hlow x hx h0) hb.size⟩
theorem pair_props (k v : ByteArray) (hk : k.size ≤ 20) (hv : v.size ≤ 20) : ∃ raw, recsP (linesOf (lineP k v ++ ⟨#[10]⟩)) 0 = [⟨3, raw, ⟨#[]⟩, k, v, 1⟩] ∧ propsL (lineP k v ++ ⟨#[10]⟩) = [⟨3, raw, ⟨#[]⟩, k, v, 1⟩] ∧ (lineP k v).size ≤ 481 := by
  obtain ⟨raw, h⟩ := pair_parse k v
  have h1 := propPutT_size true k
  have h2 := propPutT_size false v
  have hz : (lineP k v).size ≤ 481 := by
    unfold lineP
    rw [ByteArray.size_append, ByteArray.size_append, show (⟨#[61]⟩ : ByteArray).size = 1 from rfl]
    omega
  refine ⟨raw, h, ?_, hz⟩
  unfold propsL
  rw [if_pos (by rw [ByteArray.size_append, show (⟨#[10]⟩ : ByteArray).size = 1 from rfl]; omega), h, limG_few (by simp)]

set_option maxHeartbeats 3200000 in
theorem fnProp_walk (a0 : Option Addr) (len0 cap0 : Nat) (w : World) (hB : BytesIn w a0 len0) (hlow : ∀ x, a0 = some x → len0 ≠ 0 → x.block < w.heap.size) (hT : Tabs7 w) :
    Calls Tryz.prog 3 #[.slice a0 len0 cap0] w fun e w' => e = .returned (.bool true) ∧ Below w.heap.size w w' := by
  by_cases h0 : len0 ≤ 1048576
  · go_enter Tryz.func3, Tryz.ntmps3
    go_wp2_with fail
    refine (big_no w a0 len0 cap0 h0).mono ?_
    rintro e w1 ⟨rfl, rfl⟩
    go_wp2_with fail
    refine (drawPropPair _ a0 len0 cap0 h0 hB hlow).mono ?_
    rintro e w1 ⟨k, v, hk, hv, rfl, hb1⟩
    obtain ⟨raw, hrec, hpl, hlz⟩ := pair_props k v hk hv
    have HT := Lib.hid (fun W (hW : Below w.heap.size w W) => hT.over hW)
    have HBI := Lib.hid (fun W (hW : Below w.heap.size w W) => bytesIn_over hB hlow hW)
    have KI := Lib.hid (fun W (hW : Below w.heap.size w W) => propPair_impl k v W (by omega) (by omega) (hT.over hW))
    have KS := Lib.hid (fun W => propPair_spec k v W (by omega) (by omega))
    have KK := Lib.hid (fun W (hW : Below w.heap.size w W) => propKey_impl k W (by omega) (hT.over hW))
    have KV := Lib.hid (fun W (hW : Below w.heap.size w W) => propValue_impl v W (by omega) (hT.over hW))
    have h12 := propPutT_size true k
    have h13 := propPutT_size false v
    have TK := Lib.hid (fun W => propText_impl (propPutT true k) W (by omega))
    have TV := Lib.hid (fun W => propText_impl (propPutT false v) W (by omega))
    rw [propT_put] at TK TV
    have KP := Lib.hid (fun W => parseProps_impl (lineP k v ++ ⟨#[10]⟩) W (by rw [ByteArray.size_append, show (⟨#[10]⟩ : ByteArray).size = 1 from rfl]; omega) (fun _ => limit_fewP _ (by rw [hrec]; simp)))
    rw [hpl] at KP
    have hln : propPutT true k ++ (⟨#[61]⟩ : ByteArray) ++ propPutT false v = lineP k v := rfl
    rw [hln] at KI KS
    clear hT hB hlow hrec hpl hln
    generalize lineP k v = t at *
    generalize propPutT true k = pk at *
    generalize propPutT false v = pv at *
    have htt : (t.toList != t.toList) = false := by simp
    have hkk : (k.toList == k.toList) = true := by simp
    have hvv : (v.toList == v.toList) = true := by simp
    have htz : (t ++ (⟨#[10]⟩ : ByteArray)).size = t.size + 1 := by rw [ByteArray.size_append]; rfl
    go_wp2_with fail
    refine (KI.out _ hb1).mono ?_
    rintro e w2 ⟨rfl, hb2⟩
    replace hb1 := hb1.trans (hb2.mono hb1.size)
    clear hb2 KI
    go_wp2_with fail
    refine (KS.out _).mono ?_
    rintro e w3 ⟨rfl, hb2⟩
    replace hb1 := hb1.trans (hb2.mono hb1.size)
    clear hb2 KS
    go_wp2_with fail
    refine (KK.out _ hb1).mono ?_
    rintro e w4 ⟨rfl, hb2⟩
    replace hb1 := hb1.trans (hb2.mono hb1.size)
    clear hb2 KK
    go_wp2_with fail
    refine (TK.out _).mono ?_
    rintro e w5 ⟨rfl, hb2⟩
    replace hb1 := hb1.trans (hb2.mono hb1.size)
    clear hb2 TK
    go_wp2_with fail
    refine (KV.out _ hb1).mono ?_
    rintro e w6 ⟨rfl, hb2⟩
    replace hb1 := hb1.trans (hb2.mono hb1.size)
    clear hb2 KV
    go_wp2_with fail
    refine (TV.out _).mono ?_
    rintro e w7 ⟨rfl, hb2⟩
    replace hb1 := hb1.trans (hb2.mono hb1.size)
    clear hb2 TV
    go_wp2_with fail
    refine (drawPropText _ a0 len0 cap0 h0 (HBI.out _ hb1).1 (HBI.out _ hb1).2).mono ?_
    rintro e w8 ⟨x, hx, rfl, hb2⟩
    replace hb1 := hb1.trans (hb2.mono hb1.size)
    clear hb2 HBI
    have TI := Lib.hid (fun W => propText_impl x W (by omega))
    have TS := Lib.hid (fun W => propText_spec x W (by omega))
    generalize (propT x).1 = y at *
    generalize (propT x).2 = o at *
    have hyy : (y.toList != y.toList) = false := by simp
    have hoo : (o != o) = false := by simp
    go_wp2_with fail
    refine (TI.out _).mono ?_
    rintro e w9 ⟨rfl, hb2⟩
    replace hb1 := hb1.trans (hb2.mono hb1.size)
    clear hb2 TI
    go_wp2_with fail
    refine (TS.out _).mono ?_
    rintro e w10 ⟨rfl, hb2⟩
    replace hb1 := hb1.trans (hb2.mono hb1.size)
    clear hb2 TS
    go_wp2_with fail
    refine (KP.out _).mono ?_
    rintro e w11 ⟨vl, gl, rfl, hr, hgl, hb2⟩
    replace hb1 := hb1.trans (hb2.mono hb1.size)
    clear hb2 KP HT
    obtain ⟨al, cl, rfl, hal⟩ := hr.form
    obtain rfl := hal (by simp)
    have c0 := rec_c0 hr.toRowsRd 0 (by simp)
    have c3 := rec_c3 hr.toRowsRd 0 (by simp)
    have c4 := rec_c4 hr.toRowsRd 0 (by simp)
    simp only [List.getElem_cons_zero, Nat.zero_mul, Nat.zero_add, Nat.add_zero] at c0 c3 c4
    clear hr hal
    go_wp2
    go_ret
    exact ⟨rfl, hb1⟩
  · go_enter Tryz.func3, Tryz.ntmps3
    go_wp2_with fail
    refine (big_yes w a0 len0 cap0 (by omega)).mono ?_
    rintro e w1 ⟨rfl, rfl⟩
    go_wp2
    go_ret
    exact ⟨rfl, Below.refl _ _⟩

end Go.Proofs.YtflnpkckdjmljaaGreatDoor
