/-
  PROVED HERE: the tied card of 'laws.FnLong': it returns true at every input, and its argument reads afterwards as it did, where the listed tables of the library hold what the program's text lays (the card ties them). No condition is added to the given statement.
-/
import Derived.Test.YtflnpkckdjmljaaGreatDoorProg
import Derived.Test.YtflnpkckdjmljaaGreatDoorPlain
import Derived.Test.YtflnpkckdjmljaaGreatDoorTail
import Derived.Test.YtflnpkckdjmljaaGreatDoorDraw
import Derived.Test.YtflnpkckdjmljaaGreatDoorDrawNum
import Derived.Test.YtflnpkckdjmljaaGreatDoorTextOf
import Derived.Test.YtflnpkckdjmljaaGreatDoorRecRows
import Derived.Test.YtflnpkckdjmljaaGreatDoorRows0
import Derived.Test.YtflnpkckdjmljaaGreatDoorPropPure
import Derived.Test.YtflnpkckdjmljaaGreatDoorPropSpec
import Derived.Test.YtflnpkckdjmljaaGreatDoorPropPair
import Derived.Test.YtflnpkckdjmljaaGreatDoorPropTails
import Derived.Test.YtflnpkckdjmljaaGreatDoorPropWrite
import Derived.Test.YtflnpkckdjmljaaGreatDoorPropParse
import Derived.Test.YtflnpkckdjmljaaGreatDoorPropImpl
import Derived.Test.YtflnpkckdjmljaaGreatDoorPropEsc
import Derived.Test.YtflnpkckdjmljaaGreatDoorPropRecs
import Derived.Test.YtflnpkckdjmljaaGreatDoorPropsCore
import Derived.Test.YtflnpkckdjmljaaGreatDoorPropDraw
import Derived.Test.YtflnpkckdjmljaaGreatDoorFnPropWalk
import Derived.Deep.RegionWith
import Derived.WalkKit
import Derived.WalkLawsBesides
import Derived.Laws.IdiomStrings
import Derived.Lib.Hide
import Derived.IntWalk
import Derived.Test.YtflnpkckdjmljaaGreatDoorCards
import Derived.Test.YtflnpkckdjmljaaGreatDoorTie
import Derived.Test.YtflnpkckdjmljaaGreatDoorValid
import Derived.ProofKit
import Derived.OpenShut
import Derived.ShutString
import Derived.ChangeOld
import Derived.Below
import Derived.LaidSub
import Derived.Lay
import Derived.Deep.DeepHandedRow
import Derived.Lib.LaidTab
import Derived.Lib.LaidU8T
import Derived.Lib.LaidIn
import Derived.Shelf.Vars
set_option maxRecDepth 100000
namespace Go.Proofs.YtflnpkckdjmljaaGreatDoor
open Go.RowKit
set_option linter.unusedVariables false

/-- what 'at' answers at 1 -/
theorem at_one (w : World) (a : Option Addr) (len cap : Nat) (hlen : len ≤ 1048576) (hB : BytesIn w a len) :
    Calls Tryz.prog 17 #[.slice a len cap, .int .i64 1] w fun e w' => ∃ x : Int, 0 ≤ x ∧ x ≤ 255 ∧ e = .returned (.int .i64 x) ∧ Below w.heap.size w w' := by
  by_cases h1 : 1 < len
  · rcases hB with h | ⟨blk, off, rfl, hc⟩
    · omega
    · obtain ⟨x, hx0, hx1, hx⟩ := hc 1 h1
      have hl : (1 : Int) < (len : Int) := by omega
      go_enter Tryz.func17, Tryz.ntmps17
      go_wp2
      go_ret
      exact ⟨x, hx0, hx1, by first | rfl | (simp; omega), Below.refl _ _⟩
  · have hl : ¬ (1 : Int) < (len : Int) := by omega
    go_enter Tryz.func17, Tryz.ntmps17
    go_wp2
    go_ret
    exact ⟨_, Int.emod_nonneg _ (by decide), by have := Int.emod_lt_of_pos (7 + (len : Int)) (show (0 : Int) < 256 by decide); omega, rfl, Below.refl _ _⟩

theorem long_props (v : ByteArray) (hv : v.size ≤ 20) (i : Nat) (hi : i ≤ (propPutT false v).size) (ht : tailN ((propPutT false v).extract 0 i) % 2 = 0) (hg : ∀ c, (propL false v.data.toList)[i]? = some c → gapB c = false) :
    ∃ r0 r1 k1 s1 u1 v1, (recsP (linesOf (longT (propPutT false v) i)) 0).length ≤ 200 ∧ propsL (longT (propPutT false v) i) = [⟨3, r0, ⟨#[]⟩, ⟨#[107, 101, 121]⟩, v, 1⟩, ⟨k1, r1, s1, u1, v1, 3⟩] ∧ (longT (propPutT false v) i).size ≤ 300 := by
  obtain ⟨r0, r1, k1, s1, u1, v1, h⟩ := long_parse v i hi ht hg
  have h2 := propPutT_size false v
  have hz : (longT (propPutT false v) i).size ≤ 300 := by
    unfold longT
    rw [ByteArray.size_append, ByteArray.size_append, ByteArray.size_append, ByteArray.size_append, ByteArray.size_extract, ByteArray.size_extract, show keyEqB.size = 6 from rfl, show onB.size = 6 from rfl, show zB.size = 5 from rfl]
    omega
  refine ⟨r0, r1, k1, s1, u1, v1, by rw [h]; simp, ?_, hz⟩
  unfold propsL
  rw [if_pos (by omega), h, limG_few (by simp)]

set_option maxHeartbeats 3200000 in
theorem fnLong_walk (a0 : Option Addr) (len0 cap0 : Nat) (w : World) (hB : BytesIn w a0 len0) (hlow : ∀ x, a0 = some x → len0 ≠ 0 → x.block < w.heap.size) (hT : Tabs7 w) :
    Calls Tryz.prog 4 #[.slice a0 len0 cap0] w fun e w' => e = .returned (.bool true) ∧ Below w.heap.size w w' := by
  by_cases h0 : len0 ≤ 1048576
  · go_enter Tryz.func4, Tryz.ntmps4
    go_wp2_with fail
    refine (big_no w a0 len0 cap0 h0).mono ?_
    rintro e w1 ⟨rfl, rfl⟩
    go_wp2_with fail
    refine (drawPropValue _ a0 len0 cap0 h0 hB hlow).mono ?_
    rintro e w1 ⟨v, hv, rfl, hb1⟩
    have HBI := Lib.hid (fun W (hW : Below w.heap.size w W) => bytesIn_over hB hlow hW)
    have KV := Lib.hid (fun W (hW : Below w.heap.size w W) => propValue_impl v W (by omega) (hT.over hW))
    have KS := Lib.hid (fun W => propValue_spec v W (by omega))
    have hpz := propPutT_size false v
    have htt : ((propPutT false v).toList != (propPutT false v).toList) = false := by simp
    clear hT hB hlow
    go_wp2_with fail
    refine (KV.out _ hb1).mono ?_
    rintro e w2 ⟨rfl, hb2⟩
    replace hb1 := hb1.trans (hb2.mono hb1.size)
    clear hb2 KV
    go_wp2_with fail
    refine (KS.out _).mono ?_
    rintro e w3 ⟨rfl, hb2⟩
    replace hb1 := hb1.trans (hb2.mono hb1.size)
    clear hb2 KS
    go_wp2_with fail
    refine (at_one _ a0 len0 cap0 h0 (HBI.out _ hb1).1).mono ?_
    rintro e w4 ⟨x, hx0, hx1, rfl, hb2⟩
    replace hb1 := hb1.trans (hb2.mono hb1.size)
    clear hb2 HBI
    obtain ⟨j, hj, hje⟩ : ∃ j : Nat, j ≤ (propPutT false v).size ∧ x % (((propPutT false v).size : Int) + 1) = (j : Int) := by
      have h1 := Int.emod_nonneg x (show (((propPutT false v).size : Int) + 1) ≠ 0 by omega)
      have h2 := Int.emod_lt_of_pos x (show (0 : Int) < (((propPutT false v).size : Int) + 1) by omega)
      exact ⟨(x % (((propPutT false v).size : Int) + 1)).toNat, by omega, by omega⟩
    have hjz : (j : Int) ≤ ((propPutT false v).size : Int) := by omega
    have hnz : (((propPutT false v).size : Int) + 1) ≠ 0 := by omega
    have KT := Lib.hid (fun W => tail_spec ((propPutT false v).extract 0 j) W (by rw [ByteArray.size_extract]; unfold maxLen; omega))
    have htn := tailN_le ((propPutT false v).extract 0 j)
    rw [ByteArray.size_extract] at htn
    go_wp2_with fail
    rw [hje]
    refine (KT.out _).mono ?_
    rintro e w5 ⟨rfl, rfl⟩
    clear KT hje
    generalize htnn : tailN ((propPutT false v).extract 0 j) = tn at *
    rcases (show tn % 2 = 1 ∨ tn % 2 = 0 by omega) with hp | hp
    · have e1 : ((tn : Int) % 2 == 1) = true := by rw [beq_iff_eq]; omega
      go_wp2
      go_ret
      exact ⟨rfl, hb1⟩
    · have e1 : ((tn : Int) % 2 == 1) = false := by rw [beq_eq_false_iff_ne]; omega
      have htl : tailN ((propPutT false v).extract 0 j) % 2 = 0 := by rw [htnn]; exact hp
      by_cases hlt : j < (propPutT false v).size
      · have hlz : (j : Int) < ((propPutT false v).size : Int) := by omega
        have yes : ∀ d : UInt8, (propPutT false v)[j] = d → ((((propPutT false v)[j]).toNat : Int) == (d.toNat : Int)) = true := fun d h => by rw [h]; simp
        have no : ∀ d : UInt8, (propPutT false v)[j] ≠ d → ((((propPutT false v)[j]).toNat : Int) == (d.toNat : Int)) = false := fun d h => by
          rw [beq_eq_false_iff_ne]; intro e; exact h (UInt8.toNat_inj.1 (Int.ofNat_inj.1 e))
        by_cases c1 : (propPutT false v)[j] = 32
        · have b1 : ((((propPutT false v)[j]).toNat : Int) == 32) = true := yes 32 c1
          go_wp2
          go_ret
          exact ⟨rfl, hb1⟩
        · have b1 : ((((propPutT false v)[j]).toNat : Int) == 32) = false := no 32 c1
          by_cases c2 : (propPutT false v)[j] = 117
          · have b2 : ((((propPutT false v)[j]).toNat : Int) == 117) = true := yes 117 c2
            go_wp2
            go_ret
            exact ⟨rfl, hb1⟩
          · have b2 : ((((propPutT false v)[j]).toNat : Int) == 117) = false := no 117 c2
            by_cases c3 : (propPutT false v)[j] = 9
            · have b3 : ((((propPutT false v)[j]).toNat : Int) == 9) = true := yes 9 c3
              go_wp2
              go_ret
              exact ⟨rfl, hb1⟩
            · have b3 : ((((propPutT false v)[j]).toNat : Int) == 9) = false := no 9 c3
              by_cases c4 : (propPutT false v)[j] = 12
              · have b4 : ((((propPutT false v)[j]).toNat : Int) == 12) = true := yes 12 c4
                go_wp2
                go_ret
                exact ⟨rfl, hb1⟩
              · have b4 : ((((propPutT false v)[j]).toNat : Int) == 12) = false := no 12 c4
                have hgp : ∀ c, (propL false v.data.toList)[j]? = some c → gapB c = false := by
                  intro c hc
                  have h9 : (propPutT false v)[j] = c := by
                    have h8 := (List.getElem?_eq_some_iff.1 hc).2
                    exact h8
                  rw [← h9]
                  unfold gapB
                  simp only [beq_eq_false_iff_ne.2 c1, beq_eq_false_iff_ne.2 c3, beq_eq_false_iff_ne.2 c4, Bool.or_self]
                clear yes no c1 c2 c3 c4 htnn
                go_wp2_with fail
                obtain ⟨r0, r1, k1, s1, u1, v1, hrec, hpl, hlz⟩ := long_props v hv j hj htl hgp
                have KP := Lib.hid (fun W => parseProps_impl (longT (propPutT false v) j) W (by omega) (fun _ => limit_fewP _ hrec))
                rw [hpl] at KP
                have HLT : Hid (keyEqB ++ (propPutT false v).extract 0 j ++ onB ++ (propPutT false v).extract j (propPutT false v).size ++ zB = longT (propPutT false v) j) := rfl
                have T1 := Lib.hid (fun W => propText_impl ((propPutT false v).extract 0 j) W (by rw [ByteArray.size_extract]; omega))
                have T2 := Lib.hid (fun W => propText_impl ((propPutT false v).extract j (propPutT false v).size) W (by rw [ByteArray.size_extract]; omega))
                have HVL := Lib.hid (long_value v j htl)
                have hx0z : ((propPutT false v).extract 0 j).size = j := by rw [ByteArray.size_extract]; omega
                have hx1z : ((propPutT false v).extract j (propPutT false v).size).size = (propPutT false v).size - j := by rw [ByteArray.size_extract]; omega
                have z1 : (keyEqB ++ (propPutT false v).extract 0 j).size = 6 + j := by rw [ByteArray.size_append, hx0z]; rfl
                have z2 : (keyEqB ++ (propPutT false v).extract 0 j ++ onB).size = 12 + j := by rw [ByteArray.size_append, z1, show onB.size = 6 from rfl]; omega
                have z3 : (keyEqB ++ (propPutT false v).extract 0 j ++ onB ++ (propPutT false v).extract j (propPutT false v).size).size = 12 + (propPutT false v).size := by rw [ByteArray.size_append, z2, hx1z]; omega
                clear hrec hpl hgp htl
                generalize longT (propPutT false v) j = lt at *
                generalize propPutT false v = pv at *
                have hjz : (j : Int) ≤ (pv.size : Int) := by omega
                go_region_with (first | (rw [HLT.out]; (with_reducible refine (KP.out _).mono ?_); rintro e w9 ⟨vl, gl, rfl, hr, hgl, hb2⟩))
                replace hb1 := hb1.trans (((Below.refl w4.heap.size w4).drew).trans hb2 |>.mono hb1.size)
                clear hb2 KP HLT
                obtain ⟨al, cl, rfl, hal⟩ := hr.form
                obtain rfl := hal (by simp)
                have HR := Lib.hid hr
                clear hr hal
                generalize hq1 : propT (pv.extract 0 j) = q1 at *
                generalize hq2 : propT (pv.extract j pv.size) = q2 at *
                have hs1 := propT_size (pv.extract 0 j)
                have hs2 := propT_size (pv.extract j pv.size)
                rw [hq1, hx0z] at hs1
                rw [hq2, hx1z] at hs2
                clear hq1 hq2
                obtain ⟨y1, o1⟩ := q1
                obtain ⟨y2, o2⟩ := q2
                simp only at T1 T2 hs1 hs2
                go_wp2_with fail
                refine (T1.out _).mono ?_
                rintro e wA ⟨rfl, hb2⟩
                replace hb1 := hb1.trans (hb2.mono hb1.size)
                have HR2 := Lib.hid (HR.out.over hb2)
                clear hb2 T1 HR
                go_wp2_with fail
                refine (T2.out _).mono ?_
                rintro e wB ⟨rfl, hb2⟩
                replace hb1 := hb1.trans (hb2.mono hb1.size)
                have HR3 := Lib.hid (HR2.out.over hb2)
                clear hb2 T2 HR2
                have c4 : wB.cell? ⟨gl, 4, none⟩ = some (.string v) := rec_c4 HR3.out.toRowsRd 0 (by simp)
                have c5 : wB.cell? ⟨gl, 11, none⟩ = some (.int .i64 3) := rec_c5 HR3.out.toRowsRd 1 (by simp)
                clear HR3
                cases o1
                · clear HVL
                  go_wp2
                  go_ret
                  exact ⟨rfl, hb1⟩
                · cases o2
                  · clear HVL
                    go_wp2
                    go_ret
                    exact ⟨rfl, hb1⟩
                  · have hvy := HVL.out y1 y2 rfl rfl
                    have hvv : (v.toList == (y1 ++ y2).toList) = true := by rw [← hvy]; simp
                    have hyz : (y1 ++ y2).size = y1.size + y2.size := ByteArray.size_append
                    clear HVL
                    go_wp2
                    go_ret
                    exact ⟨rfl, hb1⟩
      · have hlz : ¬ (j : Int) < ((propPutT false v).size : Int) := by omega
        have hgp : ∀ c, (propL false v.data.toList)[j]? = some c → gapB c = false := by
          intro c hc
          exfalso
          have h8 := (List.getElem?_eq_some_iff.1 hc).1
          exact hlt (by rw [Lib.size_eq]; exact h8)
        clear htnn
        go_wp2_with fail
        obtain ⟨r0, r1, k1, s1, u1, v1, hrec, hpl, hlz⟩ := long_props v hv j hj htl hgp
        have KP := Lib.hid (fun W => parseProps_impl (longT (propPutT false v) j) W (by omega) (fun _ => limit_fewP _ hrec))
        rw [hpl] at KP
        have HLT : Hid (keyEqB ++ (propPutT false v).extract 0 j ++ onB ++ (propPutT false v).extract j (propPutT false v).size ++ zB = longT (propPutT false v) j) := rfl
        have T1 := Lib.hid (fun W => propText_impl ((propPutT false v).extract 0 j) W (by rw [ByteArray.size_extract]; omega))
        have T2 := Lib.hid (fun W => propText_impl ((propPutT false v).extract j (propPutT false v).size) W (by rw [ByteArray.size_extract]; omega))
        have HVL := Lib.hid (long_value v j htl)
        have hx0z : ((propPutT false v).extract 0 j).size = j := by rw [ByteArray.size_extract]; omega
        have hx1z : ((propPutT false v).extract j (propPutT false v).size).size = (propPutT false v).size - j := by rw [ByteArray.size_extract]; omega
        have z1 : (keyEqB ++ (propPutT false v).extract 0 j).size = 6 + j := by rw [ByteArray.size_append, hx0z]; rfl
        have z2 : (keyEqB ++ (propPutT false v).extract 0 j ++ onB).size = 12 + j := by rw [ByteArray.size_append, z1, show onB.size = 6 from rfl]; omega
        have z3 : (keyEqB ++ (propPutT false v).extract 0 j ++ onB ++ (propPutT false v).extract j (propPutT false v).size).size = 12 + (propPutT false v).size := by rw [ByteArray.size_append, z2, hx1z]; omega
        clear hrec hpl hgp htl
        generalize longT (propPutT false v) j = lt at *
        generalize propPutT false v = pv at *
        have hjz : (j : Int) ≤ (pv.size : Int) := by omega
        go_region_with (first | (rw [HLT.out]; (with_reducible refine (KP.out _).mono ?_); rintro e w9 ⟨vl, gl, rfl, hr, hgl, hb2⟩))
        replace hb1 := hb1.trans (((Below.refl w4.heap.size w4).drew).trans hb2 |>.mono hb1.size)
        clear hb2 KP HLT
        obtain ⟨al, cl, rfl, hal⟩ := hr.form
        obtain rfl := hal (by simp)
        have HR := Lib.hid hr
        clear hr hal
        generalize hq1 : propT (pv.extract 0 j) = q1 at *
        generalize hq2 : propT (pv.extract j pv.size) = q2 at *
        have hs1 := propT_size (pv.extract 0 j)
        have hs2 := propT_size (pv.extract j pv.size)
        rw [hq1, hx0z] at hs1
        rw [hq2, hx1z] at hs2
        clear hq1 hq2
        obtain ⟨y1, o1⟩ := q1
        obtain ⟨y2, o2⟩ := q2
        simp only at T1 T2 hs1 hs2
        go_wp2_with fail
        refine (T1.out _).mono ?_
        rintro e wA ⟨rfl, hb2⟩
        replace hb1 := hb1.trans (hb2.mono hb1.size)
        have HR2 := Lib.hid (HR.out.over hb2)
        clear hb2 T1 HR
        go_wp2_with fail
        refine (T2.out _).mono ?_
        rintro e wB ⟨rfl, hb2⟩
        replace hb1 := hb1.trans (hb2.mono hb1.size)
        have HR3 := Lib.hid (HR2.out.over hb2)
        clear hb2 T2 HR2
        have c4 : wB.cell? ⟨gl, 4, none⟩ = some (.string v) := rec_c4 HR3.out.toRowsRd 0 (by simp)
        have c5 : wB.cell? ⟨gl, 11, none⟩ = some (.int .i64 3) := rec_c5 HR3.out.toRowsRd 1 (by simp)
        clear HR3
        cases o1
        · clear HVL
          go_wp2
          go_ret
          exact ⟨rfl, hb1⟩
        · cases o2
          · clear HVL
            go_wp2
            go_ret
            exact ⟨rfl, hb1⟩
          · have hvy := HVL.out y1 y2 rfl rfl
            have hvv : (v.toList == (y1 ++ y2).toList) = true := by rw [← hvy]; simp
            have hyz : (y1 ++ y2).size = y1.size + y2.size := ByteArray.size_append
            clear HVL
            go_wp2
            go_ret
            exact ⟨rfl, hb1⟩
  · go_enter Tryz.func4, Tryz.ntmps4
    go_wp2_with fail
    refine (big_yes w a0 len0 cap0 (by omega)).mono ?_
    rintro e w1 ⟨rfl, rfl⟩
    go_wp2
    go_ret
    exact ⟨rfl, Below.refl _ _⟩

end Go.Proofs.YtflnpkckdjmljaaGreatDoor

namespace Go.Proofs.YtflnpkckdjmljaaGreatDoor.fnLong
open Go.ChangeShapes Go.WideShapes Go.ChangeAt Go.RowKit
open Go.ChangeMaps (open_string shut_string)
set_option linter.unusedVariables false
set_option maxRecDepth 100000

theorem own : ownKnob Tryz.prog.godebug = none := by kernel_rfl
theorem laidOut : laidOutB Tryz.prog = true := by kernel_rfl
theorem lists : Rows.fnLongRow.laid = [("unicode/utf8.acceptRanges", Lib.acceptData), ("unicode/utf8.first", Lib.firstData)] := by kernel_rfl
/-- what the row's list gives: the two tables' cells hold their numbers; and a variable of the library's own holds some number -/
theorem table {W : World} (h : laidMetH Tryz.prog Rows.fnLongRow.laid W) (hsh : W.ShapedOpen Tryz.prog) : Tabs7 W := by
  rw [lists] at h
  refine ⟨utf8Tabs_of_readsT (U8Types.of196 lays196) ⟨by kernel_rfl, by kernel_rfl, by kernel_rfl, by kernel_rfl, by kernel_rfl, by kernel_rfl, by kernel_rfl⟩ (Lib.laidMet.reads h (.tail _ (.head _))) (Lib.laidMet.reads h (.head _)), ?_⟩
  exact cell_of_shapedOpen_int (t := 3) (zero := #[.int .i64 0]) hsh (of_decide_eq_true (by kernel_rfl)) (by kernel_rfl) rfl (by kernel_rfl) (by kernel_rfl) Tryz.underlying3

theorem contract (H : Type) (enc : TypeId × Value → H) (W : World) (base : Nat) (args : Array Value) (ds gs : List (DataW H)) (before : List MemPlace)
    (hval : ∀ (j : Nat) t v, Tryz.f4.params[j]? = some t → args[j]? = some v → Value.okWide Tryz.prog W .any base t v)
    (hW : DataW.Whole enc Tryz.prog Tryz.f4.params.toList Rows.fnLongSpec.vars false W args.toList ds gs before) (hL : laidMetH Tryz.prog Rows.fnLongRow.laid W) (hsh : W.ShapedOpen Tryz.prog) :
    Calls Tryz.prog 4 args W fun e W' => ∃ v, e = .returned v ∧ Rows.fnLongSpec.post enc Tryz.prog Tryz.f4 false true false false W args v W' := by
  have hW' := hW
  obtain ⟨p, q, hA0, hV, rfl, hfz, hnd⟩ := hW
  have hA : DataW.TrodAll enc Tryz.prog W 0 (fun _ => true) true Tryz.f4.params.toList args.toList ds p := hA0
  rw [Tryz.params4] at hA hval
  obtain ⟨v0, vs0, d0, ds0, p0, q0, hargs, rfl, rfl, h0, r0⟩ := trodAll_cons hA
  obtain ⟨rfl, rfl, rfl⟩ := trodAll_nil r0
  obtain rfl : args = #[v0] := by cases args; simp_all
  obtain ⟨rfl, rfl⟩ := trodVars_none hV
  obtain ⟨a0, len0, cap0, rfl⟩ := okWide_slice Tryz.underlying22 (hval 0 22 v0 rfl rfl)
  have k0 := h0
  have lt0 : ∀ x ∈ p0, x.block < W.heap.size := by obtain ⟨m, hm⟩ := k0; exact DataW.trod_lt m _ _ _ hm
  obtain ⟨z0, w0⟩ : ∃ zs, RowU8 W a0 len0 cap0 zs := by
    obtain ⟨fuel, hf⟩ := h0
    rcases open_ints Tryz.underlying22 Tryz.underlying5 (by kernel_rfl) hf with ⟨hcs, _⟩ | ⟨x, l, c, zs, hcs, _, hl, hm, hz, _, hcell, hwz⟩
    · simp [Value.cells] at hcs
      obtain ⟨rfl, rfl, rfl⟩ := hcs
      exact ⟨[], .inl ⟨rfl, rfl, rfl, rfl⟩⟩
    · simp [Value.cells] at hcs
      obtain ⟨rfl, rfl, rfl⟩ := hcs
      exact ⟨zs, .inr ⟨_, rfl, hl, hm, by simpa using hz, hcell, hwz⟩⟩
  clear hA0
  refine (fnLong_walk a0 len0 cap0 W (row_bytes w0).1 (row_bytes w0).2 (table hL hsh)).mono fun e W' ⟨he, bel⟩ => ?_
  subst he
  exact ⟨_, rfl, _, _, _, [], _, [], hW', trodAll_mk1 (shut_bool Tryz.underlying4 _), (trodAll_cons_mk (Below.trod laidOut (by kernel_rfl) (of_decide_eq_true (by kernel_rfl)) k0 bel lt0) trodAll_mk0), rfl, bel.frame _, fun h => by cases h⟩

theorem laid_met (os : Os) : laidMet Tryz.prog Rows.fnLongRow.laid ((World.laidAll Tryz.prog os Rows.fnLongRow.laid).forCall (fun _ _ => 0) ⟨#[], #[.slice none 0 0], []⟩).memory :=
  laidMet_laidAll #[.slice none 0 0] (by kernel_rfl) (by kernel_rfl)
theorem reads (os : Os) {H : Type} (enc : TypeId × Value → H) : ∃ places, DataW.whole enc Tryz.prog ((World.laidAll Tryz.prog os Rows.fnLongRow.laid).forCall (fun _ _ => 0) ⟨#[], #[.slice none 0 0], []⟩).memory Tryz.f4.params.toList Rows.fnLongSpec.vars false #[(.slice none 0 0 : Value)].toList 8 = some ([.nil], [], places) :=
  ⟨[], by kernel_rfl⟩

set_option maxRecDepth 100000 in
theorem lifted (os : Os) (started : os.Started) (H : Type) (enc : TypeId × Value → H) (F : Stop.Interp) :
    ReturnsInHanded {} Tryz.checked os 4 .any ((OpenSpec.ofChange Rows.fnLongSpec).preRow enc Tryz.prog Tryz.f4 Rows.fnLongRow.domain false Rows.fnLongRow.laid) (((OpenSpec.ofChange Rows.fnLongSpec).at F).post enc Tryz.prog Tryz.f4 false true false false) := by
  obtain ⟨places, hx⟩ := reads os enc
  refine returnsInHanded_of_row (C := Tryz.checked) (s := OpenSpec.ofChange Rows.fnLongSpec) own started (by kernel_rfl) Tryz.func4
    (witness_row_at (enc := enc) (C := Tryz.checked) false (World.laidAll Tryz.prog os Rows.fnLongRow.laid) #[.slice none 0 0] (World.laidAll_os _ _ _) (by kernel_rfl) (by kernel_rfl) (by kernel_rfl)
      (OpenSpec.preRow_of_cond 8 hx (by kernel_rfl) (fun k hk => by cases hk) (by kernel_rfl) (laid_met os))) ?_
  intro W base args ds gs before hval hW _ _ _ hL hsh _
  exact contract H enc W base args ds gs before hval hW hL hsh

theorem said : Rows.FnLongSaid :=
  OpenClaim.holds_of_cond 4 Tryz.f4 rfl rfl rfl rfl rfl rfl rfl ⟨rfl, rfl, rfl, rfl, rfl⟩ rfl rfl rfl rfl rfl (by kernel_rfl) Tryz.func4 (by kernel_rfl)
    (of_decide_eq_true (by kernel_rfl)) (by unfold Func.isWrapper; first | (rw [if_pos (by decide +kernel)]; kernel_rfl) | (rw [if_neg (by decide +kernel)]; exact ⟨rfl, rfl⟩))
    (fun os started H enc _ F => by rw [OpenClaim.pre_eq_preRow]; exact lifted os started H enc F)

theorem plain (f : FuncId) (fn : Func) (hf : Tryz.pinned.checked.prog.funcNamed "loop.example/g00727/laws.FnLong" = some f) (hfn : Tryz.pinned.checked.prog.funcs[f]? = some fn) :
    false = Tryz.pinned.checked.prog.looks [] ∧ ∀ (j : Nat) t, fn.params[j]? = some t → Tryz.pinned.checked.prog.wantsStandIn t = false := by
  obtain rfl : f = 4 := Option.some.inj ((show Tryz.prog.funcNamed "loop.example/g00727/laws.FnLong" = some 4 by kernel_rfl).symm.trans hf) |>.symm
  obtain rfl : fn = Tryz.f4 := (Option.some.inj (Tryz.func4.symm.trans hfn)).symm
  refine ⟨by kernel_rfl, fun j t ht => ?_⟩
  rw [Tryz.params4] at ht
  obtain rfl : t = 22 := by simpa using Array.mem_of_getElem? ht
  exact (show Tryz.prog.wantsStandIn 22 = false by kernel_rfl)

theorem card : Rows.FnLongCardSaid :=
  Claim7.holds_tied_plain_at .later [] _ _ _ _ said (fun _ h => by cases h) (by kernel_rfl) (fun _ h => by cases h) fnLong_row_tie rfl ⟨rfl, rfl⟩ (by kernel_rfl) rfl plain (by kernel_rfl)
end Go.Proofs.YtflnpkckdjmljaaGreatDoor.fnLong
