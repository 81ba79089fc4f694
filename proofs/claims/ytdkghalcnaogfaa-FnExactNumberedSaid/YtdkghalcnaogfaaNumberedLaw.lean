/- The walk of the exact law of Numbered. -/
import Derived.Test.YtdkghalcnaogfaaProg
import Derived.Test.YtdkghalcnaogfaaPlain
import Derived.Test.YtdkghalcnaogfaaKit
import Derived.Test.YtdkghalcnaogfaaRows0
import Derived.Test.YtdkghalcnaogfaaRecRows
import Derived.Test.YtdkghalcnaogfaaRecArg
import Derived.Test.YtdkghalcnaogfaaRecKit
import Derived.Test.YtdkghalcnaogfaaRecNum
import Derived.WalkKit
import Derived.WalkLawsBesides
import Derived.Lib.Hide
import Derived.IntWalk
namespace Go.Proofs.Ytdkghalcnaogfaa
open Go.RowKit
set_option linter.unusedVariables false

set_option maxRecDepth 100000 in
set_option maxHeartbeats 3200000 in
theorem fnExactNumbered_walk (u : Value) (g o : Nat) (l : List RecD) (w : World) (hu : RowsRd recS w u g o l) (hl : l.length ≤ maxLen) (hx : ∀ i (h : i < l.length), fitsRec l[i]) :
    Calls Try.prog 9 #[u] w fun e w' => e = .returned (.bool true) ∧ Below w.heap.size w w' := by
  have K := Lib.hid (szRecs w u g o l 1048576 hu hl hx (by decide) (by decide))
  obtain ⟨a, cap, rfl, _⟩ := hu.form
  have HU := Lib.hid hu
  clear hu hx
  go_enter Try.func9, Try.ntmps9
  go_wp2_with fail
  refine K.out.mono ?_
  rintro e w1 ⟨z, rfl, hz, hb1⟩
  clear K
  rcases hz with ⟨rfl, _⟩ | ⟨hz0, hz1⟩
  · go_wp2
    go_ret
    exact ⟨rfl, hb1⟩
  · skip
    have hc : costRec l ≤ 1048576 := by omega
    have hll : l.length ≤ 1048576 := by unfold costRec at hc; omega
    have hz2 : z ≤ 1048576 := by omega
    have hzn : decide (z < 0) = false := by simp; omega
    have HU1 := Lib.hid (HU.out.over hb1)
    clear HU hz1
    have K1 := Lib.hid (fun (w : World) (v : Value) (g : Nat) (hI : RowsIs recS w v g 0 l) => numbered_spec w v g 0 l hI.toRowsRd hc  )
    have K2 := Lib.hid (fun (w : World) (v : Value) (g : Nat) (hI : RowsIs recS w v g 0 l) => numbered_impl w v g 0 l hI.toRowsRd hc  )
    have hL : Hid (((numL l)).length ≤ 100000000) := numL_fits hc
    generalize (numL l) = r at *
    obtain ⟨q, hqq⟩ : ∃ q : Int, ((1 + r.length * 6 : Nat) : Int) = q := ⟨_, rfl⟩
    have hq0 : decide (q < 0) = false := by simp; omega
    have hq1 : (q != q) = false := by simp
    have HQ := Lib.hid hqq
    clear hqq
    clear hc
    go_wp2_with fail
    refine (toRecs w1 _ g o l HU1.out hll).mono ?_
    rintro e w2 ⟨v2, g2, rfl, hI2, hg2, hb2⟩
    have hl2 : l ≠ [] → g2 < w2.heap.size := fun h => hI2.lt h
    have hB2 := hb1.trans (hb2.mono hb1.size)
    have HU2 := Lib.hid (HU1.out.over hb2)
    clear HU1 hb1
    clear hb2
    go_wp2_with fail
    refine (K1.out w2 v2 g2 hI2).mono ?_
    rintro e w3 ⟨v0, g0, rfl, hT, hg0, hb3⟩
    have hl0 : r ≠ [] → g0 < w3.heap.size := fun h => hT.lt h
    have hB3 := hB2.trans (hb3.mono hB2.size)
    have HU3 := Lib.hid (HU2.out.over hb3)
    have hs30 := hB3.size
    have hgl3 : l ≠ [] → g < w3.heap.size := fun h => HU3.out.lt h
    clear HU2 hB2 hb3 hI2 hg2 hl2 hg0
    go_wp2_with fail
    refine (toRecs w3 _ g o l HU3.out hll).mono ?_
    rintro e w4 ⟨v4, g4, rfl, hI4, hg4, hb4⟩
    have hl4 : l ≠ [] → g4 < w4.heap.size := fun h => hI4.lt h
    have hB4 := hB3.trans (hb4.mono hB3.size)
    have HU4 := Lib.hid (HU3.out.over hb4)
    clear HU3 hB3
    have hT4 := hT.over hb4
    have hs4 := hb4.size
    clear hb4 hT
    go_wp2_with fail
    refine (K2.out w4 v4 g4 hI4).mono ?_
    rintro e w5 ⟨vg, gg, rfl, hG, hgg, hb5⟩
    have hlg : r ≠ [] → gg < w5.heap.size := fun h => hG.lt h
    have hB5 := hB4.trans (hb5.mono hB4.size)
    have HU5 := Lib.hid (HU4.out.over hb5)
    have hI5 := hI4.over hb5
    have hT5 := hT4.over hb5
    have hs5 := hb5.size
    have hs40 := hB4.size
    clear HU4 hB4 hb5 hI4 hT4
    go_wp2_with fail
    refine (kit_eq_recs w5 vg v0 gg g0 r hG hT5 hL.out).mono ?_
    rintro e w6 ⟨rfl, hb6⟩
    have hB6 := hB5.trans (hb6.mono hB5.size)
    have HU6 := Lib.hid (HU5.out.over hb6)
    have hI6 := hI5.over hb6
    have hT6 := hT5.over hb6
    have hG6 := hG.over hb6
    have hs6 := hb6.size
    clear HU5 hB5 hb6 hI5 hT5 hG
    go_wp2_with fail
    refine (toRecs w6 _ g o l HU6.out hll).mono ?_
    rintro e w7 ⟨v7, g7, rfl, hI7, hg7, hb7⟩
    have hl7 : l ≠ [] → g7 < w7.heap.size := fun h => hI7.lt h
    have hB7 := hB6.trans (hb7.mono hB6.size)
    have HU7 := Lib.hid (HU6.out.over hb7)
    clear HU6 hB6
    have hI67 := hI6.over hb7
    have hT7 := hT6.over hb7
    have hG7 := hG6.over hb7
    have hs7 := hb7.size
    clear hb7 hI6 hT6 hG6 hg7 hl7
    go_wp2_with fail
    refine (kit_eq_recs w7 v4 v7 g4 g7 l hI67 hI7 (by omega)).mono ?_
    rintro e w8 ⟨rfl, hb8⟩
    have hB8 := hB7.trans (hb8.mono hB7.size)
    have HU8 := Lib.hid (HU7.out.over hb8)
    have hI8 := hI67.over hb8
    have hT8 := hT7.over hb8
    have hG8 := hG7.over hb8
    have hs8 := hb8.size
    clear HU7 hB7 hb8 hI7 hI67 hT7 hG7
    have hkz : decide (((1 + l.length * 6 : Nat) : Int) < 0) = false := by simp; omega
    go_wp2_with fail
    refine (kit_mark_recs w8 v4 g4 l hI8 (by omega)).mono ?_
    rintro e w9 ⟨rfl, _, ht9⟩
    have hs9 := ht9.size
    have hT9 := hT8.kept (fun h => ht9.block (hT8.lt h) (fun hn => by have := hl0 h; omega))
    have hG9 := hG8.kept (fun h => ht9.block (hG8.lt h) (fun hn => by have := hl4 hn; omega))
    have hB9 := hB8.trans (ht9.below hB8.size (fun hn => by omega))
    have HU9 : Hid (RowsRd recS w9 (.slice a l.length cap) g o l) := by
      unfold Hid
      exact HU8.out.kept (fun hn => ht9.block (HU8.out.lt hn) (fun _ => by have := hgl3 hn; omega))
    clear HU8 hI8 hT8 hG8 hB8 ht9
    generalize ((1 + l.length * 6 : Nat) : Int) = kz at *
    go_wp2_with fail
    refine (kit_eq_recs w9 vg v0 gg g0 r hG9 hT9 hL.out).mono ?_
    rintro e w10 ⟨rfl, hb10⟩
    have hB10 := hB9.trans (hb10.mono hB9.size)
    have HU10 := Lib.hid (HU9.out.over hb10)
    have hT10 := hT9.over hb10
    have hG10 := hG9.over hb10
    have hs10 := hb10.size
    clear HU9 hB9 hb10 hT9 hG9 hkz
    go_wp2_with fail
    refine (kit_mark_recs w10 vg gg r hG10 hL.out).mono ?_
    rintro e w11 ⟨rfl, hG11, ht11⟩
    rw [HQ.out]
    have hs11 := ht11.size
    have hT11 := hT10.kept (fun h => ht11.block (hT10.lt h) (fun hn => by have := hl0 h; omega))
    have hB11 := hB10.trans (ht11.below hB10.size (fun hn => by omega))
    have HU11 : Hid (RowsRd recS w11 (.slice a l.length cap) g o l) := by
      unfold Hid
      exact HU10.out.kept (fun hn => ht11.block (HU10.out.lt hn) (fun _ => by have := hgl3 hn; omega))
    clear HU10 hT10 hG10 hB10 ht11
    go_wp2_with fail
    refine (kit_held_recs w11 vg gg r.length hG11 hL.out).mono ?_
    rintro e w12 ⟨rfl, hb12⟩
    rw [HQ.out]
    have hB12 := hB11.trans (hb12.mono hB11.size)
    have HU12 := Lib.hid (HU11.out.over hb12)
    have hT12 := hT11.over hb12
    have hG12 := hG11.over hb12
    clear HU11 hB11 hb12 hT11 hG11
    go_wp2_with fail
    refine (toRecs w12 _ g o l HU12.out hll).mono ?_
    rintro e w13 ⟨v13, g13, rfl, hI13, hg13, hb13⟩
    have hl13 : l ≠ [] → g13 < w13.heap.size := fun h => hI13.lt h
    have hB13 := hB12.trans (hb13.mono hB12.size)
    have HU13 := Lib.hid (HU12.out.over hb13)
    clear HU12 hB12
    have hT13 := hT12.over hb13
    have hG13 := hG12.over hb13
    clear hb13 hT12 hG12 hg13 hl13
    go_wp2_with fail
    refine (K2.out w13 v13 g13 hI13).mono ?_
    rintro e w14 ⟨vh, gh, rfl, hH, hgh, hb14⟩
    have hB14 := hB13.trans (hb14.mono hB13.size)
    have hT14 := hT13.over hb14
    have hG14 := hG13.over hb14
    clear HU13 hB13 hb14 hT13 hG13 hI13
    go_wp2_with fail
    refine (kit_eq_recs w14 vh v0 gh g0 r hH hT14 hL.out).mono ?_
    rintro e w15 ⟨rfl, hb15⟩
    have hB15 := hB14.trans (hb15.mono hB14.size)
    have hG15 := hG14.over hb15
    clear hB14 hb15 hT14 hG14 hH
    go_wp2_with fail
    refine (kit_held_recs w15 vg gg r.length hG15 hL.out).mono ?_
    rintro e w16 ⟨rfl, hb16⟩
    rw [HQ.out]
    have hB16 := hB15.trans (hb16.mono hB15.size)
    clear hB15 hb16 hG15
    go_wp2
    go_ret
    exact ⟨rfl, hB16⟩

end Go.Proofs.Ytdkghalcnaogfaa
