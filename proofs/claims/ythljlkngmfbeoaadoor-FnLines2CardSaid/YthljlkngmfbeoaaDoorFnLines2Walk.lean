/- The walk of FnLines2. -/
import Derived.Test.YthljlkngmfbeoaaDoorProg
import Derived.Test.YthljlkngmfbeoaaDoorPlain
import Derived.Test.YthljlkngmfbeoaaDoorDraw
import Derived.Test.YthljlkngmfbeoaaDoorRows0
import Derived.Test.YthljlkngmfbeoaaDoorRecRows
import Derived.Test.YthljlkngmfbeoaaDoorRecArg
import Derived.Test.YthljlkngmfbeoaaDoorRecRaw
import Derived.Test.YthljlkngmfbeoaaDoorDec
import Derived.Test.YthljlkngmfbeoaaDoorEnvRecs
import Derived.Test.YthljlkngmfbeoaaDoorEnvLim
import Derived.Test.YthljlkngmfbeoaaDoorEnvFit
import Derived.Test.YthljlkngmfbeoaaDoorEnvParse
import Derived.Test.YthljlkngmfbeoaaDoorEnvThree
import Derived.WalkKit
import Derived.WalkLawsBesides
import Derived.Laws.IdiomStrings
import Derived.Lib.Hide
import Derived.IntWalk
set_option maxRecDepth 100000
namespace Go.Proofs.YthljlkngmfbeoaaDoor
open Go.RowKit
set_option linter.unusedVariables false

theorem bytesIn_over2 {w w' : World} {a : Option Addr} {len : Nat} (h : BytesIn w a len) (hlow : ∀ x, a = some x → len ≠ 0 → x.block < w.heap.size) (hb : Below w.heap.size w w') : BytesIn w' a len ∧ ∀ x, a = some x → len ≠ 0 → x.block < w'.heap.size :=
  ⟨bytesIn_kept (b := 0) h (fun x hx h0 => hb.block _ (hlow x hx h0)), fun x hx h0 => Nat.lt_of_lt_of_le (hlow x hx h0) hb.size⟩
/-- what 'at' answers -/
theorem at_some2 (w : World) (a : Option Addr) (len cap : Nat) (i : Nat) (hi : i ≤ 10) (hlen : len ≤ 1048576) (hB : BytesIn w a len) :
    Calls Tryd.prog 6 #[.slice a len cap, .int .i64 (i : Int)] w fun e w' => ∃ x : Int, 0 ≤ x ∧ x ≤ 255 ∧ e = .returned (.int .i64 x) ∧ Below w.heap.size w w' := by
  by_cases h1 : i < len
  · rcases hB with h | ⟨blk, off, rfl, hc⟩
    · omega
    · obtain ⟨x, hx0, hx1, hx⟩ := hc i h1
      have hl : (i : Int) < (len : Int) := by omega
      go_enter Tryd.func6, Tryd.ntmps6
      go_wp2
      go_ret
      exact ⟨x, hx0, hx1, by first | rfl | (simp; omega), Below.refl _ _⟩
  · have hl : ¬ (i : Int) < (len : Int) := by omega
    have h7 := Int.emod_nonneg ((i : Int) * 7 + (len : Int)) (show (256 : Int) ≠ 0 by decide)
    have h8 := Int.emod_lt_of_pos ((i : Int) * 7 + (len : Int)) (show (0 : Int) < 256 by decide)
    go_enter Tryd.func6, Tryd.ntmps6
    go_wp2
    go_ret
    exact ⟨_, h7, by omega, rfl, Below.refl _ _⟩

set_option maxHeartbeats 1600000 in
theorem fnLines2_walk (a0 : Option Addr) (len0 cap0 : Nat) (w : World) (hB : BytesIn w a0 len0) (hlow : ∀ x, a0 = some x → len0 ≠ 0 → x.block < w.heap.size) :
    Calls Tryd.prog 3 #[.slice a0 len0 cap0] w fun e w' => e = .returned (.bool true) ∧ Below w.heap.size w w' := by
  by_cases h0 : len0 ≤ 1048576
  · have HBI := Lib.hid (fun W (hW : Below w.heap.size w W) => bytesIn_over2 hB hlow hW)
    go_enter Tryd.func3, Tryd.ntmps3
    go_wp2_with fail
    refine (big_no w a0 len0 cap0 h0).mono ?_
    rintro e w1 ⟨rfl, rfl⟩
    go_wp2_with fail
    refine (at_some2 _ a0 len0 cap0 0 (by decide) h0 hB).mono ?_
    rintro e w2 ⟨x, hx0, hx1, rfl, hb1⟩
    clear hB hlow
    obtain ⟨m, hm, hme⟩ : ∃ m : Nat, m ≤ 4 ∧ x % 5 = (m : Int) := by
      have h1 := Int.emod_nonneg x (show (5 : Int) ≠ 0 by omega)
      have h2 := Int.emod_lt_of_pos x (show (0 : Int) < 5 by omega)
      exact ⟨(x % 5).toNat, by omega, by omega⟩
    go_wp2
    rw [hme]
    clear hme hx0 hx1
    have HB1 := Lib.hid hb1
    clear hb1
    go_loopw [4, 5] (fun t q wr => ∃ (k : Nat) (b : ByteArray), k ≤ m + 1 ∧ q = .int .i64 k ∧ t = .string b ∧ Hid (GoodR k b.data.toList) ∧ Hid (Below w.heap.size w wr)) (fun _ q _ => m + 1 - (intOf q).toNat)
    case atStart => exact ⟨0, ⟨#[]⟩, Nat.zero_le _, rfl, rfl, good_nil, HB1⟩
    case round =>
      obtain ⟨k, b, hk, rfl, rfl, hG, hb⟩ := hrel
      clear HB1
      have hbz : b.size ≤ 7 * k := by rw [Lib.size_eq]; exact hG.out.2.2
      by_cases hlt : k < m + 1
      · have hkz : (k : Int) < 1 + (m : Int) := by omega
        have KA := Lib.hid (at_some2 _ a0 len0 cap0 (k + 1) (by omega) h0 (HBI.out _ hb.out).1)
        have hcast : (((k + 1 : Nat) : Int)) = (k : Int) + 1 := by omega
        rw [hcast] at KA
        go_wp2_with fail
        refine KA.out.mono ?_
        rintro e w3 ⟨y, hy0, hy1, rfl, hb3⟩
        obtain ⟨d1, d2⟩ := good_row hG.out y hy0 hy1
        have hds : (⟨(Lib.itoa y).toArray⟩ : ByteArray).size ≤ 3 := by rw [Lib.size_eq]; exact d1
        have KD := Lib.hid (fun w => dec_spec y w (by omega) (by omega))
        have HG2 : Hid (GoodR (k + 1) (b ++ ⟨#[114, 111, 119]⟩ ++ ⟨(Lib.itoa y).toArray⟩ ++ ⟨#[10]⟩).data.toList) := by
          unfold Hid
          rw [app_dataL, app_dataL, app_dataL]
          exact d2
        have hb4 : Hid (Below w.heap.size w w3) := hb.out.trans (hb3.mono hb.out.size)
        generalize (⟨(Lib.itoa y).toArray⟩ : ByteArray) = d at *
        clear d1 d2 KA hb hb3 hG hcast hy0 hy1
        go_wp2_with fail
        refine (KD.out _).mono ?_
        rintro e w4 ⟨rfl, rfl⟩
        clear KD
        go_wp2
        go_roundw
        case rel => exact ⟨k + 1, _, by omega, by go_num, rfl, HG2, hb4⟩
        case measure => simp [intOf]; omega
      · obtain rfl : k = m + 1 := by omega
        have hkz : ¬ ((m + 1 : Nat) : Int) < 1 + (m : Int) := by omega
        have hkz2 : ¬ ((m : Int) + 1) < 1 + (m : Int) := by omega
        obtain ⟨x0, x1, x2, r1, r2, r3, r4, r5, r6⟩ := lines2_recs b (m + 1) hG.out
        have hts : (lines2T b).size ≤ 200 := by
          unfold lines2T
          rw [ByteArray.size_append, ByteArray.size_append, ByteArray.size_append, ByteArray.size_append, show aB.size = 3 from rfl, show bB.size = 14 from rfl, show cB.size = 8 from rfl]
          omega
        have KP := Lib.hid (fun W => parseEnv_core (lines2T b) W (by omega) (limit_fewP _ (by rw [List.length_map, r1]; simp)))
        rw [r1, limG_few (by simp)] at KP
        have HT : Hid ((⟨#[65, 61, 39]⟩ : ByteArray) ++ b ++ ⟨#[36, 120, 39, 32, 35, 32, 115, 97, 105, 100, 10, 66, 61, 34]⟩ ++ b ++ ⟨#[92, 36, 120, 34, 10, 67, 61, 49]⟩ = lines2T b) := rfl
        obtain ⟨p0, p1, p2, p3, p4, p5⟩ := x0
        obtain ⟨q0, q1, q2, q3, q4, q5⟩ := x1
        obtain ⟨s0, s1, s2, s3, s4, s5⟩ := x2
        simp only at r2 r3 r4 r5 r6
        clear r1 hG
        go_wp2_with fail
        rw [HT.out]
        refine (KP.out _).mono ?_
        rintro e w5 ⟨v, g, rfl, hr, hg, hb5⟩
        have hb6 := hb.out.trans (hb5.mono hb.out.size)
        obtain ⟨al, cl, rfl, hal⟩ := hr.form
        obtain rfl := hal (by simp)
        have c0 : w5.cell? ⟨g, 4, none⟩ = some (.string p4) := rec_c4 hr.toRowsRd 0 (by simp)
        have c1 : w5.cell? ⟨g, 10, none⟩ = some (.string q4) := rec_c4 hr.toRowsRd 1 (by simp)
        have c2 : w5.cell? ⟨g, 11, none⟩ = some (.int .i64 q5) := rec_c5 hr.toRowsRd 1 (by simp)
        have c3 : w5.cell? ⟨g, 15, none⟩ = some (.string s3) := rec_c3 hr.toRowsRd 2 (by simp)
        have c4 : w5.cell? ⟨g, 17, none⟩ = some (.int .i64 s5) := rec_c5 hr.toRowsRd 2 (by simp)
        subst r2 r3 r4 r5 r6
        have t1 : ((b ++ vB).toList == (b ++ vB).toList) = true := beq_self_eq_true _
        have t2 : (((⟨#[67]⟩ : ByteArray)).toList == ((⟨#[67]⟩ : ByteArray)).toList) = true := beq_self_eq_true _
        have hvz : (b ++ vB).size = b.size + 3 := by rw [ByteArray.size_append]; rfl
        clear hr hg hb5 hb KP HT hts HBI
        go_wp2
        go_ret
        exact ⟨rfl, hb6⟩
  · go_enter Tryd.func3, Tryd.ntmps3
    go_wp2_with fail
    refine (big_yes w a0 len0 cap0 (by omega)).mono ?_
    rintro e w1 ⟨rfl, rfl⟩
    go_wp2
    go_ret
    exact ⟨rfl, Below.refl _ _⟩

end Go.Proofs.YthljlkngmfbeoaaDoor
