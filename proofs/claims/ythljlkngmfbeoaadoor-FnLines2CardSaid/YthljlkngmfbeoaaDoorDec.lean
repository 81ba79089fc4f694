/- The contract of the model's DecText: the decimal numeral. -/
import Derived.Test.YthljlkngmfbeoaaDoorProg
import Derived.Test.YthljlkngmfbeoaaDoorPlain
import Derived.WalkKit
import Derived.WalkLawsBesides
import Derived.BigQuiet
import Derived.Deep.QuietTactic
import Derived.Lib.Hide
import Derived.Lib.ItoaNum
import Derived.Lib.ItoaLen
import Derived.IntWalk
namespace Go.Proofs.YthljlkngmfbeoaaDoor
open Go.RowKit
set_option linter.unusedVariables false

/-- a digit's byte -/
def digC (r : Nat) : UInt8 := UInt8.ofNat (48 + r)
/-- the numeral of a number, none for 0 -/
def decD (q : Nat) : List UInt8 := if q = 0 then [] else Lib.decDigits q
theorem decD_step (q : Nat) (h : 0 < q) : decD q = decD (q / 10) ++ [digC (q % 10)] := by
  unfold decD digC
  rw [if_neg (by omega)]
  by_cases h10 : q < 10
  · rw [Lib.decDigits, dif_pos h10, if_pos (by omega)]
    rw [Nat.mod_eq_of_lt h10]
    rfl
  · rw [Lib.decDigits, dif_neg h10, if_neg (by omega)]
/-- what is left to write, and what is written -/
def DecAt (u q : Nat) (o : List UInt8) : Prop := decD u = decD q ++ o ∧ q ≤ u ∧ o.length + q ≤ u + 1 ∧ (o.length ≤ 20 ∨ True)
theorem decLen (u : Nat) (hu : u ≤ 9223372036854775808) : (decD u).length ≤ 20 := by
  unfold decD
  split
  · simp
  · rename_i h
    have : (Lib.itoa (-(u : Int))).length ≤ 21 := Lib.itoa_length_le _ (by omega) (by omega)
    unfold Lib.itoa at this
    rw [if_pos (by omega)] at this
    simp at this
    omega
abbrev decS : ByteArray := ⟨#[48, 49, 50, 51, 52, 53, 54, 55, 56, 57]⟩
theorem decS_cut_all : ∀ r, r < 10 → decS.extract r (r + 1) = ⟨#[digC r]⟩ := by decide +kernel
theorem dec_slice (r : Nat) (hr : r < 10) (w : World) : (Instr.slice 9 (.string ⟨#[48, 49, 50, 51, 52, 53, 54, 55, 56, 57]⟩) (some (.int .i64 (r : Int))) (some (.int .i64 ((r : Int) + 1))) none).run Tryd.prog w = .ok (.string ⟨#[digC r]⟩) w := by
  rw [run_slice_string (h := Tryd.underlying9) (h0 := by omega) (h1 := by omega) (h2 := by show _ ≤ (10 : Int); omega)]
  have e1 : ((r : Int)).toNat = r := by omega
  have e2 : ((r : Int) + 1).toNat = r + 1 := by omega
  rw [e1, e2, decS_cut_all r hr]

set_option maxHeartbeats 800000 in
theorem dec_pos (u : Nat) (w : World) (h0 : 0 < u) (h1 : u ≤ 9223372036854775807) :
    Calls Tryd.prog 7 #[.int .i64 u] w fun e w' => e = .returned (.string ⟨(Lib.itoa u).toArray⟩) ∧ w = w' := by
  have h3 : Hid (Lib.itoa (u : Int) = decD u) := by unfold Hid Lib.itoa decD; rw [if_neg (by omega), if_neg (by omega)]; simp
  have hL := decLen u (by omega)
  have hz : ((u : Int) == 0) = false := by rw [beq_eq_false_iff_ne]; omega
  go_enter Tryd.func7, Tryd.ntmps7
  go_wp2
  go_loop [3, 4, 5] (fun o m d => ∃ (q : Nat) (l : List UInt8), q ≤ u ∧ m = .int .i64 q ∧ o = .string ⟨l.toArray⟩ ∧ Hid (decD u = decD q ++ l)) (fun _ m _ => (intOf m).toNat)
  case atStart => exact ⟨u, [], Nat.le_refl _, rfl, rfl, by unfold Hid; simp⟩
  case round =>
    obtain ⟨q, l, hq, rfl, rfl, hd⟩ := hrel
    have hlen : l.length ≤ 20 := by
      have := congrArg List.length hd.out
      simp at this
      omega
    by_cases hq0 : q = 0
    · subst hq0
      have hd2 : Hid (decD u = l) := by unfold Hid; rw [hd.out]; simp [decD]
      clear hd
      go_wp2
      go_ret
      exact ⟨by rw [h3.out, hd2.out]; rfl, rfl⟩
    · have hne : ((q : Int) != 0) = true := by rw [bne_iff_ne]; omega
      have hr := Nat.mod_lt q (show 0 < 10 by decide)
      have hsl := dec_slice (q % 10) hr
      have hd2 : Hid (decD u = decD (q / 10) ++ (digC (q % 10) :: l)) := by
        unfold Hid; rw [hd.out, decD_step q (by omega)]; simp
      have hq10 : q / 10 ≤ q := Nat.div_le_self _ _
      rw [show (((q % 10 : Nat)) : Int) = (q : Int) % 10 from by omega] at hsl
      clear hd
      go_wp2
      go_round
      case rel => exact ⟨q / 10, digC (q % 10) :: l, by omega, by go_num, congrArg Value.string (Pl.join_lists [_] l), hd2⟩
      case measure => simp [intOf]; omega

theorem tmod_neg (q : Nat) : (-(q : Int)).tmod 10 = -((q % 10 : Nat) : Int) := by
  rw [Int.neg_tmod, Int.tmod_eq_emod_of_nonneg (by omega)]; omega
theorem tdiv_neg (q : Nat) : (-(q : Int)).tdiv 10 = -((q / 10 : Nat) : Int) := by
  rw [Int.neg_tdiv, Int.tdiv_eq_ediv_of_nonneg (by omega)]; omega

set_option maxHeartbeats 800000 in
theorem dec_neg (u : Nat) (w : World) (h0 : 0 < u) (h1 : u ≤ 9223372036854775808) :
    Calls Tryd.prog 7 #[.int .i64 (-(u : Int))] w fun e w' => e = .returned (.string ⟨(Lib.itoa (-(u : Int))).toArray⟩) ∧ w = w' := by
  have h3 : Hid (Lib.itoa (-(u : Int)) = 45 :: decD u) := by unfold Hid Lib.itoa decD; rw [if_pos (by omega), if_neg (by omega)]; simp
  have hL := decLen u (by omega)
  have hz : ((-(u : Int)) == 0) = false := by rw [beq_eq_false_iff_ne]; omega
  have hlt : -(u : Int) < 0 := by omega
  go_enter Tryd.func7, Tryd.ntmps7
  go_wp2
  go_loop [3, 4, 5] (fun o m d => ∃ (q : Nat) (l : List UInt8), q ≤ u ∧ m = .int .i64 (-(q : Int)) ∧ o = .string ⟨l.toArray⟩ ∧ Hid (decD u = decD q ++ l)) (fun _ m _ => (-(intOf m)).toNat)
  case atStart => exact ⟨u, [], Nat.le_refl _, rfl, rfl, by unfold Hid; simp⟩
  case round =>
    obtain ⟨q, l, hq, rfl, rfl, hd⟩ := hrel
    have hlen : l.length ≤ 20 := by
      have := congrArg List.length hd.out
      simp at this
      omega
    by_cases hq0 : q = 0
    · subst hq0
      have hd2 : Hid (decD u = l) := by unfold Hid; rw [hd.out]; simp [decD]
      clear hd
      go_wp2
      go_ret
      exact ⟨by rw [h3.out, hd2.out]; exact congrArg (fun x => Ending.returned (Value.string x)) (Pl.join_lists [45] l), rfl⟩
    · have hne : ((-(q : Int)) != 0) = true := by rw [bne_iff_ne]; omega
      have hr := Nat.mod_lt q (show 0 < 10 by decide)
      have hsl := dec_slice (q % 10) hr
      have hd2 : Hid (decD u = decD (q / 10) ++ (digC (q % 10) :: l)) := by
        unfold Hid; rw [hd.out, decD_step q (by omega)]; simp
      have hq10 : q / 10 ≤ q := Nat.div_le_self _ _
      have ht1 := tmod_neg q
      have ht2 := tdiv_neg q
      clear hd
      generalize hr1 : q % 10 = r at *
      generalize hr2 : q / 10 = p at *
      have HR1 := Lib.hid hr1
      have HR2 := Lib.hid hr2
      clear hr1 hr2
      by_cases hr0 : r = 0
      · subst hr0
        go_wp2
        go_round
        case rel => exact ⟨p, digC 0 :: l, by omega, rfl, congrArg Value.string (Pl.join_lists [_] l), hd2⟩
        case measure => have := HR2.out; simp [intOf]; omega
      · go_wp2
        go_round
        case rel => exact ⟨p, digC r :: l, by omega, rfl, congrArg Value.string (Pl.join_lists [_] l), hd2⟩
        case measure => have := HR2.out; simp [intOf]; omega

theorem dec_spec (n : Int) (w : World) (h0 : -9223372036854775808 ≤ n) (h1 : n ≤ 9223372036854775807) :
    Calls Tryd.prog 7 #[.int .i64 n] w fun e w' => e = .returned (.string ⟨(Lib.itoa n).toArray⟩) ∧ w = w' := by
  by_cases hn : n < 0
  · obtain ⟨u, hu⟩ : ∃ u : Nat, n = -(u : Int) := ⟨n.natAbs, by omega⟩
    subst hu
    exact dec_neg u w (by omega) (by omega)
  · by_cases hz : n = 0
    · subst hz
      have h3 : Hid (Lib.itoa 0 = [48]) := by unfold Hid; decide +kernel
      go_enter Tryd.func7, Tryd.ntmps7
      go_wp2
      go_ret
      exact ⟨by rw [h3.out]; rfl, rfl⟩
    · obtain ⟨u, hu⟩ : ∃ u : Nat, n = (u : Int) := ⟨n.natAbs, by omega⟩
      subst hu
      exact dec_pos u w (by omega) (by omega)

end Go.Proofs.YthljlkngmfbeoaaDoor
