/- Contracts of the functions HexText. -/
import Derived.Test.YtflnpkckdjmljaaDoorProg
import Derived.Test.YtflnpkckdjmljaaDoorPlain
import Derived.WalkKit
import Derived.WalkLawsBesides
import Derived.BigQuiet
import Derived.Deep.QuietTactic
import Derived.Lib.Hide
import Derived.IntWalk
import Derived.Laws.IdiomStrings
namespace Go.Proofs.YtflnpkckdjmljaaDoor
open Go.RowKit
set_option linter.unusedVariables false

theorem in_any (x a b : Int) (w : World) :
    Calls Tryd.prog 79 #[.int .i64 x, .int .i64 a, .int .i64 b] w fun e w' => e = .returned (.bool (Pl.inB x a b)) ∧ w = w' := by
  by_cases h1 : a ≤ x
  · by_cases h2 : x ≤ b
    · have h3 := Lib.hid (Pl.inB_true h1 h2)
      go_enter Tryd.func79, Tryd.ntmps79
      go_wp2
      go_ret
      exact ⟨by rw [h3.out]; rfl, rfl⟩
    · have h3 := Lib.hid (Pl.inB_false (x := x) (a := a) (b := b) (by omega))
      go_enter Tryd.func79, Tryd.ntmps79
      go_wp2
      go_ret
      exact ⟨by rw [h3.out]; rfl, rfl⟩
  · have h3 := Lib.hid (Pl.inB_false (x := x) (a := a) (b := b) (by omega))
    go_enter Tryd.func79, Tryd.ntmps79
    go_wp2
    go_ret
    exact ⟨by rw [h3.out]; rfl, rfl⟩

/-- the callee's contract where its answer is known -/
theorem in_yes (x a b : Int) (w : World) (h1 : a ≤ x) (h2 : x ≤ b) :
    Calls Tryd.prog 79 #[.int .i64 x, .int .i64 a, .int .i64 b] w fun e w' => e = .returned (.bool true) ∧ w = w' :=
  (in_any x a b w).mono fun e w' ⟨he, hw⟩ => ⟨by rw [he, Pl.inB_true h1 h2], hw⟩
theorem in_no (x a b : Int) (w : World) (h : x < a ∨ b < x) :
    Calls Tryd.prog 79 #[.int .i64 x, .int .i64 a, .int .i64 b] w fun e w' => e = .returned (.bool false) ∧ w = w' :=
  (in_any x a b w).mono fun e w' ⟨he, hw⟩ => ⟨by rw [he, Pl.inB_false h], hw⟩

theorem hex_slice (q : Nat) (w : World) : (Instr.slice 9 (.string ⟨#[48, 49, 50, 51, 52, 53, 54, 55, 56, 57, 97, 98, 99, 100, 101, 102]⟩) (some (.int .i64 ((q : Int) % 16))) (some (.int .i64 ((q : Int) % 16 + 1))) none).run Tryd.prog w = .ok (.string ⟨#[Pl.hexD q]⟩) w := by
  rw [run_slice_string (h := Tryd.underlying9) (h0 := by omega) (h1 := by omega) (h2 := by show _ ≤ (16 : Int); omega)]
  have e1 : ((q : Int) % 16).toNat = q % 16 := by omega
  have e2 : ((q : Int) % 16 + 1).toNat = q % 16 + 1 := by omega
  rw [e1, e2, Pl.hexS_cut]
theorem hex_index (q : Nat) (w : World) : (Instr.index 9 (.string ⟨#[48, 49, 50, 51, 52, 53, 54, 55, 56, 57, 97, 98, 99, 100, 101, 102]⟩) (.int .i64 ((q : Int) % 16))).run Tryd.prog w = .ok (.int .u8 (Pl.hexD q).toNat) w := by
  rw [run_index_string (h := Tryd.underlying9)]
  have e1 : ((q : Int) % 16).toNat = q % 16 := by omega
  rw [dif_pos ⟨by omega, by show _ < (16 : Int); omega⟩]
  have := Pl.hexS_at q
  simp only [e1]
  rw [← this]

set_option maxHeartbeats 400000 in
theorem hex_spec (n d : Int) (w : World) (hn : n ≤ 9223372036854775807) :
    Calls Tryd.prog 78 #[.int .i64 n, .int .i64 d] w fun e w' => e = .returned (.string ⟨(Pl.hexOf n d).toArray⟩) ∧ w = w' := by
  by_cases h0 : n < 0
  · have h3 : Hid (Pl.hexOf n d = []) := by unfold Hid Pl.hexOf; rw [if_pos (.inl h0)]
    go_enter Tryd.func78, Tryd.ntmps78
    go_wp2
    go_ret
    exact ⟨by rw [h3.out]; rfl, rfl⟩
  · by_cases h1 : d < 1 ∨ 8 < d
    · have h3 : Hid (Pl.hexOf n d = []) := by unfold Hid Pl.hexOf; rw [if_pos (.inr h1)]
      have H1 := Lib.hid h1
      clear h1
      go_enter Tryd.func78, Tryd.ntmps78
      go_wp2_with fail
      refine (in_no _ _ _ _ H1.out).mono ?_
      rintro e w' ⟨rfl, rfl⟩
      go_wp2
      go_ret
      exact ⟨by rw [h3.out]; rfl, rfl⟩
    · have h3 : Hid (Pl.hexOf n d = Pl.hexT n.toNat d.toNat) := by unfold Hid Pl.hexOf; rw [if_neg (by omega)]
      obtain ⟨m, rfl⟩ := Int.eq_ofNat_of_zero_le (show 0 ≤ n by omega)
      obtain ⟨c, rfl⟩ := Int.eq_ofNat_of_zero_le (show 0 ≤ d by omega)
      rw [Int.toNat_natCast, Int.toNat_natCast] at h3
      have hc1 : 1 ≤ (c : Int) := by omega
      have hc2 : (c : Int) ≤ 8 := by omega
      clear h1
      go_enter Tryd.func78, Tryd.ntmps78
      go_wp2_with fail
      refine (in_yes _ _ _ _ hc1 hc2).mono ?_
      rintro e w' ⟨rfl, rfl⟩
      go_wp2
      go_loop [0, 5, 6] (fun x o i => ∃ k : Nat, k ≤ c ∧ i = .int .i64 k ∧ x = .int .i64 ((m / 16 ^ k : Nat) : Int) ∧ o = .string ⟨(Pl.hexT m k).toArray⟩) (fun _ _ i => c - (intOf i).toNat)
      case atStart => exact ⟨0, Nat.zero_le _, rfl, by simp, rfl⟩
      case round =>
        obtain ⟨k, hk, rfl, rfl, rfl⟩ := hrel
        have hsz := Pl.hexT_length m k
        have hst := Pl.hex_step m k
        have hsu := Pl.hexT_succ m k
        have hle : m / 16 ^ k ≤ m := Nat.div_le_self _ _
        generalize ht : Pl.hexT m k = t at *
        generalize m / 16 ^ k = q at *
        have HS := Lib.hid hsz
        have HT := Lib.hid hst
        have HU := Lib.hid hsu
        have HW := Lib.hid ht
        clear hsz hst hsu ht
        by_cases hlt : k < c
        · have hsl := hex_slice q
          have hb : t.length ≤ 8 := by have := HS.out; omega
          go_wp2
          go_round
          case rel => exact ⟨k + 1, by omega, by go_num, by rw [← HT.out]; go_num, by rw [HU.out]; exact congrArg Value.string (Pl.join_lists [Pl.hexD q] t)⟩
          case measure => simp [intOf]; omega
        · have H5 : Hid (k = c) := by unfold Hid; omega
          go_wp2
          go_ret
          exact ⟨by rw [h3.out, ← H5.out, HW.out]; rfl, rfl⟩

theorem info_byte : (Tryd.prog.info? 5).map (fun i => (i.zero, i.size, i.bytes)) = some (some (.int .u8 0), 1, 1) := by kernel_rfl

theorem padCells (n d : Nat) : (madeCells (Value.cells (.int .u8 0)) (d * 1)).toList = (Pl.padT n d 0).map (fun b => Value.int .u8 (b.toNat : Int)) := by
  rw [Pl.padT_zero]
  simp [Value.cells, toList_madeCells_one]

theorem hex_round {wr : World} {B c m k j : Nat} (hj : c = k + j + 1) (hown : wr.ownsRow B 5 1 (.slice (some ⟨B, 0, none⟩) c c) c ((Pl.padT m c k).map (fun b => Value.int .u8 (b.toNat : Int)))) :
    (wr.setCell ⟨B, j, none⟩ (.int .u8 (Pl.hexD (m / 16 ^ k)).toNat)).ownsRow B 5 1 (.slice (some ⟨B, 0, none⟩) c c) c ((Pl.padT m c (k + 1)).map (fun b => Value.int .u8 (b.toNat : Int))) ∧
    (∃ v, wr.cell? ⟨B, j, none⟩ = some (.int .u8 v)) ∧ wr.frozen? ⟨B, j, none⟩ = false := by
  have hst := (hown.stored j (.int .u8 (Pl.hexD (m / 16 ^ k)).toNat)).1
  have hset := Pl.padT_set (n := m) (show k < c by omega)
  have hlen := Pl.padT_length (n := m) (d := c) (k := k) (by omega)
  refine ⟨?_, ?_, hown.frozenAt j⟩
  · have e : ((Pl.padT m c k).map (fun b => Value.int .u8 (b.toNat : Int))).set j (.int .u8 (Pl.hexD (m / 16 ^ k)).toNat) = (Pl.padT m c (k + 1)).map (fun b => Value.int .u8 (b.toNat : Int)) := by
      rw [← hset, List.map_set]
      congr 1
      omega
    rw [e] at hst
    exact hst
  · have hl : j < (Pl.padT m c k).length := by omega
    refine ⟨(Pl.padT m c k)[j].toNat, ?_⟩
    rw [hown.cellAt j (by omega)]
    simp [hl]

theorem hex_back {wr : World} {B c m : Nat} (hown : wr.ownsRow B 5 1 (.slice (some ⟨B, 0, none⟩) c c) c ((Pl.padT m c c).map (fun b => Value.int .u8 (b.toNat : Int)))) :
    (convert 22 9 (.slice (some ⟨B, 0, none⟩) c c)).run Tryd.prog wr = .ok (.string ⟨(Pl.hexT m c).toArray⟩) wr := by
  rw [Pl.padT_full] at hown
  have h := run_convert_bytes_back (P := Tryd.prog) wr 22 9 5 ⟨B, 0, none⟩ c (Pl.hexT m c) Tryd.underlying22 Tryd.underlying5 Tryd.underlying9 (fun j hj => by
    have := Pl.hexT_length m c
    have ha : (⟨B, 0, none⟩ : Addr).add j = ⟨B, j, none⟩ := by unfold Addr.add; split <;> simp_all
    rw [ha, hown.cellAt j (by omega)]
    simp [hj])
  rw [Pl.hexT_length] at h
  exact h

set_option maxRecDepth 100000 in
set_option maxHeartbeats 800000 in
theorem hex_impl (n d : Int) (w : World) (hn : n ≤ 9223372036854775807) :
    Calls Tryd.prog 114 #[.int .i64 n, .int .i64 d] w fun e w' => e = .returned (.string ⟨(Pl.hexOf n d).toArray⟩) ∧ Below w.heap.size w w' := by
  by_cases h0 : n < 0 ∨ d < 1 ∨ 8 < d
  · have h3 : Hid (Pl.hexOf n d = []) := by unfold Hid Pl.hexOf; rw [if_pos h0]
    rcases h0 with h0 | h0 | h0
    · go_enter Tryd.func114, Tryd.ntmps114
      go_wp2
      go_ret
      exact ⟨by rw [h3.out]; rfl, Below.refl _ _⟩
    all_goals
      by_cases h1 : n < 0
      all_goals
        go_enter Tryd.func114, Tryd.ntmps114
        go_wp2
        go_ret
        exact ⟨by rw [h3.out]; rfl, Below.refl _ _⟩
  · have h3 : Hid (Pl.hexOf n d = Pl.hexT n.toNat d.toNat) := by unfold Hid Pl.hexOf; rw [if_neg h0]
    obtain ⟨m, rfl⟩ := Int.eq_ofNat_of_zero_le (show 0 ≤ n by omega)
    obtain ⟨c, rfl⟩ := Int.eq_ofNat_of_zero_le (show 0 ≤ d by omega)
    rw [Int.toNat_natCast, Int.toNat_natCast] at h3
    have hc1 : 1 ≤ (c : Int) := by omega
    have hc2 : (c : Int) ≤ 8 := by omega
    clear h0
    obtain ⟨i0, hi, hz0, hz1, hz2⟩ := info_parts info_byte
    go_enter Tryd.func114, Tryd.ntmps114
    go_wp2_with (at_make; refine wpList_make_full _ rfl _ _ 22 rfl w.heap.size 5 i0 (.int .u8 0) 1 Tryd.underlying22 hi hz0 hz1 .i64 .i64 _ _ c rfl rfl rfl rfl (by rw [hz2]; omega) (by unfold maxLen; omega) (Nat.le_refl _) ?_; intro w1 hown hgr; rw [padCells m c] at hown)
    have hb1 : Below w.heap.size w w1 := (Below.refl _ _).grown hgr (Nat.le_refl _) (fun k e => by cases e)
    clear hgr
    go_loopw [0, 6] (fun x i wr => ∃ k : Nat, k ≤ c ∧ i = .int .i64 ((c : Int) - 1 - k) ∧ x = .int .i64 ((m / 16 ^ k : Nat) : Int) ∧ wr.ownsRow w.heap.size 5 1 (.slice (some ⟨w.heap.size, 0, none⟩) c c) c ((Pl.padT m c k).map (fun b => Value.int .u8 (b.toNat : Int))) ∧ Below w.heap.size w wr) (fun _ i _ => (intOf i + 1).toNat)
    case atStart => exact ⟨0, Nat.zero_le _, by go_num, by simp, hown, hb1⟩
    case round =>
      obtain ⟨k, hk, rfl, rfl, hown, hb⟩ := hrel
      by_cases hlt : k < c
      · obtain ⟨j, hj⟩ : ∃ j, c = k + j + 1 := ⟨c - k - 1, by omega⟩
        have e : ((c : Int) - 1 - k) = (j : Int) := by omega
        simp only [e]
        obtain ⟨hown2, ⟨v0, hcell⟩, hfro⟩ := hex_round hj hown
        have HJ := Lib.hid hj
        have HT := Lib.hid (Pl.hex_step m k)
        have hle : m / 16 ^ k ≤ m := Nat.div_le_self _ _
        have hjc : (j : Int) < (c : Int) := by omega
        have hix := hex_index (m / 16 ^ k)
        have hb2 : Below w.heap.size w (wr.setCell ⟨w.heap.size, j, none⟩ (.int .u8 (Pl.hexD (m / 16 ^ k)).toNat)) := hb.setCell (p := ⟨w.heap.size, j, none⟩) (Nat.le_refl _) _
        generalize m / 16 ^ k = q at *
        clear hown hj e
        go_wp2
        go_roundw
        case rel => exact ⟨k + 1, by omega, by have := HJ.out; go_num, by rw [← HT.out]; go_num, hown2, hb2⟩
        case measure => simp [intOf]
      · obtain rfl : k = c := by omega
        have hbk := hex_back hown
        have e : ((k : Int) - 1 - k) = -1 := by omega
        simp only [e]
        clear e
        go_wp2
        go_ret
        exact ⟨by rw [h3.out]; rfl, hb⟩

end Go.Proofs.YtflnpkckdjmljaaDoor
