/- Contracts of the functions HexText. -/
import Derived.Test.YtkhkpjnpjgnckaaGreatDoorProg
import Derived.Test.YtkhkpjnpjgnckaaGreatDoorPlain
import Derived.WalkKit
import Derived.WalkLawsBesides
import Derived.BigQuiet
import Derived.Deep.QuietTactic
import Derived.Lib.Hide
import Derived.IntWalk
import Derived.Laws.IdiomStrings
namespace Go.Proofs.YtkhkpjnpjgnckaaGreatDoor
open Go.RowKit
set_option linter.unusedVariables false

theorem in_any (x a b : Int) (w : World) :
    Calls Tryz.prog 26 #[.int .i64 x, .int .i64 a, .int .i64 b] w fun e w' => e = .returned (.bool (Pl.inB x a b)) ∧ w = w' := by
  by_cases h1 : a ≤ x
  · by_cases h2 : x ≤ b
    · have h3 := Lib.hid (Pl.inB_true h1 h2)
      go_enter Tryz.func26, Tryz.ntmps26
      go_wp2
      go_ret
      exact ⟨by rw [h3.out]; rfl, rfl⟩
    · have h3 := Lib.hid (Pl.inB_false (x := x) (a := a) (b := b) (by omega))
      go_enter Tryz.func26, Tryz.ntmps26
      go_wp2
      go_ret
      exact ⟨by rw [h3.out]; rfl, rfl⟩
  · have h3 := Lib.hid (Pl.inB_false (x := x) (a := a) (b := b) (by omega))
    go_enter Tryz.func26, Tryz.ntmps26
    go_wp2
    go_ret
    exact ⟨by rw [h3.out]; rfl, rfl⟩

/-- the callee's contract where its answer is known -/
theorem in_yes (x a b : Int) (w : World) (h1 : a ≤ x) (h2 : x ≤ b) :
    Calls Tryz.prog 26 #[.int .i64 x, .int .i64 a, .int .i64 b] w fun e w' => e = .returned (.bool true) ∧ w = w' :=
  (in_any x a b w).mono fun e w' ⟨he, hw⟩ => ⟨by rw [he, Pl.inB_true h1 h2], hw⟩
theorem in_no (x a b : Int) (w : World) (h : x < a ∨ b < x) :
    Calls Tryz.prog 26 #[.int .i64 x, .int .i64 a, .int .i64 b] w fun e w' => e = .returned (.bool false) ∧ w = w' :=
  (in_any x a b w).mono fun e w' ⟨he, hw⟩ => ⟨by rw [he, Pl.inB_false h], hw⟩

theorem hex_slice (q : Nat) (w : World) : (Instr.slice 9 (.string ⟨#[48, 49, 50, 51, 52, 53, 54, 55, 56, 57, 97, 98, 99, 100, 101, 102]⟩) (some (.int .i64 ((q : Int) % 16))) (some (.int .i64 ((q : Int) % 16 + 1))) none).run Tryz.prog w = .ok (.string ⟨#[Pl.hexD q]⟩) w := by
  rw [run_slice_string (h := Tryz.underlying9) (h0 := by omega) (h1 := by omega) (h2 := by show _ ≤ (16 : Int); omega)]
  have e1 : ((q : Int) % 16).toNat = q % 16 := by omega
  have e2 : ((q : Int) % 16 + 1).toNat = q % 16 + 1 := by omega
  rw [e1, e2, Pl.hexS_cut]
theorem hex_index (q : Nat) (w : World) : (Instr.index 9 (.string ⟨#[48, 49, 50, 51, 52, 53, 54, 55, 56, 57, 97, 98, 99, 100, 101, 102]⟩) (.int .i64 ((q : Int) % 16))).run Tryz.prog w = .ok (.int .u8 (Pl.hexD q).toNat) w := by
  rw [run_index_string (h := Tryz.underlying9)]
  have e1 : ((q : Int) % 16).toNat = q % 16 := by omega
  rw [dif_pos ⟨by omega, by show _ < (16 : Int); omega⟩]
  have := Pl.hexS_at q
  simp only [e1]
  rw [← this]

theorem info_byte : (Tryz.prog.info? 5).map (fun i => (i.zero, i.size, i.bytes)) = some (some (.int .u8 0), 1, 1) := by kernel_rfl

theorem padCells (n d : Nat) : (madeCells (Value.cells (.int .u8 0)) (d * 1)).toList = (Pl.padT n d 0).map (fun b => Value.int .u8 (b.toNat : Int)) := by
  rw [Pl.padT_zero]
  simp [Value.cells, toList_madeCells_one]

theorem hex_round {wr : World} {B c m k j : Nat} (hj : c = k + j + 1) (hown : wr.ownsRow B 5 1 (.slice (some ⟨B, 0, none⟩) c c) c ((Pl.padT m c k).map (fun b => Value.int .u8 (b.toNat : Int)))) :
    (wr.setCell ⟨B, j, none⟩ (.int .u8 (Pl.hexD (m / 16 ^ k)).toNat)).ownsRow B 5 1 (.slice (some ⟨B, 0, none⟩) c c) c ((Pl.padT m c (k + 1)).map (fun b => Value.int .u8 (b.toNat : Int))) ∧
    (∃ v, wr.cell? ⟨B, j, none⟩ = some (.int .u8 v)) ∧ wr.frozen? ⟨B, j, none⟩ = false := by
  have hst := (hown.stored j (.int .u8 (Pl.hexD (m / 16 ^ k)).toNat)).1
  have hset := Pl.padT_set (n := m) (show k < c by omega)
  have hlen := Pl.padT_length (n := m) (d := c) (k := k) (by omega)
  refine ⟨?_, ?_, hown.frozenAt j⟩
  · have e : ((Pl.padT m c k).map (fun b => Value.int .u8 (b.toNat : Int))).set j (.int .u8 (Pl.hexD (m / 16 ^ k)).toNat) = (Pl.padT m c (k + 1)).map (fun b => Value.int .u8 (b.toNat : Int)) := by
      rw [← hset, List.map_set]
      congr 1
      omega
    rw [e] at hst
    exact hst
  · have hl : j < (Pl.padT m c k).length := by omega
    refine ⟨(Pl.padT m c k)[j].toNat, ?_⟩
    rw [hown.cellAt j (by omega)]
    simp [hl]

theorem hex_back {wr : World} {B c m : Nat} (hown : wr.ownsRow B 5 1 (.slice (some ⟨B, 0, none⟩) c c) c ((Pl.padT m c c).map (fun b => Value.int .u8 (b.toNat : Int)))) :
    (convert 22 9 (.slice (some ⟨B, 0, none⟩) c c)).run Tryz.prog wr = .ok (.string ⟨(Pl.hexT m c).toArray⟩) wr := by
  rw [Pl.padT_full] at hown
  have h := run_convert_bytes_back (P := Tryz.prog) wr 22 9 5 ⟨B, 0, none⟩ c (Pl.hexT m c) Tryz.underlying22 Tryz.underlying5 Tryz.underlying9 (fun j hj => by
    have := Pl.hexT_length m c
    have ha : (⟨B, 0, none⟩ : Addr).add j = ⟨B, j, none⟩ := by unfold Addr.add; split <;> simp_all
    rw [ha, hown.cellAt j (by omega)]
    simp [hj])
  rw [Pl.hexT_length] at h
  exact h

end Go.Proofs.YtkhkpjnpjgnckaaGreatDoor
