/- The bytes of records put together: the contracts of RawOf, the model's and the program's. -/
import Derived.Test.YtkhkpjnpjgnckaaGreatDoorProg
import Derived.Test.YtkhkpjnpjgnckaaGreatDoorPlain
import Derived.Test.YtkhkpjnpjgnckaaGreatDoorTexts
import Derived.Test.YtkhkpjnpjgnckaaGreatDoorRows0
import Derived.Test.YtkhkpjnpjgnckaaGreatDoorRecRows
import Derived.Test.YtkhkpjnpjgnckaaGreatDoorRecArg
import Derived.Test.YtkhkpjnpjgnckaaGreatDoorBuild
import Derived.WalkKit
import Derived.WalkLawsBesides
import Derived.OwnWalk
import Derived.Lib.AppendStr
import Derived.Laws.IdiomStrings
import Derived.Lib.Hide
import Derived.IntWalk
namespace Go.Proofs.YtkhkpjnpjgnckaaGreatDoor
open Go.RowKit
set_option linter.unusedVariables false

/-- the bytes of records put together -/
def rawB (l : List RecD) : List UInt8 := l.flatMap (fun x => x.raw.data.toList)
theorem rawB_append (a b : List RecD) : rawB (a ++ b) = rawB a ++ rawB b := by simp [rawB]
theorem rawB_take_succ (l : List RecD) (k : Nat) (h : k < l.length) : rawB (l.take (k + 1)) = rawB (l.take k) ++ l[k].raw.data.toList := by
  rw [List.take_succ_eq_append_getElem h, rawB_append]
  simp [rawB]
theorem rawB_len (l : List RecD) : (rawB l).length + l.length ≤ costRec l := by
  induction l with
  | nil => exact Nat.le_refl _
  | cons x l ih =>
    have h1 := Lib.size_eq x.raw
    have h2 : x.raw.size ≤ sizeRec x := by unfold sizeRec; omega
    simp only [rawB, List.flatMap_cons, List.length_append, costRec, List.map_cons, List.sum_cons, List.length_cons] at *
    omega
theorem rawB_take_len (l : List RecD) (k : Nat) (h : k ≤ l.length) : (rawB (l.take k)).length ≤ costRec l := by
  have h1 := rawB_len (l.take k)
  have h2 := costRec_take l k h
  omega

theorem own_blockR {w : World} {base e size n : Nat} {v : Value} {xs : List Value} (h : w.ownsRow base e size v n xs) : ∀ j, v.ownBlock = some j → base ≤ j := by
  intro j hj
  rcases h.2 with ⟨rfl, h0⟩ | ⟨g, cap, cur, rfl, hb, hg, hnc, hcm, hcs, htake⟩
  · cases hj
  · simp only [Value.ownBlock] at hj; cases hj; exact hb

/-- a slice of bytes of the call's own, as a text -/
theorem text_of_ownR (w : World) (base n : Nat) (v : Value) (l : List UInt8) (h : w.ownsRow base 5 1 v n (Lib.byteCells l)) (hn : n = l.length) :
    (convert 22 9 v).run Tryz.prog w = .ok (.string ⟨l.toArray⟩) w := by
  subst hn
  rcases h.2 with ⟨hv, h0⟩ | ⟨g, cap, cur, hv, hb, hg, hnc, hcm, hcs, htake⟩
  · have hl : l = [] := List.eq_nil_of_length_eq_zero h0
    subst hl
    subst hv
    rw [run_convert_bytes_string w 22 9 5 none 0 0 Tryz.underlying22 Tryz.underlying5 Tryz.underlying9]
    rfl
  · subst hv
    refine run_convert_bytes_back w 22 9 5 ⟨g, 0, none⟩ cap l Tryz.underlying22 Tryz.underlying5 Tryz.underlying9 (fun j hj => ?_)
    refine World.ownsRow.cells h (g := g) rfl j _ ?_
    simp [Lib.byteCells, hj]

set_option maxRecDepth 100000 in
set_option maxHeartbeats 3200000 in
theorem rawOf_impl (w : World) (u : Value) (g o : Nat) (l : List RecD) (hu : RowsRd recS w u g o l) (hl : costRec l ≤ 1048576) :
    Calls Tryz.prog 58 #[u] w fun e w' => e = .returned (.string ⟨(rawB l).toArray⟩) ∧ Below w.heap.size w w' := by
  obtain ⟨a, cap, rfl, ha⟩ := hu.form
  have hll : l.length ≤ 1048576 := by have := rawB_len l; omega
  have CU := Lib.hid hu
  have HA := Lib.hid ha
  clear hu ha
  have h0 : BuiltF w.heap.size w.heap.size [] (w.alloc (.cells #[.pointer none, .slice none 0 0] 95)) := Lib.IsBuilderF.of (Lib.fresh_isBuilder 95 5 w)
  have H0 := Lib.hid h0
  clear h0
  go_enter Tryz.func58, Tryz.ntmps58
  go_wp2
  go_loopw [8] (fun i wr => ∃ (k : Nat), k ≤ l.length ∧ i = .int .i64 k ∧ Hid (BuiltF w.heap.size w.heap.size (rawB (l.take k)) wr) ∧ w.heap.size < wr.heap.size ∧ Below w.heap.size w wr) (fun i _ => l.length - (intOf i).toNat)
  case atStart => exact ⟨0, Nat.zero_le _, rfl, H0, by simp, (Below.refl _ _).alloc (Nat.le_refl _) _⟩
  case round =>
    obtain ⟨k, hk, rfl, hB, hsz, hb⟩ := hrel
    clear H0
    by_cases hlt : k < l.length
    · have hln : l ≠ [] := by intro e; subst e; simp at hlt
      obtain rfl := HA.out hln
      have hgl := CU.out.lt hln
      have q0 := (hb.cell (p := ⟨g, o + k * 6, none⟩) hgl).trans (rec_c0 CU.out k hlt)
      have q1 := (hb.cell (p := ⟨g, o + k * 6 + 1, none⟩) hgl).trans (rec_c1 CU.out k hlt)
      have q2 := (hb.cell (p := ⟨g, o + k * 6 + 2, none⟩) hgl).trans (rec_c2 CU.out k hlt)
      have q3 := (hb.cell (p := ⟨g, o + k * 6 + 3, none⟩) hgl).trans (rec_c3 CU.out k hlt)
      have q4 := (hb.cell (p := ⟨g, o + k * 6 + 4, none⟩) hgl).trans (rec_c4 CU.out k hlt)
      have q5 := (hb.cell (p := ⟨g, o + k * 6 + 5, none⟩) hgl).trans (rec_c5 CU.out k hlt)
      have hj := Lib.hid (rawB_take_succ l k hlt)
      have hjl := rawB_take_len l (k + 1) (by omega)
      rw [hj.out] at hjl
      simp only [List.length_append, ← Lib.size_eq] at hjl
      generalize l[k] = x at *
      obtain ⟨a0, a1, a2, a3, a4, a5⟩ := x
      simp only at hjl
      have HJL := Lib.hid hjl
      clear hjl
      generalize rawB (l.take k) = z at *
      go_wp2_with fail
      have hB1 : BuiltF w.heap.size w.heap.size z (wr.alloc (.cells #[.int .i64 a0, .string a1, .string a2, .string a3, .string a4, .int .i64 a5] 35)) := hB.out.alloc _
      refine (built_write w.heap.size w.heap.size z a1 _ hB1 (by have := HJL.out; omega) (by simp; omega)).mono ?_
      rintro e w1 ⟨rfl, hB2, hb2, hk2⟩
      have hs1 : w.heap.size < w1.heap.size := by have := hb2.size; simp at this; omega
      have hb3 := (hb.alloc (by omega) _).trans hb2
      have HB2 : Hid (BuiltF w.heap.size w.heap.size (rawB (l.take (k + 1))) w1) := by unfold Hid; rw [hj.out]; exact hB2
      clear hB hB1 hk2 hb2 hb hB2 hj HJL
      go_wp2
      go_roundw
      case rel => exact ⟨k + 1, by omega, by go_num, HB2, hs1, hb3⟩
      case measure => simp [intOf]; omega
    · obtain rfl : k = l.length := by omega
      rw [List.take_length] at hB
      go_wp2_with fail
      refine (built_string w.heap.size w.heap.size (rawB l) _ hB.out (by omega)).mono ?_
      rintro e w2 ⟨rfl, _, hb4, _⟩
      have hb5 := hb.trans hb4
      clear hB hb4
      go_wp2
      go_ret
      exact ⟨rfl, hb5⟩

end Go.Proofs.YtkhkpjnpjgnckaaGreatDoor
