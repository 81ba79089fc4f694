/- Texts put together with a line end between: a Builder's Grow, and strings.Join, at this program. -/
import Derived.Shelf.Strings.Builder2
import Derived.Test.YthljlkngmfbeoaaGreatDoorProg
import Derived.Test.YthljlkngmfbeoaaGreatDoorPlain
import Derived.Test.YthljlkngmfbeoaaGreatDoorTexts
import Derived.Test.YthljlkngmfbeoaaGreatDoorBuild
import Derived.Test.YthljlkngmfbeoaaGreatDoorEnvLay
import Derived.WalkKit
import Derived.WalkLawsBesides
import Derived.BigQuiet
import Derived.Deep.QuietTactic
import Derived.Lib.Hide
import Derived.IntWalk
import Derived.Outline
set_option maxRecDepth 100000
namespace Go.Proofs.YthljlkngmfbeoaaGreatDoor
open Go.RowKit Go.Shelf
set_option linter.unusedVariables false

theorem growX : Builder.Extra Tryz.prog lays241_ren := {
  sizeBuilder := by kernel_rfl
  liesBuilder := by kernel_rfl
  t5 := Tryz.underlying5
  a5 := Tryz.isAgg5
  z5 := Tryz.sizeOf5
  v5 := Tryz.zeroValue5
  infoByte := by kernel_rfl
  cellsByte := by kernel_rfl
  sizeByte := by kernel_rfl
  neB5 := by decide }
set_option maxHeartbeats 1600000 in
theorem grow_new (b n : Nat) (w : World) (hbk : w.heap[b]? = some (.cells #[.pointer none, .slice none 0 0] 80 (0, 0))) (hn : n ≤ 1000000000) (hn1 : 1 ≤ n) :
    Calls Tryz.prog 110 #[.pointer (some ⟨b, 0, none⟩), .int .i64 (n : Int)] w fun e w' => e = .returned (.tuple #[]) ∧ (BuiltF b b [] w' ∧ Below b w w') := by
  have hlt : b < w.heap.size := (Array.getElem?_eq_some_iff.1 hbk).1
  have hk1 : (w.setCell ⟨b, 0, none⟩ (.pointer (some ⟨b, 0, none⟩))).heap[b]? = some (.cells #[.pointer (some ⟨b, 0, none⟩), .slice none 0 0] 80 (0, 0)) := by
    simp [World.setCell, Array.getElem?_modify, hbk]
  have hb1 : Below b w (w.setCell ⟨b, 0, none⟩ (.pointer (some ⟨b, 0, none⟩))) := (Below.refl b w).setCell (p := ⟨b, 0, none⟩) (Nat.le_refl _) _
  have KC := Lib.hid (check_fresh b w (by rw [Lib.cell_of_heap hbk]; rfl) (by simp [World.shape?, hbk]) (Lib.frozen_of_heap hbk 0))
  have hz1 : b ≤ (w.setCell ⟨b, 0, none⟩ (.pointer (some ⟨b, 0, none⟩))).heap.size := by simp [World.setCell]; omega
  have HB1 := Lib.hid hb1
  have HK1 := Lib.hid hk1
  have hn2 : (0 : Int) < (n : Int) := by omega
  have hn3 : ¬ ((n : Int) < 0) := by omega
  clear hbk hb1
  go_enter Tryz.func110, Tryz.ntmps110
  go_wp2_with fail
  refine KC.out.mono ?_
  rintro e w1 ⟨rfl, rfl⟩
  have c1 : (w.setCell ⟨b, 0, none⟩ (.pointer (some ⟨b, 0, none⟩))).cell? ⟨b, 1, none⟩ = some (.slice none 0 0) := by rw [Lib.cell_of_heap hk1]; rfl
  clear hk1
  generalize w.setCell ⟨b, 0, none⟩ (.pointer (some ⟨b, 0, none⟩)) = W at *
  go_wp2_with fail
  go_quiet (fail)
  have hk2 : (W.drewN nq).heap[b]? = some (.cells #[.pointer (some ⟨b, 0, none⟩), .slice none 0 0] 80 (0, 0)) := HK1.out
  have HG := Lib.hid (Any.Builder_grow_fresh lays241 growX b b n (W.drewN nq) (Nat.le_refl _) hk2 hz1 (by omega))
  have hb2 := below_drewN HB1.out nq
  clear hk2 c1
  generalize W.drewN nq = W2 at *
  go_wp2_with fail
  refine HG.out.mono ?_
  rintro e w' ⟨rfl, h1, h2⟩
  go_wp2
  go_end0
  exact ⟨rfl, Lib.IsBuilderF.of (.inr h1), hb2.trans h2⟩

abbrev nlB : ByteArray := ⟨#[10]⟩
/-- texts with a line end ahead of each -/
def nlTail (r : List ByteArray) : List UInt8 := r.flatMap (fun y => (10 : UInt8) :: y.data.toList)
/-- texts with a line end between -/
def nlJoin : List ByteArray → List UInt8
  | [] => []
  | x :: r => x.data.toList ++ nlTail r
theorem nlTail_succ (r : List ByteArray) (k : Nat) (h : k < r.length) : nlTail (r.take (k + 1)) = nlTail (r.take k) ++ [10] ++ r[k].data.toList := by
  unfold nlTail
  rw [List.take_succ_eq_append_getElem h, List.flatMap_append]
  simp only [List.flatMap_cons, List.flatMap_nil, List.append_nil, List.append_assoc, List.cons_append, List.nil_append]
theorem nlTail_take_le (r : List ByteArray) (k : Nat) : (nlTail (r.take k)).length ≤ (nlTail r).length := by
  have e : nlTail r = nlTail (r.take k) ++ nlTail (r.drop k) := by
    unfold nlTail
    conv => lhs; rw [← List.take_append_drop k r]
    rw [List.flatMap_append]
  rw [e, List.length_append]
  omega
theorem nlTail_len (r : List ByteArray) : (nlTail r).length = r.length + (r.map (·.size)).sum := by
  induction r with
  | nil => rfl
  | cons x r ih =>
    have := Lib.size_eq x
    simp only [nlTail, List.flatMap_cons, List.length_append, List.length_cons, List.map_cons, List.sum_cons] at *
    omega
/-- the size of the first k texts -/
def sizesTo (l : List ByteArray) (k : Nat) : Nat := ((l.take k).map (·.size)).sum
theorem sizesTo_succ (l : List ByteArray) (k : Nat) (h : k < l.length) : sizesTo l (k + 1) = sizesTo l k + l[k].size := by
  unfold sizesTo
  rw [List.take_succ_eq_append_getElem h, List.map_append, List.sum_append]
  simp only [List.map_cons, List.map_nil, List.sum_cons, List.sum_nil, Nat.add_zero]
theorem sizesTo_le (l : List ByteArray) (k : Nat) : sizesTo l k ≤ sizesTo l l.length := by
  unfold sizesTo
  rw [List.take_length]
  conv => rhs; rw [← List.take_append_drop k l]
  rw [List.map_append, List.sum_append]
  omega

end Go.Proofs.YthljlkngmfbeoaaGreatDoor
