/- The lines of odd records: the contracts of OddLines, the model's and the program's. -/
import Derived.Test.YtkhkpjnpjgnckaaGreatDoorProg
import Derived.Test.YtkhkpjnpjgnckaaGreatDoorPlain
import Derived.Test.YtkhkpjnpjgnckaaGreatDoorRows0
import Derived.Test.YtkhkpjnpjgnckaaGreatDoorRecRows
import Derived.Test.YtkhkpjnpjgnckaaGreatDoorRecArg
import Derived.Test.YtkhkpjnpjgnckaaGreatDoorRecEntry
import Derived.Test.YtkhkpjnpjgnckaaGreatDoorRecRaw
import Derived.Test.YtkhkpjnpjgnckaaGreatDoorInts
import Derived.WalkKit
import Derived.WalkLawsBesides
import Derived.OwnWalk
import Derived.Lib.AppendStr
import Derived.Lib.Hide
import Derived.IntWalk
namespace Go.Proofs.YtkhkpjnpjgnckaaGreatDoor
open Go.RowKit
set_option linter.unusedVariables false

/-- the lines of the odd ones -/
def oddL (l : List RecD) : List Int := (l.filter (fun x => decide (x.kind = 4))).map RecD.line
theorem oddL_yes (l : List RecD) (k : Nat) (h : k < l.length) (hk : l[k].kind = 4) : oddL (l.take (k + 1)) = oddL (l.take k) ++ [l[k].line] := by
  unfold oddL
  rw [List.take_succ_eq_append_getElem h, List.filter_append, List.map_append]
  simp [hk]
theorem oddL_no (l : List RecD) (k : Nat) (h : k < l.length) (hk : l[k].kind ≠ 4) : oddL (l.take (k + 1)) = oddL (l.take k) := by
  unfold oddL
  rw [List.take_succ_eq_append_getElem h, List.filter_append, List.map_append]
  simp [hk]
theorem oddL_len (l : List RecD) : (oddL l).length ≤ l.length := by
  unfold oddL
  rw [List.length_map]
  exact List.length_filter_le _ _
theorem oddL_fits {l : List RecD} (h : costRec l ≤ 1048576) : (oddL l).length ≤ 100000000 := by
  have := oddL_len l
  unfold costRec at h
  omega
theorem oddL_take_len (l : List RecD) (k : Nat) : (oddL (l.take k)).length ≤ k := by
  have := oddL_len (l.take k)
  rw [List.length_take] at this
  omega

theorem cell_one_newR (w : World) (v : Value) (t : Nat) : ∀ j u, [v][j]? = some u → (w.alloc (.cells #[v] t)).cell? ((⟨w.heap.size, 0, none⟩ : Addr).add j) = some u := by
  intro j u hu
  cases j with
  | zero =>
    have ha : (⟨w.heap.size, 0, none⟩ : Addr).add 0 = ⟨w.heap.size, 0, none⟩ := by unfold Addr.add; split <;> simp_all
    rw [ha, Lib.cell_of_heap (heap_alloc_new _ _)]
    simpa using hu
  | succ j => simp at hu
theorem own_stepI {w wr w1 : World} {t : Nat} {v v' : Value} {l : List Int} {x : Int} {o : Obj} (hb : Below w.heap.size w wr) (hown : wr.ownsRow w.heap.size t 1 v l.length (intCells l))
    (hown' : w1.ownsRow w.heap.size t 1 v' (l.length + 1) (intCells l ++ [.int .i64 x])) (hg : (wr.alloc o).grownBy w1 v.ownBlock) :
    w1.ownsRow w.heap.size t 1 v' (l ++ [x]).length (intCells (l ++ [x])) ∧ Below w.heap.size w w1 := by
  refine ⟨by simpa [intCells] using hown', ?_⟩
  exact (hb.alloc hb.size o).grown hg (by have := hb.size; simp; omega) (own_blockR hown)
theorem ownsRow_over {w w' : World} {base e size n : Nat} {v : Value} {xs : List Value} (h : w.ownsRow base e size v n xs) (hb : Below w.heap.size w w') : w'.ownsRow base e size v n xs :=
  h.kept (row := none) ⟨hb.os, hb.tape, hb.output, hb.size, fun k hk _ => hb.block k hk⟩ (by cases hv : v.ownBlock <;> simp)

end Go.Proofs.YtkhkpjnpjgnckaaGreatDoor
