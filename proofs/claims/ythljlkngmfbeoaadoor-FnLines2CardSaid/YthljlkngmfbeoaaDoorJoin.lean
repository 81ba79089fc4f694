/- Lines put together: the contracts of JoinLines, the model's and the program's. -/
import Derived.Test.YthljlkngmfbeoaaDoorProg
import Derived.Test.YthljlkngmfbeoaaDoorPlain
import Derived.Test.YthljlkngmfbeoaaDoorTexts
import Derived.Test.YthljlkngmfbeoaaDoorLines
import Derived.Test.YthljlkngmfbeoaaDoorSplitSpec
import Derived.Test.YthljlkngmfbeoaaDoorBuild
import Derived.WalkKit
import Derived.WalkLawsBesides
import Derived.OwnWalk
import Derived.Lib.AppendStr
import Derived.Laws.IdiomStrings
import Derived.Deep.RegionHeld3
import Derived.Deep.AppendLies
import Derived.Lib.Hide
import Derived.IntWalk
namespace Go.Proofs.YthljlkngmfbeoaaDoor
open Go.RowKit
set_option linter.unusedVariables false

/-- the bytes of lines put together -/
def joinB (l : List Ln) : List UInt8 := l.flatMap (fun x => x.1.data.toList ++ x.2.data.toList)
theorem joinB_append (a b : List Ln) : joinB (a ++ b) = joinB a ++ joinB b := by simp [joinB]
theorem joinB_take_succ (l : List Ln) (k : Nat) (h : k < l.length) : joinB (l.take (k + 1)) = joinB (l.take k) ++ l[k].1.data.toList ++ l[k].2.data.toList := by
  rw [List.take_succ_eq_append_getElem h, joinB_append]
  simp [joinB]
theorem joinB_len (l : List Ln) : (joinB l).length + l.length = costL l := by
  induction l with
  | nil => rfl
  | cons x l ih =>
    have h1 := Lib.size_eq x.1
    have h2 := Lib.size_eq x.2
    simp only [joinB, List.flatMap_cons, List.length_append, costL, List.map_cons, List.sum_cons, List.length_cons] at *
    omega
theorem joinB_take_len (l : List Ln) (k : Nat) (h : k ≤ l.length) : (joinB (l.take k)).length ≤ costL l := by
  have h1 := joinB_len (l.take k)
  have h2 := costL_take l k h
  omega
theorem joinB_is (l : List Ln) : joinB l = joinL (l.map ofB) := by
  simp [joinB, joinL, ofB, List.flatMap_map]

theorem step_append_string {P : Program} (w : World) {ops : Array Oper} {o : Oper} {a : Act} {K : Act → World → Prop} {Q : Exit → Act → World → Prop} {E : Prop} (hgd : o.guard = none) (sl x : Operand) (t u : TypeId)
    (ho : o.op = .call { callee := .builtin .append, args := #[sl, x], argTypes := #[t, u] })
    (base : Nat) (e : TypeId) (i : TypeInfo) (ht : P.underlying t = some (.slice e)) (hu : P.underlying u = some .string) (hi : P.info? e = some i) (hz : i.zero = some (.int .u8 0))
    (hsize : i.size = 1) (hby : i.bytes = 1)
    (v : Value) (n : Nat) (xs : List Value) (hs : a.eval sl = v) (hown : w.ownsRow base e 1 v n xs) (s : ByteArray) (hx : a.eval x = .string s)
    (h63 : n + s.size ≤ maxLen) (hbytes : n + s.size ≤ 140737488355328) (hbase : base ≤ w.heap.size)
    (h : ∀ v' w', w'.ownsRow base e 1 v' (n + s.size) (xs ++ Lib.strCells s) → w.grownBy w' v.ownBlock → K (a.put o.dst v') w') :
    if Region.wanted o (yielded ops a.tmps) = true then Oper.wp P o a w K Q else E := by
  have hw : Region.wanted o (yielded ops a.tmps) = true := by simp [Region.wanted, hgd]
  rw [if_pos hw]
  obtain ⟨v', w', hr, h2, h3, h4⟩ := Lib.run_append_own_string (P := P) w base t u o.type e i ht hu hi hz hsize hby v n xs hown s h63 hbytes hbase
  unfold Oper.wp execOp
  simp only [ho, resolve, invoke, builtin, Sem.run_bind, Sem.run_pure, Result.andThen_ok, List.map_toArray, List.map_cons, List.map_nil, hs, hx, hr]
  exact h v' w' h2 h3

theorem own_low {w : World} {base e size n : Nat} {v : Value} {xs : List Value} {g : Nat} (h : w.ownsRow base e size v n xs) (hg : g < base) : some g ≠ v.ownBlock := fun e => by
  have := own_blockL h g e.symm
  omega

/-- a slice of bytes of the call's own, as a text -/
theorem text_of_own (w : World) (base n : Nat) (v : Value) (l : List UInt8) (h : w.ownsRow base 5 1 v n (Lib.byteCells l)) (hn : n = l.length) :
    (convert 22 9 v).run Tryd.prog w = .ok (.string ⟨l.toArray⟩) w := by
  subst hn
  rcases h.2 with ⟨hv, h0⟩ | ⟨g, cap, cur, hv, hb, hg, hnc, hcm, hcs, htake⟩
  · have hl : l = [] := List.eq_nil_of_length_eq_zero h0
    subst hl
    subst hv
    rw [run_convert_bytes_string w 22 9 5 none 0 0 Tryd.underlying22 Tryd.underlying5 Tryd.underlying9]
    rfl
  · subst hv
    refine run_convert_bytes_back w 22 9 5 ⟨g, 0, none⟩ cap l Tryd.underlying22 Tryd.underlying5 Tryd.underlying9 (fun j hj => ?_)
    refine World.ownsRow.cells h (g := g) rfl j _ ?_
    simp [Lib.byteCells, hj]

end Go.Proofs.YthljlkngmfbeoaaDoor
