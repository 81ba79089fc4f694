/- Lists of records kept to their limit: the program's limitRecs, few of them. -/
import Derived.Test.YthljlkngmfbeoaaDoorProg
import Derived.Test.YthljlkngmfbeoaaDoorPlain
import Derived.Test.YthljlkngmfbeoaaDoorRows0
import Derived.Test.YthljlkngmfbeoaaDoorRecRows
import Derived.Test.YthljlkngmfbeoaaDoorRecArg
import Derived.Test.YthljlkngmfbeoaaDoorEnvOne
import Derived.Test.YthljlkngmfbeoaaDoorLines
import Derived.Test.YthljlkngmfbeoaaDoorSplitSpec
import Derived.Test.YthljlkngmfbeoaaDoorSplitImpl
import Derived.Test.YthljlkngmfbeoaaDoorJoin
import Derived.Test.YthljlkngmfbeoaaDoorRecRaw
import Derived.Test.YthljlkngmfbeoaaDoorEnvRecs
import Derived.WalkKit
import Derived.WalkLawsBesides
import Derived.OwnWalk
import Derived.Maps.AppendAt
import Derived.Laws.IdiomStrings
import Derived.Lib.Hide
import Derived.IntWalk
set_option maxRecDepth 100000
namespace Go.Proofs.YthljlkngmfbeoaaDoor
open Go.RowKit
set_option linter.unusedVariables false

theorem costL_dropP (l : List Ln) (k : Nat) : costL (l.drop k) ≤ costL l := by
  induction l generalizing k with
  | nil => simp
  | cons x l ih =>
    cases k with
    | zero => simp
    | succ k =>
      have := ih k
      simp only [List.drop_succ_cons, costL, List.length_cons, List.map_cons, List.sum_cons] at *
      omega
theorem costL_cutP (l : List Ln) (k n : Nat) : costL ((l.drop k).take n) ≤ costL l := by
  by_cases h : n ≤ (l.drop k).length
  · have h1 := costL_take (l.drop k) n h
    have h2 := costL_dropP l k
    omega
  · rw [List.take_of_length_le (by omega)]
    exact costL_dropP l k
theorem lines_fromP {w : World} {g n cap : Nat} {l : List Ln} (h : LinesRd w (.slice (some ⟨g, 0, none⟩) l.length n) g 0 l) (k c : Nat) (hk : k + c ≤ l.length) : LinesRd w (.slice (some ⟨g, k * 2, none⟩) c cap) g (k * 2) ((l.drop k).take c) := by
  have hl : ((l.drop k).take c).length = c := by rw [List.length_take, List.length_drop]; omega
  refine ⟨⟨some ⟨g, k * 2, none⟩, cap, by rw [hl], fun _ => rfl⟩, fun i hi => ?_, fun i hi => ?_⟩
  · have := h.c0 (k + i) (by omega)
    rw [Nat.zero_add, Nat.add_mul] at this
    rw [this]
    simp
  · have := h.c1 (k + i) (by omega)
    rw [Nat.zero_add, Nat.add_mul] at this
    rw [this]
    simp

theorem info_recP : (Tryd.prog.info? 29).map (fun i => (i.zero, i.size, i.bytes)) = some (some (recV noRec), 6, 80) := by kernel_rfl
/-- what limitRecs does with a list that the call has made -/
def LimOk (m : List RecD) : Prop := ∀ (B : Nat) (W : World) (v : Value), B ≤ W.heap.size → W.ownsRow B 29 6 v m.length (rowCells recS m) → Calls Tryd.prog 13 #[v] W fun e w' => ∃ v' g, e = .returned v' ∧ RowsIs recS w' v' g 0 (limG m) ∧ B ≤ g ∧ Below B W w'
theorem limit_fewP (m : List RecD) (hm : m.length ≤ 200) : LimOk m := by
  intro B W v hB hown
  obtain ⟨g, hr, hg⟩ := rowsIs_of_owns (S := recS) hown rfl hB
  obtain ⟨a, cap, rfl, _⟩ := hr.form
  have HR := Lib.hid hr
  have HL := Lib.hid (limG_few hm)
  have h1 : (m.length : Int) ≤ 200 := by omega
  clear hr hown
  go_enter Tryd.func13, Tryd.ntmps13
  go_wp2
  go_ret
  exact ⟨_, g, rfl, by rw [HL.out]; exact HR.out, hg, Below.refl _ _⟩
theorem kept_setP {w : World} {B e size n : Nat} {v : Value} {xs : List Value} (h : w.ownsRow B e size v n xs) {b j : Nat} (hb : v.ownBlock ≠ some b) (x : Value) : (w.setCell ⟨b, j, none⟩ x).ownsRow B e size v n xs :=
  h.kept (row := some b) ⟨rfl, rfl, rfl, by simp, fun k _ hk => Below.heap_setCell _ _ _ k (fun e => hk (by rw [e]))⟩ (.inr (fun e => hb e))

theorem own_formP {w : World} {base e size n : Nat} {v : Value} {xs : List Value} (h : w.ownsRow base e size v n xs) : ∃ a cap, v = .slice a n cap := by
  rcases h.2 with ⟨rfl, rfl⟩ | ⟨g, cap, cur, rfl, _⟩
  · exact ⟨none, 0, rfl⟩
  · exact ⟨_, cap, rfl⟩
theorem own_ltP {w : World} {base e size n : Nat} {v : Value} {xs : List Value} (h : w.ownsRow base e size v n xs) : ∀ k, v.ownBlock = some k → k < w.heap.size := by
  intro k hk
  rcases h.2 with ⟨rfl, _⟩ | ⟨g, cap, cur, rfl, hb, hg, _⟩
  · cases hk
  · simp only [Value.ownBlock] at hk
    cases hk
    exact (Array.getElem?_eq_some_iff.1 hg).1


end Go.Proofs.YthljlkngmfbeoaaDoor
