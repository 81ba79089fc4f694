/- Lists of structs of plain fields in memory, whatever the struct: how they are read, kept, stored into. -/
import Derived.Test.YtkhkpjnpjgnckaaGreatDoorProg
import Derived.Test.YtkhkpjnpjgnckaaGreatDoorPlain
import Derived.WalkKit
import Derived.WalkLawsBesides
import Derived.OwnWalk
import Derived.Laws.OwnMore
import Derived.Below
import Derived.Lib.Hide
namespace Go.Proofs.YtkhkpjnpjgnckaaGreatDoor
open Go.RowKit
set_option linter.unusedVariables false

/-- how one datum lies in memory: its cells, as many for each -/
structure Shape (α : Type) where
  n : Nat
  cs : α → List Value
  len : ∀ x, (cs x).length = n
  pos : 0 < n
  one : ∀ x, ∀ u ∈ cs x, u.oneCell' = true

/-- a list of them, as a value and what it leads to -/
structure RowsRd {α : Type} (S : Shape α) (w : World) (v : Value) (g o : Nat) (l : List α) : Prop where
  form : ∃ (a : Option Addr) (cap : Nat), v = .slice a l.length cap ∧ (l ≠ [] → a = some ⟨g, o, none⟩)
  cell : ∀ i (h : i < l.length) j u, (S.cs l[i])[j]? = some u → w.cell? ⟨g, o + i * S.n + j, none⟩ = some u
/-- and none of its cells is frozen -/
structure RowsIs {α : Type} (S : Shape α) (w : World) (v : Value) (g o : Nat) (l : List α) : Prop extends RowsRd S w v g o l where
  free : ∀ i, i < l.length * S.n → w.frozen? ⟨g, o + i, none⟩ = false

section
variable {α : Type} {S : Shape α} {w w' : World} {v : Value} {g o : Nat} {l : List α}

theorem RowsRd.kept (h : RowsRd S w v g o l) (hk : l ≠ [] → w'.heap[g]? = w.heap[g]?) : RowsRd S w' v g o l :=
  ⟨h.form, fun i hi j u hu => (World.cell?_of_block (a := ⟨g, o + i * S.n + j, none⟩) (hk (by intro e; subst e; simp at hi))).trans (h.cell i hi j u hu)⟩
theorem RowsIs.kept (h : RowsIs S w v g o l) (hk : l ≠ [] → w'.heap[g]? = w.heap[g]?) : RowsIs S w' v g o l :=
  ⟨h.toRowsRd.kept hk, fun i hi => (World.frozen?_of_block (a := ⟨g, o + i, none⟩) (hk (by intro e; subst e; simp at hi))).trans (h.free i hi)⟩
theorem RowsRd.lt (h : RowsRd S w v g o l) (hl : l ≠ []) : g < w.heap.size := by
  have h0 : 0 < l.length := List.length_pos_iff.2 hl
  have h1 : 0 < (S.cs l[0]).length := by rw [S.len]; exact S.pos
  exact World.block_lt_of_cell? _ _ (h.cell 0 h0 0 (S.cs l[0])[0] (by rw [List.getElem?_eq_getElem h1]))
theorem RowsRd.below {B : Nat} (h : RowsRd S w v g o l) (hb : Below B w w') (hg : l ≠ [] → g < B) : RowsRd S w' v g o l :=
  h.kept (fun hl => hb.block g (hg hl))
theorem RowsIs.below {B : Nat} (h : RowsIs S w v g o l) (hb : Below B w w') (hg : l ≠ [] → g < B) : RowsIs S w' v g o l :=
  h.kept (fun hl => hb.block g (hg hl))
/-- over what happens above -/
theorem RowsRd.over (h : RowsRd S w v g o l) (hb : Below w.heap.size w w') : RowsRd S w' v g o l := h.below hb (fun hl => h.lt hl)
theorem RowsIs.over (h : RowsIs S w v g o l) (hb : Below w.heap.size w w') : RowsIs S w' v g o l := h.below hb (fun hl => h.toRowsRd.lt hl)
/-- over what turns another block -/
theorem RowsRd.turned {row : Option Nat} (h : RowsRd S w v g o l) (hg : w.grownBy w' row) (hr : l ≠ [] → row ≠ some g) : RowsRd S w' v g o l :=
  h.kept (fun hl => hg.block g (h.lt hl) (fun e => hr hl e.symm))
theorem RowsIs.turned {row : Option Nat} (h : RowsIs S w v g o l) (hg : w.grownBy w' row) (hr : l ≠ [] → row ≠ some g) : RowsIs S w' v g o l :=
  h.kept (fun hl => hg.block g (h.toRowsRd.lt hl) (fun e => hr hl e.symm))
theorem RowsRd.nil (a : Option Addr) (cap : Nat) (h : v = .slice a 0 cap) : RowsRd S w v g o [] :=
  ⟨⟨a, cap, h, fun h => absurd rfl h⟩, fun i hi => by simp at hi⟩
theorem RowsIs.nil (a : Option Addr) (cap : Nat) (h : v = .slice a 0 cap) : RowsIs S w v g o [] :=
  ⟨RowsRd.nil a cap h, fun i hi => by simp at hi⟩
end

/-- the cells of a list -/
def rowCells {α : Type} (S : Shape α) (l : List α) : List Value := l.flatMap S.cs
theorem rowCells_length {α : Type} (S : Shape α) (l : List α) : (rowCells S l).length = l.length * S.n := by
  unfold rowCells
  induction l with
  | nil => simp
  | cons x l ih => rw [List.flatMap_cons, List.length_append, S.len, ih, List.length_cons, Nat.succ_mul]; omega
theorem rowCells_append {α : Type} (S : Shape α) (a b : List α) : rowCells S (a ++ b) = rowCells S a ++ rowCells S b := by simp [rowCells]
theorem rowCells_single {α : Type} (S : Shape α) (x : α) : rowCells S [x] = S.cs x := by simp [rowCells]
theorem rowCells_at {α : Type} (S : Shape α) (l : List α) (i : Nat) (h : i < l.length) (j : Nat) (hj : j < S.n) : (rowCells S l)[i * S.n + j]? = (S.cs l[i])[j]? := by
  unfold rowCells
  induction l generalizing i with
  | nil => simp at h
  | cons x l ih =>
    rw [List.flatMap_cons]
    cases i with
    | zero =>
      rw [List.getElem?_append_left (by rw [S.len]; omega)]
      simp
    | succ i =>
      rw [List.getElem?_append_right (by rw [S.len, Nat.succ_mul]; omega), S.len, Nat.succ_mul]
      rw [show i * S.n + S.n + j - S.n = i * S.n + j by omega]
      exact ih i (by simpa using h)
theorem rowCells_one {α : Type} (S : Shape α) (l : List α) : ∀ u ∈ rowCells S l, u.oneCell' = true := by
  intro u hu
  unfold rowCells at hu
  obtain ⟨x, _, hx⟩ := List.mem_flatMap.1 hu
  exact S.one x u hx

theorem row_addr (g j : Nat) : (⟨g, 0, none⟩ : Addr).add j = ⟨g, j, none⟩ := by unfold Addr.add; split <;> simp_all
/-- out of a row that the call itself made -/
theorem rowsIs_of_owns {α : Type} {S : Shape α} {w : World} {base n : Nat} {v : Value} {l : List α} {t : Nat} (h : w.ownsRow base t S.n v n (rowCells S l)) (hn : n = l.length) (hB : base ≤ w.heap.size) : ∃ g, RowsIs S w v g 0 l ∧ base ≤ g := by
  subst hn
  rcases h.2 with ⟨hv, h0⟩ | ⟨g, cap, cur, hv, hb, hg, hnc, hcm, hcs, htake⟩
  · have hl : l = [] := List.eq_nil_of_length_eq_zero h0
    subst hl
    exact ⟨w.heap.size, RowsIs.nil none 0 hv, hB⟩
  · subst hv
    refine ⟨g, ⟨⟨⟨_, cap, rfl, fun _ => rfl⟩, fun i hi j u hu => ?_⟩, fun i hi => ?_⟩, hb⟩
    · have hj : j < S.n := by rw [← S.len l[i]]; exact (List.getElem?_eq_some_iff.1 hu).1
      have := World.ownsRow.cells h (g := g) rfl (i * S.n + j) u (by rw [rowCells_at S l i hi j hj]; exact hu)
      rw [row_addr] at this
      rw [Nat.zero_add]
      exact this
    · rw [Nat.zero_add]; exact World.ownsRow.frozenAt h i

/-- n empty ones, as make lays them -/
theorem made_rows {α : Type} (S : Shape α) (z : Value) (x0 : α) (hz : Value.cells z = (S.cs x0).toArray) (k : Nat) : (madeCells (Value.cells z) (k * S.n)).toList = rowCells S (List.replicate k x0) := by
  have hp := S.pos
  have hsz : (S.cs x0).length = S.n := S.len x0
  apply List.ext_getElem?
  intro j
  by_cases hj : j < k * S.n
  · have h2 : j / S.n < (List.replicate k x0).length := by
      rw [List.length_replicate]
      exact Nat.div_lt_of_lt_mul (by rw [Nat.mul_comm]; exact hj)
    have h3 : j % S.n < S.n := Nat.mod_lt _ hp
    have h4 : j / S.n * S.n + j % S.n = j := Nat.div_add_mod' j S.n
    have := rowCells_at S (List.replicate k x0) (j / S.n) h2 (j % S.n) h3
    rw [h4, List.getElem_replicate] at this
    rw [this, hz]
    simp only [madeCells]
    rw [Array.getElem?_toList, Array.getElem?_map, Array.getElem?_range, if_pos hj]
    have h5 : j % S.n < (S.cs x0).toArray.size := by simpa [hsz] using h3
    simp [hsz, h3]
  · rw [List.getElem?_eq_none (by simp only [Array.length_toList, size_madeCells]; omega), List.getElem?_eq_none (by rw [rowCells_length, List.length_replicate]; omega)]

/-- one cell of one of them put anew -/
theorem RowsIs.store {α : Type} {S : Shape α} {w : World} {v : Value} {g o : Nat} {l : List α} (h : RowsIs S w v g o l) (i : Nat) (hi : i < l.length) (j : Nat) (hj : j < S.n) (u : Value) (x : α) (hx : S.cs x = (S.cs l[i]).set j u) :
    RowsIs S (w.setCell ⟨g, o + i * S.n + j, none⟩ u) v g o (l.set i x) := by
  obtain ⟨⟨⟨a, cap, rfl, ha⟩, hc⟩, hf⟩ := h
  refine ⟨⟨⟨a, cap, by rw [List.length_set], fun _ => ha (by intro e; subst e; simp at hi)⟩, fun k hk q y hy => ?_⟩, fun k hk => ?_⟩
  · rw [List.length_set] at hk
    by_cases e : i = k
    · subst e
      rw [List.getElem_set_self, hx] at hy
      by_cases eq : j = q
      · subst eq
        rw [List.getElem?_set_self (by rw [S.len]; exact hj)] at hy
        injection hy with hy
        subst hy
        exact World.cell?_setCell_same _ _ _ (hc i hi j ((S.cs l[i])[j]'(by rw [S.len]; exact hj)) (List.getElem?_eq_getElem _))
      · rw [List.getElem?_set_ne eq] at hy
        rw [World.cell?_setCell_other _ _ _ _ (by intro h2; injection h2; omega)]
        exact hc i hi q y hy
    · rw [List.getElem_set_ne e] at hy
      have hq : q < S.n := by rw [← S.len l[k]]; exact (List.getElem?_eq_some_iff.1 hy).1
      rw [World.cell?_setCell_other _ _ _ _ (by
        intro h2
        injection h2 with _ h3 _
        rcases Nat.lt_or_gt_of_ne e with h4 | h4
        · have : (i + 1) * S.n ≤ k * S.n := Nat.mul_le_mul_right _ h4
          rw [Nat.succ_mul] at this
          omega
        · have : (k + 1) * S.n ≤ i * S.n := Nat.mul_le_mul_right _ h4
          rw [Nat.succ_mul] at this
          omega)]
      exact hc k hk q y hy
  · rw [List.length_set] at hk
    rw [World.frozen?_setCell]
    exact hf k hk

/-- the first k of one list, and of the other what follows -/
def mixR {α : Type} (l m : List α) (k : Nat) : List α := l.take k ++ m.drop k
theorem mixR_length {α : Type} {l m : List α} {k : Nat} (h : l.length = m.length) (hk : k ≤ l.length) : (mixR l m k).length = l.length := by simp [mixR]; omega
theorem mixR_set {α : Type} {l m : List α} {k : Nat} (h : l.length = m.length) (hk : k < l.length) : (mixR l m k).set k l[k] = mixR l m (k + 1) := by
  unfold mixR
  have hm : k < m.length := by omega
  rw [List.set_append_right _ _ (by simp; omega), List.drop_eq_getElem_cons (l := m) hm, List.take_succ_eq_append_getElem hk]
  rw [show k - (List.take k l).length = 0 from by simp; omega, List.set_cons_zero, List.append_assoc]
  rfl
theorem mixR_all {α : Type} {l m : List α} (h : l.length = m.length) : mixR l m l.length = l := by
  unfold mixR
  rw [List.take_length, List.drop_of_length_le (by omega), List.append_nil]
theorem mixR_zero {α : Type} (l m : List α) : mixR l m 0 = m := by simp [mixR]

/-- a cell of the one that stands at i -/
theorem RowsIs.putCell {α : Type} {S : Shape α} {w : World} {v : Value} {g o : Nat} {m : List α} {i : Nat} {x : α} (h : RowsIs S w v g o (m.set i x)) (hi : i < m.length) (j : Nat) (u : Value) (hu : (S.cs x)[j]? = some u) : w.cell? ⟨g, o + i * S.n + j, none⟩ = some u :=
  h.cell i (by rw [List.length_set]; exact hi) j u (by rw [List.getElem_set_self]; exact hu)
theorem RowsIs.putFree {α : Type} {S : Shape α} {w : World} {v : Value} {g o : Nat} {m : List α} (h : RowsIs S w v g o m) (i : Nat) (hi : i < m.length) (j : Nat) (hj : j < S.n) : w.frozen? ⟨g, o + i * S.n + j, none⟩ = false := by
  have := h.free (i * S.n + j) (by
    have : (i + 1) * S.n ≤ m.length * S.n := Nat.mul_le_mul_right _ hi
    rw [Nat.succ_mul] at this
    omega)
  rw [← Nat.add_assoc] at this
  exact this
/-- and one of its cells put anew -/
theorem RowsIs.put {α : Type} {S : Shape α} {w : World} {v : Value} {g o : Nat} {m : List α} {i : Nat} {x : α} (h : RowsIs S w v g o (m.set i x)) (hi : i < m.length) (j : Nat) (hj : j < S.n) (u : Value) (y : α) (hy : S.cs y = (S.cs x).set j u) : RowsIs S (w.setCell ⟨g, o + i * S.n + j, none⟩ u) v g o (m.set i y) := by
  have := h.store i (by rw [List.length_set]; exact hi) j hj u y (by rw [List.getElem_set_self]; exact hy)
  rwa [List.set_set] at this
theorem RowsIs.self {α : Type} {S : Shape α} {w : World} {v : Value} {g o : Nat} {m : List α} (h : RowsIs S w v g o m) (i : Nat) (hi : i < m.length) : RowsIs S w v g o (m.set i m[i]) := by
  rw [List.set_getElem_self]; exact h

/-- a list that the call itself made -/
def NewRows {α : Type} (S : Shape α) (w : World) (l : List α) (e : Ending) (w' : World) : Prop := ∃ v g, e = .returned v ∧ RowsIs S w' v g 0 l ∧ w.heap.size ≤ g ∧ Below w.heap.size w w'

end Go.Proofs.YtkhkpjnpjgnckaaGreatDoor
