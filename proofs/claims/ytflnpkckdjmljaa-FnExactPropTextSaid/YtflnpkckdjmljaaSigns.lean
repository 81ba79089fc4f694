/- The signs of a text: the contracts of Signs, the model's and the program's. -/
import Derived.Test.YtflnpkckdjmljaaProg
import Derived.Test.YtflnpkckdjmljaaPlain
import Derived.Test.YtflnpkckdjmljaaRunePure
import Derived.Test.YtflnpkckdjmljaaDecodePure
import Derived.Test.YtflnpkckdjmljaaRuneText
import Derived.Test.YtflnpkckdjmljaaInts
import Derived.Test.YtflnpkckdjmljaaBuild
import Derived.Test.YtflnpkckdjmljaaTextOf
import Derived.Test.YtflnpkckdjmljaaNextSpec
import Derived.Test.YtflnpkckdjmljaaValid
import Derived.Lib.OthersKept
import Derived.WalkKit
import Derived.WalkLawsBesides
import Derived.OwnWalk
import Derived.Lib.Hide
import Derived.IntWalk
import Derived.Laws.RangeAny
namespace Go.Proofs.Ytflnpkckdjmljaa
open Go.RowKit
set_option linter.unusedVariables false

/-- the signs of a text, as numbers -/
def intsOf (l : List Nat) : List Int := l.map (fun (n : Nat) => (n : Int))
theorem intsOf_length (l : List Nat) : (intsOf l).length = l.length := by simp [intsOf]
theorem intsOf_snoc (l : List Nat) (r : Nat) : intsOf (l ++ [r]) = intsOf l ++ [(r : Int)] := by simp [intsOf]
def signsI (l : List UInt8) : List Int := intsOf ((signsL l).getD [])
def signsO (l : List UInt8) : Bool := (signsL l).isSome
/-- what Signs answers -/
def SignsAre (w : World) (l : List UInt8) (e : Ending) (w' : World) : Prop :=
  ∃ v g, e = .returned (.tuple #[v, .bool (signsO l)]) ∧ IntsIs w' v g 0 (signsI l) ∧ w.heap.size ≤ g ∧ Below w.heap.size w w'
theorem cell_one_newI (w : World) (v : Value) (t : Nat) : ∀ j u, [v][j]? = some u → (w.alloc (.cells #[v] t)).cell? ((⟨w.heap.size, 0, none⟩ : Addr).add j) = some u := by
  intro j u hu
  cases j with
  | zero =>
    have ha : (⟨w.heap.size, 0, none⟩ : Addr).add 0 = ⟨w.heap.size, 0, none⟩ := by unfold Addr.add; split <;> simp_all
    rw [ha, Lib.cell_of_heap (heap_alloc_new _ _)]
    simpa using hu
  | succ j => simp at hu
theorem signsI_few (l : List UInt8) : (signsI l).length ≤ l.length := by
  unfold signsI
  rw [intsOf_length]
  cases h : signsL l with
  | none => exact Nat.zero_le _
  | some list => exact signs_few l list h
theorem signs_bad {l : List UInt8} (h : signsL l = none) : signsI l = [] ∧ signsO l = false := by
  unfold signsI signsO
  rw [h]
  exact ⟨rfl, rfl⟩
theorem signs_good {l : List UInt8} {list : List Nat} (h : signsL l = some list) : signsI l = intsOf list ∧ signsO l = true := by
  unfold signsI signsO
  rw [h]
  exact ⟨rfl, rfl⟩
/-- how far it has come -/
def SignsAt (all : List UInt8) (k : Nat) (l : List Nat) : Prop := signsL all = (signsL (all.drop k)).map (l ++ ·)
theorem signsAt_zero (all : List UInt8) : SignsAt all 0 [] := by
  unfold SignsAt
  rw [List.drop_zero]
  cases signsL all <;> rfl
theorem signsAt_step {all : List UInt8} {k : Nat} {l : List Nat} {r n : Nat} (h : SignsAt all k l) (hn : nextS (all.drop k) = some (r, n)) : SignsAt all (k + n) (l ++ [r]) := by
  unfold SignsAt at *
  rw [h, signsL_good hn, List.drop_drop]
  cases signsL (all.drop (k + n)) with
  | none => rfl
  | some x => simp
theorem signsAt_bad {all : List UInt8} {k : Nat} {l : List Nat} (h : SignsAt all k l) (hk : k < all.length) (hn : nextS (all.drop k) = none) : signsL all = none := by
  unfold SignsAt at h
  rw [h, signsL_bad (by intro e; have := congrArg List.length e; rw [List.length_drop] at this; simp at this; omega) hn]
  rfl
theorem signsAt_end {all : List UInt8} {k : Nat} {l : List Nat} (h : SignsAt all k l) (hk : all.length ≤ k) : signsL all = some l := by
  unfold SignsAt at h
  rw [h, List.drop_of_length_le hk, signsL_nil]
  simp

theorem decode_at_drop (s : ByteArray) (k : Nat) (hk : k < s.size) (hv : (signsL (s.data.toList.drop k)).isSome = true) : nextS (s.data.toList.drop k) = some (Utf8.decode s k) := by
  rw [← Lib.decodeL_drop]
  have hne : s.data.toList.drop k ≠ [] := by
    intro e
    have := congrArg List.length e
    rw [List.length_drop, ← Lib.size_eq] at this
    simp at this
    omega
  by_cases h : (Lib.decodeL (s.data.toList.drop k)).1 = 65533 ∧ (Lib.decodeL (s.data.toList.drop k)).2 = 1
  · rw [signsL_bad hne (next_decode_bad _ h)] at hv
    cases hv
  · exact next_decode _ hne h
theorem signsAt_some {all : List UInt8} {k : Nat} {l : List Nat} (h : SignsAt all k l) (ho : signsO all = true) : (signsL (all.drop k)).isSome = true := by
  unfold SignsAt at h
  unfold signsO at ho
  rw [h, Option.isSome_map] at ho
  exact ho

theorem own_iterAt {w : World} {b e size n : Nat} {v : Value} {xs : List Value} (h : w.ownsRow (b + 1) e size v n xs) (s : ByteArray) (p : Nat) : (w.iterAt b s p).ownsRow (b + 1) e size v n xs := by
  refine ⟨h.1, ?_⟩
  rcases h.2 with h2 | ⟨g, cap, cur, hv, hb, hg, hnc, hcm, hcs, htake⟩
  · exact .inl h2
  · exact .inr ⟨g, cap, cur, hv, hb, (Lib.iterAt_other w b g s p (by omega)).trans hg, hnc, hcm, hcs, htake⟩
theorem iter_alloc {w : World} {b : Nat} {s : ByteArray} {p : Nat} (h : w.heap[b]? = some (.stringIter s p)) (o : Obj) : (w.alloc o).heap[b]? = some (.stringIter s p) := by
  rw [Below.heap_alloc _ _ _ (Array.getElem?_eq_some_iff.1 h).1]
  exact h

/-- what the program's Signs answers: and the block's cells are numbers -/
def SignsOwn (w : World) (l : List UInt8) (e : Ending) (w' : World) : Prop :=
  ∃ v g, e = .returned (.tuple #[v, .bool (signsO l)]) ∧ IntsIs w' v g 0 (signsI l) ∧ w.heap.size ≤ g ∧ Below w.heap.size w w' ∧ (signsI l ≠ [] → ∃ cs fz, w'.heap[g]? = some (.cells cs 3 fz))
theorem own_typeI {w : World} {base n : Nat} {v : Value} {g : Nat} {l : List Int} {xs : List Value} (h : w.ownsRow base 3 1 v n xs) (hI : IntsIs w v g 0 l) (hl : l ≠ []) : ∃ cs fz, w.heap[g]? = some (.cells cs 3 fz) := by
  obtain ⟨a, cap, hv, ha⟩ := hI.form
  have ha := ha hl
  rcases h.2 with ⟨hv2, _⟩ | ⟨g2, cap2, cur, hv2, hb, hg, _⟩
  · rw [hv, ha] at hv2
    cases hv2
  · rw [hv, ha] at hv2
    injection hv2 with e1
    injection e1 with e1
    injection e1 with e1
    subst e1
    exact ⟨_, _, hg⟩

end Go.Proofs.Ytflnpkckdjmljaa
