/- The lines of a text; the contract of the model's SplitLines. -/
import Derived.Test.YthljlkngmfbeoaaDoorProg
import Derived.Test.YthljlkngmfbeoaaDoorPlain
import Derived.Test.YthljlkngmfbeoaaDoorTexts
import Derived.Test.YthljlkngmfbeoaaDoorLines
import Derived.WalkKit
import Derived.WalkLawsBesides
import Derived.OwnWalk
import Derived.Maps.AppendAt
import Derived.Deep.RegionHeld3
import Derived.Deep.AppendLies
import Derived.Lib.Hide
import Derived.IntWalk
namespace Go.Proofs.YthljlkngmfbeoaaDoor
open Go.RowKit
set_option linter.unusedVariables false

def toB (x : List UInt8 × List UInt8) : Ln := (⟨x.1.toArray⟩, ⟨x.2.toArray⟩)
def ofB (x : Ln) : List UInt8 × List UInt8 := (x.1.data.toList, x.2.data.toList)
theorem toB_ofB (x : Ln) : toB (ofB x) = x := by simp [toB, ofB]
theorem ofB_toB (x : List UInt8 × List UInt8) : ofB (toB x) = x := by simp [toB, ofB]
def linesOf (s : ByteArray) : List Ln := (splitL s.data.toList []).map toB
theorem linesOf_few (s : ByteArray) : (linesOf s).length ≤ s.size := by
  unfold linesOf
  rw [List.length_map]
  have := split_few s.data.toList []
  rw [← Lib.size_eq] at this
  simpa using this

theorem cell_two_new (w : World) (x y : Value) (t : TypeId) : ∀ j u, [x, y][j]? = some u → (w.alloc (.cells #[x, y] t)).cell? ((⟨w.heap.size, 0, none⟩ : Addr).add j) = some u := by
  intro j u hu
  have hadd : (⟨w.heap.size, 0, none⟩ : Addr).add j = ⟨w.heap.size, j, none⟩ := by unfold Addr.add; split <;> simp_all
  rw [hadd]
  match j, hu with
  | 0, hu => simp at hu; subst hu; simp
  | 1, hu => simp at hu; subst hu; simp

theorem own_blockL {w : World} {base e size n : Nat} {v : Value} {xs : List Value} (h : w.ownsRow base e size v n xs) : ∀ k, v.ownBlock = some k → base ≤ k := by
  intro k hk
  rcases h.2 with ⟨rfl, _⟩ | ⟨g, cap, cur, rfl, hb, _⟩
  · cases hk
  · cases hk; exact hb
theorem own_stepL {w wr w1 : World} {t : Nat} {v v' : Value} {l : List Ln} {x : Ln} {o : Obj} (hb : Below w.heap.size w wr) (hown : wr.ownsRow w.heap.size t 2 v l.length (lnCells l))
    (hown' : w1.ownsRow w.heap.size t 2 v' (l.length + 1) (lnCells l ++ [.string x.1, .string x.2])) (hg : (wr.alloc o).grownBy w1 v.ownBlock) :
    w1.ownsRow w.heap.size t 2 v' (l ++ [x]).length (lnCells (l ++ [x])) ∧ Below w.heap.size w w1 := by
  refine ⟨by rw [lnCells_append, List.length_append]; exact hown', ?_⟩
  exact (hb.alloc hb.size o).grown hg (by have := hb.size; simp; omega) (own_blockL hown)

/-- what is left of a text behind k bytes, where ff have gone into whole lines -/
def restL (s : ByteArray) (k ff : Nat) : List Ln := (splitL (s.data.toList.drop k) ((s.data.toList.take k).drop ff)).map toB
theorem restL_start (s : ByteArray) : restL s 0 0 = linesOf s := by simp [restL, linesOf]
theorem drop_here (s : ByteArray) (k : Nat) (h : k < s.size) : s.data.toList.drop k = s[k] :: s.data.toList.drop (k + 1) := by
  rw [List.drop_eq_getElem_cons (by simpa using h)]; rfl
theorem take_drop_extract (s : ByteArray) (k ff : Nat) : (⟨((s.data.toList.take k).drop ff).toArray⟩ : ByteArray) = s.extract ff k := by
  apply ByteArray.ext
  apply Array.toList_inj.1
  rw [Lib.extract_data]
  rw [List.drop_take]
theorem extract_here (s : ByteArray) (k : Nat) (h : k < s.size) : s.extract k (k + 1) = ⟨#[s[k]]⟩ := by
  apply ByteArray.ext
  apply Array.toList_inj.1
  rw [Lib.extract_data, drop_here s k h, show k + 1 - k = 1 from by omega]
  simp
theorem extract_two (s : ByteArray) (k : Nat) (h : k + 1 < s.size) : s.extract k (k + 2) = ⟨#[s[k], s[k + 1]]⟩ := by
  apply ByteArray.ext
  apply Array.toList_inj.1
  rw [Lib.extract_data, drop_here s k (by omega), drop_here s (k + 1) h, show k + 2 - k = 2 from by omega]
  simp
theorem restL_two (s : ByteArray) (k ff : Nat) (h : k + 1 < s.size) (h1 : s[k] = 13) (h2 : s[k + 1] = 10) : restL s k ff = (s.extract ff k, s.extract k (k + 2)) :: restL s (k + 2) (k + 2) := by
  unfold restL
  rw [drop_here s k (by omega), drop_here s (k + 1) h, h1, h2, splitL_two, List.map_cons, extract_two s k h, h1, h2]
  have : (s.data.toList.take (k + 2)).drop (k + 2) = [] := List.drop_of_length_le (by simp; omega)
  rw [this]
  simp only [toB, take_drop_extract]
theorem restL_cr (s : ByteArray) (k ff : Nat) (h : k < s.size) (h1 : s[k] = 13) (h2 : ∀ h : k + 1 < s.size, s[k + 1] ≠ 10) : restL s k ff = (s.extract ff k, s.extract k (k + 1)) :: restL s (k + 1) (k + 1) := by
  unfold restL
  rw [drop_here s k h, h1, splitL_cr, List.map_cons, extract_here s k h, h1]
  · have : (s.data.toList.take (k + 1)).drop (k + 1) = [] := List.drop_of_length_le (by simp; omega)
    rw [this]
    simp only [toB, take_drop_extract]
  · by_cases h3 : k + 1 < s.size
    · rw [drop_here s (k + 1) h3]
      simpa using h2 h3
    · rw [List.drop_of_length_le (by simp; omega)]
      simp
theorem restL_lf (s : ByteArray) (k ff : Nat) (h : k < s.size) (h1 : s[k] = 10) : restL s k ff = (s.extract ff k, s.extract k (k + 1)) :: restL s (k + 1) (k + 1) := by
  unfold restL
  rw [drop_here s k h, h1, splitL_lf, List.map_cons, extract_here s k h, h1]
  have : (s.data.toList.take (k + 1)).drop (k + 1) = [] := List.drop_of_length_le (by simp; omega)
  rw [this]
  simp only [toB, take_drop_extract]
theorem restL_on (s : ByteArray) (k ff : Nat) (h : k < s.size) (hf : ff ≤ k) (h1 : s[k] ≠ 13) (h2 : s[k] ≠ 10) : restL s k ff = restL s (k + 1) ff := by
  unfold restL
  rw [drop_here s k h, splitL_on _ _ _ h1 h2, Pl.take_snoc s k h, List.drop_append_of_le_length (by simp; omega)]
theorem restL_end (s : ByteArray) (ff : Nat) (hf : ff ≤ s.size) : restL s s.size ff = if ff < s.size then [(s.extract ff s.size, ⟨#[]⟩)] else [] := by
  unfold restL
  rw [List.drop_of_length_le (by simp), splitL_nil, Pl.take_all]
  by_cases h : ff < s.size
  · rw [if_pos h, if_neg (by intro e; have := congrArg List.length e; simp at this; omega)]
    simp only [List.map_cons, List.map_nil, toB]
    rw [← take_drop_extract s s.size ff, Pl.take_all]
  · rw [if_neg h, if_pos (List.drop_of_length_le (by simp; omega))]
    rfl

/-- a list of lines that the call itself made -/
def OwnLines (w : World) (l : List Ln) (e : Ending) (w' : World) : Prop := ∃ v, e = .returned v ∧ w'.ownsRow w.heap.size 36 2 v l.length (lnCells l) ∧ Below w.heap.size w w'

end Go.Proofs.YthljlkngmfbeoaaDoor
