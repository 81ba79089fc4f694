/- Keys and values of property files, as they are written: the model's contracts of l07Gap, l07Lead, l07Cut. -/
import Derived.Test.YtflnpkckdjmljaaGreatDoorProg
import Derived.Test.YtflnpkckdjmljaaGreatDoorPlain
import Derived.Test.YtflnpkckdjmljaaGreatDoorCut
import Derived.Test.YtflnpkckdjmljaaGreatDoorTail
import Derived.WalkKit
import Derived.WalkLawsBesides
import Derived.Laws.IdiomStrings
import Derived.Lib.Hide
import Derived.IntWalk
set_option maxRecDepth 100000
namespace Go.Proofs.YtflnpkckdjmljaaGreatDoor
open Go.RowKit
set_option linter.unusedVariables false

/-- white space of property files -/
def gapB (c : UInt8) : Bool := c == 32 || c == 9 || c == 12
theorem text_noneP (x : ByteArray) (h : x.size = 0) : (x.toList == []) = true ∧ x.toList.isEmpty = true := by
  have : x.toList = [] := by
    rw [Lib.toList_data]
    apply List.eq_nil_of_length_eq_zero
    rw [← Lib.size_eq]
    exact h
  rw [this]
  exact ⟨rfl, rfl⟩
theorem text_someP (x : ByteArray) (h : 0 < x.size) : (x.toList == []) = false ∧ x.toList.isEmpty = false := by
  rw [Lib.toList_data]
  cases hl : x.data.toList with
  | nil =>
    have h2 := Lib.size_eq x
    rw [hl, List.length_nil] at h2
    omega
  | cons c t => exact ⟨rfl, rfl⟩
theorem head_tailP (z : ByteArray) (h : 0 < z.size) : z.data.toList = z[0] :: (z.extract 1 z.size).data.toList := by
  have hl : 0 < z.data.toList.length := by rw [← Lib.size_eq]; exact h
  have h1 : (z.extract 1 z.size).data.toList = z.data.toList.drop 1 := by
    rw [Lib.extract_eq]
    simp only [Lib.size_eq]
    rw [List.take_of_length_le (by simp)]
  rw [h1]
  conv => lhs; rw [← List.drop_zero (l := z.data.toList), List.drop_eq_getElem_cons hl]
  rfl
/-- a text without the gaps at its beginning -/
def leadP (s : ByteArray) : ByteArray := ⟨(s.data.toList.dropWhile gapB).toArray⟩
theorem leadP_none (z : ByteArray) (h : z.size = 0) : leadP z = z := by
  have : z.data.toList = [] := by apply List.eq_nil_of_length_eq_zero; rw [← Lib.size_eq]; exact h
  apply ByteArray.ext
  apply Array.toList_inj.1
  show z.data.toList.dropWhile gapB = z.data.toList
  rw [this]
  rfl
theorem leadP_here (z : ByteArray) (h : 0 < z.size) (hb : gapB z[0] = false) : leadP z = z := by
  apply ByteArray.ext
  apply Array.toList_inj.1
  show z.data.toList.dropWhile gapB = z.data.toList
  rw [head_tailP z h, List.dropWhile_cons_of_neg (by simp [hb])]
theorem leadP_on (z : ByteArray) (h : 0 < z.size) (hb : gapB z[0] = true) : leadP (z.extract 1 z.size) = leadP z := by
  apply ByteArray.ext
  apply Array.toList_inj.1
  show (z.extract 1 z.size).data.toList.dropWhile gapB = z.data.toList.dropWhile gapB
  rw [head_tailP z h, List.dropWhile_cons_of_pos hb]
theorem leadP_size (z : ByteArray) : (leadP z).size ≤ z.size := by
  rw [Lib.size_eq, Lib.size_eq]
  exact (List.dropWhile_sublist _).length_le
def textLen (v : Value) : Nat := match v with | .string z => z.size | _ => 0
/-- a key ends here -/
def endP (s : ByteArray) (i : Nat) : Bool := if h : i < s.size then (gapB s[i] || s[i] == 61 || s[i] == 58) && tailN (s.extract 0 i) % 2 == 0 else false
/-- where the key ends -/
def keyEnd (s : ByteArray) : Nat := (List.range s.size).findIdx (endP s)
theorem findIdx_rangeP (p : Nat → Bool) (n i : Nat) (hi : i ≤ n) (h1 : ∀ j, j < i → p j = false) (h2 : i < n → p i = true) : (List.range n).findIdx p = i := by
  by_cases h : i < n
  · have hl : i < (List.range n).length := by simpa using h
    rw [List.findIdx_eq hl]
    refine ⟨by simpa using h2 h, fun j hj => by simpa using h1 j hj⟩
  · obtain rfl : i = n := by omega
    have : (List.range i).findIdx p = (List.range i).length := by
      rw [List.findIdx_eq_length]
      intro x hx
      exact h1 x (by simpa using hx)
    simpa using this
/-- a separator -/
def sepP (c : UInt8) : Bool := c == 61 || c == 58
/-- what stands behind the key, without the separator and the gaps -/
def restP (s : ByteArray) : ByteArray := if h : 0 < (leadP s).size then (if sepP (leadP s)[0] then leadP ((leadP s).extract 1 (leadP s).size) else leadP s) else leadP s
/-- a key and a value as they are written -/
def cutP (s : ByteArray) : ByteArray × ByteArray := (s.extract 0 (keyEnd s), restP (s.extract (keyEnd s) s.size))
theorem keyEnd_le (s : ByteArray) : keyEnd s ≤ s.size := by
  unfold keyEnd
  have := List.findIdx_le_length (p := endP s) (xs := List.range s.size)
  rwa [List.length_range] at this
theorem restP_size (s : ByteArray) : (restP s).size ≤ s.size := by
  have h1 := leadP_size s
  unfold restP
  split
  · split
    · have h2 := leadP_size ((leadP s).extract 1 (leadP s).size)
      rw [ByteArray.size_extract] at h2
      omega
    · exact h1
  · exact h1
theorem cutP_size (s : ByteArray) : (cutP s).1.size ≤ s.size ∧ (cutP s).2.size ≤ s.size := by
  have h1 := keyEnd_le s
  have h2 := restP_size (s.extract (keyEnd s) s.size)
  rw [ByteArray.size_extract] at h2
  unfold cutP
  generalize restP (s.extract (keyEnd s) s.size) = y at *
  generalize keyEnd s = k at *
  refine ⟨?_, ?_⟩ <;> simp only [ByteArray.size_extract] <;> omega

end Go.Proofs.YtflnpkckdjmljaaGreatDoor
