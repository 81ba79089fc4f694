/- Signs put together to a text: the contracts of TextOf, the model's and the program's. -/
import Derived.Test.YtflnpkckdjmljaaDoorProg
import Derived.Test.YtflnpkckdjmljaaDoorPlain
import Derived.Test.YtflnpkckdjmljaaDoorRunePure
import Derived.Test.YtflnpkckdjmljaaDoorRuneText
import Derived.Test.YtflnpkckdjmljaaDoorInts
import Derived.Test.YtflnpkckdjmljaaDoorBuild
import Derived.WalkKit
import Derived.WalkLawsBesides
import Derived.OwnWalk
import Derived.Lib.AppendStr
import Derived.Laws.IdiomStrings
import Derived.Lib.Hide
import Derived.IntWalk
namespace Go.Proofs.YtflnpkckdjmljaaDoor
open Go.RowKit
set_option linter.unusedVariables false

/-- what signs are put together to -/
def textB (l : List Int) : List UInt8 := l.flatMap signT
def allSgn (l : List Int) : Bool := l.all sgn
/-- what TextOf tells -/
def textOfB (l : List Int) : List UInt8 := if allSgn l then textB l else []
theorem signT_len (r : Int) : (signT r).length ≤ 4 := by
  unfold signT
  split
  · exact (signB_pos _).2
  · exact Nat.zero_le _
theorem textB_len (l : List Int) : (textB l).length ≤ 4 * l.length := by
  induction l with
  | nil => exact Nat.le_refl _
  | cons x l ih =>
    have h1 := signT_len x
    have h2 : (textB l).length ≤ 4 * l.length := ih
    have e : textB (x :: l) = signT x ++ textB l := by simp [textB]
    rw [e, List.length_append, List.length_cons]
    omega
theorem textB_take_succ (l : List Int) (k : Nat) (h : k < l.length) : textB (l.take (k + 1)) = textB (l.take k) ++ signT l[k] := by
  rw [List.take_succ_eq_append_getElem h]
  unfold textB
  rw [List.flatMap_append, List.flatMap_cons, List.flatMap_nil, List.append_nil]
theorem allSgn_take_succ (l : List Int) (k : Nat) (h : k < l.length) (h1 : allSgn (l.take k) = true) (h2 : sgn l[k] = true) : allSgn (l.take (k + 1)) = true := by
  rw [List.take_succ_eq_append_getElem h]
  unfold allSgn at *
  rw [List.all_append, h1, List.all_cons, h2]
  rfl
theorem allSgn_bad (l : List Int) (k : Nat) (h : k < l.length) (h2 : sgn l[k] = false) : allSgn l = false := by
  unfold allSgn
  rw [← Bool.not_eq_true, List.all_eq_true]
  intro hh
  rw [hh l[k] (List.getElem_mem h)] at h2
  cases h2
theorem toList_size (l : List UInt8) : (⟨l.toArray⟩ : ByteArray).size = l.length := by rw [Lib.size_eq]

theorem own_blockI {w : World} {base e size n : Nat} {v : Value} {xs : List Value} (h : w.ownsRow base e size v n xs) : ∀ k, v.ownBlock = some k → base ≤ k := by
  intro k hk
  rcases h.2 with ⟨hv, _⟩ | ⟨g, cap, cur, hv, hb, _⟩
  · subst hv; cases hk
  · subst hv
    simp [Value.ownBlock] at hk
    omega
/-- a row of the call's own, over what happens above -/
theorem own_below {w w' : World} {base e size n : Nat} {v : Value} {xs : List Value} (h : w.ownsRow base e size v n xs) (hb : Below w.heap.size w w') : w'.ownsRow base e size v n xs := by
  refine h.kept (row := none) ⟨hb.os, hb.tape, hb.output, hb.size, fun k hk _ => hb.block k hk⟩ ?_
  cases v.ownBlock with
  | none => exact .inl rfl
  | some _ => exact .inr (by simp)

/-- a slice of bytes of the call's own, as a text -/
theorem text_of_ownI (w : World) (base n : Nat) (v : Value) (l : List UInt8) (h : w.ownsRow base 5 1 v n (Lib.byteCells l)) (hn : n = l.length) :
    (convert 22 9 v).run Tryd.prog w = .ok (.string ⟨l.toArray⟩) w := by
  subst hn
  rcases h.2 with ⟨hv, h0⟩ | ⟨g, cap, cur, hv, hb, hg, hnc, hcm, hcs, htake⟩
  · have hl : l = [] := List.eq_nil_of_length_eq_zero h0
    subst hl
    subst hv
    rw [run_convert_bytes_string w 22 9 5 none 0 0 Tryd.underlying22 Tryd.underlying5 Tryd.underlying9]
    rfl
  · subst hv
    refine run_convert_bytes_back w 22 9 5 ⟨g, 0, none⟩ cap l Tryd.underlying22 Tryd.underlying5 Tryd.underlying9 (fun j hj => ?_)
    refine World.ownsRow.cells h (g := g) rfl j _ ?_
    simp [Lib.byteCells, hj]

/-- what TextOf answers -/
def textRes (l : List Int) : Value := .tuple #[.string ⟨(textOfB l).toArray⟩, .bool (allSgn l)]
theorem textRes_bad {l : List Int} (h : allSgn l = false) : textRes l = .tuple #[.string ⟨#[]⟩, .bool false] := by
  unfold textRes textOfB
  rw [h]
  rfl
theorem textRes_good {l : List Int} (h : allSgn l = true) : textRes l = .tuple #[.string ⟨(textB l).toArray⟩, .bool true] := by
  unfold textRes textOfB
  rw [h]
  rfl

end Go.Proofs.YtflnpkckdjmljaaDoor
