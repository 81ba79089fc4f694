/- The parts of a text between bytes of a kind; the contract of the model's SplitAt. -/
import Derived.Test.YtkhcdopnohbieaaDoorProg
import Derived.Test.YtkhcdopnohbieaaDoorPlain
import Derived.Test.YtkhcdopnohbieaaDoorTexts
import Derived.WalkKit
import Derived.WalkLawsBesides
import Derived.OwnWalk
import Derived.Maps.AppendAt
import Derived.Lib.Hide
import Derived.IntWalk
namespace Go.Proofs.YtkhcdopnohbieaaDoor
open Go.RowKit
set_option linter.unusedVariables false

/-- the parts that are whole behind k bytes, and where the next one begins -/
def cutsTo (s : ByteArray) (p : UInt8 → Bool) : Nat → List ByteArray × Nat
  | 0 => ([], 0)
  | k + 1 => if h : k < s.size then (if p s[k] then ((cutsTo s p k).1 ++ [s.extract (cutsTo s p k).2 k], k + 1) else cutsTo s p k) else cutsTo s p k
theorem cutsTo_hit {s : ByteArray} {p : UInt8 → Bool} {k : Nat} (h : k < s.size) (hp : p s[k] = true) : cutsTo s p (k + 1) = ((cutsTo s p k).1 ++ [s.extract (cutsTo s p k).2 k], k + 1) := by
  simp [cutsTo, h, hp]
theorem cutsTo_miss {s : ByteArray} {p : UInt8 → Bool} {k : Nat} (h : k < s.size) (hp : p s[k] = false) : cutsTo s p (k + 1) = cutsTo s p k := by
  simp [cutsTo, h, hp]
theorem cutsTo_le (s : ByteArray) (p : UInt8 → Bool) (k : Nat) : (cutsTo s p k).2 ≤ k ∧ (cutsTo s p k).1.length ≤ k := by
  induction k with
  | zero => exact ⟨Nat.le_refl _, Nat.le_refl _⟩
  | succ k ih =>
    simp only [cutsTo]
    split
    · split
      · simp; omega
      · omega
    · omega
def partsOf (s : ByteArray) (p : UInt8 → Bool) : List ByteArray := (cutsTo s p s.size).1 ++ [s.extract (cutsTo s p s.size).2 s.size]
theorem partsOf_len (s : ByteArray) (p : UInt8 → Bool) : (partsOf s p).length ≤ s.size + 1 := by
  have := (cutsTo_le s p s.size).2
  simp [partsOf]
  omega
/-- none for the empty text -/
def splitOf (s : ByteArray) (p : UInt8 → Bool) : List ByteArray := if s.size = 0 then [] else partsOf s p

theorem info_string : (Tryd.prog.info? 9).map (fun i => (i.zero, i.size, i.bytes)) = some (some (.string ByteArray.empty), 1, 16) := by kernel_rfl

/-- a list of texts that the call itself made -/
def OwnTexts (w : World) (l : List ByteArray) (e : Ending) (w' : World) : Prop := ∃ v, e = .returned v ∧ w'.ownsRow w.heap.size 9 1 v l.length (l.map Value.string) ∧ Below w.heap.size w w'

theorem own_block {w : World} {base e size n : Nat} {v : Value} {xs : List Value} (h : w.ownsRow base e size v n xs) : ∀ k, v.ownBlock = some k → base ≤ k := by
  intro k hk
  rcases h.2 with ⟨rfl, _⟩ | ⟨g, cap, cur, rfl, hb, _⟩
  · cases hk
  · cases hk; exact hb
theorem own_step {w wr w1 : World} {t : Nat} {v v' : Value} {l : List ByteArray} {x : ByteArray} {o : Obj} (hb : Below w.heap.size w wr) (hown : wr.ownsRow w.heap.size t 1 v l.length (l.map Value.string))
    (hown' : w1.ownsRow w.heap.size t 1 v' (l.length + 1) (l.map Value.string ++ [.string x])) (hg : (wr.alloc o).grownBy w1 v.ownBlock) :
    w1.ownsRow w.heap.size t 1 v' (l ++ [x]).length ((l ++ [x]).map Value.string) ∧ Below w.heap.size w w1 := by
  refine ⟨by simpa using hown', ?_⟩
  exact (hb.alloc hb.size o).grown hg (by have := hb.size; simp; omega) (own_block hown)

end Go.Proofs.YtkhcdopnohbieaaDoor
