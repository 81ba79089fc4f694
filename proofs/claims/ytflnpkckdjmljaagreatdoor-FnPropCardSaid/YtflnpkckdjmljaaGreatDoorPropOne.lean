/- Results that lie in a cell and in slots; a cell of a block turned. -/
import Derived.Test.YtflnpkckdjmljaaGreatDoorProg
import Derived.WalkKit
import Derived.WalkLawsBesides
import Derived.Laws.IdiomStrings
import Derived.Test.YtflnpkckdjmljaaGreatDoorPlain
import Derived.Test.YtflnpkckdjmljaaGreatDoorCut
import Derived.Test.YtflnpkckdjmljaaGreatDoorTail
import Derived.Test.YtflnpkckdjmljaaGreatDoorLines
import Derived.Test.YtflnpkckdjmljaaGreatDoorRecRows
import Derived.Test.YtflnpkckdjmljaaGreatDoorPropPure
import Derived.Test.YtflnpkckdjmljaaGreatDoorPropSpec
import Derived.Test.YtflnpkckdjmljaaGreatDoorPropCut
import Derived.Lib.QuietBelow
import Derived.Lib.Hide
import Derived.IntWalk
namespace Go.Proofs.YtflnpkckdjmljaaGreatDoor
open Go.RowKit
set_option linter.unusedVariables false

theorem results_cell2 {P : Program} {fn : Func} {p u v : Tmp} {ty : TypeId} (h : fn.results = #[.cell p ty, .tmp u, .tmp v]) (tmps : Array Value) (w : World) (g : Nat) (t : TypeId) (cs : Array Value) (fr : Nat × Nat) (d : TypeDesc)
    (hp : tmps.getD p undef = .pointer (some ⟨g, 0, none⟩)) (hg : w.heap[g]? = some (.cells cs t fr))
    (hu : P.underlying ty = some d) (hd : (match d with | .struct _ | .array _ _ => true | _ => false) = true) (hi : (P.info? ty).map (·.size) = some cs.size) :
    (results fn tmps).run P w = .ok (.tuple #[.agg cs, tmps.getD u undef, tmps.getD v undef]) w := by
  have hp' : tmps[p]?.getD undef = .pointer (some ⟨g, 0, none⟩) := by simpa using hp
  simp [results, h, hp', asAddr, run_loadVar_row w g t ty cs fr d hg hu hd hi]
theorem results_cell1 {P : Program} {fn : Func} {p u : Tmp} {ty : TypeId} (h : fn.results = #[.cell p ty, .tmp u]) (tmps : Array Value) (w : World) (g : Nat) (t : TypeId) (cs : Array Value) (fr : Nat × Nat) (d : TypeDesc)
    (hp : tmps.getD p undef = .pointer (some ⟨g, 0, none⟩)) (hg : w.heap[g]? = some (.cells cs t fr))
    (hu : P.underlying ty = some d) (hd : (match d with | .struct _ | .array _ _ => true | _ => false) = true) (hi : (P.info? ty).map (·.size) = some cs.size) :
    (results fn tmps).run P w = .ok (.tuple #[.agg cs, tmps.getD u undef]) w := by
  have hp' : tmps[p]?.getD undef = .pointer (some ⟨g, 0, none⟩) := by simpa using hp
  simp [results, h, hp', asAddr, run_loadVar_row w g t ty cs fr d hg hu hd hi]

theorem set_cellR (W : World) (g j : Nat) (cs : Array Value) (t : TypeId) (fr : Nat × Nat) (v : Value) (h : W.heap[g]? = some (.cells cs t fr)) : (W.setCell ⟨g, j, none⟩ v).heap[g]? = some (.cells (cs.setIfInBounds j v) t fr) := by
  obtain ⟨hlt, he⟩ := Array.getElem?_eq_some_iff.1 h
  simp [World.setCell, h, hlt, Array.getElem_modify, he]

end Go.Proofs.YtflnpkckdjmljaaGreatDoor

/- One record of a property file: the model's contract of l07One. -/
set_option maxRecDepth 100000
namespace Go.Proofs.YtflnpkckdjmljaaGreatDoor
open Go.RowKit Go.Sort
set_option linter.unusedVariables false

/-- a text and the lines behind it: joined, and how many lines -/
def joinP (t : ByteArray) : List Ln → Nat → ByteArray × Nat
  | [], n => if tailN t % 2 = 1 then (t.extract 0 (t.size - 1), n) else (t, n)
  | x :: l, n => if tailN t % 2 = 1 then joinP (t.extract 0 (t.size - 1) ++ leadP x.1) l (n + 1) else (t, n)
theorem joinP_stop {t : ByteArray} (l : List Ln) (n : Nat) (h : ¬ tailN t % 2 = 1) : joinP t l n = (t, n) := by
  cases l <;> (unfold joinP; rw [if_neg h])
theorem joinP_end {t : ByteArray} (n : Nat) (h : tailN t % 2 = 1) : joinP t [] n = (t.extract 0 (t.size - 1), n) := by
  unfold joinP; rw [if_pos h]
theorem joinP_on {t : ByteArray} (x : Ln) (l : List Ln) (n : Nat) (h : tailN t % 2 = 1) : joinP t (x :: l) n = joinP (t.extract 0 (t.size - 1) ++ leadP x.1) l (n + 1) := by
  conv => lhs; unfold joinP
  rw [if_pos h]
/-- a record that is only its kind -/
def kindP (k : Int) : RecD := ⟨k, ⟨#[]⟩, ⟨#[]⟩, ⟨#[]⟩, ⟨#[]⟩, 0⟩
/-- the record of a joined text -/
def pairP (t : ByteArray) : RecD := if (propT (cutP t).1).2 = true ∧ (propT (cutP t).2).2 = true then ⟨3, ⟨#[]⟩, ⟨#[]⟩, (propT (cutP t).1).1, (propT (cutP t).2).1, 0⟩ else kindP 4
/-- the record at a line with those behind it, and how many lines it has -/
def oneP (x : Ln) (l : List Ln) : RecD × Nat :=
  if h : 0 < (leadP x.1).size then
    if (leadP x.1)[0] = 35 ∨ (leadP x.1)[0] = 33 then (kindP 1, 1)
    else (pairP (joinP (leadP x.1) l 1).1, (joinP (leadP x.1) l 1).2)
  else (kindP 0, 1)
/-- a record that a call has laid for itself -/
def RecIn (w : World) (b : Nat) (x : RecD) : Prop := w.heap[b]? = some (.cells #[.int .i64 x.kind, .string x.raw, .string x.sect, .string x.key, .string x.value, .int .i64 x.line] 34 (0, 0))
theorem RecIn.over {w w' : World} {b B : Nat} {x : RecD} (h : RecIn w b x) (hb : Below B w w') (hB : b < B) : RecIn w' b x := by
  unfold RecIn at *
  rw [hb.block b hB]
  exact h
theorem RecIn.cells {w : World} {b : Nat} {x : RecD} (h : RecIn w b x) : w.cell? ⟨b, 0, none⟩ = some (.int .i64 x.kind) ∧ w.cell? ⟨b, 1, none⟩ = some (.string x.raw) ∧ w.cell? ⟨b, 2, none⟩ = some (.string x.sect) ∧ w.cell? ⟨b, 3, none⟩ = some (.string x.key) ∧ w.cell? ⟨b, 4, none⟩ = some (.string x.value) ∧ w.cell? ⟨b, 5, none⟩ = some (.int .i64 x.line) := by
  unfold RecIn at h
  refine ⟨?_, ?_, ?_, ?_, ?_, ?_⟩ <;> (rw [Lib.cell_of_heap h]; rfl)
theorem RecIn.free {w : World} {b : Nat} {x : RecD} (h : RecIn w b x) (j : Nat) : w.frozen? ⟨b, j, none⟩ = false := by
  unfold RecIn at h
  simp [World.frozen?, h]
theorem RecIn.put {w : World} {b : Nat} {x : RecD} (h : RecIn w b x) (y : RecD) :
    RecIn ((((((w.setCell ⟨b, 0, none⟩ (.int .i64 y.kind)).setCell ⟨b, 1, none⟩ (.string y.raw)).setCell ⟨b, 2, none⟩ (.string y.sect)).setCell ⟨b, 3, none⟩ (.string y.key)).setCell ⟨b, 4, none⟩ (.string y.value)).setCell ⟨b, 5, none⟩ (.int .i64 y.line)) b y := by
  unfold RecIn at *
  exact set_cellR _ b 5 _ _ _ (.int .i64 y.line) (set_cellR _ b 4 _ _ _ (.string y.value) (set_cellR _ b 3 _ _ _ (.string y.key) (set_cellR _ b 2 _ _ _ (.string y.sect) (set_cellR _ b 1 _ _ _ (.string y.raw) (set_cellR _ b 0 _ _ _ (.int .i64 y.kind) h)))))
theorem below_put {w W : World} {B b : Nat} (hb : Below B w W) (h : B ≤ b) (y : RecD) : Below B w ((((((W.setCell ⟨b, 0, none⟩ (.int .i64 y.kind)).setCell ⟨b, 1, none⟩ (.string y.raw)).setCell ⟨b, 2, none⟩ (.string y.sect)).setCell ⟨b, 3, none⟩ (.string y.key)).setCell ⟨b, 4, none⟩ (.string y.value)).setCell ⟨b, 5, none⟩ (.int .i64 y.line)) :=
  (((((hb.setCell (p := ⟨b, 0, none⟩) h _).setCell (p := ⟨b, 1, none⟩) h _).setCell (p := ⟨b, 2, none⟩) h _).setCell (p := ⟨b, 3, none⟩) h _).setCell (p := ⟨b, 4, none⟩) h _).setCell (p := ⟨b, 5, none⟩) h _
theorem tail_leP (t : ByteArray) : tailN t ≤ t.size := tailN_le t

end Go.Proofs.YtflnpkckdjmljaaGreatDoor
