/- Pairs: the model's contract of l05Pair. -/
import Derived.Test.YtcphmgdeigbemaaDoorProg
import Derived.Test.YtcphmgdeigbemaaDoorPlain
import Derived.Test.YtcphmgdeigbemaaDoorCut
import Derived.Test.YtcphmgdeigbemaaDoorTrim
import Derived.Test.YtcphmgdeigbemaaDoorDialectRows
import Derived.Test.YtcphmgdeigbemaaDoorRecRows
import Derived.Test.YtcphmgdeigbemaaDoorRecArg
import Derived.Test.YtcphmgdeigbemaaDoorBareSpec
import Derived.Test.YtcphmgdeigbemaaDoorQuotSpec
import Derived.Test.YtcphmgdeigbemaaDoorHeadSpec
import Derived.WalkKit
import Derived.WalkLawsBesides
import Derived.Laws.IdiomStrings
import Derived.Lib.Hide
import Derived.IntWalk
namespace Go.Proofs.YtcphmgdeigbemaaDoor
open Go.RowKit
set_option linter.unusedVariables false

theorem results_cell2 {P : Program} {fn : Func} {p u v : Tmp} {ty : TypeId} (h : fn.results = #[.cell p ty, .tmp u, .tmp v]) (tmps : Array Value) (w : World) (g : Nat) (t : TypeId) (cs : Array Value) (fr : Nat × Nat) (d : TypeDesc)
    (hp : tmps.getD p undef = .pointer (some ⟨g, 0, none⟩)) (hg : w.heap[g]? = some (.cells cs t fr))
    (hu : P.underlying ty = some d) (hd : (match d with | .struct _ | .array _ _ => true | _ => false) = true) (hi : (P.info? ty).map (·.size) = some cs.size) :
    (results fn tmps).run P w = .ok (.tuple #[.agg cs, tmps.getD u undef, tmps.getD v undef]) w := by
  have hp' : tmps[p]?.getD undef = .pointer (some ⟨g, 0, none⟩) := by simpa using hp
  simp [results, h, hp', asAddr, run_loadVar_row w g t ty cs fr d hg hu hd hi]
theorem results_cell1 {P : Program} {fn : Func} {p u : Tmp} {ty : TypeId} (h : fn.results = #[.cell p ty, .tmp u]) (tmps : Array Value) (w : World) (g : Nat) (t : TypeId) (cs : Array Value) (fr : Nat × Nat) (d : TypeDesc)
    (hp : tmps.getD p undef = .pointer (some ⟨g, 0, none⟩)) (hg : w.heap[g]? = some (.cells cs t fr))
    (hu : P.underlying ty = some d) (hd : (match d with | .struct _ | .array _ _ => true | _ => false) = true) (hi : (P.info? ty).map (·.size) = some cs.size) :
    (results fn tmps).run P w = .ok (.tuple #[.agg cs, tmps.getD u undef]) w := by
  have hp' : tmps[p]?.getD undef = .pointer (some ⟨g, 0, none⟩) := by simpa using hp
  simp [results, h, hp', asAddr, run_loadVar_row w g t ty cs fr d hg hu hd hi]

/-- a record that a call has laid for itself -/
def RecAt (w : World) (b : Nat) (x : RecD) : Prop := w.heap[b]? = some (.cells #[.int .i64 x.kind, .string x.raw, .string x.sect, .string x.key, .string x.value, .int .i64 x.line] 32 (0, 0))
theorem RecAt.over {w w' : World} {b B : Nat} {x : RecD} (h : RecAt w b x) (hb : Below B w w') (hB : b < B) : RecAt w' b x := by
  unfold RecAt at *
  rw [hb.block b hB]
  exact h
theorem RecAt.cells {w : World} {b : Nat} {x : RecD} (h : RecAt w b x) : w.cell? ⟨b, 0, none⟩ = some (.int .i64 x.kind) ∧ w.cell? ⟨b, 1, none⟩ = some (.string x.raw) ∧ w.cell? ⟨b, 2, none⟩ = some (.string x.sect) ∧ w.cell? ⟨b, 3, none⟩ = some (.string x.key) ∧ w.cell? ⟨b, 4, none⟩ = some (.string x.value) ∧ w.cell? ⟨b, 5, none⟩ = some (.int .i64 x.line) := by
  unfold RecAt at h
  refine ⟨?_, ?_, ?_, ?_, ?_, ?_⟩ <;> (rw [Lib.cell_of_heap h]; rfl)
theorem RecAt.free {w : World} {b : Nat} {x : RecD} (h : RecAt w b x) (j : Nat) : w.frozen? ⟨b, j, none⟩ = false := by
  unfold RecAt at h
  simp [World.frozen?, h]
theorem set_cellR (W : World) (g j : Nat) (cs : Array Value) (t : TypeId) (fr : Nat × Nat) (v : Value) (h : W.heap[g]? = some (.cells cs t fr)) : (W.setCell ⟨g, j, none⟩ v).heap[g]? = some (.cells (cs.setIfInBounds j v) t fr) := by
  obtain ⟨hlt, he⟩ := Array.getElem?_eq_some_iff.1 h
  simp [World.setCell, h, hlt, Array.getElem_modify, he]
theorem RecAt.put {w : World} {b : Nat} {x : RecD} (h : RecAt w b x) (y : RecD) :
    RecAt ((((((w.setCell ⟨b, 0, none⟩ (.int .i64 y.kind)).setCell ⟨b, 1, none⟩ (.string y.raw)).setCell ⟨b, 2, none⟩ (.string y.sect)).setCell ⟨b, 3, none⟩ (.string y.key)).setCell ⟨b, 4, none⟩ (.string y.value)).setCell ⟨b, 5, none⟩ (.int .i64 y.line)) b y := by
  unfold RecAt at *
  have h1 := set_cellR _ b 0 _ _ _ (.int .i64 y.kind) h
  have h2 := set_cellR _ b 1 _ _ _ (.string y.raw) h1
  have h3 := set_cellR _ b 2 _ _ _ (.string y.sect) h2
  have h4 := set_cellR _ b 3 _ _ _ (.string y.key) h3
  have h5 := set_cellR _ b 4 _ _ _ (.string y.value) h4
  have h6 := set_cellR _ b 5 _ _ _ (.int .i64 y.line) h5
  rw [h6]
  rfl

/-- a pair, whether its value was quoted, whether it is one -/
def pair5 (d : DialectD) (t : ByteArray) : RecD × Bool × Bool := match cutT t d.seps with
  | none => (noRec, false, false)
  | some (a, b) => if (trimT a).size = 0 then (noRec, false, false)
    else if d.quo = true ∧ opens (trim5 d.esc b) = true then (⟨3, ByteArray.empty, ByteArray.empty, trimT a, (quotT d (trim5 d.esc b)).1, 0⟩, true, (quotT d (trim5 d.esc b)).2)
    else (⟨3, ByteArray.empty, ByteArray.empty, trimT a, (bareT d (trim5 d.esc b)).1, 0⟩, false, (bareT d (trim5 d.esc b)).2)

end Go.Proofs.YtcphmgdeigbemaaDoor
