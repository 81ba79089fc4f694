/-
  No cell of these rows narrows 'for every input' (looked for: loops, veiled, ifaces, maps, wideKeys, modest, calm, conditions, laid).
  DERIVED. THE GIVEN ROWS OF THIS SEAT. 7 by the template 'for every input the law returns true; each argument reads behind the call as it read before'; 0 by the template 'total and deterministic' (their statements: YtdkghalcnaogfaaTotals.lean).
  GIVEN WITH THE SEED: the statements are not yours to turn. If you find one false, say at which input.
  Laid BY PROGRAM, IN A SANDBOX (cutbox-rows.mjs): the forced cells as the released guide's own fill.sh prints them over the translation 5832a5b3e01ffa9f… (all of the seat's roots in one cut). By AI agents, Wed Nov 11 2026. No macro, syntax, notation, axiom, sorry.
-/
import Derived.Test.YtdkghalcnaogfaaChecked
import GoSem.Claim
import GoSem.ClaimJoined
import GoSem.ClaimMapViews
import Derived.JoinedTies
import Derived.KernelRfl
namespace Go.Proofs.Ytdkghalcnaogfaa
/- THE CELL 'sum', in the pinned program and in every row, IS THE sha256 OF THE DUMP (.gsa) THAT YtdkghalcnaogfaaProg.lean LOADS. Nothing in Lean hashes anything: it is a label: what it is worth is what the hold of that sum in a sandbox is worth. -/
noncomputable def Try.pinned : Pinned := { name := "ytdkghalcnaogfaa", sum := "5832a5b3e01ffa9fdad07fb081f4a79b6741bac44e8a2b53a36c93ad6b424e4c", checked := Try.checked }
namespace Rows
def none {H : Type} : Left H := { results := [], args := [] }

/-- 'laws.FnRecs': WHATEVER THE INPUT: true; the input reads as it did. -/
def fnRecsSpec : ChangeSpec := { name := "fnRecs", fn := fun _ => fun
  | [d] => { results := [.lit (.bool true)], args := [d] }
  | _ => none }
def fnRecsRow : OpenClaim := { program := "ytdkghalcnaogfaa", sum := "5832a5b3e01ffa9fdad07fb081f4a79b6741bac44e8a2b53a36c93ad6b424e4c", func := "loop.example/g00727/laws.FnRecs", spec := "fnRecs", inPlace := ["internal/abi.NoEscape"], unfollowed := true, recurses := true, apart := false }
def FnRecsSaid : Prop := fnRecsRow.holds Try.pinned (OpenSpec.ofChange fnRecsSpec)

/-- ITS FALSE NEIGHBOUR: 'it returns false'. Refute it at one input. -/
def fnRecsWrong : ChangeSpec := { name := "fnRecs", fn := fun _ => fun
  | [d] => { results := [.lit (.bool false)], args := [d] }
  | _ => none }
def FnRecsWrongFalsely : Prop := fnRecsRow.holds Try.pinned (OpenSpec.ofChange fnRecsWrong)

/-- 'laws.FnHeads': WHATEVER THE INPUT: true; the input reads as it did. -/
def fnHeadsSpec : ChangeSpec := { name := "fnHeads", fn := fun _ => fun
  | [d] => { results := [.lit (.bool true)], args := [d] }
  | _ => none }
def fnHeadsRow : OpenClaim := { program := "ytdkghalcnaogfaa", sum := "5832a5b3e01ffa9fdad07fb081f4a79b6741bac44e8a2b53a36c93ad6b424e4c", func := "loop.example/g00727/laws.FnHeads", spec := "fnHeads", apart := false }
def FnHeadsSaid : Prop := fnHeadsRow.holds Try.pinned (OpenSpec.ofChange fnHeadsSpec)

/-- ITS FALSE NEIGHBOUR: 'it returns false'. Refute it at one input. -/
def fnHeadsWrong : ChangeSpec := { name := "fnHeads", fn := fun _ => fun
  | [d] => { results := [.lit (.bool false)], args := [d] }
  | _ => none }
def FnHeadsWrongFalsely : Prop := fnHeadsRow.holds Try.pinned (OpenSpec.ofChange fnHeadsWrong)

/-- 'laws.FnExactRawOf': WHATEVER THE INPUT: true; the input reads as it did. -/
def fnExactRawOfSpec : ChangeSpec := { name := "fnExactRawOf", fn := fun _ => fun
  | [d] => { results := [.lit (.bool true)], args := [d] }
  | _ => none }
def fnExactRawOfRow : OpenClaim := { program := "ytdkghalcnaogfaa", sum := "5832a5b3e01ffa9fdad07fb081f4a79b6741bac44e8a2b53a36c93ad6b424e4c", func := "loop.example/g00727/laws.FnExactRawOf", spec := "fnExactRawOf", inPlace := ["internal/abi.NoEscape"], apart := false }
def FnExactRawOfSaid : Prop := fnExactRawOfRow.holds Try.pinned (OpenSpec.ofChange fnExactRawOfSpec)

/-- ITS FALSE NEIGHBOUR: 'it returns false'. Refute it at one input. -/
def fnExactRawOfWrong : ChangeSpec := { name := "fnExactRawOf", fn := fun _ => fun
  | [d] => { results := [.lit (.bool false)], args := [d] }
  | _ => none }
def FnExactRawOfWrongFalsely : Prop := fnExactRawOfRow.holds Try.pinned (OpenSpec.ofChange fnExactRawOfWrong)

/-- 'laws.FnExactOddLines': WHATEVER THE INPUT: true; the input reads as it did. -/
def fnExactOddLinesSpec : ChangeSpec := { name := "fnExactOddLines", fn := fun _ => fun
  | [d] => { results := [.lit (.bool true)], args := [d] }
  | _ => none }
def fnExactOddLinesRow : OpenClaim := { program := "ytdkghalcnaogfaa", sum := "5832a5b3e01ffa9fdad07fb081f4a79b6741bac44e8a2b53a36c93ad6b424e4c", func := "loop.example/g00727/laws.FnExactOddLines", spec := "fnExactOddLines", apart := false }
def FnExactOddLinesSaid : Prop := fnExactOddLinesRow.holds Try.pinned (OpenSpec.ofChange fnExactOddLinesSpec)

/-- ITS FALSE NEIGHBOUR: 'it returns false'. Refute it at one input. -/
def fnExactOddLinesWrong : ChangeSpec := { name := "fnExactOddLines", fn := fun _ => fun
  | [d] => { results := [.lit (.bool false)], args := [d] }
  | _ => none }
def FnExactOddLinesWrongFalsely : Prop := fnExactOddLinesRow.holds Try.pinned (OpenSpec.ofChange fnExactOddLinesWrong)

/-- 'laws.FnExactLastOf': WHATEVER THE INPUT: true; the input reads as it did. -/
def fnExactLastOfSpec : ChangeSpec := { name := "fnExactLastOf", fn := fun _ => fun
  | [d1, d2, d3] => { results := [.lit (.bool true)], args := [d1, d2, d3] }
  | _ => none }
def fnExactLastOfRow : OpenClaim := { program := "ytdkghalcnaogfaa", sum := "5832a5b3e01ffa9fdad07fb081f4a79b6741bac44e8a2b53a36c93ad6b424e4c", func := "loop.example/g00727/laws.FnExactLastOf", spec := "fnExactLastOf", apart := false }
def FnExactLastOfSaid : Prop := fnExactLastOfRow.holds Try.pinned (OpenSpec.ofChange fnExactLastOfSpec)

/-- ITS FALSE NEIGHBOUR: 'it returns false'. Refute it at one input. -/
def fnExactLastOfWrong : ChangeSpec := { name := "fnExactLastOf", fn := fun _ => fun
  | [d1, d2, d3] => { results := [.lit (.bool false)], args := [d1, d2, d3] }
  | _ => none }
def FnExactLastOfWrongFalsely : Prop := fnExactLastOfRow.holds Try.pinned (OpenSpec.ofChange fnExactLastOfWrong)

/-- 'laws.FnExactSections': WHATEVER THE INPUT: true; the input reads as it did. -/
def fnExactSectionsSpec : ChangeSpec := { name := "fnExactSections", fn := fun _ => fun
  | [d] => { results := [.lit (.bool true)], args := [d] }
  | _ => none }
def fnExactSectionsRow : OpenClaim := { program := "ytdkghalcnaogfaa", sum := "5832a5b3e01ffa9fdad07fb081f4a79b6741bac44e8a2b53a36c93ad6b424e4c", func := "loop.example/g00727/laws.FnExactSections", spec := "fnExactSections", apart := false }
def FnExactSectionsSaid : Prop := fnExactSectionsRow.holds Try.pinned (OpenSpec.ofChange fnExactSectionsSpec)

/-- ITS FALSE NEIGHBOUR: 'it returns false'. Refute it at one input. -/
def fnExactSectionsWrong : ChangeSpec := { name := "fnExactSections", fn := fun _ => fun
  | [d] => { results := [.lit (.bool false)], args := [d] }
  | _ => none }
def FnExactSectionsWrongFalsely : Prop := fnExactSectionsRow.holds Try.pinned (OpenSpec.ofChange fnExactSectionsWrong)

/-- 'laws.FnExactNumbered': WHATEVER THE INPUT: true; the input reads as it did. -/
def fnExactNumberedSpec : ChangeSpec := { name := "fnExactNumbered", fn := fun _ => fun
  | [d] => { results := [.lit (.bool true)], args := [d] }
  | _ => none }
def fnExactNumberedRow : OpenClaim := { program := "ytdkghalcnaogfaa", sum := "5832a5b3e01ffa9fdad07fb081f4a79b6741bac44e8a2b53a36c93ad6b424e4c", func := "loop.example/g00727/laws.FnExactNumbered", spec := "fnExactNumbered", unfollowed := true, recurses := true, apart := false }
def FnExactNumberedSaid : Prop := fnExactNumberedRow.holds Try.pinned (OpenSpec.ofChange fnExactNumberedSpec)

/-- ITS FALSE NEIGHBOUR: 'it returns false'. Refute it at one input. -/
def fnExactNumberedWrong : ChangeSpec := { name := "fnExactNumbered", fn := fun _ => fun
  | [d] => { results := [.lit (.bool false)], args := [d] }
  | _ => none }
def FnExactNumberedWrongFalsely : Prop := fnExactNumberedRow.holds Try.pinned (OpenSpec.ofChange fnExactNumberedWrong)

/- THE SECOND FORM. 'bulk': how many values and letters a reading holds, each counted each time it is reached (what is shared counts as often as it is met; a slice's spare places count too). A statement '..UptoSaid' is the law's where the arguments, and the package variables that the reading takes, are together of bulk at most 1048576: NARROWER than '..Said'. Prove '..Said' where nothing that the law and all that it calls make is longer than what came in: it says more and counts as full. Else prove '..UptoSaid'. A law counts once. -/
mutual
def uptoBulk {H : Type} : DataW H → Nat
  | .lit (.string bytes) => bytes.length + 1
  | .lit _ => 1
  | .nil => 1
  | .ptr d => uptoBulk d + 1
  | .slice elems spare => uptoBulkAll elems + uptoBulkAll spare + 1
  | .agg parts => uptoBulkAll parts + 1
  | .iface _ d => uptoBulk d + 1
  | .map entries => uptoBulkEntries entries + 1
  | .held _ => 1
def uptoBulkAll {H : Type} : List (DataW H) → Nat
  | [] => 0
  | d :: r => uptoBulk d + uptoBulkAll r
def uptoBulkEntries {H : Type} : List (Lit × DataW H) → Nat
  | [] => 0
  | x :: r => uptoBulkEntry x + uptoBulkEntries r
def uptoBulkEntry {H : Type} : Lit × DataW H → Nat
  | (.string bytes, d) => bytes.length + uptoBulk d + 1
  | (_, d) => uptoBulk d + 1
 end
def uptoSmall : (H : Type) → List (DataW H) → Bool := fun _ ds => decide (uptoBulkAll ds ≤ 1048576)
def OpenSpec.upto (s : _root_.Go.ChangeSpec) : _root_.Go.OpenSpec := { _root_.Go.OpenSpec.ofChange s with cond := some uptoSmall }

/-- 'laws.FnRecs', WHERE WHAT IT READS IS OF BULK AT MOST 1048576: true; the input reads as it did. -/
def fnRecsUptoRow : OpenClaim := { program := "ytdkghalcnaogfaa", sum := "5832a5b3e01ffa9fdad07fb081f4a79b6741bac44e8a2b53a36c93ad6b424e4c", func := "loop.example/g00727/laws.FnRecs", spec := "fnRecs", inPlace := ["internal/abi.NoEscape"], unfollowed := true, recurses := true, apart := false, narrowed := true }
def FnRecsUptoSaid : Prop := fnRecsUptoRow.holds Try.pinned (OpenSpec.upto fnRecsSpec)

/-- 'laws.FnHeads', WHERE WHAT IT READS IS OF BULK AT MOST 1048576: true; the input reads as it did. -/
def fnHeadsUptoRow : OpenClaim := { program := "ytdkghalcnaogfaa", sum := "5832a5b3e01ffa9fdad07fb081f4a79b6741bac44e8a2b53a36c93ad6b424e4c", func := "loop.example/g00727/laws.FnHeads", spec := "fnHeads", apart := false, narrowed := true }
def FnHeadsUptoSaid : Prop := fnHeadsUptoRow.holds Try.pinned (OpenSpec.upto fnHeadsSpec)

/-- 'laws.FnExactRawOf', WHERE WHAT IT READS IS OF BULK AT MOST 1048576: true; the input reads as it did. -/
def fnExactRawOfUptoRow : OpenClaim := { program := "ytdkghalcnaogfaa", sum := "5832a5b3e01ffa9fdad07fb081f4a79b6741bac44e8a2b53a36c93ad6b424e4c", func := "loop.example/g00727/laws.FnExactRawOf", spec := "fnExactRawOf", inPlace := ["internal/abi.NoEscape"], apart := false, narrowed := true }
def FnExactRawOfUptoSaid : Prop := fnExactRawOfUptoRow.holds Try.pinned (OpenSpec.upto fnExactRawOfSpec)

/-- 'laws.FnExactOddLines', WHERE WHAT IT READS IS OF BULK AT MOST 1048576: true; the input reads as it did. -/
def fnExactOddLinesUptoRow : OpenClaim := { program := "ytdkghalcnaogfaa", sum := "5832a5b3e01ffa9fdad07fb081f4a79b6741bac44e8a2b53a36c93ad6b424e4c", func := "loop.example/g00727/laws.FnExactOddLines", spec := "fnExactOddLines", apart := false, narrowed := true }
def FnExactOddLinesUptoSaid : Prop := fnExactOddLinesUptoRow.holds Try.pinned (OpenSpec.upto fnExactOddLinesSpec)

/-- 'laws.FnExactLastOf', WHERE WHAT IT READS IS OF BULK AT MOST 1048576: true; the input reads as it did. -/
def fnExactLastOfUptoRow : OpenClaim := { program := "ytdkghalcnaogfaa", sum := "5832a5b3e01ffa9fdad07fb081f4a79b6741bac44e8a2b53a36c93ad6b424e4c", func := "loop.example/g00727/laws.FnExactLastOf", spec := "fnExactLastOf", apart := false, narrowed := true }
def FnExactLastOfUptoSaid : Prop := fnExactLastOfUptoRow.holds Try.pinned (OpenSpec.upto fnExactLastOfSpec)

/-- 'laws.FnExactSections', WHERE WHAT IT READS IS OF BULK AT MOST 1048576: true; the input reads as it did. -/
def fnExactSectionsUptoRow : OpenClaim := { program := "ytdkghalcnaogfaa", sum := "5832a5b3e01ffa9fdad07fb081f4a79b6741bac44e8a2b53a36c93ad6b424e4c", func := "loop.example/g00727/laws.FnExactSections", spec := "fnExactSections", apart := false, narrowed := true }
def FnExactSectionsUptoSaid : Prop := fnExactSectionsUptoRow.holds Try.pinned (OpenSpec.upto fnExactSectionsSpec)

/-- 'laws.FnExactNumbered', WHERE WHAT IT READS IS OF BULK AT MOST 1048576: true; the input reads as it did. -/
def fnExactNumberedUptoRow : OpenClaim := { program := "ytdkghalcnaogfaa", sum := "5832a5b3e01ffa9fdad07fb081f4a79b6741bac44e8a2b53a36c93ad6b424e4c", func := "loop.example/g00727/laws.FnExactNumbered", spec := "fnExactNumbered", unfollowed := true, recurses := true, apart := false, narrowed := true }
def FnExactNumberedUptoSaid : Prop := fnExactNumberedUptoRow.holds Try.pinned (OpenSpec.upto fnExactNumberedSpec)

end Rows
end Go.Proofs.Ytdkghalcnaogfaa
