/-
  NARROWER THAN 'FOR EVERY INPUT', by the rows' own cells (each row's printed sentence says how): FnProps: laid · FnExactParseProps: laid · FnExactPropKey: laid · FnExactPropValue: laid · FnExactPropPair: laid.
  DERIVED. THE GIVEN ROWS OF THIS SEAT. 5 by the template 'for every input the law returns true; each argument reads behind the call as it read before'; 0 by the template 'total and deterministic' (their statements: YtflnpkckdjmljaaDoorTotals.lean).
  GIVEN WITH THE SEED: the statements are not yours to turn. If you find one false, say at which input.
  Laid BY PROGRAM, IN A SANDBOX (cutbox-rows.mjs): the forced cells as the released guide's own fill.sh prints them over the translation bb89a593e26edb7f… (all of the seat's roots in one cut). By AI agents, Wed Nov 11 2026. No macro, syntax, notation, axiom, sorry.
-/
import Derived.Test.YtflnpkckdjmljaaDoorChecked
import GoSem.PinnedTables
import GoSem.Claim
import GoSem.ClaimJoined
import GoSem.ClaimMapViews
import Derived.JoinedTies
import Derived.KernelRfl
namespace Go.Proofs.YtflnpkckdjmljaaDoor
/- THE CELL 'sum', in the pinned program and in every row, IS THE sha256 OF THE DUMP (.gsa) THAT YtflnpkckdjmljaaDoorProg.lean LOADS. Nothing in Lean hashes anything: it is a label: what it is worth is what the hold of that sum in a sandbox is worth. -/
noncomputable def Tryd.pinned : Pinned := { name := "ytflnpkckdjmljaadoor", sum := "bb89a593e26edb7f20ea8d248191c13c1db40e58244689682f96176382913c39", checked := Tryd.checked }
namespace Rows
def none {H : Type} : Left H := { results := [], args := [] }

/- WHAT THE LISTED PACKAGE-LEVEL VARIABLES READ AS WHEN THE CALL BEGINS. Each datum BY PROGRAM (the guide's laid-datum.mjs) off the statement by which the dump's own 'gosem.cut.vars' lays the variable. In a bare row this is a premise. The card (YtflnpkckdjmljaaDoorCards.lean) ties it to the program's text. -/
def laid_unicode_utf8_acceptRanges {H : Type} : DataW H := .agg [.agg [.lit (.int .u8 128), .lit (.int .u8 191)], .agg [.lit (.int .u8 160), .lit (.int .u8 191)], .agg [.lit (.int .u8 128), .lit (.int .u8 159)], .agg [.lit (.int .u8 144), .lit (.int .u8 191)], .agg [.lit (.int .u8 128), .lit (.int .u8 143)], .agg [.lit (.int .u8 0), .lit (.int .u8 0)], .agg [.lit (.int .u8 0), .lit (.int .u8 0)], .agg [.lit (.int .u8 0), .lit (.int .u8 0)], .agg [.lit (.int .u8 0), .lit (.int .u8 0)], .agg [.lit (.int .u8 0), .lit (.int .u8 0)], .agg [.lit (.int .u8 0), .lit (.int .u8 0)], .agg [.lit (.int .u8 0), .lit (.int .u8 0)], .agg [.lit (.int .u8 0), .lit (.int .u8 0)], .agg [.lit (.int .u8 0), .lit (.int .u8 0)], .agg [.lit (.int .u8 0), .lit (.int .u8 0)], .agg [.lit (.int .u8 0), .lit (.int .u8 0)]]
/-- One of Go's own tables, pinned by name: the form's constant. -/
def laid_unicode_utf8_first : DataW Unit := Go.Pinned.utf8First

/-- 'laws.FnProps': WHATEVER THE INPUT: true; the input reads as it did. -/
def fnPropsSpec : ChangeSpec := { name := "fnProps", fn := fun _ => fun
  | [d] => { results := [.lit (.bool true)], args := [d] }
  | _ => none }
def fnPropsRow : OpenClaim := { program := "ytflnpkckdjmljaadoor", sum := "bb89a593e26edb7f20ea8d248191c13c1db40e58244689682f96176382913c39", func := "loop.example/g00727/laws.FnProps", spec := "fnProps", inPlace := ["internal/bytealg.IndexByteString", "internal/bytealg.IndexString", "internal/abi.NoEscape"], unfollowed := true, recurses := true, named := ["unicode/utf8.first", "unicode/utf8.acceptRanges", "internal/bytealg.MaxLen"], apart := false, laid := [("unicode/utf8.acceptRanges", laid_unicode_utf8_acceptRanges), ("unicode/utf8.first", laid_unicode_utf8_first)] }
def FnPropsSaid : Prop := fnPropsRow.holds Tryd.pinned (OpenSpec.ofChange fnPropsSpec)

/-- ITS FALSE NEIGHBOUR: 'it returns false'. Refute it at one input. -/
def fnPropsWrong : ChangeSpec := { name := "fnProps", fn := fun _ => fun
  | [d] => { results := [.lit (.bool false)], args := [d] }
  | _ => none }
def FnPropsWrongFalsely : Prop := fnPropsRow.holds Tryd.pinned (OpenSpec.ofChange fnPropsWrong)

/-- 'laws.FnExactParseProps': WHATEVER THE INPUT: true; the input reads as it did. -/
def fnExactParsePropsSpec : ChangeSpec := { name := "fnExactParseProps", fn := fun _ => fun
  | [d] => { results := [.lit (.bool true)], args := [d] }
  | _ => none }
def fnExactParsePropsRow : OpenClaim := { program := "ytflnpkckdjmljaadoor", sum := "bb89a593e26edb7f20ea8d248191c13c1db40e58244689682f96176382913c39", func := "loop.example/g00727/laws.FnExactParseProps", spec := "fnExactParseProps", inPlace := ["internal/bytealg.IndexByteString", "internal/bytealg.IndexString", "internal/abi.NoEscape"], unfollowed := true, recurses := true, named := ["unicode/utf8.first", "unicode/utf8.acceptRanges", "internal/bytealg.MaxLen"], apart := false, laid := [("unicode/utf8.acceptRanges", laid_unicode_utf8_acceptRanges), ("unicode/utf8.first", laid_unicode_utf8_first)] }
def FnExactParsePropsSaid : Prop := fnExactParsePropsRow.holds Tryd.pinned (OpenSpec.ofChange fnExactParsePropsSpec)

/-- ITS FALSE NEIGHBOUR: 'it returns false'. Refute it at one input. -/
def fnExactParsePropsWrong : ChangeSpec := { name := "fnExactParseProps", fn := fun _ => fun
  | [d] => { results := [.lit (.bool false)], args := [d] }
  | _ => none }
def FnExactParsePropsWrongFalsely : Prop := fnExactParsePropsRow.holds Tryd.pinned (OpenSpec.ofChange fnExactParsePropsWrong)

/-- 'laws.FnExactPropKey': WHATEVER THE INPUT: true; the input reads as it did. -/
def fnExactPropKeySpec : ChangeSpec := { name := "fnExactPropKey", fn := fun _ => fun
  | [d] => { results := [.lit (.bool true)], args := [d] }
  | _ => none }
def fnExactPropKeyRow : OpenClaim := { program := "ytflnpkckdjmljaadoor", sum := "bb89a593e26edb7f20ea8d248191c13c1db40e58244689682f96176382913c39", func := "loop.example/g00727/laws.FnExactPropKey", spec := "fnExactPropKey", inPlace := ["internal/bytealg.IndexByteString", "internal/bytealg.IndexString", "internal/abi.NoEscape"], named := ["unicode/utf8.first", "unicode/utf8.acceptRanges", "internal/bytealg.MaxLen"], apart := false, laid := [("unicode/utf8.acceptRanges", laid_unicode_utf8_acceptRanges), ("unicode/utf8.first", laid_unicode_utf8_first)] }
def FnExactPropKeySaid : Prop := fnExactPropKeyRow.holds Tryd.pinned (OpenSpec.ofChange fnExactPropKeySpec)

/-- ITS FALSE NEIGHBOUR: 'it returns false'. Refute it at one input. -/
def fnExactPropKeyWrong : ChangeSpec := { name := "fnExactPropKey", fn := fun _ => fun
  | [d] => { results := [.lit (.bool false)], args := [d] }
  | _ => none }
def FnExactPropKeyWrongFalsely : Prop := fnExactPropKeyRow.holds Tryd.pinned (OpenSpec.ofChange fnExactPropKeyWrong)

/-- 'laws.FnExactPropValue': WHATEVER THE INPUT: true; the input reads as it did. -/
def fnExactPropValueSpec : ChangeSpec := { name := "fnExactPropValue", fn := fun _ => fun
  | [d] => { results := [.lit (.bool true)], args := [d] }
  | _ => none }
def fnExactPropValueRow : OpenClaim := { program := "ytflnpkckdjmljaadoor", sum := "bb89a593e26edb7f20ea8d248191c13c1db40e58244689682f96176382913c39", func := "loop.example/g00727/laws.FnExactPropValue", spec := "fnExactPropValue", inPlace := ["internal/bytealg.IndexByteString", "internal/bytealg.IndexString", "internal/abi.NoEscape"], named := ["unicode/utf8.first", "unicode/utf8.acceptRanges", "internal/bytealg.MaxLen"], apart := false, laid := [("unicode/utf8.acceptRanges", laid_unicode_utf8_acceptRanges), ("unicode/utf8.first", laid_unicode_utf8_first)] }
def FnExactPropValueSaid : Prop := fnExactPropValueRow.holds Tryd.pinned (OpenSpec.ofChange fnExactPropValueSpec)

/-- ITS FALSE NEIGHBOUR: 'it returns false'. Refute it at one input. -/
def fnExactPropValueWrong : ChangeSpec := { name := "fnExactPropValue", fn := fun _ => fun
  | [d] => { results := [.lit (.bool false)], args := [d] }
  | _ => none }
def FnExactPropValueWrongFalsely : Prop := fnExactPropValueRow.holds Tryd.pinned (OpenSpec.ofChange fnExactPropValueWrong)

/-- 'laws.FnExactPropPair': WHATEVER THE INPUT: true; the input reads as it did. -/
def fnExactPropPairSpec : ChangeSpec := { name := "fnExactPropPair", fn := fun _ => fun
  | [d1, d2] => { results := [.lit (.bool true)], args := [d1, d2] }
  | _ => none }
def fnExactPropPairRow : OpenClaim := { program := "ytflnpkckdjmljaadoor", sum := "bb89a593e26edb7f20ea8d248191c13c1db40e58244689682f96176382913c39", func := "loop.example/g00727/laws.FnExactPropPair", spec := "fnExactPropPair", inPlace := ["internal/bytealg.IndexByteString", "internal/bytealg.IndexString", "internal/abi.NoEscape"], named := ["unicode/utf8.first", "unicode/utf8.acceptRanges", "internal/bytealg.MaxLen"], apart := false, laid := [("unicode/utf8.acceptRanges", laid_unicode_utf8_acceptRanges), ("unicode/utf8.first", laid_unicode_utf8_first)] }
def FnExactPropPairSaid : Prop := fnExactPropPairRow.holds Tryd.pinned (OpenSpec.ofChange fnExactPropPairSpec)

/-- ITS FALSE NEIGHBOUR: 'it returns false'. Refute it at one input. -/
def fnExactPropPairWrong : ChangeSpec := { name := "fnExactPropPair", fn := fun _ => fun
  | [d1, d2] => { results := [.lit (.bool false)], args := [d1, d2] }
  | _ => none }
def FnExactPropPairWrongFalsely : Prop := fnExactPropPairRow.holds Tryd.pinned (OpenSpec.ofChange fnExactPropPairWrong)

/- THE SECOND FORM. 'bulk': how many values and letters a reading holds, each counted each time it is reached (what is shared counts as often as it is met; a slice's spare places count too). A statement '..UptoSaid' is the law's where the arguments, and the package variables that the reading takes, are together of bulk at most 1048576: NARROWER than '..Said'. Prove '..Said' where nothing that the law and all that it calls make is longer than what came in: it says more and counts as full. Else prove '..UptoSaid'. A law counts once. -/
mutual
def uptoBulk {H : Type} : DataW H → Nat
  | .lit (.string bytes) => bytes.length + 1
  | .lit _ => 1
  | .nil => 1
  | .ptr d => uptoBulk d + 1
  | .slice elems spare => uptoBulkAll elems + uptoBulkAll spare + 1
  | .agg parts => uptoBulkAll parts + 1
  | .iface _ d => uptoBulk d + 1
  | .map entries => uptoBulkEntries entries + 1
  | .held _ => 1
def uptoBulkAll {H : Type} : List (DataW H) → Nat
  | [] => 0
  | d :: r => uptoBulk d + uptoBulkAll r
def uptoBulkEntries {H : Type} : List (Lit × DataW H) → Nat
  | [] => 0
  | x :: r => uptoBulkEntry x + uptoBulkEntries r
def uptoBulkEntry {H : Type} : Lit × DataW H → Nat
  | (.string bytes, d) => bytes.length + uptoBulk d + 1
  | (_, d) => uptoBulk d + 1
 end
def uptoSmall : (H : Type) → List (DataW H) → Bool := fun _ ds => decide (uptoBulkAll ds ≤ 1048576)
def OpenSpec.upto (s : _root_.Go.ChangeSpec) : _root_.Go.OpenSpec := { _root_.Go.OpenSpec.ofChange s with cond := some uptoSmall }

/-- 'laws.FnProps', WHERE WHAT IT READS IS OF BULK AT MOST 1048576: true; the input reads as it did. -/
def fnPropsUptoRow : OpenClaim := { program := "ytflnpkckdjmljaadoor", sum := "bb89a593e26edb7f20ea8d248191c13c1db40e58244689682f96176382913c39", func := "loop.example/g00727/laws.FnProps", spec := "fnProps", inPlace := ["internal/bytealg.IndexByteString", "internal/bytealg.IndexString", "internal/abi.NoEscape"], unfollowed := true, recurses := true, named := ["unicode/utf8.first", "unicode/utf8.acceptRanges", "internal/bytealg.MaxLen"], apart := false, laid := [("unicode/utf8.acceptRanges", laid_unicode_utf8_acceptRanges), ("unicode/utf8.first", laid_unicode_utf8_first)], narrowed := true }
def FnPropsUptoSaid : Prop := fnPropsUptoRow.holds Tryd.pinned (OpenSpec.upto fnPropsSpec)

/-- 'laws.FnExactParseProps', WHERE WHAT IT READS IS OF BULK AT MOST 1048576: true; the input reads as it did. -/
def fnExactParsePropsUptoRow : OpenClaim := { program := "ytflnpkckdjmljaadoor", sum := "bb89a593e26edb7f20ea8d248191c13c1db40e58244689682f96176382913c39", func := "loop.example/g00727/laws.FnExactParseProps", spec := "fnExactParseProps", inPlace := ["internal/bytealg.IndexByteString", "internal/bytealg.IndexString", "internal/abi.NoEscape"], unfollowed := true, recurses := true, named := ["unicode/utf8.first", "unicode/utf8.acceptRanges", "internal/bytealg.MaxLen"], apart := false, laid := [("unicode/utf8.acceptRanges", laid_unicode_utf8_acceptRanges), ("unicode/utf8.first", laid_unicode_utf8_first)], narrowed := true }
def FnExactParsePropsUptoSaid : Prop := fnExactParsePropsUptoRow.holds Tryd.pinned (OpenSpec.upto fnExactParsePropsSpec)

/-- 'laws.FnExactPropKey', WHERE WHAT IT READS IS OF BULK AT MOST 1048576: true; the input reads as it did. -/
def fnExactPropKeyUptoRow : OpenClaim := { program := "ytflnpkckdjmljaadoor", sum := "bb89a593e26edb7f20ea8d248191c13c1db40e58244689682f96176382913c39", func := "loop.example/g00727/laws.FnExactPropKey", spec := "fnExactPropKey", inPlace := ["internal/bytealg.IndexByteString", "internal/bytealg.IndexString", "internal/abi.NoEscape"], named := ["unicode/utf8.first", "unicode/utf8.acceptRanges", "internal/bytealg.MaxLen"], apart := false, laid := [("unicode/utf8.acceptRanges", laid_unicode_utf8_acceptRanges), ("unicode/utf8.first", laid_unicode_utf8_first)], narrowed := true }
def FnExactPropKeyUptoSaid : Prop := fnExactPropKeyUptoRow.holds Tryd.pinned (OpenSpec.upto fnExactPropKeySpec)

/-- 'laws.FnExactPropValue', WHERE WHAT IT READS IS OF BULK AT MOST 1048576: true; the input reads as it did. -/
def fnExactPropValueUptoRow : OpenClaim := { program := "ytflnpkckdjmljaadoor", sum := "bb89a593e26edb7f20ea8d248191c13c1db40e58244689682f96176382913c39", func := "loop.example/g00727/laws.FnExactPropValue", spec := "fnExactPropValue", inPlace := ["internal/bytealg.IndexByteString", "internal/bytealg.IndexString", "internal/abi.NoEscape"], named := ["unicode/utf8.first", "unicode/utf8.acceptRanges", "internal/bytealg.MaxLen"], apart := false, laid := [("unicode/utf8.acceptRanges", laid_unicode_utf8_acceptRanges), ("unicode/utf8.first", laid_unicode_utf8_first)], narrowed := true }
def FnExactPropValueUptoSaid : Prop := fnExactPropValueUptoRow.holds Tryd.pinned (OpenSpec.upto fnExactPropValueSpec)

/-- 'laws.FnExactPropPair', WHERE WHAT IT READS IS OF BULK AT MOST 1048576: true; the input reads as it did. -/
def fnExactPropPairUptoRow : OpenClaim := { program := "ytflnpkckdjmljaadoor", sum := "bb89a593e26edb7f20ea8d248191c13c1db40e58244689682f96176382913c39", func := "loop.example/g00727/laws.FnExactPropPair", spec := "fnExactPropPair", inPlace := ["internal/bytealg.IndexByteString", "internal/bytealg.IndexString", "internal/abi.NoEscape"], named := ["unicode/utf8.first", "unicode/utf8.acceptRanges", "internal/bytealg.MaxLen"], apart := false, laid := [("unicode/utf8.acceptRanges", laid_unicode_utf8_acceptRanges), ("unicode/utf8.first", laid_unicode_utf8_first)], narrowed := true }
def FnExactPropPairUptoSaid : Prop := fnExactPropPairUptoRow.holds Tryd.pinned (OpenSpec.upto fnExactPropPairSpec)

end Rows
end Go.Proofs.YtflnpkckdjmljaaDoor
