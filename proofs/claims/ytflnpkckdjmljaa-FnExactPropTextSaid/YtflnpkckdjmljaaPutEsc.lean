/- Escapes written: the contracts of PutEscapes, the model's and the program's. -/
import Derived.Test.YtflnpkckdjmljaaProg
import Derived.Test.YtflnpkckdjmljaaPlain
import Derived.Test.YtflnpkckdjmljaaHex
import Derived.Test.YtflnpkckdjmljaaRunePure
import Derived.Test.YtflnpkckdjmljaaRuneText
import Derived.Test.YtflnpkckdjmljaaInts
import Derived.Test.YtflnpkckdjmljaaBuild
import Derived.Test.YtflnpkckdjmljaaTextOf
import Derived.Test.YtflnpkckdjmljaaValid
import Derived.Test.YtflnpkckdjmljaaSigns
import Derived.WalkKit
import Derived.WalkLawsBesides
import Derived.OwnWalk
import Derived.Lib.AppendStr
import Derived.Deep.AppendLies
import Derived.Lib.Hide
import Derived.IntWalk
namespace Go.Proofs.Ytflnpkckdjmljaa
open Go.RowKit
set_option linter.unusedVariables false

def escI (r : Int) : List UInt8 := escB r.toNat
theorem uE_of (n : Int) (h : 0 ≤ n) : (⟨#[92, 117]⟩ : ByteArray) ++ ⟨(Pl.hexOf n 4).toArray⟩ = ⟨(uE n.toNat).toArray⟩ := by
  have e : Pl.hexOf n 4 = Pl.hexT n.toNat 4 := by unfold Pl.hexOf; rw [if_neg (by omega)]; rfl
  rw [e]
  exact Pl.join_lists [92, 117] _
theorem escI_92 : escI 92 = [92, 92] := by unfold escI escB; rfl
theorem escI_plain {r : Int} (h0 : 32 ≤ r) (h1 : r ≤ 126) (h : r ≠ 92) : escI r = [u8 r.toNat] := by
  unfold escI escB
  rw [if_neg (by omega), if_pos (by omega)]
theorem escI_low {r : Int} (h0 : 0 ≤ r) (h : r < 32 ∨ 126 < r) (h1 : r < 65536) : escI r = uE r.toNat := by
  unfold escI escB
  rw [if_neg (by omega), if_neg (by omega), if_pos (by omega)]
theorem escI_high {r : Int} (h : 65536 ≤ r) : escI r = uE (55296 + (r - 65536) / 1024).toNat ++ uE (56320 + (r - 65536) % 1024).toNat := by
  unfold escI escB
  rw [if_neg (by omega), if_neg (by omega), if_neg (by omega)]
  have e1 : (55296 + (r - 65536) / 1024).toNat = 55296 + (r.toNat - 65536) / 1024 := by omega
  have e2 : (56320 + (r - 65536) % 1024).toNat = 56320 + (r.toNat - 65536) % 1024 := by omega
  rw [e1, e2]
theorem escI_len (r : Int) : (escI r).length ≤ 12 := by
  unfold escI escB
  repeat' split
  all_goals simp [uE_len]

theorem i64_and1023 (n : Int) : bits .and .i64 n 1023 = n % 1024 := by
  have h : (BitVec.ofInt 64 n &&& BitVec.ofInt 64 1023).toNat = (BitVec.ofInt 64 n).toNat % 1024 := by
    rw [BitVec.toNat_and]
    show (BitVec.ofInt 64 n).toNat &&& (2 ^ 10 - 1) = _
    rw [Nat.and_two_pow_sub_one_eq_mod]
  have h2 : (BitVec.ofInt 64 n).toNat % 1024 = (n % 1024).toNat := by
    rw [BitVec.toNat_ofInt]
    omega
  unfold bits
  generalize hq : (BitVec.ofInt IntKind.i64.bits n &&& BitVec.ofInt IntKind.i64.bits 1023).toNat = q
  have hq' : q = (n % 1024).toNat := by rw [← hq]; exact h.trans h2
  simp only [IntKind.wrap_i64]
  rw [hq, hq']
  omega

/-- a builder, over what happens above -/
theorem builtAt_over {T e B b : Nat} {p : Value} {bs : List Value} {w w' : World} (h : Lib.BuilderAtF T e B b p bs w) (hb : Below w.heap.size w w') : Lib.BuilderAtF T e B b p bs w' := by
  obtain ⟨hB, v, hbk, hown, hne⟩ := h
  refine ⟨hB, v, (hb.block b (Array.getElem?_eq_some_iff.1 hbk).1).trans hbk, ⟨hown.1, ?_⟩, hne⟩
  rcases hown.2 with h2 | ⟨g, cap, cur, fz, hv, hg0, hg, h5, h6, h7, h8, h9⟩
  · exact .inl h2
  · exact .inr ⟨g, cap, cur, fz, hv, hg0, (hb.block g (Array.getElem?_eq_some_iff.1 hg).1).trans hg, h5, h6, h7, h8, h9⟩
theorem built_over {B b : Nat} {l : List UInt8} {w w' : World} (h : BuiltF B b l w) (hb : Below w.heap.size w w') : BuiltF B b l w' := by
  rcases h with h | h
  · exact .inl (builtAt_over h hb)
  · exact .inr (builtAt_over h hb)

/-- a bound that the walk does not look into -/
def UpTo (n m : Nat) : Prop := n ≤ m

/-! lists of them -/
def putI (l : List Int) : List UInt8 := l.flatMap escI
theorem putI_take_succ (l : List Int) (k : Nat) (h : k < l.length) : putI (l.take (k + 1)) = putI (l.take k) ++ escI l[k] := by
  rw [List.take_succ_eq_append_getElem h]
  unfold putI
  rw [List.flatMap_append, List.flatMap_cons, List.flatMap_nil, List.append_nil]
theorem putI_len (l : List Int) : (putI l).length ≤ 12 * l.length := by
  induction l with
  | nil => exact Nat.le_refl _
  | cons x l ih =>
    have h1 := escI_len x
    have h2 : (putI l).length ≤ 12 * l.length := ih
    have e : putI (x :: l) = escI x ++ putI l := by simp [putI]
    rw [e, List.length_append, List.length_cons]
    omega
theorem putI_take_len (l : List Int) (k : Nat) : (putI (l.take k)).length ≤ 12 * k := by
  have := putI_len (l.take k)
  rw [List.length_take] at this
  omega
theorem putI_of (list : List Nat) : putI (intsOf list) = putE list := by
  unfold putI putE intsOf
  rw [List.flatMap_map]
  rfl
/-- what PutEscapes answers -/
def putT (l : List UInt8) : List UInt8 := putI (signsI l)
theorem signsI_sgn (l : List UInt8) : ∀ i (h : i < (signsI l).length), sgn (signsI l)[i] = true := by
  intro i h
  have hm : (signsI l)[i] ∈ signsI l := List.getElem_mem h
  generalize (signsI l)[i] = r at hm
  unfold signsI intsOf at hm
  obtain ⟨n, hn, rfl⟩ := List.mem_map.1 hm
  cases hs : signsL l with
  | none => rw [hs] at hn; simp at hn
  | some list =>
    rw [hs] at hn
    have := (text_signs l list hs).1 n (by simpa using hn)
    rw [sgn_nat]
    exact this
theorem cells_92 : Lib.byteCells [92, 92] = [.int .u8 92, .int .u8 92] := rfl
theorem cells_u8 (r : Int) (h0 : 0 ≤ r) (h1 : r < 256) : Lib.byteCells [u8 r.toNat] = [.int .u8 r] := by
  simp only [Lib.byteCells, List.map_cons, List.map_nil]
  rw [u8_nat _ (by omega), Int.toNat_of_nonneg h0]

end Go.Proofs.Ytflnpkckdjmljaa
