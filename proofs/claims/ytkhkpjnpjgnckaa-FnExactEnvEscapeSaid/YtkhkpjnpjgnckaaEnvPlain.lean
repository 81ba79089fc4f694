/- Environment files: a text as a template. The model's Plain. -/
import Derived.Test.YtkhkpjnpjgnckaaProg
import Derived.Test.YtkhkpjnpjgnckaaPlain
import Derived.Test.YtkhkpjnpjgnckaaCut
import Derived.Test.YtkhkpjnpjgnckaaTrim
import Derived.Test.YtkhkpjnpjgnckaaEnvLead
import Derived.WalkKit
import Derived.WalkLawsBesides
import Derived.OwnWalk
import Derived.Lib.AppendStr
import Derived.Laws.IdiomStrings
import Derived.Lib.Hide
import Derived.IntWalk
set_option maxRecDepth 100000
namespace Go.Proofs.Ytkhkpjnpjgnckaa
open Go.RowKit
set_option linter.unusedVariables false

theorem byte_isE {c d : UInt8} (h : c = d) : ((c.toNat : Int) == (d.toNat : Int)) = true := by rw [h]; simp
theorem byte_noE {c d : UInt8} (h : c ≠ d) : ((c.toNat : Int) == (d.toNat : Int)) = false := by
  rw [beq_eq_false_iff_ne]; intro e; exact h (UInt8.toNat_inj.1 (Int.ofNat_inj.1 e))
theorem byte_isE' {c d : UInt8} (h : c = d) : ((c.toNat : Int) != (d.toNat : Int)) = false := by rw [h]; simp
theorem byte_noE' {c d : UInt8} (h : c ≠ d) : ((c.toNat : Int) != (d.toNat : Int)) = true := by
  rw [bne_iff_ne]; intro e; exact h (UInt8.toNat_inj.1 (Int.ofNat_inj.1 e))
theorem own_blockE {w : World} {base e size n : Nat} {v : Value} {xs : List Value} (h : w.ownsRow base e size v n xs) : ∀ j, v.ownBlock = some j → base ≤ j := by
  intro j hj
  rcases h.2 with ⟨rfl, h0⟩ | ⟨g, cap, cur, rfl, hb, hg, hnc, hcm, hcs, htake⟩
  · cases hj
  · simp only [Value.ownBlock] at hj; cases hj; exact hb
theorem cell_one_newV (w : World) (v : Value) (t : Nat) : ∀ j u, [v][j]? = some u → (w.alloc (.cells #[v] t)).cell? ((⟨w.heap.size, 0, none⟩ : Addr).add j) = some u := by
  intro j u hu
  cases j with
  | zero =>
    have ha : (⟨w.heap.size, 0, none⟩ : Addr).add 0 = ⟨w.heap.size, 0, none⟩ := by unfold Addr.add; split <;> simp_all
    rw [ha, Lib.cell_of_heap (heap_alloc_new _ _)]
    simpa using hu
  | succ j => simp at hu
theorem cell_two_newV (w : World) (x y : Value) (t : TypeId) : ∀ j u, [x, y][j]? = some u → (w.alloc (.cells #[x, y] t)).cell? ((⟨w.heap.size, 0, none⟩ : Addr).add j) = some u := by
  intro j u hu
  have ha : ∀ j, (⟨w.heap.size, 0, none⟩ : Addr).add j = ⟨w.heap.size, j, none⟩ := by intro j; unfold Addr.add; split <;> simp_all
  rw [ha, Lib.cell_of_heap (heap_alloc_new _ _)]
  match j, hu with
  | 0, hu => simpa using hu
  | 1, hu => simpa using hu
  | j + 2, hu => simp at hu
theorem own_stepV {B B0 : Nat} {w wr w1 : World} {t : Nat} {v v' : Value} {l m : List UInt8} {n : Nat} {cs : List Value} {o : Obj} (hb : Below B0 w wr) (hBw : B0 ≤ B) (hB0 : B0 ≤ wr.heap.size) (hown : wr.ownsRow B t 1 v l.length (Lib.byteCells l))
    (hown' : w1.ownsRow B t 1 v' (l.length + n) (Lib.byteCells l ++ cs)) (hg : (wr.alloc o).grownBy w1 v.ownBlock) (hn : m.length = n := by rfl) (hm : Lib.byteCells m = cs := by rfl) :
    w1.ownsRow B t 1 v' (l ++ m).length (Lib.byteCells (l ++ m)) ∧ Below B0 w w1 := by
  subst hn
  subst hm
  refine ⟨by simpa [Lib.byteCells] using hown', ?_⟩
  exact (hb.alloc hB0 o).grown hg (by simp; omega) (fun j hj => Nat.le_trans hBw (own_blockE hown j hj))
theorem info_byteV : (Try.prog.info? 5).map (fun i => (i.zero, i.size, i.bytes)) = some (some (.int .u8 0), 1, 1) := by kernel_rfl
theorem text_of_ownV (w : World) (base n : Nat) (v : Value) (l : List UInt8) (h : w.ownsRow base 5 1 v n (Lib.byteCells l)) (hn : n = l.length) :
    (convert 31 9 v).run Try.prog w = .ok (.string ⟨l.toArray⟩) w := by
  subst hn
  rcases h.2 with ⟨hv, h0⟩ | ⟨g, cap, cur, hv, hb, hg, hnc, hcm, hcs, htake⟩
  · have hl : l = [] := List.eq_nil_of_length_eq_zero h0
    subst hl
    subst hv
    rw [run_convert_bytes_string w 31 9 5 none 0 0 Try.underlying31 Try.underlying5 Try.underlying9]
    rfl
  · subst hv
    refine run_convert_bytes_back w 31 9 5 ⟨g, 0, none⟩ cap l Try.underlying31 Try.underlying5 Try.underlying9 (fun j hj => ?_)
    refine World.ownsRow.cells h (g := g) rfl j _ ?_
    simp [Lib.byteCells, hj]

/-- a byte in a template -/
def plainC (c : UInt8) : List UInt8 := if c = 36 then [c, 36] else [c]
def plainL (l : List UInt8) : List UInt8 := l.flatMap plainC
def plainT (s : ByteArray) : ByteArray := ⟨(plainL s.data.toList).toArray⟩
theorem plainC_len (c : UInt8) : (plainC c).length ≤ 2 := by
  unfold plainC
  split <;> simp
theorem plainL_len (l : List UInt8) : (plainL l).length ≤ 2 * l.length := by
  induction l with
  | nil => simp [plainL]
  | cons c l ih =>
    have := plainC_len c
    simp only [plainL, List.flatMap_cons, List.length_append, List.length_cons] at ih ⊢
    omega
theorem plainT_size (s : ByteArray) : (plainT s).size ≤ 2 * s.size := by
  have := plainL_len s.data.toList
  rw [← Lib.size_eq] at this
  rw [Lib.size_eq]
  simpa [plainT] using this
theorem plainL_succ (s : ByteArray) (k : Nat) (h : k < s.size) : plainL (s.data.toList.take (k + 1)) = plainL (s.data.toList.take k) ++ plainC s[k] := by
  rw [Pl.take_snoc s k h]
  simp [plainL]
end Go.Proofs.Ytkhkpjnpjgnckaa
