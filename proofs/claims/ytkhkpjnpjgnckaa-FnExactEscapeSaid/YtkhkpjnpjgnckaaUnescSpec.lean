/- Escapes taken back: the model's contract of Unescape. -/
import Derived.Test.YtkhkpjnpjgnckaaProg
import Derived.Test.YtkhkpjnpjgnckaaPlain
import Derived.Test.YtkhkpjnpjgnckaaCut
import Derived.Test.YtkhkpjnpjgnckaaTrim
import Derived.Test.YtkhkpjnpjgnckaaDialectRows
import Derived.WalkKit
import Derived.WalkLawsBesides
import Derived.OwnWalk
import Derived.Lib.AppendStr
import Derived.Laws.IdiomStrings
import Derived.Lib.Hide
import Derived.IntWalk
namespace Go.Proofs.Ytkhkpjnpjgnckaa
open Go.RowKit
set_option linter.unusedVariables false

abbrev oddsB : ByteArray := ⟨#[91, 93, 61, 58, 35, 59, 33]⟩
/-- a byte that may stand for itself behind a byte 92 -/
def selfB (c : UInt8) : Bool := c == 92 || c == 34 || hasB oddsB c || blankB c
/-- what a byte behind a byte 92 stands for -/
def unB (c : UInt8) : Option UInt8 := if c = 110 then some 10 else if c = 116 then some 9 else if c = 114 then some 13 else if selfB c then some c else none
/-- a text with its escapes taken back -/
def unE : List UInt8 → Option (List UInt8)
  | [] => some []
  | [c] => if c = 92 then none else some [c]
  | c :: e :: t => if c = 92 then (match unB e with | some b => (unE t).map (b :: ·) | none => none) else (unE (e :: t)).map (c :: ·)
theorem unE_nil : unE [] = some [] := rfl
theorem unE_plain {c : UInt8} (t : List UInt8) (h : c ≠ 92) : unE (c :: t) = (unE t).map (c :: ·) := by
  cases t with
  | nil => simp [unE, h]
  | cons e t => simp [unE, h]
theorem unE_end : unE [92] = none := rfl
theorem unE_esc {e b : UInt8} (t : List UInt8) (h : unB e = some b) : unE (92 :: e :: t) = (unE t).map (b :: ·) := by simp [unE, h]
theorem unE_bad {e : UInt8} (t : List UInt8) (h : unB e = none) : unE (92 :: e :: t) = none := by simp [unE, h]
theorem unE_len (l : List UInt8) : ∀ m, unE l = some m → m.length ≤ l.length := by
  induction l using unE.induct with
  | case1 => intro m h; rw [unE_nil] at h; cases h; exact Nat.le_refl _
  | case2 => intro m h; rw [unE_end] at h; cases h
  | case3 c hc => intro m h; rw [unE_plain [] hc] at h; simp [unE] at h; subst h; simp
  | case4 e t b hb ih =>
    intro m h
    rw [unE_esc t hb] at h
    cases h2 : unE t with
    | none => rw [h2] at h; simp at h
    | some m2 =>
      rw [h2] at h
      simp at h
      subst h
      have := ih m2 h2
      simp
      omega
  | case5 e t hb => intro m h; rw [unE_bad t hb] at h; cases h
  | case6 c e t hc ih =>
    intro m h
    rw [unE_plain (e :: t) hc] at h
    cases h2 : unE (e :: t) with
    | none => rw [h2] at h; simp at h
    | some m2 =>
      rw [h2] at h
      simp at h
      subst h
      have := ih m2 h2
      simp at this ⊢
      omega
/-- how far it has come -/
def UnAt (all : List UInt8) (k : Nat) (l : List UInt8) : Prop := unE all = (unE (all.drop k)).map (l ++ ·)
theorem unAt_zero (all : List UInt8) : UnAt all 0 [] := by
  unfold UnAt
  rw [List.drop_zero]
  cases unE all <;> rfl
theorem unAt_plain {all : List UInt8} {k : Nat} {l : List UInt8} (h : UnAt all k l) (hk : k < all.length) (hc : all[k] ≠ 92) : UnAt all (k + 1) (l ++ [all[k]]) := by
  unfold UnAt at *
  rw [h, List.drop_eq_getElem_cons hk, unE_plain _ hc]
  cases unE (all.drop (k + 1)) with
  | none => rfl
  | some x => simp
theorem unAt_esc {all : List UInt8} {k : Nat} {l : List UInt8} {b : UInt8} (h : UnAt all k l) (hk : k + 1 < all.length) (hc : all[k] = 92) (hb : unB all[k + 1] = some b) : UnAt all (k + 2) (l ++ [b]) := by
  unfold UnAt at *
  rw [h, List.drop_eq_getElem_cons (by omega), hc, List.drop_eq_getElem_cons hk, unE_esc _ hb]
  cases unE (all.drop (k + 2)) with
  | none => rfl
  | some x => simp
theorem unAt_bad {all : List UInt8} {k : Nat} {l : List UInt8} (h : UnAt all k l) (hk : k + 1 < all.length) (hc : all[k] = 92) (hb : unB all[k + 1] = none) : unE all = none := by
  unfold UnAt at *
  rw [h, List.drop_eq_getElem_cons (by omega), hc, List.drop_eq_getElem_cons hk, unE_bad _ hb]
  rfl
theorem unAt_last {all : List UInt8} {k : Nat} {l : List UInt8} (h : UnAt all k l) (hk : k < all.length) (hk2 : all.length ≤ k + 1) (hc : all[k] = 92) : unE all = none := by
  unfold UnAt at *
  rw [h, List.drop_eq_getElem_cons hk, hc, List.drop_of_length_le hk2, unE_end]
  rfl
theorem unAt_end {all : List UInt8} {k : Nat} {l : List UInt8} (h : UnAt all k l) (hk : all.length ≤ k) : unE all = some l := by
  unfold UnAt at *
  rw [h, List.drop_of_length_le hk, unE_nil]
  simp
/-- what Unescape answers -/
def unT (e : Bool) (s : ByteArray) : ByteArray × Bool := if e then (match unE s.data.toList with | some l => (⟨l.toArray⟩, true) | none => (⟨#[]⟩, false)) else (s, true)
theorem unT_off (s : ByteArray) : unT false s = (s, true) := rfl
theorem unT_good {s : ByteArray} {l : List UInt8} (h : unE s.data.toList = some l) : unT true s = (⟨l.toArray⟩, true) := by simp [unT, h]
theorem unT_bad {s : ByteArray} (h : unE s.data.toList = none) : unT true s = (⟨#[]⟩, false) := by simp [unT, h]
theorem unT_size (e : Bool) (s : ByteArray) : (unT e s).1.size ≤ s.size := by
  cases e with
  | false => exact Nat.le_refl _
  | true =>
    cases h : unE s.data.toList with
    | none => rw [unT_bad h]; exact Nat.zero_le _
    | some l =>
      rw [unT_good h]
      have := unE_len _ l h
      rw [← Lib.size_eq] at this
      rw [Lib.size_eq]
      simpa using this

theorem byte_same (c d : UInt8) (h : c = d) : ((c.toNat : Int) == (d.toNat : Int)) = true := by rw [h]; simp
theorem byte_differ (c d : UInt8) (h : c ≠ d) : ((c.toNat : Int) == (d.toNat : Int)) = false := by
  rw [beq_eq_false_iff_ne]; intro e; exact h (UInt8.toNat_inj.1 (Int.ofNat_inj.1 e))
theorem byte_same' (c d : UInt8) (h : c = d) : ((c.toNat : Int) != (d.toNat : Int)) = false := by rw [h]; simp
theorem byte_differ' (c d : UInt8) (h : c ≠ d) : ((c.toNat : Int) != (d.toNat : Int)) = true := by
  rw [bne_iff_ne]; intro e; exact h (UInt8.toNat_inj.1 (Int.ofNat_inj.1 e))
theorem own_blockU {w : World} {base e size n : Nat} {v : Value} {xs : List Value} (h : w.ownsRow base e size v n xs) : ∀ j, v.ownBlock = some j → base ≤ j := by
  intro j hj
  rcases h.2 with ⟨rfl, h0⟩ | ⟨g, cap, cur, rfl, hb, hg, hnc, hcm, hcs, htake⟩
  · cases hj
  · simp only [Value.ownBlock] at hj; cases hj; exact hb
theorem cell_one_newU (w : World) (v : Value) (t : Nat) : ∀ j u, [v][j]? = some u → (w.alloc (.cells #[v] t)).cell? ((⟨w.heap.size, 0, none⟩ : Addr).add j) = some u := by
  intro j u hu
  cases j with
  | zero =>
    have ha : (⟨w.heap.size, 0, none⟩ : Addr).add 0 = ⟨w.heap.size, 0, none⟩ := by unfold Addr.add; split <;> simp_all
    rw [ha, Lib.cell_of_heap (heap_alloc_new _ _)]
    simpa using hu
  | succ j => simp at hu
theorem own_stepU {B : Nat} {w wr w1 : World} {t : Nat} {v v' : Value} {l : List UInt8} {c : UInt8} {o : Obj} (hb : Below w.heap.size w wr) (hBw : w.heap.size ≤ B) (hown : wr.ownsRow B t 1 v l.length (Lib.byteCells l))
    (hown' : w1.ownsRow B t 1 v' (l.length + 1) (Lib.byteCells l ++ [.int .u8 (c.toNat : Int)])) (hg : (wr.alloc o).grownBy w1 v.ownBlock) :
    w1.ownsRow B t 1 v' (l ++ [c]).length (Lib.byteCells (l ++ [c])) ∧ Below w.heap.size w w1 := by
  refine ⟨by simpa [Lib.byteCells] using hown', ?_⟩
  exact (hb.alloc hb.size o).grown hg (by have := hb.size; simp; omega) (fun j hj => Nat.le_trans hBw (own_blockU hown j hj))
theorem info_byteU : (Try.prog.info? 5).map (fun i => (i.zero, i.size, i.bytes)) = some (some (.int .u8 0), 1, 1) := by kernel_rfl
theorem text_of_ownU (w : World) (base n : Nat) (v : Value) (l : List UInt8) (h : w.ownsRow base 5 1 v n (Lib.byteCells l)) (hn : n = l.length) :
    (convert 31 9 v).run Try.prog w = .ok (.string ⟨l.toArray⟩) w := by
  subst hn
  rcases h.2 with ⟨hv, h0⟩ | ⟨g, cap, cur, hv, hb, hg, hnc, hcm, hcs, htake⟩
  · have hl : l = [] := List.eq_nil_of_length_eq_zero h0
    subst hl
    subst hv
    rw [run_convert_bytes_string w 31 9 5 none 0 0 Try.underlying31 Try.underlying5 Try.underlying9]
    rfl
  · subst hv
    refine run_convert_bytes_back w 31 9 5 ⟨g, 0, none⟩ cap l Try.underlying31 Try.underlying5 Try.underlying9 (fun j hj => ?_)
    refine World.ownsRow.cells h (g := g) rfl j _ ?_
    simp [Lib.byteCells, hj]


end Go.Proofs.Ytkhkpjnpjgnckaa
