/- A right Dialect: the model's contract of DialectOk. -/
import Derived.Test.YthljlkngmfbeoaaGreatDoorProg
import Derived.Test.YthljlkngmfbeoaaGreatDoorPlain
import Derived.Test.YthljlkngmfbeoaaGreatDoorHex
import Derived.Test.YthljlkngmfbeoaaGreatDoorCut
import Derived.Test.YthljlkngmfbeoaaGreatDoorDialectRows
import Derived.WalkKit
import Derived.WalkLawsBesides
import Derived.BigQuiet
import Derived.Deep.QuietTactic
import Derived.Lib.QuietBelow
import Derived.Laws.IdiomStrings
import Derived.Lib.Hide
import Derived.IntWalk
import Derived.Test.YthljlkngmfbeoaaGreatDoorTrim
import Derived.OwnWalk
import Derived.Lib.AppendStr
import Derived.Test.YthljlkngmfbeoaaGreatDoorTail
namespace Go.Proofs.YthljlkngmfbeoaaGreatDoor
open Go.RowKit Go.Sort
set_option linter.unusedVariables false

/-- the byte at k is one of those, and none of those ahead -/
def ofAt (s u : ByteArray) (k : Nat) : Bool := if h : k < s.size then hasB u s[k] && !hasB (s.extract 0 k) s[k] else true
/-- so it is for the first k -/
def ofTo (s u : ByteArray) : Nat → Bool
  | 0 => true
  | k + 1 => ofTo s u k && ofAt s u k
theorem ofTo_false {s u : ByteArray} {k : Nat} (h : ofTo s u (k + 1) = false) : ∀ m, k + 1 ≤ m → ofTo s u m = false := by
  intro m hm
  induction m with
  | zero => omega
  | succ m ih =>
    by_cases e : m = k
    · subst e; exact h
    · simp only [ofTo]
      rw [ih (by omega)]
      rfl
/-- a text of some bytes of another, none twice, and not too many -/
def ofWith (s u : ByteArray) (m : Int) : Bool := ofTo s u s.size && Pl.inB s.size 1 m

abbrev notesB : ByteArray := ⟨#[35, 59, 33]⟩
abbrev sepsB : ByteArray := ⟨#[61, 58]⟩
/-- a right one -/
def dialOk (d : DialectD) : Bool := ofWith d.notes notesB 3 && ofWith d.seps sepsB 2 && Pl.inB d.join 0 2
theorem dialOk_size {d : DialectD} (h : dialOk d = true) : 1 ≤ d.notes.size ∧ d.notes.size ≤ 3 ∧ 1 ≤ d.seps.size ∧ d.seps.size ≤ 2 ∧ 0 ≤ d.join ∧ d.join ≤ 2 := by
  unfold dialOk ofWith at h
  simp only [Bool.and_eq_true, Pl.inB, decide_eq_true_eq] at h
  omega

end Go.Proofs.YthljlkngmfbeoaaGreatDoor

/- Escapes taken back: the model's contract of Unescape. -/
namespace Go.Proofs.YthljlkngmfbeoaaGreatDoor
open Go.RowKit
set_option linter.unusedVariables false

abbrev oddsB : ByteArray := ⟨#[91, 93, 61, 58, 35, 59, 33]⟩
/-- a byte that may stand for itself behind a byte 92 -/
def selfB (c : UInt8) : Bool := c == 92 || c == 34 || hasB oddsB c || blankB c
/-- what a byte behind a byte 92 stands for -/
def unB (c : UInt8) : Option UInt8 := if c = 110 then some 10 else if c = 116 then some 9 else if c = 114 then some 13 else if selfB c then some c else none
/-- a text with its escapes taken back -/
def unE : List UInt8 → Option (List UInt8)
  | [] => some []
  | [c] => if c = 92 then none else some [c]
  | c :: e :: t => if c = 92 then (match unB e with | some b => (unE t).map (b :: ·) | none => none) else (unE (e :: t)).map (c :: ·)
theorem unE_nil : unE [] = some [] := rfl
theorem unE_plain {c : UInt8} (t : List UInt8) (h : c ≠ 92) : unE (c :: t) = (unE t).map (c :: ·) := by
  cases t with
  | nil => simp [unE, h]
  | cons e t => simp [unE, h]
theorem unE_end : unE [92] = none := rfl
theorem unE_esc {e b : UInt8} (t : List UInt8) (h : unB e = some b) : unE (92 :: e :: t) = (unE t).map (b :: ·) := by simp [unE, h]
theorem unE_bad {e : UInt8} (t : List UInt8) (h : unB e = none) : unE (92 :: e :: t) = none := by simp [unE, h]
theorem unE_len (l : List UInt8) : ∀ m, unE l = some m → m.length ≤ l.length := by
  induction l using unE.induct with
  | case1 => intro m h; rw [unE_nil] at h; cases h; exact Nat.le_refl _
  | case2 => intro m h; rw [unE_end] at h; cases h
  | case3 c hc => intro m h; rw [unE_plain [] hc] at h; simp [unE] at h; subst h; simp
  | case4 e t b hb ih =>
    intro m h
    rw [unE_esc t hb] at h
    cases h2 : unE t with
    | none => rw [h2] at h; simp at h
    | some m2 =>
      rw [h2] at h
      simp at h
      subst h
      have := ih m2 h2
      simp
      omega
  | case5 e t hb => intro m h; rw [unE_bad t hb] at h; cases h
  | case6 c e t hc ih =>
    intro m h
    rw [unE_plain (e :: t) hc] at h
    cases h2 : unE (e :: t) with
    | none => rw [h2] at h; simp at h
    | some m2 =>
      rw [h2] at h
      simp at h
      subst h
      have := ih m2 h2
      simp at this ⊢
      omega
/-- how far it has come -/
def UnAt (all : List UInt8) (k : Nat) (l : List UInt8) : Prop := unE all = (unE (all.drop k)).map (l ++ ·)
theorem unAt_zero (all : List UInt8) : UnAt all 0 [] := by
  unfold UnAt
  rw [List.drop_zero]
  cases unE all <;> rfl
theorem unAt_plain {all : List UInt8} {k : Nat} {l : List UInt8} (h : UnAt all k l) (hk : k < all.length) (hc : all[k] ≠ 92) : UnAt all (k + 1) (l ++ [all[k]]) := by
  unfold UnAt at *
  rw [h, List.drop_eq_getElem_cons hk, unE_plain _ hc]
  cases unE (all.drop (k + 1)) with
  | none => rfl
  | some x => simp
theorem unAt_esc {all : List UInt8} {k : Nat} {l : List UInt8} {b : UInt8} (h : UnAt all k l) (hk : k + 1 < all.length) (hc : all[k] = 92) (hb : unB all[k + 1] = some b) : UnAt all (k + 2) (l ++ [b]) := by
  unfold UnAt at *
  rw [h, List.drop_eq_getElem_cons (by omega), hc, List.drop_eq_getElem_cons hk, unE_esc _ hb]
  cases unE (all.drop (k + 2)) with
  | none => rfl
  | some x => simp
theorem unAt_bad {all : List UInt8} {k : Nat} {l : List UInt8} (h : UnAt all k l) (hk : k + 1 < all.length) (hc : all[k] = 92) (hb : unB all[k + 1] = none) : unE all = none := by
  unfold UnAt at *
  rw [h, List.drop_eq_getElem_cons (by omega), hc, List.drop_eq_getElem_cons hk, unE_bad _ hb]
  rfl
theorem unAt_last {all : List UInt8} {k : Nat} {l : List UInt8} (h : UnAt all k l) (hk : k < all.length) (hk2 : all.length ≤ k + 1) (hc : all[k] = 92) : unE all = none := by
  unfold UnAt at *
  rw [h, List.drop_eq_getElem_cons hk, hc, List.drop_of_length_le hk2, unE_end]
  rfl
theorem unAt_end {all : List UInt8} {k : Nat} {l : List UInt8} (h : UnAt all k l) (hk : all.length ≤ k) : unE all = some l := by
  unfold UnAt at *
  rw [h, List.drop_of_length_le hk, unE_nil]
  simp
/-- what Unescape answers -/
def unT (e : Bool) (s : ByteArray) : ByteArray × Bool := if e then (match unE s.data.toList with | some l => (⟨l.toArray⟩, true) | none => (⟨#[]⟩, false)) else (s, true)
theorem unT_off (s : ByteArray) : unT false s = (s, true) := rfl
theorem unT_good {s : ByteArray} {l : List UInt8} (h : unE s.data.toList = some l) : unT true s = (⟨l.toArray⟩, true) := by simp [unT, h]
theorem unT_bad {s : ByteArray} (h : unE s.data.toList = none) : unT true s = (⟨#[]⟩, false) := by simp [unT, h]
theorem unT_size (e : Bool) (s : ByteArray) : (unT e s).1.size ≤ s.size := by
  cases e with
  | false => exact Nat.le_refl _
  | true =>
    cases h : unE s.data.toList with
    | none => rw [unT_bad h]; exact Nat.zero_le _
    | some l =>
      rw [unT_good h]
      have := unE_len _ l h
      rw [← Lib.size_eq] at this
      rw [Lib.size_eq]
      simpa using this

theorem byte_same (c d : UInt8) (h : c = d) : ((c.toNat : Int) == (d.toNat : Int)) = true := by rw [h]; simp
theorem byte_differ (c d : UInt8) (h : c ≠ d) : ((c.toNat : Int) == (d.toNat : Int)) = false := by
  rw [beq_eq_false_iff_ne]; intro e; exact h (UInt8.toNat_inj.1 (Int.ofNat_inj.1 e))
theorem byte_same' (c d : UInt8) (h : c = d) : ((c.toNat : Int) != (d.toNat : Int)) = false := by rw [h]; simp
theorem byte_differ' (c d : UInt8) (h : c ≠ d) : ((c.toNat : Int) != (d.toNat : Int)) = true := by
  rw [bne_iff_ne]; intro e; exact h (UInt8.toNat_inj.1 (Int.ofNat_inj.1 e))
theorem own_blockU {w : World} {base e size n : Nat} {v : Value} {xs : List Value} (h : w.ownsRow base e size v n xs) : ∀ j, v.ownBlock = some j → base ≤ j := by
  intro j hj
  rcases h.2 with ⟨rfl, h0⟩ | ⟨g, cap, cur, rfl, hb, hg, hnc, hcm, hcs, htake⟩
  · cases hj
  · simp only [Value.ownBlock] at hj; cases hj; exact hb
theorem cell_one_newU (w : World) (v : Value) (t : Nat) : ∀ j u, [v][j]? = some u → (w.alloc (.cells #[v] t)).cell? ((⟨w.heap.size, 0, none⟩ : Addr).add j) = some u := by
  intro j u hu
  cases j with
  | zero =>
    have ha : (⟨w.heap.size, 0, none⟩ : Addr).add 0 = ⟨w.heap.size, 0, none⟩ := by unfold Addr.add; split <;> simp_all
    rw [ha, Lib.cell_of_heap (heap_alloc_new _ _)]
    simpa using hu
  | succ j => simp at hu
theorem own_stepU {B : Nat} {w wr w1 : World} {t : Nat} {v v' : Value} {l : List UInt8} {c : UInt8} {o : Obj} (hb : Below w.heap.size w wr) (hBw : w.heap.size ≤ B) (hown : wr.ownsRow B t 1 v l.length (Lib.byteCells l))
    (hown' : w1.ownsRow B t 1 v' (l.length + 1) (Lib.byteCells l ++ [.int .u8 (c.toNat : Int)])) (hg : (wr.alloc o).grownBy w1 v.ownBlock) :
    w1.ownsRow B t 1 v' (l ++ [c]).length (Lib.byteCells (l ++ [c])) ∧ Below w.heap.size w w1 := by
  refine ⟨by simpa [Lib.byteCells] using hown', ?_⟩
  exact (hb.alloc hb.size o).grown hg (by have := hb.size; simp; omega) (fun j hj => Nat.le_trans hBw (own_blockU hown j hj))
theorem info_byteU : (Tryz.prog.info? 5).map (fun i => (i.zero, i.size, i.bytes)) = some (some (.int .u8 0), 1, 1) := by kernel_rfl
theorem text_of_ownU (w : World) (base n : Nat) (v : Value) (l : List UInt8) (h : w.ownsRow base 5 1 v n (Lib.byteCells l)) (hn : n = l.length) :
    (convert 22 9 v).run Tryz.prog w = .ok (.string ⟨l.toArray⟩) w := by
  subst hn
  rcases h.2 with ⟨hv, h0⟩ | ⟨g, cap, cur, hv, hb, hg, hnc, hcm, hcs, htake⟩
  · have hl : l = [] := List.eq_nil_of_length_eq_zero h0
    subst hl
    subst hv
    rw [run_convert_bytes_string w 22 9 5 none 0 0 Tryz.underlying22 Tryz.underlying5 Tryz.underlying9]
    rfl
  · subst hv
    refine run_convert_bytes_back w 22 9 5 ⟨g, 0, none⟩ cap l Tryz.underlying22 Tryz.underlying5 Tryz.underlying9 (fun j hj => ?_)
    refine World.ownsRow.cells h (g := g) rfl j _ ?_
    simp [Lib.byteCells, hj]


end Go.Proofs.YthljlkngmfbeoaaGreatDoor

/- Values without quotes: the model's contracts of l05Blank, l05Trim, Bare. -/
namespace Go.Proofs.YthljlkngmfbeoaaGreatDoor
open Go.RowKit Go.Sort
set_option linter.unusedVariables false

theorem extract_none (s : ByteArray) (k : Nat) : s.extract k k = ByteArray.empty := by
  apply ByteArray.ext
  simp
/-- a blank at place i that isn't meant as itself -/
def blank5 (e : Bool) (s : ByteArray) (i : Nat) : Bool := if h : i < s.size then blankB s[i] && (!e || tailN (s.extract 0 i) % 2 == 0) else false
/-- where the blanks at the beginning end -/
def lead5 (s : ByteArray) : Nat → Nat
  | 0 => s.size
  | n + 1 => if h : s.size - (n + 1) < s.size then (if blankB s[s.size - (n + 1)] then lead5 s n else s.size - (n + 1)) else lead5 s n
/-- the end, without blanks that aren't meant -/
def back5 (e : Bool) (s : ByteArray) (a : Nat) : Nat → Nat
  | 0 => 0
  | b + 1 => if a < b + 1 ∧ blank5 e s b = true then back5 e s a b else b + 1
theorem back5_le (e : Bool) (s : ByteArray) (a b : Nat) : back5 e s a b ≤ b := by
  induction b with
  | zero => exact Nat.le_refl _
  | succ b ih =>
    simp only [back5]
    split <;> omega
theorem back5_ge (e : Bool) (s : ByteArray) (a b : Nat) (h : a ≤ b) : a ≤ back5 e s a b := by
  induction b with
  | zero => simp only [back5]; exact h
  | succ b ih =>
    simp only [back5]
    split
    · rename_i hc
      exact ih (by omega)
    · exact h
theorem back5_yes {e : Bool} {s : ByteArray} {a b : Nat} (h : a < b + 1) (hb : blank5 e s b = true) : back5 e s a (b + 1) = back5 e s a b := by simp only [back5]; rw [if_pos ⟨h, hb⟩]
theorem back5_no {e : Bool} {s : ByteArray} {a b : Nat} (hb : blank5 e s b = false) : back5 e s a (b + 1) = b + 1 := by simp only [back5]; rw [if_neg (fun h => by rw [hb] at h; exact absurd h.2 (by decide))]
theorem back5_end {e : Bool} {s : ByteArray} {a : Nat} : back5 e s a a = a := by
  cases a with
  | zero => rfl
  | succ a => simp only [back5]; rw [if_neg (fun h => by omega)]
def front5 (s : ByteArray) : Nat := (s.data.toList.takeWhile blankB).length
theorem front5_le (s : ByteArray) : front5 s ≤ s.size := by
  unfold front5
  rw [Lib.size_eq]
  exact (List.takeWhile_sublist _).length_le
/-- trimmed, but for blanks that are meant -/
def trim5 (e : Bool) (s : ByteArray) : ByteArray := s.extract (front5 s) (back5 e s (front5 s) s.size)
theorem trim5_size (e : Bool) (s : ByteArray) : (trim5 e s).size ≤ s.size := by
  unfold trim5
  rw [ByteArray.size_extract]
  have := back5_le e s (front5 s) s.size
  omega

theorem takeWhile_at (p : UInt8 → Bool) : ∀ (l : List UInt8) (n : Nat), n ≤ l.length → (∀ j (h : j < l.length), j < n → p l[j] = true) → (∀ h : n < l.length, p l[n] = false) → (l.takeWhile p).length = n := by
  intro l
  induction l with
  | nil => intro n hn _ _; simp at hn; subst hn; rfl
  | cons c t ih =>
    intro n hn h1 h2
    cases n with
    | zero =>
      have := h2 (by simp)
      simp at this
      simp [this]
    | succ n =>
      have hc : p c = true := h1 0 (by simp) (by omega)
      rw [List.takeWhile_cons_of_pos hc]
      have := ih n (by simpa using hn) (fun j h hj => by have := h1 (j + 1) (by simpa using h) (by omega); simpa using this) (fun h => by have := h2 (by simpa using h); simpa using this)
      simp [this]

/-- the cells of a Dialect that a call has laid for itself -/
def DialAt (w : World) (b : Nat) (d : DialectD) : Prop := w.heap[b]? = some (.cells #[.string d.notes, .string d.seps, .bool d.inl, .bool d.quo, .bool d.esc, .int .i64 d.join] 88 (0, 0))
theorem dialAt_new (w : World) (d : DialectD) : DialAt (w.alloc (.cells #[.string d.notes, .string d.seps, .bool d.inl, .bool d.quo, .bool d.esc, .int .i64 d.join] 88)) w.heap.size d := heap_alloc_new _ _
theorem DialAt.over {w w' : World} {b B : Nat} {d : DialectD} (h : DialAt w b d) (hb : Below B w w') (hB : b < B) : DialAt w' b d := by
  unfold DialAt at *
  rw [hb.block b hB]
  exact h
theorem DialAt.cells {w : World} {b : Nat} {d : DialectD} (h : DialAt w b d) : w.cell? ⟨b, 0, none⟩ = some (.string d.notes) ∧ w.cell? ⟨b, 1, none⟩ = some (.string d.seps) ∧ w.cell? ⟨b, 2, none⟩ = some (.bool d.inl) ∧ w.cell? ⟨b, 3, none⟩ = some (.bool d.quo) ∧ w.cell? ⟨b, 4, none⟩ = some (.bool d.esc) ∧ w.cell? ⟨b, 5, none⟩ = some (.int .i64 d.join) := by
  unfold DialAt at h
  refine ⟨?_, ?_, ?_, ?_, ?_, ?_⟩ <;> (rw [Lib.cell_of_heap h]; rfl)

theorem findIdx_range (p : Nat → Bool) (n i : Nat) (hi : i ≤ n) (h1 : ∀ j, j < i → p j = false) (h2 : i < n → p i = true) : (List.range n).findIdx p = i := by
  by_cases h : i < n
  · have hl : i < (List.range n).length := by simpa using h
    rw [List.findIdx_eq hl]
    refine ⟨by simpa using h2 h, fun j hj => by simpa using h1 j hj⟩
  · obtain rfl : i = n := by omega
    have : (List.range i).findIdx p = (List.range i).length := by
      rw [List.findIdx_eq_length]
      intro x hx
      exact h1 x (by simpa using hx)
    simpa using this
/-- a note begins at place i -/
def note5 (d : DialectD) (s : ByteArray) (i : Nat) : Bool := if h : 1 ≤ i ∧ i < s.size then hasB d.notes (s[i]'h.2) && blank5 d.esc s (i - 1) else false
/-- where a value without quotes ends -/
def cut5 (d : DialectD) (s : ByteArray) : Nat := if d.inl then (List.range s.size).findIdx (note5 d s) else s.size
/-- what Bare answers -/
def bareT (d : DialectD) (s : ByteArray) : ByteArray × Bool := unT d.esc (trim5 d.esc (s.extract 0 (cut5 d s)))
theorem extract_all (s : ByteArray) : s.extract 0 s.size = s := by
  apply ByteArray.ext
  rw [ByteArray.data_extract]
  show s.data.extract 0 s.data.size = s.data
  simp
theorem bareT_size (d : DialectD) (s : ByteArray) : (bareT d s).1.size ≤ s.size := by
  unfold bareT
  refine Nat.le_trans (unT_size _ _) (Nat.le_trans (trim5_size _ _) ?_)
  rw [ByteArray.size_extract]
  omega

end Go.Proofs.YthljlkngmfbeoaaGreatDoor

/- Values between quotes: the model's contracts of l05Behind, Quoted. -/
namespace Go.Proofs.YthljlkngmfbeoaaGreatDoor
open Go.RowKit Go.Sort
set_option linter.unusedVariables false

/-- a text trimmed -/
def trimT (s : ByteArray) : ByteArray := ⟨(trimL s.data.toList).toArray⟩
theorem trimS_len (l m : List UInt8) : (Lib.trimS l m).length ≤ l.length := by
  unfold Lib.trimS Lib.trimRightS Lib.trimLeftS
  refine Nat.le_trans (List.dropWhile_sublist _).length_le ?_
  simp only [List.length_reverse]
  have := (List.dropWhile_sublist (fun x => m.contains x) (l := l.reverse)).length_le
  rw [List.length_reverse] at this
  exact this
theorem trimT_size (s : ByteArray) : (trimT s).size ≤ s.size := by
  unfold trimT trimL
  rw [Lib.size_eq, Lib.size_eq]
  simpa using trimS_len s.data.toList [32, 9]
/-- what may stand behind something that is closed -/
def behind5 (d : DialectD) (s : ByteArray) : Bool := if h : 0 < (trimT s).size then d.inl && (if h2 : 0 < s.size then blankB s[0] else false) && hasB d.notes (trimT s)[0] else true
theorem text_none (x : ByteArray) (h : x.size = 0) : (x.toList == []) = true ∧ x.toList.isEmpty = true := by
  have : x.toList = [] := by
    rw [Lib.toList_data]
    apply List.eq_nil_of_length_eq_zero
    rw [← Lib.size_eq]
    exact h
  rw [this]
  exact ⟨rfl, rfl⟩
theorem text_some (x : ByteArray) (h : 0 < x.size) : (x.toList == []) = false ∧ x.toList.isEmpty = false := by
  rw [Lib.toList_data]
  cases hl : x.data.toList with
  | nil =>
    have h2 := Lib.size_eq x
    rw [hl, List.length_nil] at h2
    omega
  | cons c t => exact ⟨rfl, rfl⟩

/-- a quote that closes, at place i -/
def clos5 (e : Bool) (s : ByteArray) (i : Nat) : Bool := if h : 1 ≤ i ∧ i < s.size then (s[i]'h.2) == 34 && (!e || tailN (s.extract 1 i) % 2 == 0) else false
/-- where the text between the quotes ends -/
def close5 (e : Bool) (s : ByteArray) : Nat := (List.range s.size).findIdx (clos5 e s)
/-- begins with a quote -/
def opens (s : ByteArray) : Bool := if h : 0 < s.size then s[0] == 34 else false
/-- what Quoted answers -/
def quotT (d : DialectD) (s : ByteArray) : ByteArray × Bool :=
  if opens s = true ∧ close5 d.esc s < s.size then (if behind5 d (s.extract (close5 d.esc s + 1) s.size) then unT d.esc (s.extract 1 (close5 d.esc s)) else (⟨#[]⟩, false)) else (⟨#[]⟩, false)

end Go.Proofs.YthljlkngmfbeoaaGreatDoor
