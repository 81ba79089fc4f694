/- Results that lie in a cell and in slots; a cell of a block turned. -/
import Derived.Test.YthljlkngmfbeoaaDoorProg
import Derived.WalkKit
import Derived.WalkLawsBesides
import Derived.Laws.IdiomStrings
import Derived.Test.YthljlkngmfbeoaaDoorPlain
import Derived.Test.YthljlkngmfbeoaaDoorTrim
import Derived.BigQuiet
import Derived.Deep.QuietTactic
import Derived.Lib.QuietBelow
import Derived.Lib.Hide
import Derived.IntWalk
import Derived.Test.YthljlkngmfbeoaaDoorCut
import Derived.OwnWalk
import Derived.Lib.AppendStr
import Derived.Test.YthljlkngmfbeoaaDoorTail
import Derived.Test.YthljlkngmfbeoaaDoorLines
import Derived.Test.YthljlkngmfbeoaaDoorSplitSpec
import Derived.Test.YthljlkngmfbeoaaDoorJoin
import Derived.Test.YthljlkngmfbeoaaDoorRecRows
namespace Go.Proofs.YthljlkngmfbeoaaDoor
open Go.RowKit
set_option linter.unusedVariables false

theorem results_cell2 {P : Program} {fn : Func} {p u v : Tmp} {ty : TypeId} (h : fn.results = #[.cell p ty, .tmp u, .tmp v]) (tmps : Array Value) (w : World) (g : Nat) (t : TypeId) (cs : Array Value) (fr : Nat × Nat) (d : TypeDesc)
    (hp : tmps.getD p undef = .pointer (some ⟨g, 0, none⟩)) (hg : w.heap[g]? = some (.cells cs t fr))
    (hu : P.underlying ty = some d) (hd : (match d with | .struct _ | .array _ _ => true | _ => false) = true) (hi : (P.info? ty).map (·.size) = some cs.size) :
    (results fn tmps).run P w = .ok (.tuple #[.agg cs, tmps.getD u undef, tmps.getD v undef]) w := by
  have hp' : tmps[p]?.getD undef = .pointer (some ⟨g, 0, none⟩) := by simpa using hp
  simp [results, h, hp', asAddr, run_loadVar_row w g t ty cs fr d hg hu hd hi]
theorem results_cell1 {P : Program} {fn : Func} {p u : Tmp} {ty : TypeId} (h : fn.results = #[.cell p ty, .tmp u]) (tmps : Array Value) (w : World) (g : Nat) (t : TypeId) (cs : Array Value) (fr : Nat × Nat) (d : TypeDesc)
    (hp : tmps.getD p undef = .pointer (some ⟨g, 0, none⟩)) (hg : w.heap[g]? = some (.cells cs t fr))
    (hu : P.underlying ty = some d) (hd : (match d with | .struct _ | .array _ _ => true | _ => false) = true) (hi : (P.info? ty).map (·.size) = some cs.size) :
    (results fn tmps).run P w = .ok (.tuple #[.agg cs, tmps.getD u undef]) w := by
  have hp' : tmps[p]?.getD undef = .pointer (some ⟨g, 0, none⟩) := by simpa using hp
  simp [results, h, hp', asAddr, run_loadVar_row w g t ty cs fr d hg hu hd hi]

theorem set_cellR (W : World) (g j : Nat) (cs : Array Value) (t : TypeId) (fr : Nat × Nat) (v : Value) (h : W.heap[g]? = some (.cells cs t fr)) : (W.setCell ⟨g, j, none⟩ v).heap[g]? = some (.cells (cs.setIfInBounds j v) t fr) := by
  obtain ⟨hlt, he⟩ := Array.getElem?_eq_some_iff.1 h
  simp [World.setCell, h, hlt, Array.getElem_modify, he]

end Go.Proofs.YthljlkngmfbeoaaDoor

/- Environment files: leading blanks, names. The model's l08Lead, l01Letter, l01Digit, NameOk. -/
set_option maxRecDepth 100000
namespace Go.Proofs.YthljlkngmfbeoaaDoor
open Go.RowKit Go.Sort
set_option linter.unusedVariables false
set_option linter.unusedSimpArgs false

theorem text_noneE (x : ByteArray) (h : x.size = 0) : (x.toList == []) = true ∧ x.toList.isEmpty = true := by
  have : x.toList = [] := by
    rw [Lib.toList_data]
    apply List.eq_nil_of_length_eq_zero
    rw [← Lib.size_eq]
    exact h
  rw [this]
  exact ⟨rfl, rfl⟩
theorem text_someE (x : ByteArray) (h : 0 < x.size) : (x.toList == []) = false ∧ x.toList.isEmpty = false := by
  rw [Lib.toList_data]
  cases hl : x.data.toList with
  | nil =>
    have h2 := Lib.size_eq x
    rw [hl, List.length_nil] at h2
    omega
  | cons c t => exact ⟨rfl, rfl⟩
theorem head_tailE (z : ByteArray) (h : 0 < z.size) : z.data.toList = z[0] :: (z.extract 1 z.size).data.toList := by
  have hl : 0 < z.data.toList.length := by rw [← Lib.size_eq]; exact h
  have h1 : (z.extract 1 z.size).data.toList = z.data.toList.drop 1 := by
    rw [Lib.extract_eq]
    simp only [Lib.size_eq]
    rw [List.take_of_length_le (by simp)]
  rw [h1]
  conv => lhs; rw [← List.drop_zero (l := z.data.toList), List.drop_eq_getElem_cons hl]
  rfl
/-- a text without the gaps at its beginning -/
def leadE (s : ByteArray) : ByteArray := ⟨(s.data.toList.dropWhile blankB).toArray⟩
theorem leadE_none (z : ByteArray) (h : z.size = 0) : leadE z = z := by
  have : z.data.toList = [] := by apply List.eq_nil_of_length_eq_zero; rw [← Lib.size_eq]; exact h
  apply ByteArray.ext
  apply Array.toList_inj.1
  show z.data.toList.dropWhile blankB = z.data.toList
  rw [this]
  rfl
theorem leadE_here (z : ByteArray) (h : 0 < z.size) (hb : blankB z[0] = false) : leadE z = z := by
  apply ByteArray.ext
  apply Array.toList_inj.1
  show z.data.toList.dropWhile blankB = z.data.toList
  rw [head_tailE z h, List.dropWhile_cons_of_neg (by simp [hb])]
theorem leadE_on (z : ByteArray) (h : 0 < z.size) (hb : blankB z[0] = true) : leadE (z.extract 1 z.size) = leadE z := by
  apply ByteArray.ext
  apply Array.toList_inj.1
  show (z.extract 1 z.size).data.toList.dropWhile blankB = z.data.toList.dropWhile blankB
  rw [head_tailE z h, List.dropWhile_cons_of_pos hb]
theorem leadE_size (z : ByteArray) : (leadE z).size ≤ z.size := by
  rw [Lib.size_eq, Lib.size_eq]
  exact (List.dropWhile_sublist _).length_le
def textLenE (v : Value) : Nat := match v with | .string z => z.size | _ => 0
/-- letters and digits -/
def letterB (c : UInt8) : Bool := (decide (65 ≤ (c.toNat : Int)) && decide ((c.toNat : Int) ≤ 90)) || (decide (97 ≤ (c.toNat : Int)) && decide ((c.toNat : Int) ≤ 122))
def digitB (c : UInt8) : Bool := decide (48 ≤ (c.toNat : Int)) && decide ((c.toNat : Int) ≤ 57)
/-- a name's bytes, from a place on -/
def nameAt (s : ByteArray) (k : Nat) : Bool := if h : k < s.size then letterB s[k] || s[k] == 95 || (decide (0 < k) && digitB s[k]) else true
def nameTo (s : ByteArray) : Nat → Bool
  | 0 => true
  | k + 1 => nameTo s k && nameAt s k
theorem nameTo_false {s : ByteArray} {k : Nat} (h : nameTo s (k + 1) = false) : ∀ m, k + 1 ≤ m → nameTo s m = false := by
  intro m hm
  induction m with
  | zero => omega
  | succ m ih =>
    by_cases e : m = k
    · rw [e]; exact h
    · show (nameTo s m && nameAt s m) = false
      rw [ih (by omega)]; rfl
/-- is it a name -/
def nameB (s : ByteArray) : Bool := nameTo s s.size && (decide (1 ≤ (s.size : Int)) && decide ((s.size : Int) ≤ 40))
end Go.Proofs.YthljlkngmfbeoaaDoor

/- Environment files: a text as a template. The model's Plain. -/
set_option maxRecDepth 100000
namespace Go.Proofs.YthljlkngmfbeoaaDoor
open Go.RowKit
set_option linter.unusedVariables false

theorem byte_isE {c d : UInt8} (h : c = d) : ((c.toNat : Int) == (d.toNat : Int)) = true := by rw [h]; simp
theorem byte_noE {c d : UInt8} (h : c ≠ d) : ((c.toNat : Int) == (d.toNat : Int)) = false := by
  rw [beq_eq_false_iff_ne]; intro e; exact h (UInt8.toNat_inj.1 (Int.ofNat_inj.1 e))
theorem byte_isE' {c d : UInt8} (h : c = d) : ((c.toNat : Int) != (d.toNat : Int)) = false := by rw [h]; simp
theorem byte_noE' {c d : UInt8} (h : c ≠ d) : ((c.toNat : Int) != (d.toNat : Int)) = true := by
  rw [bne_iff_ne]; intro e; exact h (UInt8.toNat_inj.1 (Int.ofNat_inj.1 e))
theorem own_blockE {w : World} {base e size n : Nat} {v : Value} {xs : List Value} (h : w.ownsRow base e size v n xs) : ∀ j, v.ownBlock = some j → base ≤ j := by
  intro j hj
  rcases h.2 with ⟨rfl, h0⟩ | ⟨g, cap, cur, rfl, hb, hg, hnc, hcm, hcs, htake⟩
  · cases hj
  · simp only [Value.ownBlock] at hj; cases hj; exact hb
theorem cell_one_newV (w : World) (v : Value) (t : Nat) : ∀ j u, [v][j]? = some u → (w.alloc (.cells #[v] t)).cell? ((⟨w.heap.size, 0, none⟩ : Addr).add j) = some u := by
  intro j u hu
  cases j with
  | zero =>
    have ha : (⟨w.heap.size, 0, none⟩ : Addr).add 0 = ⟨w.heap.size, 0, none⟩ := by unfold Addr.add; split <;> simp_all
    rw [ha, Lib.cell_of_heap (heap_alloc_new _ _)]
    simpa using hu
  | succ j => simp at hu
theorem cell_two_newV (w : World) (x y : Value) (t : TypeId) : ∀ j u, [x, y][j]? = some u → (w.alloc (.cells #[x, y] t)).cell? ((⟨w.heap.size, 0, none⟩ : Addr).add j) = some u := by
  intro j u hu
  have ha : ∀ j, (⟨w.heap.size, 0, none⟩ : Addr).add j = ⟨w.heap.size, j, none⟩ := by intro j; unfold Addr.add; split <;> simp_all
  rw [ha, Lib.cell_of_heap (heap_alloc_new _ _)]
  match j, hu with
  | 0, hu => simpa using hu
  | 1, hu => simpa using hu
  | j + 2, hu => simp at hu
theorem own_stepV {B B0 : Nat} {w wr w1 : World} {t : Nat} {v v' : Value} {l m : List UInt8} {n : Nat} {cs : List Value} {o : Obj} (hb : Below B0 w wr) (hBw : B0 ≤ B) (hB0 : B0 ≤ wr.heap.size) (hown : wr.ownsRow B t 1 v l.length (Lib.byteCells l))
    (hown' : w1.ownsRow B t 1 v' (l.length + n) (Lib.byteCells l ++ cs)) (hg : (wr.alloc o).grownBy w1 v.ownBlock) (hn : m.length = n := by rfl) (hm : Lib.byteCells m = cs := by rfl) :
    w1.ownsRow B t 1 v' (l ++ m).length (Lib.byteCells (l ++ m)) ∧ Below B0 w w1 := by
  subst hn
  subst hm
  refine ⟨by simpa [Lib.byteCells] using hown', ?_⟩
  exact (hb.alloc hB0 o).grown hg (by simp; omega) (fun j hj => Nat.le_trans hBw (own_blockE hown j hj))
theorem info_byteV : (Tryd.prog.info? 5).map (fun i => (i.zero, i.size, i.bytes)) = some (some (.int .u8 0), 1, 1) := by kernel_rfl
theorem text_of_ownV (w : World) (base n : Nat) (v : Value) (l : List UInt8) (h : w.ownsRow base 5 1 v n (Lib.byteCells l)) (hn : n = l.length) :
    (convert 22 9 v).run Tryd.prog w = .ok (.string ⟨l.toArray⟩) w := by
  subst hn
  rcases h.2 with ⟨hv, h0⟩ | ⟨g, cap, cur, hv, hb, hg, hnc, hcm, hcs, htake⟩
  · have hl : l = [] := List.eq_nil_of_length_eq_zero h0
    subst hl
    subst hv
    rw [run_convert_bytes_string w 22 9 5 none 0 0 Tryd.underlying22 Tryd.underlying5 Tryd.underlying9]
    rfl
  · subst hv
    refine run_convert_bytes_back w 22 9 5 ⟨g, 0, none⟩ cap l Tryd.underlying22 Tryd.underlying5 Tryd.underlying9 (fun j hj => ?_)
    refine World.ownsRow.cells h (g := g) rfl j _ ?_
    simp [Lib.byteCells, hj]

/-- a byte in a template -/
def plainC (c : UInt8) : List UInt8 := if c = 36 then [c, 36] else [c]
def plainL (l : List UInt8) : List UInt8 := l.flatMap plainC
def plainT (s : ByteArray) : ByteArray := ⟨(plainL s.data.toList).toArray⟩
theorem plainC_len (c : UInt8) : (plainC c).length ≤ 2 := by
  unfold plainC
  split <;> simp
theorem plainL_len (l : List UInt8) : (plainL l).length ≤ 2 * l.length := by
  induction l with
  | nil => simp [plainL]
  | cons c l ih =>
    have := plainC_len c
    simp only [plainL, List.flatMap_cons, List.length_append, List.length_cons] at ih ⊢
    omega
theorem plainT_size (s : ByteArray) : (plainT s).size ≤ 2 * s.size := by
  have := plainL_len s.data.toList
  rw [← Lib.size_eq] at this
  rw [Lib.size_eq]
  simpa [plainT] using this
theorem plainL_succ (s : ByteArray) (k : Nat) (h : k < s.size) : plainL (s.data.toList.take (k + 1)) = plainL (s.data.toList.take k) ++ plainC s[k] := by
  rw [Pl.take_snoc s k h]
  simp [plainL]
set_option maxHeartbeats 1600000 in
theorem plain_spec (s : ByteArray) (w : World) (hs : s.size ≤ 100000000) :
    Calls Tryd.prog 9 #[.string s] w fun e w' => e = .returned (.string (plainT s)) ∧ Below w.heap.size w w' := by
  obtain ⟨i0, hi, hz0, hz1, hz2⟩ := info_parts info_byteV
  have HSL := Lib.hid (Lib.size_eq s)
  have HR : Hid (plainT s = ⟨(plainL s.data.toList).toArray⟩) := rfl
  generalize plainT s = r at *
  go_enter Tryd.func9, Tryd.ntmps9
  go_wp2
  go_loopw [3, 4] (fun v i wr => ∃ (k : Nat) (l : List UInt8), k ≤ s.size ∧ i = .int .i64 k ∧ l.length ≤ 2 * k ∧ Hid (l = plainL (s.data.toList.take k)) ∧ wr.ownsRow w.heap.size 5 1 v l.length (Lib.byteCells l) ∧ Below w.heap.size w wr) (fun _ i _ => s.size - (intOf i).toNat)
  case atStart => exact ⟨0, [], Nat.zero_le _, rfl, Nat.le_refl _, rfl, World.ownsRow_lit w #[] 0 (Nat.le_refl _) (Nat.zero_le _) rfl, (Below.refl _ _).alloc (Nat.le_refl _) _⟩
  case round =>
    obtain ⟨k, l, hk, rfl, hl, hat, hown, hb⟩ := hrel
    have hwr := hb.size
    by_cases hlt : k < s.size
    · have hki : (k : Int) < (s.size : Int) := by omega
      have HA : Hid (∀ m, plainC s[k] = m → l ++ m = plainL (s.data.toList.take (k + 1))) := fun m h => by rw [plainL_succ s k hlt, ← h, ← hat.out]
      by_cases q : s[k] = 36
      · have e1 : ((s[k].toNat : Int) == 36) = true := byte_isE (d := 36) q
        have hat2 := Lib.hid (HA.out [s[k], 36] (by unfold plainC; rw [if_pos q]))
        clear HA q hat
        go_wp2_with (first
          | (at_builtin; refine wpList_append_own _ rfl _ _ 22 rfl w.heap.size 5 i0 (.int .u8 0) 1 1 Tryd.underlying22 hi hz0 hz1 hz2 rfl (by decide) _ _ _ rfl (hown.alloc _) ⟨wr.heap.size, 0, none⟩ 1 1 [.int .u8 (s[k].toNat : Int)] rfl rfl (cell_one_newV _ _ _) (by simp [Value.oneCell']) (by unfold maxLen; omega) (by omega) (by simp; omega) ?_; intro v1 w1 hown' hgrow _; obtain ⟨ho2, hb2⟩ := own_stepV (m := [s[k]]) hb (Nat.le_refl _) hwr hown hown' hgrow; have hw2 : w.heap.size ≤ w1.heap.size := hb2.size; clear hown' hgrow hown hb; have hl1 : (l ++ [s[k]]).length ≤ 2 * k + 1 := (by simp; omega); have hl2 : Hid (l ++ [s[k], 36] = (l ++ [s[k]]) ++ [36]) := (by unfold Hid; simp); generalize l ++ [s[k]] = l1 at *)
          | (at_builtin; refine wpList_append_own _ rfl _ _ 22 rfl w.heap.size 5 i0 (.int .u8 0) 1 1 Tryd.underlying22 hi hz0 hz1 hz2 rfl (by decide) _ _ _ rfl (ho2.alloc _) ⟨w1.heap.size, 0, none⟩ 1 1 [.int .u8 36] rfl rfl (cell_one_newV _ _ _) (by simp [Value.oneCell']) (by unfold maxLen; omega) (by omega) (by simp; omega) ?_; intro v2 w2 hown' hgrow _; obtain ⟨ho3, hb3⟩ := own_stepV (m := [36]) hb2 (Nat.le_refl _) hw2 ho2 hown' hgrow; clear hown' hgrow ho2 hb2))
        go_wp2
        go_roundw
        case rel => exact ⟨k + 1, l1 ++ [36], by omega, by go_num, by simp; omega, by rw [← hl2.out]; exact hat2, ho3, hb3⟩
        case measure => simp [intOf]; omega
      · have e1 : ((s[k].toNat : Int) == 36) = false := byte_noE (d := 36) q
        have hat2 := Lib.hid (HA.out [s[k]] (by unfold plainC; rw [if_neg q]))
        clear HA q hat
        go_wp2_with (at_builtin; refine wpList_append_own _ rfl _ _ 22 rfl w.heap.size 5 i0 (.int .u8 0) 1 1 Tryd.underlying22 hi hz0 hz1 hz2 rfl (by decide) _ _ _ rfl (hown.alloc _) ⟨wr.heap.size, 0, none⟩ 1 1 [.int .u8 (s[k].toNat : Int)] rfl rfl (cell_one_newV _ _ _) (by simp [Value.oneCell']) (by unfold maxLen; omega) (by omega) (by simp; omega) ?_; intro v1 w1 hown' hgrow _)
        obtain ⟨ho2, hb2⟩ := own_stepV (m := [s[k]]) hb (Nat.le_refl _) hwr hown hown' hgrow
        clear hown' hgrow hown hb
        go_wp2
        go_roundw
        case rel => exact ⟨k + 1, l ++ [s[k]], by omega, by go_num, by simp; omega, hat2, ho2, hb2⟩
        case measure => simp [intOf]; omega
    · obtain rfl : k = s.size := by omega
      have hcv := text_of_ownV wr _ _ _ l hown rfl
      have HF : Hid (r = ⟨l.toArray⟩) := by unfold Hid; rw [HR.out, hat.out, HSL.out, List.take_length]
      clear hat hown HR
      go_wp2
      go_ret
      exact ⟨by rw [HF.out]; rfl, hb⟩

end Go.Proofs.YthljlkngmfbeoaaDoor

/- Environment files: values without quotes, where a quote closes, what may stand behind it. The model's l08Behind, l08Bare, l08Close. -/
set_option maxRecDepth 100000
namespace Go.Proofs.YthljlkngmfbeoaaDoor
open Go.RowKit Go.Sort
set_option linter.unusedVariables false

/-- a text trimmed -/
def trimE (s : ByteArray) : ByteArray := ⟨(trimL s.data.toList).toArray⟩
theorem trimS_lenE (l m : List UInt8) : (Lib.trimS l m).length ≤ l.length := by
  unfold Lib.trimS Lib.trimRightS Lib.trimLeftS
  refine Nat.le_trans (List.dropWhile_sublist _).length_le ?_
  simp only [List.length_reverse]
  have := (List.dropWhile_sublist (fun x => m.contains x) (l := l.reverse)).length_le
  rw [List.length_reverse] at this
  exact this
theorem trimE_size (s : ByteArray) : (trimE s).size ≤ s.size := by
  unfold trimE trimL
  rw [Lib.size_eq, Lib.size_eq]
  simpa using trimS_lenE s.data.toList [32, 9]
/-- what may stand behind a quote that closes -/
def behindE (s : ByteArray) : Bool := if h : 0 < (trimE s).size then (if h2 : 0 < s.size then blankB s[0] else false) && (trimE s)[0] == 35 else true
theorem findIdx_rangeE (p : Nat → Bool) (n i : Nat) (hi : i ≤ n) (h1 : ∀ j, j < i → p j = false) (h2 : i < n → p i = true) : (List.range n).findIdx p = i := by
  by_cases h : i < n
  · have hl : i < (List.range n).length := by simpa using h
    rw [List.findIdx_eq hl]
    refine ⟨by simpa using h2 h, fun j hj => by simpa using h1 j hj⟩
  · obtain rfl : i = n := by omega
    have : (List.range i).findIdx p = (List.range i).length := by
      rw [List.findIdx_eq_length]
      intro x hx
      exact h1 x (by simpa using hx)
    simpa using this
theorem extract_allE (s : ByteArray) : s.extract 0 s.size = s := by
  apply ByteArray.ext
  rw [ByteArray.data_extract]
  show s.data.extract 0 s.data.size = s.data
  simp
/-- a note begins at place i -/
def noteE (s : ByteArray) (i : Nat) : Bool := if h : i < s.size then s[i] == 35 && (i == 0 || blankB (s[i - 1]'(by omega))) else false
/-- where a value without quotes ends -/
def cutE (s : ByteArray) : Nat := (List.range s.size).findIdx (noteE s)
/-- a value without quotes; whether it is one -/
def bareE (s : ByteArray) : ByteArray × Bool := (trimE (s.extract 0 (cutE s)), !hasB (trimE (s.extract 0 (cutE s))) 39 && !hasB (trimE (s.extract 0 (cutE s))) 34)
theorem bareE_size (s : ByteArray) : (bareE s).1.size ≤ s.size := by
  refine Nat.le_trans (trimE_size _) ?_
  rw [ByteArray.size_extract]
  omega
/-- a quote that closes, at place i -/
def closE (s : ByteArray) (i : Nat) : Bool := if h : 1 ≤ i ∧ i < s.size then (s[i]'h.2) == (s[0]'(by omega)) && ((s[0]'(by omega)) == 39 || tailN (s.extract 1 i) % 2 == 0) else false
def closN (s : ByteArray) : Nat := (List.range s.size).findIdx (closE s)
/-- where a quote closes -/
def closeE (s : ByteArray) : Int := if closN s < s.size then (closN s : Int) else -1
end Go.Proofs.YthljlkngmfbeoaaDoor

/- Environment files: what stands between double quotes, as a template. The model's l08Double. -/
set_option maxRecDepth 100000
namespace Go.Proofs.YthljlkngmfbeoaaDoor
open Go.RowKit
set_option linter.unusedVariables false

/-- what a backslash and a byte are -/
def doubC (d : UInt8) : List UInt8 := if d = 110 then [10] else if d = 116 then [9] else if d = 114 then [13] else if d = 92 then [d] else if d = 34 then [d] else if d = 36 then [36, 36] else [92, d]
theorem doubC_len (d : UInt8) : (doubC d).length ≤ 2 := by
  unfold doubC
  repeat' split
  all_goals simp
/-- what stands between double quotes -/
def doubL : List UInt8 → List UInt8
  | [] => []
  | [c] => [c]
  | c :: d :: t => if c = 92 then doubC d ++ doubL t else c :: doubL (d :: t)
theorem doubL_byte (c : UInt8) (t : List UInt8) (h : c ≠ 92 ∨ t = []) : doubL (c :: t) = c :: doubL t := by
  cases t with
  | nil => simp [doubL]
  | cons d t =>
    have hc : c ≠ 92 := by
      rcases h with h | h
      · exact h
      · cases h
    conv => lhs; unfold doubL
    rw [if_neg hc]
theorem doubL_esc (d : UInt8) (t : List UInt8) : doubL (92 :: d :: t) = doubC d ++ doubL t := by
  conv => lhs; unfold doubL
  rw [if_pos rfl]
theorem doubL_len : ∀ (n : Nat) (l : List UInt8), l.length ≤ n → (doubL l).length ≤ l.length
  | 0, [], _ => Nat.le_refl _
  | n + 1, [], _ => Nat.le_refl _
  | n + 1, [c], _ => by simp [doubL]
  | n + 1, c :: d :: t, h => by
    simp only [List.length_cons] at h
    by_cases hc : c = 92
    · subst hc
      rw [doubL_esc, List.length_append]
      have h1 := doubC_len d
      have h2 := doubL_len n t (by omega)
      simp only [List.length_cons]
      omega
    · rw [doubL_byte c _ (.inl hc)]
      have h2 := doubL_len n (d :: t) (by simp only [List.length_cons]; omega)
      simp only [List.length_cons] at h2 ⊢
      omega
def doubT (s : ByteArray) : ByteArray := ⟨(doubL s.data.toList).toArray⟩
theorem doubT_size (s : ByteArray) : (doubT s).size ≤ s.size := by
  have := doubL_len _ s.data.toList (Nat.le_refl _)
  rw [← Lib.size_eq] at this
  rw [Lib.size_eq]
  simpa [doubT] using this
/-- how far it has come -/
def DoubAt (L : List UInt8) (k : Nat) (acc : List UInt8) : Prop := doubL L = acc ++ doubL (L.drop k)
theorem doubAt_zero (L : List UInt8) : DoubAt L 0 [] := by unfold DoubAt; simp
theorem doubAt_byte {L : List UInt8} {k : Nat} {acc : List UInt8} {c : UInt8} {t : List UInt8} (h : DoubAt L k acc) (hd : L.drop k = c :: t) (hc : c ≠ 92 ∨ t = []) : DoubAt L (k + 1) (acc ++ [c]) := by
  unfold DoubAt at *
  have ht : L.drop (k + 1) = t := by rw [← List.drop_drop, hd]; rfl
  rw [h, hd, doubL_byte c t hc, ht]
  simp
theorem doubAt_esc {L : List UInt8} {k : Nat} {acc : List UInt8} {d : UInt8} {t : List UInt8} (h : DoubAt L k acc) (hd : L.drop k = 92 :: d :: t) : DoubAt L (k + 2) (acc ++ doubC d) := by
  unfold DoubAt at *
  have ht : L.drop (k + 2) = t := by rw [← List.drop_drop, hd]; rfl
  rw [h, hd, doubL_esc d t, ht]
  simp
theorem drop_atE (s : ByteArray) (k : Nat) (h : k < s.size) : s.data.toList.drop k = s[k] :: s.data.toList.drop (k + 1) := by
  have hl : k < s.data.toList.length := by rw [← Lib.size_eq]; exact h
  rw [List.drop_eq_getElem_cons hl]
  rfl
theorem index_nextE (s : ByteArray) (i : Nat) (h : i + 1 < s.size) (W : World) : (Instr.index 9 (.string s) (.int .i64 ((i : Int) + 1))).run Tryd.prog W = .ok (.int .u8 (s[i + 1].toNat : Int)) W := by
  rw [run_index_string (h := Tryd.underlying9)]
  have e1 : ((i : Int) + 1).toNat = i + 1 := by omega
  rw [dif_pos ⟨by omega, by omega⟩]
  simp only [e1]

end Go.Proofs.YthljlkngmfbeoaaDoor

/- Environment files: a quoted value, over lines. The model's l08Quote. -/
set_option maxRecDepth 100000
namespace Go.Proofs.YthljlkngmfbeoaaDoor
open Go.RowKit Go.Sort
set_option linter.unusedVariables false

theorem closN_pos (s : ByteArray) (h : closN s < s.size) : 1 ≤ closN s := by
  have hl : closN s < (List.range s.size).length := by simpa using h
  have h1 : closE s ((List.range s.size)[closN s]'hl) = true := List.findIdx_getElem (w := hl)
  rw [List.getElem_range] at h1
  unfold closE at h1
  split at h1
  · next h2 => exact h2.1
  · cases h1
theorem closeE_yes {s : ByteArray} (h : closN s < s.size) : closeE s = (closN s : Int) := by unfold closeE; rw [if_pos h]
theorem closeE_no {s : ByteArray} (h : ¬ closN s < s.size) : closeE s = -1 := by unfold closeE; rw [if_neg h]
/-- the text of a quoted value, over lines; how many; whether it closes -/
def quoteO (t e : ByteArray) : List Ln → Nat → ByteArray × Nat × Bool
  | [], n => (t, n, decide (closN t < t.size))
  | x :: l, n => if closN t < t.size then (t, n, true) else quoteO (t ++ e ++ x.1) x.2 l (n + 1)
theorem quoteO_stop {t e : ByteArray} (l : List Ln) (n : Nat) (h : closN t < t.size) : quoteO t e l n = (t, n, true) := by
  cases l with
  | nil => unfold quoteO; rw [decide_eq_true h]
  | cons x l => unfold quoteO; rw [if_pos h]
theorem quoteO_end {t e : ByteArray} (n : Nat) (h : ¬ closN t < t.size) : quoteO t e [] n = (t, n, false) := by unfold quoteO; rw [decide_eq_false h]
theorem quoteO_on {t e : ByteArray} (x : Ln) (l : List Ln) (n : Nat) (h : ¬ closN t < t.size) : quoteO t e (x :: l) n = quoteO (t ++ e ++ x.1) x.2 l (n + 1) := by
  conv => lhs; unfold quoteO
  rw [if_neg h]
/-- begins with an apostrophe -/
def aposB (t : ByteArray) : Bool := if h : 0 < t.size then t[0] == 39 else false
/-- what stands in it, as a template; how many lines it has, 0 where it is none -/
def quoteR (r : ByteArray × Nat × Bool) : ByteArray × Nat := if r.2.2 then (if behindE (r.1.extract (closN r.1 + 1) r.1.size) then (if aposB r.1 then plainT (r.1.extract 1 (closN r.1)) else doubT (r.1.extract 1 (closN r.1)), r.2.1) else (⟨#[]⟩, 0)) else (⟨#[]⟩, 0)
def quoteE (rest e : ByteArray) (l : List Ln) : ByteArray × Nat := quoteR (quoteO rest e l 1)

end Go.Proofs.YthljlkngmfbeoaaDoor

/- Environment files: one record. The model's l08One. -/
set_option maxRecDepth 100000
namespace Go.Proofs.YthljlkngmfbeoaaDoor
open Go.RowKit Go.Sort
set_option linter.unusedVariables false

/-- a record that is only its kind -/
def kindP (k : Int) : RecD := ⟨k, ⟨#[]⟩, ⟨#[]⟩, ⟨#[]⟩, ⟨#[]⟩, 0⟩
/-- a record that a call has laid for itself -/
def RecIn (w : World) (b : Nat) (x : RecD) : Prop := w.heap[b]? = some (.cells #[.int .i64 x.kind, .string x.raw, .string x.sect, .string x.key, .string x.value, .int .i64 x.line] 29 (0, 0))
theorem RecIn.over {w w' : World} {b B : Nat} {x : RecD} (h : RecIn w b x) (hb : Below B w w') (hB : b < B) : RecIn w' b x := by
  unfold RecIn at *
  rw [hb.block b hB]
  exact h
theorem RecIn.cells {w : World} {b : Nat} {x : RecD} (h : RecIn w b x) : w.cell? ⟨b, 0, none⟩ = some (.int .i64 x.kind) ∧ w.cell? ⟨b, 1, none⟩ = some (.string x.raw) ∧ w.cell? ⟨b, 2, none⟩ = some (.string x.sect) ∧ w.cell? ⟨b, 3, none⟩ = some (.string x.key) ∧ w.cell? ⟨b, 4, none⟩ = some (.string x.value) ∧ w.cell? ⟨b, 5, none⟩ = some (.int .i64 x.line) := by
  unfold RecIn at h
  refine ⟨?_, ?_, ?_, ?_, ?_, ?_⟩ <;> (rw [Lib.cell_of_heap h]; rfl)
theorem RecIn.free {w : World} {b : Nat} {x : RecD} (h : RecIn w b x) (j : Nat) : w.frozen? ⟨b, j, none⟩ = false := by
  unfold RecIn at h
  simp [World.frozen?, h]
theorem RecIn.put {w : World} {b : Nat} {x : RecD} (h : RecIn w b x) (y : RecD) :
    RecIn ((((((w.setCell ⟨b, 0, none⟩ (.int .i64 y.kind)).setCell ⟨b, 1, none⟩ (.string y.raw)).setCell ⟨b, 2, none⟩ (.string y.sect)).setCell ⟨b, 3, none⟩ (.string y.key)).setCell ⟨b, 4, none⟩ (.string y.value)).setCell ⟨b, 5, none⟩ (.int .i64 y.line)) b y := by
  unfold RecIn at *
  exact set_cellR _ b 5 _ _ _ (.int .i64 y.line) (set_cellR _ b 4 _ _ _ (.string y.value) (set_cellR _ b 3 _ _ _ (.string y.key) (set_cellR _ b 2 _ _ _ (.string y.sect) (set_cellR _ b 1 _ _ _ (.string y.raw) (set_cellR _ b 0 _ _ _ (.int .i64 y.kind) h)))))
theorem below_put {w W : World} {B b : Nat} (hb : Below B w W) (h : B ≤ b) (y : RecD) : Below B w ((((((W.setCell ⟨b, 0, none⟩ (.int .i64 y.kind)).setCell ⟨b, 1, none⟩ (.string y.raw)).setCell ⟨b, 2, none⟩ (.string y.sect)).setCell ⟨b, 3, none⟩ (.string y.key)).setCell ⟨b, 4, none⟩ (.string y.value)).setCell ⟨b, 5, none⟩ (.int .i64 y.line)) :=
  (((((hb.setCell (p := ⟨b, 0, none⟩) h _).setCell (p := ⟨b, 1, none⟩) h _).setCell (p := ⟨b, 2, none⟩) h _).setCell (p := ⟨b, 3, none⟩) h _).setCell (p := ⟨b, 4, none⟩) h _).setCell (p := ⟨b, 5, none⟩) h _

theorem RecIn.set {w : World} {b g j : Nat} {x : RecD} (h : RecIn w b x) (hne : b ≠ g) (v : Value) : RecIn (w.setCell ⟨g, j, none⟩ v) b x := by
  unfold RecIn at *
  rw [Below.heap_setCell _ _ _ b hne]
  exact h
/-- 'export' -/
def expB (s : ByteArray) : Bool := s.toList == [101, 120, 112, 111, 114, 116]
/-- a line without its blanks and 'export' -/
def leadX (t : ByteArray) : ByteArray := if h : 7 < t.size then (if expB (t.extract 0 6) = true ∧ blankB t[6] = true then leadE (t.extract 6 t.size) else t) else t
theorem leadX_size (t : ByteArray) : (leadX t).size ≤ t.size := by
  unfold leadX
  split
  · split
    · refine Nat.le_trans (leadE_size _) ?_
      rw [ByteArray.size_extract]
      omega
    · exact Nat.le_refl _
  · exact Nat.le_refl _
/-- at the first '=' -/
def restO (y : ByteArray) : ByteArray × ByteArray × Bool := if firstIn (hasB ⟨#[61]⟩) y < y.size then (y.extract 0 (firstIn (hasB ⟨#[61]⟩) y), y.extract (firstIn (hasB ⟨#[61]⟩) y + 1) y.size, true) else (y, ⟨#[]⟩, false)
theorem restO_res (y : ByteArray) : cutRes y (firstIn (hasB ⟨#[61]⟩) y) = .tuple #[.string (restO y).1, .string (restO y).2.1, .bool (restO y).2.2] := by
  unfold cutRes restO
  split <;> rfl
theorem restO_size (y : ByteArray) : (restO y).1.size ≤ y.size ∧ (restO y).2.1.size ≤ y.size := by
  unfold restO
  split
  · simp only [ByteArray.size_extract]; omega
  · exact ⟨Nat.le_refl _, Nat.zero_le _⟩
/-- begins with a quote -/
def quotedB (t : ByteArray) : Bool := if h : 0 < t.size then t[0] == 39 || t[0] == 34 else false
def valE (key rest e : ByteArray) (l : List Ln) : RecD × Nat :=
  if quotedB rest then (if (quoteE rest e l).2 = 0 then (kindP 4, 1) else (⟨3, ⟨#[]⟩, ⟨#[]⟩, key, (quoteE rest e l).1, 0⟩, (quoteE rest e l).2))
  else (if (bareE rest).2 then (⟨3, ⟨#[]⟩, ⟨#[]⟩, key, (bareE rest).1, 0⟩, 1) else (kindP 4, 1))
def lineE (y e : ByteArray) (l : List Ln) : RecD × Nat := if (restO y).2.2 = true ∧ nameB (trimE (restO y).1) = true then valE (trimE (restO y).1) (leadE (restO y).2.1) e l else (kindP 4, 1)
/-- the record at a line with those behind it, and how many lines it has -/
def oneE (x : Ln) (l : List Ln) : RecD × Nat :=
  if h : 0 < (trimE x.1).size then (if (trimE x.1)[0] = 35 then (kindP 1, 1) else lineE (leadX (leadE x.1)) x.2 l) else (kindP 0, 1)

end Go.Proofs.YthljlkngmfbeoaaDoor
