/- A right Dialect: the model's contract of DialectOk. -/
import Derived.Test.YtkhkpjnpjgnckaaGreatDoorProg
import Derived.Test.YtkhkpjnpjgnckaaGreatDoorPlain
import Derived.Test.YtkhkpjnpjgnckaaGreatDoorHex
import Derived.Test.YtkhkpjnpjgnckaaGreatDoorCut
import Derived.Test.YtkhkpjnpjgnckaaGreatDoorDialectRows
import Derived.WalkKit
import Derived.WalkLawsBesides
import Derived.BigQuiet
import Derived.Deep.QuietTactic
import Derived.Lib.QuietBelow
import Derived.Laws.IdiomStrings
import Derived.Lib.Hide
import Derived.IntWalk
import Derived.Test.YtkhkpjnpjgnckaaGreatDoorTrim
import Derived.OwnWalk
import Derived.Lib.AppendStr
import Derived.Test.YtkhkpjnpjgnckaaGreatDoorTail
namespace Go.Proofs.YtkhkpjnpjgnckaaGreatDoor
open Go.RowKit Go.Sort
set_option linter.unusedVariables false

/-- the byte at k is one of those, and none of those ahead -/
def ofAt (s u : ByteArray) (k : Nat) : Bool := if h : k < s.size then hasB u s[k] && !hasB (s.extract 0 k) s[k] else true
/-- so it is for the first k -/
def ofTo (s u : ByteArray) : Nat → Bool
  | 0 => true
  | k + 1 => ofTo s u k && ofAt s u k
theorem ofTo_false {s u : ByteArray} {k : Nat} (h : ofTo s u (k + 1) = false) : ∀ m, k + 1 ≤ m → ofTo s u m = false := by
  intro m hm
  induction m with
  | zero => omega
  | succ m ih =>
    by_cases e : m = k
    · subst e; exact h
    · simp only [ofTo]
      rw [ih (by omega)]
      rfl
/-- a text of some bytes of another, none twice, and not too many -/
def ofWith (s u : ByteArray) (m : Int) : Bool := ofTo s u s.size && Pl.inB s.size 1 m

set_option maxHeartbeats 1600000 in
theorem of_spec (s u : ByteArray) (m : Int) (w : World) (hs : s.size ≤ 1048576) (hu : u.size ≤ 1048576) :
    Calls Tryz.prog 25 #[.string s, .string u, .int .i64 m] w fun e w' => e = .returned (.bool (ofWith s u m)) ∧ Below w.heap.size w w' := by
  go_enter Tryz.func25, Tryz.ntmps25
  go_wp2
  go_loopw [7] (fun i wr => ∃ k : Nat, k ≤ s.size ∧ i = .int .i64 k ∧ Hid (ofTo s u k = true) ∧ Below w.heap.size w wr) (fun i _ => s.size - (intOf i).toNat)
  case atStart => exact ⟨0, Nat.zero_le _, rfl, rfl, Below.refl _ _⟩
  case round =>
    obtain ⟨k, hk, rfl, hok, hb⟩ := hrel
    by_cases hlt : k < s.size
    · have hat : ofAt s u k = (hasB u s[k] && !hasB (s.extract 0 k) s[k]) := by unfold ofAt; rw [dif_pos hlt]
      have hstep : ofTo s u (k + 1) = (hasB u s[k] && !hasB (s.extract 0 k) s[k]) := by simp only [ofTo]; rw [hok.out, hat]; rfl
      have HST := Lib.hid hstep
      clear hat hstep
      have hex : (s.extract 0 k).size ≤ maxLen := by rw [ByteArray.size_extract]; unfold maxLen; omega
      have K1 : Hid (∀ d os, Calls Tryz.prog 52 #[.string u, .int .u8 (s[k].toNat : Int)] (grow (redrawn wr d) os) fun e w' => e = .returned (.bool (hasB u s[k])) ∧ ∃ p : Regrown, w' = grow (redrawn wr p.d) p.os) := by
        intro d os
        refine Calls.regrown_of ((has_any u s[k] _ (by unfold maxLen; omega)).mono ?_)
        rintro e w' ⟨rfl, rfl⟩
        exact ⟨rfl, Below.refl _ _⟩
      have K2 : Hid (∀ d os, Calls Tryz.prog 52 #[.string (s.extract 0 k), .int .u8 (s[k].toNat : Int)] (grow (redrawn wr d) os) fun e w' => e = .returned (.bool (hasB (s.extract 0 k) s[k])) ∧ ∃ p : Regrown, w' = grow (redrawn wr p.d) p.os) := by
        intro d os
        refine Calls.regrown_of ((has_any (s.extract 0 k) s[k] _ hex).mono ?_)
        rintro e w' ⟨rfl, rfl⟩
        exact ⟨rfl, Below.refl _ _⟩
      have hkz : (k : Int) ≤ (s.size : Int) := by omega
      have hkz2 : (k : Int) < (s.size : Int) := by omega
      clear hex
      cases h1 : hasB u s[k] <;> cases h2 : hasB (s.extract 0 k) s[k] <;> rw [h1] at K1 HST <;> rw [h2] at K2 HST <;> clear h1 h2
      all_goals
        go_wp2_with fail
        refine wp_region_quiet_below (by kernel_rfl) (by kernel_rfl) ?_
        repeat (go_big_quiet_step (first | with_reducible exact K1.out _ _ | with_reducible exact K2.out _ _))
        refine wpQuiet_nil ?_
        intro _ hw'
        obtain ⟨⟨dq, osq⟩, hw''⟩ := hw'
        subst hw''
        have hb2 := hb.trans ((below_regrown wr dq osq).mono hb.size)
      · have HF : Hid (ofWith s u m = false) := by
          unfold Hid ofWith
          rw [ofTo_false (k := k) HST.out s.size (by omega)]
          rfl
        clear HST hok
        go_wp2
        go_ret
        exact ⟨by rw [HF.out]; rfl, hb2⟩
      · have HF : Hid (ofWith s u m = false) := by
          unfold Hid ofWith
          rw [ofTo_false (k := k) HST.out s.size (by omega)]
          rfl
        clear HST hok
        go_wp2
        go_ret
        exact ⟨by rw [HF.out]; rfl, hb2⟩
      · have hok2 : Hid (ofTo s u (k + 1) = true) := HST.out
        clear HST hok
        go_wp2
        go_roundw
        case rel => exact ⟨k + 1, by omega, by go_num, hok2, hb2⟩
        case measure => simp [intOf]; omega
      · have HF : Hid (ofWith s u m = false) := by
          unfold Hid ofWith
          rw [ofTo_false (k := k) HST.out s.size (by omega)]
          rfl
        clear HST hok
        go_wp2
        go_ret
        exact ⟨by rw [HF.out]; rfl, hb2⟩
    · obtain rfl : k = s.size := by omega
      have HF : Hid (ofWith s u m = Pl.inB s.size 1 m) := by unfold Hid ofWith; rw [hok.out]; rfl
      clear hok
      go_wp2_with fail
      refine (in_any _ _ _ _).mono ?_
      rintro e w' ⟨rfl, rfl⟩
      go_wp2
      go_ret
      exact ⟨by rw [HF.out]; rfl, hb⟩

abbrev notesB : ByteArray := ⟨#[35, 59, 33]⟩
abbrev sepsB : ByteArray := ⟨#[61, 58]⟩
/-- a right one -/
def dialOk (d : DialectD) : Bool := ofWith d.notes notesB 3 && ofWith d.seps sepsB 2 && Pl.inB d.join 0 2
theorem dialOk_size {d : DialectD} (h : dialOk d = true) : 1 ≤ d.notes.size ∧ d.notes.size ≤ 3 ∧ 1 ≤ d.seps.size ∧ d.seps.size ≤ 2 ∧ 0 ≤ d.join ∧ d.join ≤ 2 := by
  unfold dialOk ofWith at h
  simp only [Bool.and_eq_true, Pl.inB, decide_eq_true_eq] at h
  omega

set_option maxHeartbeats 1600000 in
theorem dialectOk_spec (d : DialectD) (w : World) (h1 : d.notes.size ≤ 1048576) (h2 : d.seps.size ≤ 1048576) :
    Calls Tryz.prog 10 #[dialectV d] w fun e w' => e = .returned (.bool (dialOk d)) ∧ Below w.heap.size w w' := by
  have K1 := Lib.hid (fun w => of_spec d.notes notesB 3 w h1 (by decide))
  have K2 := Lib.hid (fun w => of_spec d.seps sepsB 2 w h2 (by decide))
  have K3 := Lib.hid (fun w => in_any d.join 0 2 w)
  unfold dialOk
  obtain ⟨d0, d1, d2, d3, d4, d5⟩ := d
  unfold dialectV
  simp only at K1 K2 K3 ⊢
  clear h1 h2
  have hb0 := (Below.refl w.heap.size w).alloc (Nat.le_refl _) (.cells #[.string d0, .string d1, .bool d2, .bool d3, .bool d4, .int .i64 d5] 25)
  have c1 : (w.alloc (.cells #[.string d0, .string d1, .bool d2, .bool d3, .bool d4, .int .i64 d5] 25)).cell? ⟨w.heap.size, 1, none⟩ = some (.string d1) := by simp
  have c5 : (w.alloc (.cells #[.string d0, .string d1, .bool d2, .bool d3, .bool d4, .int .i64 d5] 25)).cell? ⟨w.heap.size, 5, none⟩ = some (.int .i64 d5) := by simp
  have hw0 : w.heap.size < (w.alloc (.cells #[.string d0, .string d1, .bool d2, .bool d3, .bool d4, .int .i64 d5] 25)).heap.size := by simp
  generalize ofWith d0 notesB 3 = r1 at *
  generalize ofWith d1 sepsB 2 = r2 at *
  generalize Pl.inB d5 0 2 = r3 at *
  go_enter Tryz.func10, Tryz.ntmps10
  go_wp2_with fail
  refine (K1.out _).mono ?_
  rintro e w1 ⟨rfl, hb1⟩
  have hb1' := hb0.trans (hb1.mono (by simp))
  have c1' := (hb1.cell (p := ⟨w.heap.size, 1, none⟩) hw0).trans c1
  have c5' := (hb1.cell (p := ⟨w.heap.size, 5, none⟩) hw0).trans c5
  have hw1 := Nat.lt_of_lt_of_le hw0 hb1.size
  clear hb1 hb0 c1 c5 K1 hw0
  cases r1
  · go_wp2
    go_ret
    exact ⟨rfl, hb1'⟩
  · go_wp2_with fail
    refine (K2.out _).mono ?_
    rintro e w2 ⟨rfl, hb2⟩
    have hb2' := hb1'.trans (hb2.mono hb1'.size)
    have c5'' := (hb2.cell (p := ⟨w.heap.size, 5, none⟩) hw1).trans c5'
    clear hb2 hb1' c1' c5' K2
    cases r2
    · go_wp2
      go_ret
      exact ⟨rfl, hb2'⟩
    · go_wp2_with fail
      refine (K3.out _).mono ?_
      rintro e w3 ⟨rfl, rfl⟩
      cases r3
      all_goals
        go_wp2
        go_ret
        exact ⟨rfl, hb2'⟩

end Go.Proofs.YtkhkpjnpjgnckaaGreatDoor

/- Escapes taken back: the model's contract of Unescape. -/
namespace Go.Proofs.YtkhkpjnpjgnckaaGreatDoor
open Go.RowKit
set_option linter.unusedVariables false

abbrev oddsB : ByteArray := ⟨#[91, 93, 61, 58, 35, 59, 33]⟩
/-- a byte that may stand for itself behind a byte 92 -/
def selfB (c : UInt8) : Bool := c == 92 || c == 34 || hasB oddsB c || blankB c
/-- what a byte behind a byte 92 stands for -/
def unB (c : UInt8) : Option UInt8 := if c = 110 then some 10 else if c = 116 then some 9 else if c = 114 then some 13 else if selfB c then some c else none
/-- a text with its escapes taken back -/
def unE : List UInt8 → Option (List UInt8)
  | [] => some []
  | [c] => if c = 92 then none else some [c]
  | c :: e :: t => if c = 92 then (match unB e with | some b => (unE t).map (b :: ·) | none => none) else (unE (e :: t)).map (c :: ·)
theorem unE_nil : unE [] = some [] := rfl
theorem unE_plain {c : UInt8} (t : List UInt8) (h : c ≠ 92) : unE (c :: t) = (unE t).map (c :: ·) := by
  cases t with
  | nil => simp [unE, h]
  | cons e t => simp [unE, h]
theorem unE_end : unE [92] = none := rfl
theorem unE_esc {e b : UInt8} (t : List UInt8) (h : unB e = some b) : unE (92 :: e :: t) = (unE t).map (b :: ·) := by simp [unE, h]
theorem unE_bad {e : UInt8} (t : List UInt8) (h : unB e = none) : unE (92 :: e :: t) = none := by simp [unE, h]
theorem unE_len (l : List UInt8) : ∀ m, unE l = some m → m.length ≤ l.length := by
  induction l using unE.induct with
  | case1 => intro m h; rw [unE_nil] at h; cases h; exact Nat.le_refl _
  | case2 => intro m h; rw [unE_end] at h; cases h
  | case3 c hc => intro m h; rw [unE_plain [] hc] at h; simp [unE] at h; subst h; simp
  | case4 e t b hb ih =>
    intro m h
    rw [unE_esc t hb] at h
    cases h2 : unE t with
    | none => rw [h2] at h; simp at h
    | some m2 =>
      rw [h2] at h
      simp at h
      subst h
      have := ih m2 h2
      simp
      omega
  | case5 e t hb => intro m h; rw [unE_bad t hb] at h; cases h
  | case6 c e t hc ih =>
    intro m h
    rw [unE_plain (e :: t) hc] at h
    cases h2 : unE (e :: t) with
    | none => rw [h2] at h; simp at h
    | some m2 =>
      rw [h2] at h
      simp at h
      subst h
      have := ih m2 h2
      simp at this ⊢
      omega
/-- how far it has come -/
def UnAt (all : List UInt8) (k : Nat) (l : List UInt8) : Prop := unE all = (unE (all.drop k)).map (l ++ ·)
theorem unAt_zero (all : List UInt8) : UnAt all 0 [] := by
  unfold UnAt
  rw [List.drop_zero]
  cases unE all <;> rfl
theorem unAt_plain {all : List UInt8} {k : Nat} {l : List UInt8} (h : UnAt all k l) (hk : k < all.length) (hc : all[k] ≠ 92) : UnAt all (k + 1) (l ++ [all[k]]) := by
  unfold UnAt at *
  rw [h, List.drop_eq_getElem_cons hk, unE_plain _ hc]
  cases unE (all.drop (k + 1)) with
  | none => rfl
  | some x => simp
theorem unAt_esc {all : List UInt8} {k : Nat} {l : List UInt8} {b : UInt8} (h : UnAt all k l) (hk : k + 1 < all.length) (hc : all[k] = 92) (hb : unB all[k + 1] = some b) : UnAt all (k + 2) (l ++ [b]) := by
  unfold UnAt at *
  rw [h, List.drop_eq_getElem_cons (by omega), hc, List.drop_eq_getElem_cons hk, unE_esc _ hb]
  cases unE (all.drop (k + 2)) with
  | none => rfl
  | some x => simp
theorem unAt_bad {all : List UInt8} {k : Nat} {l : List UInt8} (h : UnAt all k l) (hk : k + 1 < all.length) (hc : all[k] = 92) (hb : unB all[k + 1] = none) : unE all = none := by
  unfold UnAt at *
  rw [h, List.drop_eq_getElem_cons (by omega), hc, List.drop_eq_getElem_cons hk, unE_bad _ hb]
  rfl
theorem unAt_last {all : List UInt8} {k : Nat} {l : List UInt8} (h : UnAt all k l) (hk : k < all.length) (hk2 : all.length ≤ k + 1) (hc : all[k] = 92) : unE all = none := by
  unfold UnAt at *
  rw [h, List.drop_eq_getElem_cons hk, hc, List.drop_of_length_le hk2, unE_end]
  rfl
theorem unAt_end {all : List UInt8} {k : Nat} {l : List UInt8} (h : UnAt all k l) (hk : all.length ≤ k) : unE all = some l := by
  unfold UnAt at *
  rw [h, List.drop_of_length_le hk, unE_nil]
  simp
/-- what Unescape answers -/
def unT (e : Bool) (s : ByteArray) : ByteArray × Bool := if e then (match unE s.data.toList with | some l => (⟨l.toArray⟩, true) | none => (⟨#[]⟩, false)) else (s, true)
theorem unT_off (s : ByteArray) : unT false s = (s, true) := rfl
theorem unT_good {s : ByteArray} {l : List UInt8} (h : unE s.data.toList = some l) : unT true s = (⟨l.toArray⟩, true) := by simp [unT, h]
theorem unT_bad {s : ByteArray} (h : unE s.data.toList = none) : unT true s = (⟨#[]⟩, false) := by simp [unT, h]
theorem unT_size (e : Bool) (s : ByteArray) : (unT e s).1.size ≤ s.size := by
  cases e with
  | false => exact Nat.le_refl _
  | true =>
    cases h : unE s.data.toList with
    | none => rw [unT_bad h]; exact Nat.zero_le _
    | some l =>
      rw [unT_good h]
      have := unE_len _ l h
      rw [← Lib.size_eq] at this
      rw [Lib.size_eq]
      simpa using this

theorem byte_same (c d : UInt8) (h : c = d) : ((c.toNat : Int) == (d.toNat : Int)) = true := by rw [h]; simp
theorem byte_differ (c d : UInt8) (h : c ≠ d) : ((c.toNat : Int) == (d.toNat : Int)) = false := by
  rw [beq_eq_false_iff_ne]; intro e; exact h (UInt8.toNat_inj.1 (Int.ofNat_inj.1 e))
theorem byte_same' (c d : UInt8) (h : c = d) : ((c.toNat : Int) != (d.toNat : Int)) = false := by rw [h]; simp
theorem byte_differ' (c d : UInt8) (h : c ≠ d) : ((c.toNat : Int) != (d.toNat : Int)) = true := by
  rw [bne_iff_ne]; intro e; exact h (UInt8.toNat_inj.1 (Int.ofNat_inj.1 e))
theorem own_blockU {w : World} {base e size n : Nat} {v : Value} {xs : List Value} (h : w.ownsRow base e size v n xs) : ∀ j, v.ownBlock = some j → base ≤ j := by
  intro j hj
  rcases h.2 with ⟨rfl, h0⟩ | ⟨g, cap, cur, rfl, hb, hg, hnc, hcm, hcs, htake⟩
  · cases hj
  · simp only [Value.ownBlock] at hj; cases hj; exact hb
theorem cell_one_newU (w : World) (v : Value) (t : Nat) : ∀ j u, [v][j]? = some u → (w.alloc (.cells #[v] t)).cell? ((⟨w.heap.size, 0, none⟩ : Addr).add j) = some u := by
  intro j u hu
  cases j with
  | zero =>
    have ha : (⟨w.heap.size, 0, none⟩ : Addr).add 0 = ⟨w.heap.size, 0, none⟩ := by unfold Addr.add; split <;> simp_all
    rw [ha, Lib.cell_of_heap (heap_alloc_new _ _)]
    simpa using hu
  | succ j => simp at hu
theorem own_stepU {B : Nat} {w wr w1 : World} {t : Nat} {v v' : Value} {l : List UInt8} {c : UInt8} {o : Obj} (hb : Below w.heap.size w wr) (hBw : w.heap.size ≤ B) (hown : wr.ownsRow B t 1 v l.length (Lib.byteCells l))
    (hown' : w1.ownsRow B t 1 v' (l.length + 1) (Lib.byteCells l ++ [.int .u8 (c.toNat : Int)])) (hg : (wr.alloc o).grownBy w1 v.ownBlock) :
    w1.ownsRow B t 1 v' (l ++ [c]).length (Lib.byteCells (l ++ [c])) ∧ Below w.heap.size w w1 := by
  refine ⟨by simpa [Lib.byteCells] using hown', ?_⟩
  exact (hb.alloc hb.size o).grown hg (by have := hb.size; simp; omega) (fun j hj => Nat.le_trans hBw (own_blockU hown j hj))
theorem info_byteU : (Tryz.prog.info? 5).map (fun i => (i.zero, i.size, i.bytes)) = some (some (.int .u8 0), 1, 1) := by kernel_rfl
theorem text_of_ownU (w : World) (base n : Nat) (v : Value) (l : List UInt8) (h : w.ownsRow base 5 1 v n (Lib.byteCells l)) (hn : n = l.length) :
    (convert 22 9 v).run Tryz.prog w = .ok (.string ⟨l.toArray⟩) w := by
  subst hn
  rcases h.2 with ⟨hv, h0⟩ | ⟨g, cap, cur, hv, hb, hg, hnc, hcm, hcs, htake⟩
  · have hl : l = [] := List.eq_nil_of_length_eq_zero h0
    subst hl
    subst hv
    rw [run_convert_bytes_string w 22 9 5 none 0 0 Tryz.underlying22 Tryz.underlying5 Tryz.underlying9]
    rfl
  · subst hv
    refine run_convert_bytes_back w 22 9 5 ⟨g, 0, none⟩ cap l Tryz.underlying22 Tryz.underlying5 Tryz.underlying9 (fun j hj => ?_)
    refine World.ownsRow.cells h (g := g) rfl j _ ?_
    simp [Lib.byteCells, hj]


set_option maxRecDepth 100000 in
set_option maxHeartbeats 3200000 in
theorem unescape_spec (d : DialectD) (s : ByteArray) (w : World) (hs : s.size ≤ 100000000) :
    Calls Tryz.prog 170 #[.string s, dialectV d] w fun e w' => e = .returned (.tuple #[.string (unT d.esc s).1, .bool (unT d.esc s).2]) ∧ Below w.heap.size w w' := by
  obtain ⟨i0, hi, hz0, hz1, hz2⟩ := info_parts info_byteU
  obtain ⟨d0, d1, d2, d3, d4, d5⟩ := d
  unfold dialectV
  simp only
  have hb0 := (Below.refl w.heap.size w).alloc (Nat.le_refl _) (.cells #[.string d0, .string d1, .bool d2, .bool d3, .bool d4, .int .i64 d5] 25)
  cases d4
  · rw [unT_off]
    go_enter Tryz.func170, Tryz.ntmps170
    go_wp2
    go_ret2
    exact ⟨rfl, hb0⟩
  · have hs9 : (s.size : Int) ≤ 100000000 := by omega
    have HSL := Lib.hid (Lib.size_eq s)
    go_enter Tryz.func170, Tryz.ntmps170
    go_wp2
    go_loopw [6, 7] (fun v i wr => ∃ (k : Nat) (l : List UInt8), k ≤ s.size ∧ i = .int .i64 k ∧ l.length ≤ k ∧ Hid (UnAt s.data.toList k l) ∧ wr.ownsRow (w.heap.size + 1) 5 1 v l.length (Lib.byteCells l) ∧ Below w.heap.size w wr ∧ w.heap.size + 1 ≤ wr.heap.size) (fun _ i _ => s.size - (intOf i).toNat)
    case atStart => exact ⟨0, [], Nat.zero_le _, rfl, Nat.le_refl _, unAt_zero _, by have := World.ownsRow_lit (w.alloc (.cells #[.string d0, .string d1, .bool d2, .bool d3, .bool true, .int .i64 d5] 25)) (e := 5) (size := 1) #[] 0 (Nat.le_refl _) (Nat.zero_le _) rfl; rw [World.size_alloc] at this; exact this, hb0.alloc (by simp) _, by simp⟩
    case round =>
      obtain ⟨k, l, hk, rfl, hlk, hat, hown, hb, hw1⟩ := hrel
      clear hb0
      by_cases hlt : k < s.size
      · have hkl : k < s.data.toList.length := by rw [← HSL.out]; exact hlt
        have hget : s.data.toList[k] = s[k] := rfl
        by_cases h92 : s[k] = 92
        · have e92 : ((s[k].toNat : Int) != 92) = false := byte_same' _ 92 h92
          by_cases hlast : k + 1 < s.size
          · have hkl1 : k + 1 < s.data.toList.length := by rw [← HSL.out]; exact hlast
            have hget1 : s.data.toList[k + 1] = s[k + 1] := rfl
            have hfin : Hid (∀ b, unB s[k + 1] = some b → UnAt s.data.toList (k + 2) (l ++ [b])) := fun b hb => unAt_esc hat.out hkl1 h92 hb
            have hbad : Hid (unB s[k + 1] = none → unT true s = (⟨#[]⟩, false)) := fun h => unT_bad (unAt_bad hat.out hkl1 h92 h)
            have hkz : ((k : Int) + 1 == (s.size : Int)) = false := by rw [beq_eq_false_iff_ne]; omega
            have K1 := Lib.hid (fun w => has_any oddsB s[k + 1] w (by decide))
            have K2 := Lib.hid (fun w => blank_any s[k + 1] w)
            have hun : unB s[k + 1] = (if s[k + 1] = 110 then some 10 else if s[k + 1] = 116 then some 9 else if s[k + 1] = 114 then some 13 else if selfB s[k + 1] then some s[k + 1] else none) := rfl
            clear h92 hat hget hget1
            by_cases q1 : s[k + 1] = 110
            · have e1 : ((s[k + 1].toNat : Int) == 110) = true := byte_same _ 110 q1
              have hat2 := Lib.hid (hfin.out 10 (by rw [hun, if_pos q1]))
              clear hfin hbad hun q1 K1 K2
              go_wp2_with (at_builtin; refine wpList_append_own _ rfl _ _ 22 rfl (w.heap.size + 1) 5 i0 (.int .u8 0) 1 1 Tryz.underlying22 hi hz0 hz1 hz2 rfl (by decide) _ _ _ rfl (hown.alloc _) ⟨wr.heap.size, 0, none⟩ 1 1 [.int .u8 ((10 : UInt8).toNat : Int)] rfl rfl (cell_one_newU _ _ _) (by simp [Value.oneCell']) (by unfold maxLen; omega) (by omega) (by simp; omega) ?_; intro v' w1 hown' hgrow _)
              have hw2 : w.heap.size + 1 ≤ w1.heap.size := by have := hgrow.size; simp at this; omega
              obtain ⟨ho2, hb2⟩ := own_stepU hb (Nat.le_succ _) hown hown' hgrow
              clear hown hown' hgrow hb
              go_wp2
              go_roundw
              case rel => exact ⟨k + 2, l ++ [10], by omega, by go_num, by simp; omega, hat2, ho2, hb2, hw2⟩
              case measure => simp [intOf]; omega
            · have e1 : ((s[k + 1].toNat : Int) == 110) = false := byte_differ _ 110 q1
              by_cases q2 : s[k + 1] = 116
              · have e2 : ((s[k + 1].toNat : Int) == 116) = true := byte_same _ 116 q2
                have hat2 := Lib.hid (hfin.out 9 (by rw [hun, if_neg q1, if_pos q2]))
                clear hfin hbad hun q1 q2 K1 K2
                go_wp2_with (at_builtin; refine wpList_append_own _ rfl _ _ 22 rfl (w.heap.size + 1) 5 i0 (.int .u8 0) 1 1 Tryz.underlying22 hi hz0 hz1 hz2 rfl (by decide) _ _ _ rfl (hown.alloc _) ⟨wr.heap.size, 0, none⟩ 1 1 [.int .u8 ((9 : UInt8).toNat : Int)] rfl rfl (cell_one_newU _ _ _) (by simp [Value.oneCell']) (by unfold maxLen; omega) (by omega) (by simp; omega) ?_; intro v' w1 hown' hgrow _)
                have hw2 : w.heap.size + 1 ≤ w1.heap.size := by have := hgrow.size; simp at this; omega
                obtain ⟨ho2, hb2⟩ := own_stepU hb (Nat.le_succ _) hown hown' hgrow
                clear hown hown' hgrow hb
                go_wp2
                go_roundw
                case rel => exact ⟨k + 2, l ++ [9], by omega, by go_num, by simp; omega, hat2, ho2, hb2, hw2⟩
                case measure => simp [intOf]; omega
              · have e2 : ((s[k + 1].toNat : Int) == 116) = false := byte_differ _ 116 q2
                by_cases q3 : s[k + 1] = 114
                · have e3 : ((s[k + 1].toNat : Int) == 114) = true := byte_same _ 114 q3
                  have hat2 := Lib.hid (hfin.out 13 (by rw [hun, if_neg q1, if_neg q2, if_pos q3]))
                  clear hfin hbad hun q1 q2 q3 K1 K2
                  go_wp2_with (at_builtin; refine wpList_append_own _ rfl _ _ 22 rfl (w.heap.size + 1) 5 i0 (.int .u8 0) 1 1 Tryz.underlying22 hi hz0 hz1 hz2 rfl (by decide) _ _ _ rfl (hown.alloc _) ⟨wr.heap.size, 0, none⟩ 1 1 [.int .u8 ((13 : UInt8).toNat : Int)] rfl rfl (cell_one_newU _ _ _) (by simp [Value.oneCell']) (by unfold maxLen; omega) (by omega) (by simp; omega) ?_; intro v' w1 hown' hgrow _)
                  have hw2 : w.heap.size + 1 ≤ w1.heap.size := by have := hgrow.size; simp at this; omega
                  obtain ⟨ho2, hb2⟩ := own_stepU hb (Nat.le_succ _) hown hown' hgrow
                  clear hown hown' hgrow hb
                  go_wp2
                  go_roundw
                  case rel => exact ⟨k + 2, l ++ [13], by omega, by go_num, by simp; omega, hat2, ho2, hb2, hw2⟩
                  case measure => simp [intOf]; omega
                · have e3 : ((s[k + 1].toNat : Int) == 114) = false := byte_differ _ 114 q3
                  rw [if_neg q1, if_neg q2, if_neg q3] at hun
                  clear q1 q2 q3
                  unfold selfB at hun
                  by_cases q4 : s[k + 1] = 92
                  · have e4 : ((s[k + 1].toNat : Int) == 92) = true := byte_same _ 92 q4
                    have hat2 := Lib.hid (hfin.out s[k + 1] (by rw [hun, if_pos (by simp [q4])]))
                    clear hfin hbad hun q4 K1 K2
                    go_wp2_with (at_builtin; refine wpList_append_own _ rfl _ _ 22 rfl (w.heap.size + 1) 5 i0 (.int .u8 0) 1 1 Tryz.underlying22 hi hz0 hz1 hz2 rfl (by decide) _ _ _ rfl (hown.alloc _) ⟨wr.heap.size, 0, none⟩ 1 1 [.int .u8 ((s[k + 1] : UInt8).toNat : Int)] rfl rfl (cell_one_newU _ _ _) (by simp [Value.oneCell']) (by unfold maxLen; omega) (by omega) (by simp; omega) ?_; intro v' w1 hown' hgrow _)
                    have hw2 : w.heap.size + 1 ≤ w1.heap.size := by have := hgrow.size; simp at this; omega
                    obtain ⟨ho2, hb2⟩ := own_stepU hb (Nat.le_succ _) hown hown' hgrow
                    clear hown hown' hgrow hb
                    go_wp2
                    go_roundw
                    case rel => exact ⟨k + 2, l ++ [s[k + 1]], by omega, by go_num, by simp; omega, hat2, ho2, hb2, hw2⟩
                    case measure => simp [intOf]; omega
                  · have e4 : ((s[k + 1].toNat : Int) == 92) = false := byte_differ _ 92 q4
                    by_cases q5 : s[k + 1] = 34
                    · have e5 : ((s[k + 1].toNat : Int) == 34) = true := byte_same _ 34 q5
                      have hat2 := Lib.hid (hfin.out s[k + 1] (by rw [hun, if_pos (by simp [q5])]))
                      clear hfin hbad hun q4 q5 K1 K2
                      go_wp2_with (at_builtin; refine wpList_append_own _ rfl _ _ 22 rfl (w.heap.size + 1) 5 i0 (.int .u8 0) 1 1 Tryz.underlying22 hi hz0 hz1 hz2 rfl (by decide) _ _ _ rfl (hown.alloc _) ⟨wr.heap.size, 0, none⟩ 1 1 [.int .u8 ((s[k + 1] : UInt8).toNat : Int)] rfl rfl (cell_one_newU _ _ _) (by simp [Value.oneCell']) (by unfold maxLen; omega) (by omega) (by simp; omega) ?_; intro v' w1 hown' hgrow _)
                      have hw2 : w.heap.size + 1 ≤ w1.heap.size := by have := hgrow.size; simp at this; omega
                      obtain ⟨ho2, hb2⟩ := own_stepU hb (Nat.le_succ _) hown hown' hgrow
                      clear hown hown' hgrow hb
                      go_wp2
                      go_roundw
                      case rel => exact ⟨k + 2, l ++ [s[k + 1]], by omega, by go_num, by simp; omega, hat2, ho2, hb2, hw2⟩
                      case measure => simp [intOf]; omega
                    · have e5 : ((s[k + 1].toNat : Int) == 34) = false := byte_differ _ 34 q5
                      have b4 : (s[k + 1] == 92) = false := by simpa using q4
                      have b5 : (s[k + 1] == 34) = false := by simpa using q5
                      rw [b4, b5] at hun
                      clear q4 q5 b4 b5
                      cases r1 : hasB oddsB s[k + 1] with
                      | true =>
                        rw [r1] at K1 hun
                        have hat2 := Lib.hid (hfin.out s[k + 1] (by rw [hun]; rfl))
                        clear hfin hbad hun r1 K2
                        go_wp2_with fail
                        refine (K1.out _).mono ?_
                        rintro e w' ⟨rfl, rfl⟩
                        clear K1
                        go_wp2_with (at_builtin; refine wpList_append_own _ rfl _ _ 22 rfl (w.heap.size + 1) 5 i0 (.int .u8 0) 1 1 Tryz.underlying22 hi hz0 hz1 hz2 rfl (by decide) _ _ _ rfl (hown.alloc _) ⟨wr.heap.size, 0, none⟩ 1 1 [.int .u8 ((s[k + 1] : UInt8).toNat : Int)] rfl rfl (cell_one_newU _ _ _) (by simp [Value.oneCell']) (by unfold maxLen; omega) (by omega) (by simp; omega) ?_; intro v' w1 hown' hgrow _)
                        have hw2 : w.heap.size + 1 ≤ w1.heap.size := by have := hgrow.size; simp at this; omega
                        obtain ⟨ho2, hb2⟩ := own_stepU hb (Nat.le_succ _) hown hown' hgrow
                        clear hown hown' hgrow hb
                        go_wp2
                        go_roundw
                        case rel => exact ⟨k + 2, l ++ [s[k + 1]], by omega, by go_num, by simp; omega, hat2, ho2, hb2, hw2⟩
                        case measure => simp [intOf]; omega
                      | false =>
                        rw [r1] at K1 hun
                        cases r2 : blankB s[k + 1] with
                        | true =>
                          rw [r2] at K2 hun
                          have hat2 := Lib.hid (hfin.out s[k + 1] (by rw [hun]; rfl))
                          clear hfin hbad hun r1 r2
                          go_wp2_with fail
                          refine (K1.out _).mono ?_
                          rintro e w' ⟨rfl, rfl⟩
                          go_wp2_with fail
                          refine (K2.out _).mono ?_
                          rintro e w' ⟨rfl, rfl⟩
                          clear K1 K2
                          go_wp2_with (at_builtin; refine wpList_append_own _ rfl _ _ 22 rfl (w.heap.size + 1) 5 i0 (.int .u8 0) 1 1 Tryz.underlying22 hi hz0 hz1 hz2 rfl (by decide) _ _ _ rfl (hown.alloc _) ⟨wr.heap.size, 0, none⟩ 1 1 [.int .u8 ((s[k + 1] : UInt8).toNat : Int)] rfl rfl (cell_one_newU _ _ _) (by simp [Value.oneCell']) (by unfold maxLen; omega) (by omega) (by simp; omega) ?_; intro v' w1 hown' hgrow _)
                          have hw2 : w.heap.size + 1 ≤ w1.heap.size := by have := hgrow.size; simp at this; omega
                          obtain ⟨ho2, hb2⟩ := own_stepU hb (Nat.le_succ _) hown hown' hgrow
                          clear hown hown' hgrow hb
                          go_wp2
                          go_roundw
                          case rel => exact ⟨k + 2, l ++ [s[k + 1]], by omega, by go_num, by simp; omega, hat2, ho2, hb2, hw2⟩
                          case measure => simp [intOf]; omega
                        | false =>
                          rw [r2] at K2 hun
                          have hfin2 := Lib.hid (hbad.out (by rw [hun]; rfl))
                          clear hfin hbad hun r1 r2
                          go_wp2_with fail
                          refine (K1.out _).mono ?_
                          rintro e w' ⟨rfl, rfl⟩
                          go_wp2_with fail
                          refine (K2.out _).mono ?_
                          rintro e w' ⟨rfl, rfl⟩
                          clear K1 K2
                          go_wp2
                          go_ret2
                          exact ⟨by rw [hfin2.out]; rfl, hb⟩
          · have hfin2 := Lib.hid (unT_bad (unAt_last hat.out hkl (by rw [← HSL.out]; omega) h92))
            have hkz : ((k : Int) + 1 == (s.size : Int)) = true := by rw [beq_iff_eq]; omega
            clear hat h92
            go_wp2
            go_ret2
            exact ⟨by rw [hfin2.out]; rfl, hb⟩
        · have e92 : ((s[k].toNat : Int) != 92) = true := byte_differ' _ 92 h92
          have hat2 : Hid (UnAt s.data.toList (k + 1) (l ++ [s[k]])) := unAt_plain hat.out hkl h92
          clear hat h92 hget
          go_wp2_with (at_builtin; refine wpList_append_own _ rfl _ _ 22 rfl (w.heap.size + 1) 5 i0 (.int .u8 0) 1 1 Tryz.underlying22 hi hz0 hz1 hz2 rfl (by decide) _ _ _ rfl (hown.alloc _) ⟨wr.heap.size, 0, none⟩ 1 1 [.int .u8 (s[k].toNat : Int)] rfl rfl (cell_one_newU _ _ _) (by simp [Value.oneCell']) (by unfold maxLen; omega) (by omega) (by simp; omega) ?_; intro v' w1 hown' hgrow _)
          obtain ⟨ho2, hb2⟩ := own_stepU hb (Nat.le_succ _) hown hown' hgrow
          have hw2 : w.heap.size + 1 ≤ w1.heap.size := by have := hgrow.size; simp at this; omega
          clear hown hown' hgrow hb
          go_wp2
          go_roundw
          case rel => exact ⟨k + 1, l ++ [s[k]], by omega, by go_num, by simp; omega, hat2, ho2, hb2, hw2⟩
          case measure => simp [intOf]; omega
      · obtain rfl : k = s.size := by omega
        have hcv := text_of_ownU wr _ _ _ l hown rfl
        have hfin2 := Lib.hid (unT_good (unAt_end hat.out (by rw [← HSL.out]; exact Nat.le_refl _)))
        clear hat hown
        go_wp2
        go_ret2
        exact ⟨by rw [hfin2.out]; rfl, hb⟩

end Go.Proofs.YtkhkpjnpjgnckaaGreatDoor

/- Values without quotes: the model's contracts of l05Blank, l05Trim, Bare. -/
namespace Go.Proofs.YtkhkpjnpjgnckaaGreatDoor
open Go.RowKit Go.Sort
set_option linter.unusedVariables false

theorem extract_none (s : ByteArray) (k : Nat) : s.extract k k = ByteArray.empty := by
  apply ByteArray.ext
  simp
/-- a blank at place i that isn't meant as itself -/
def blank5 (e : Bool) (s : ByteArray) (i : Nat) : Bool := if h : i < s.size then blankB s[i] && (!e || tailN (s.extract 0 i) % 2 == 0) else false
/-- where the blanks at the beginning end -/
def lead5 (s : ByteArray) : Nat → Nat
  | 0 => s.size
  | n + 1 => if h : s.size - (n + 1) < s.size then (if blankB s[s.size - (n + 1)] then lead5 s n else s.size - (n + 1)) else lead5 s n
/-- the end, without blanks that aren't meant -/
def back5 (e : Bool) (s : ByteArray) (a : Nat) : Nat → Nat
  | 0 => 0
  | b + 1 => if a < b + 1 ∧ blank5 e s b = true then back5 e s a b else b + 1
theorem back5_le (e : Bool) (s : ByteArray) (a b : Nat) : back5 e s a b ≤ b := by
  induction b with
  | zero => exact Nat.le_refl _
  | succ b ih =>
    simp only [back5]
    split <;> omega
theorem back5_ge (e : Bool) (s : ByteArray) (a b : Nat) (h : a ≤ b) : a ≤ back5 e s a b := by
  induction b with
  | zero => simp only [back5]; exact h
  | succ b ih =>
    simp only [back5]
    split
    · rename_i hc
      exact ih (by omega)
    · exact h
theorem back5_yes {e : Bool} {s : ByteArray} {a b : Nat} (h : a < b + 1) (hb : blank5 e s b = true) : back5 e s a (b + 1) = back5 e s a b := by simp only [back5]; rw [if_pos ⟨h, hb⟩]
theorem back5_no {e : Bool} {s : ByteArray} {a b : Nat} (hb : blank5 e s b = false) : back5 e s a (b + 1) = b + 1 := by simp only [back5]; rw [if_neg (fun h => by rw [hb] at h; exact absurd h.2 (by decide))]
theorem back5_end {e : Bool} {s : ByteArray} {a : Nat} : back5 e s a a = a := by
  cases a with
  | zero => rfl
  | succ a => simp only [back5]; rw [if_neg (fun h => by omega)]
def front5 (s : ByteArray) : Nat := (s.data.toList.takeWhile blankB).length
theorem front5_le (s : ByteArray) : front5 s ≤ s.size := by
  unfold front5
  rw [Lib.size_eq]
  exact (List.takeWhile_sublist _).length_le
/-- trimmed, but for blanks that are meant -/
def trim5 (e : Bool) (s : ByteArray) : ByteArray := s.extract (front5 s) (back5 e s (front5 s) s.size)
theorem trim5_size (e : Bool) (s : ByteArray) : (trim5 e s).size ≤ s.size := by
  unfold trim5
  rw [ByteArray.size_extract]
  have := back5_le e s (front5 s) s.size
  omega

theorem takeWhile_at (p : UInt8 → Bool) : ∀ (l : List UInt8) (n : Nat), n ≤ l.length → (∀ j (h : j < l.length), j < n → p l[j] = true) → (∀ h : n < l.length, p l[n] = false) → (l.takeWhile p).length = n := by
  intro l
  induction l with
  | nil => intro n hn _ _; simp at hn; subst hn; rfl
  | cons c t ih =>
    intro n hn h1 h2
    cases n with
    | zero =>
      have := h2 (by simp)
      simp at this
      simp [this]
    | succ n =>
      have hc : p c = true := h1 0 (by simp) (by omega)
      rw [List.takeWhile_cons_of_pos hc]
      have := ih n (by simpa using hn) (fun j h hj => by have := h1 (j + 1) (by simpa using h) (by omega); simpa using this) (fun h => by have := h2 (by simpa using h); simpa using this)
      simp [this]

/-- the cells of a Dialect that a call has laid for itself -/
def DialAt (w : World) (b : Nat) (d : DialectD) : Prop := w.heap[b]? = some (.cells #[.string d.notes, .string d.seps, .bool d.inl, .bool d.quo, .bool d.esc, .int .i64 d.join] 25 (0, 0))
theorem dialAt_new (w : World) (d : DialectD) : DialAt (w.alloc (.cells #[.string d.notes, .string d.seps, .bool d.inl, .bool d.quo, .bool d.esc, .int .i64 d.join] 25)) w.heap.size d := heap_alloc_new _ _
theorem DialAt.over {w w' : World} {b B : Nat} {d : DialectD} (h : DialAt w b d) (hb : Below B w w') (hB : b < B) : DialAt w' b d := by
  unfold DialAt at *
  rw [hb.block b hB]
  exact h
theorem DialAt.cells {w : World} {b : Nat} {d : DialectD} (h : DialAt w b d) : w.cell? ⟨b, 0, none⟩ = some (.string d.notes) ∧ w.cell? ⟨b, 1, none⟩ = some (.string d.seps) ∧ w.cell? ⟨b, 2, none⟩ = some (.bool d.inl) ∧ w.cell? ⟨b, 3, none⟩ = some (.bool d.quo) ∧ w.cell? ⟨b, 4, none⟩ = some (.bool d.esc) ∧ w.cell? ⟨b, 5, none⟩ = some (.int .i64 d.join) := by
  unfold DialAt at h
  refine ⟨?_, ?_, ?_, ?_, ?_, ?_⟩ <;> (rw [Lib.cell_of_heap h]; rfl)

set_option maxHeartbeats 1600000 in
theorem blank5_spec (d : DialectD) (s : ByteArray) (i : Nat) (w : World) (hs : s.size ≤ 100000000) (hi : i < s.size) :
    Calls Tryz.prog 152 #[.string s, .int .i64 (i : Int), dialectV d] w fun e w' => e = .returned (.bool (blank5 d.esc s i)) ∧ Below w.heap.size w w' := by
  have HV : Hid (blank5 d.esc s i = (blankB s[i] && (!d.esc || tailN (s.extract 0 i) % 2 == 0))) := by unfold Hid blank5; rw [dif_pos hi]
  generalize blank5 d.esc s i = r at *
  have K1 := Lib.hid (fun w => blank_any s[i] w)
  have hex : (s.extract 0 i).size ≤ 100000000 := by rw [ByteArray.size_extract]; omega
  have K2 := Lib.hid (fun w => tail_spec (s.extract 0 i) w (by unfold maxLen; omega))
  have htl : tailN (s.extract 0 i) ≤ 100000000 := Nat.le_trans (tailN_le _) hex
  have hiz : (i : Int) ≤ (s.size : Int) := by omega
  have hiz2 : (i : Int) < (s.size : Int) := by omega
  obtain ⟨d0, d1, d2, d3, d4, d5⟩ := d
  unfold dialectV
  simp only at HV ⊢
  have hb0 := (Below.refl w.heap.size w).alloc (Nat.le_refl _) (.cells #[.string d0, .string d1, .bool d2, .bool d3, .bool d4, .int .i64 d5] 25)
  generalize tailN (s.extract 0 i) = tn at *
  generalize blankB s[i] = bl at *
  clear hex
  cases bl
  · have HD : Hid (r = false) := HV.out
    clear HV
    go_enter Tryz.func152, Tryz.ntmps152
    go_wp2_with fail
    refine (K1.out _).mono ?_
    rintro e w1 ⟨rfl, rfl⟩
    go_wp2
    go_ret
    exact ⟨by rw [HD.out]; rfl, hb0⟩
  · cases d4
    · have HD : Hid (r = true) := HV.out
      clear HV
      go_enter Tryz.func152, Tryz.ntmps152
      go_wp2_with fail
      refine (K1.out _).mono ?_
      rintro e w1 ⟨rfl, rfl⟩
      go_wp2
      go_ret
      exact ⟨by rw [HD.out]; rfl, hb0⟩
    · have HD : Hid (r = (((tn : Int) % 2) == 0)) := by
        unfold Hid
        rw [HV.out]
        rcases (show tn % 2 = 0 ∨ tn % 2 = 1 by omega) with h | h
        · rw [h, show (tn : Int) % 2 = 0 by omega]; rfl
        · rw [h, show (tn : Int) % 2 = 1 by omega]; rfl
      clear HV
      go_enter Tryz.func152, Tryz.ntmps152
      go_wp2_with fail
      refine (K1.out _).mono ?_
      rintro e w1 ⟨rfl, rfl⟩
      go_wp2_with fail
      refine (K2.out _).mono ?_
      rintro e w1 ⟨rfl, rfl⟩
      go_wp2
      go_ret
      exact ⟨by rw [HD.out]; rfl, hb0⟩

set_option maxHeartbeats 1600000 in
theorem trim5_spec (d : DialectD) (s : ByteArray) (w : World) (hs : s.size ≤ 100000000) :
    Calls Tryz.prog 111 #[.string s, dialectV d] w fun e w' => e = .returned (.string (trim5 d.esc s)) ∧ Below w.heap.size w w' := by
  have K1 := Lib.hid (fun (i : Nat) (w : World) (hi : i < s.size) => blank5_spec d s i w hs hi)
  have HT : Hid (∀ a b, front5 s = a → back5 d.esc s a s.size = b → s.extract a b = trim5 d.esc s) := by
    rintro a b rfl rfl
    rfl
  have HSL := Lib.hid (Lib.size_eq s)
  have HN := Lib.hid (dialAt_new w d)
  obtain ⟨d0, d1, d2, d3, d4, d5⟩ := d
  unfold dialectV at *
  simp only at K1 HT HN ⊢
  generalize trim5 d4 s = r at *
  have hb0 := (Below.refl w.heap.size w).alloc (Nat.le_refl _) (.cells #[.string d0, .string d1, .bool d2, .bool d3, .bool d4, .int .i64 d5] 25)
  have hw0 : w.heap.size < (w.alloc (.cells #[.string d0, .string d1, .bool d2, .bool d3, .bool d4, .int .i64 d5] 25)).heap.size := by simp
  go_enter Tryz.func111, Tryz.ntmps111
  go_wp2
  generalize w.alloc (.cells #[.string d0, .string d1, .bool d2, .bool d3, .bool d4, .int .i64 d5] 25) = W0 at *
  go_loopw [5] (fun a wr => ∃ k : Nat, k ≤ s.size ∧ a = .int .i64 k ∧ Hid (∀ j (h : j < s.size), j < k → blankB s[j] = true) ∧ wr = W0) (fun a _ => s.size - (intOf a).toNat)
  case atStart => exact ⟨0, Nat.zero_le _, rfl, fun j h hj => by omega, rfl⟩
  case round =>
    obtain ⟨k, hk, rfl, hbl, rfl⟩ := hrel
    by_cases hlt : k < s.size ∧ ∃ h : k < s.size, blankB s[k] = true
    · obtain ⟨hlt, _, hbk⟩ := hlt
      have hbl2 : Hid (∀ j (h : j < s.size), j < k + 1 → blankB s[j] = true) := by
        intro j h hj
        by_cases e : j = k
        · subst e; exact hbk
        · exact hbl.out j h (by omega)
      have K2 := Lib.hid (fun w => blank_any s[k] w)
      rw [hbk] at K2
      clear hbl hbk
      go_wp2_with fail
      refine (K2.out _).mono ?_
      rintro e w1 ⟨rfl, rfl⟩
      clear K2
      go_wp2
      go_roundw
      case rel => exact ⟨k + 1, by omega, by go_num, hbl2, trivial⟩
      case measure => simp [intOf]; omega
    · have hfr : front5 s = k := by
        unfold front5
        refine takeWhile_at blankB _ k (by rw [← HSL.out]; exact hk) (fun j h hj => hbl.out j (by rw [HSL.out]; exact h) hj) (fun h => ?_)
        have h2 : k < s.size := by rw [HSL.out]; exact h
        by_cases hb : blankB s[k] = true
        · exact absurd ⟨h2, h2, hb⟩ hlt
        · have hb' : blankB s[k] = false := by simpa using hb
          exact hb'
      have HFR := Lib.hid hfr
      clear hbl hfr
      -- leaves the first loop
      by_cases h2 : k < s.size
      · have hb : blankB s[k] = false := by
          by_cases hb : blankB s[k] = true
          · exact absurd ⟨h2, h2, hb⟩ hlt
          · simpa using hb
        have K2 := Lib.hid (fun w => blank_any s[k] w)
        rw [hb] at K2
        clear hlt hb
        go_wp2_with fail
        refine (K2.out _).mono ?_
        rintro e w1 ⟨rfl, rfl⟩
        clear K2
        go_wp2
        go_loopw [6] (fun b wr => ∃ m : Nat, k ≤ m ∧ m ≤ s.size ∧ b = .int .i64 m ∧ Hid (back5 d4 s k s.size = back5 d4 s k m) ∧ Hid (DialAt wr w.heap.size ⟨d0, d1, d2, d3, d4, d5⟩) ∧ Below w.heap.size w wr ∧ w.heap.size < wr.heap.size) (fun b _ => (intOf b).toNat)
        case atStart => exact ⟨s.size, hk, Nat.le_refl _, rfl, rfl, HN, hb0, hw0⟩
        case round =>
          obtain ⟨m, hkm, hms, rfl, hbk, hD, hb, hwl⟩ := hrel
          clear hb0 HN
          by_cases hmk : k < m
          · obtain ⟨n, rfl⟩ : ∃ n, m = n + 1 := ⟨m - 1, by omega⟩
            obtain ⟨c0, c1, c2, c3, c4, c5⟩ := hD.out.cells
            simp only at c0 c1 c2 c3 c4 c5
            have K3 := Lib.hid (fun w => K1.out n w (by omega))
            have e1 : ((n + 1 : Nat) : Int) - 1 = (n : Int) := by omega
            cases hbn : blank5 d4 s n
            · have hfin : Hid (s.extract k (n + 1) = r) := HT.out k (n + 1) HFR.out (by rw [hbk.out, back5_no hbn])
              rw [hbn] at K3
              have q1 : (k : Int) ≤ (n : Int) + 1 := by omega
              have q2 : (n : Int) + 1 ≤ (s.size : Int) := by omega
              clear hbk hbn
              go_wp2_with fail
              refine (K3.out _).mono ?_
              rintro e w2 ⟨rfl, hb2⟩
              have hb3 := hb.trans (hb2.mono hb.size)
              clear K3 hb2 hb
              go_wp2
              go_ret
              exact ⟨by rw [← hfin.out]; rfl, hb3⟩
            · have hbk2 : Hid (back5 d4 s k s.size = back5 d4 s k n) := by unfold Hid; rw [hbk.out, back5_yes hmk hbn]
              rw [hbn] at K3
              clear hbk hbn
              go_wp2_with fail
              refine (K3.out _).mono ?_
              rintro e w2 ⟨rfl, hb2⟩
              have hb3 := hb.trans (hb2.mono hb.size)
              have hD2 := Lib.hid (hD.out.over hb2 hwl)
              have hwl2 := Nat.lt_of_lt_of_le hwl hb2.size
              clear K3 hb2 hb hD c0 c1 c2 c3 c4 c5
              go_wp2
              go_roundw
              case rel => exact ⟨n, by omega, by omega, by go_num, hbk2, hD2, hb3, hwl2⟩
              case measure => simp [intOf]
          · obtain rfl : k = m := by omega
            have hfin : Hid (ByteArray.empty = r) := by
              have := HT.out k k HFR.out (by rw [hbk.out, back5_end])
              rw [extract_none] at this
              exact this
            have q2 : (k : Int) ≤ (s.size : Int) := by omega
            clear hbk
            go_wp2
            go_ret
            exact ⟨by rw [← hfin.out]; rfl, hb⟩
      · clear hlt
        go_wp2
        go_loopw [6] (fun b wr => ∃ m : Nat, k ≤ m ∧ m ≤ s.size ∧ b = .int .i64 m ∧ Hid (back5 d4 s k s.size = back5 d4 s k m) ∧ Hid (DialAt wr w.heap.size ⟨d0, d1, d2, d3, d4, d5⟩) ∧ Below w.heap.size w wr ∧ w.heap.size < wr.heap.size) (fun b _ => (intOf b).toNat)
        case atStart => exact ⟨s.size, hk, Nat.le_refl _, rfl, rfl, HN, hb0, hw0⟩
        case round =>
          obtain ⟨m, hkm, hms, rfl, hbk, hD, hb, hwl⟩ := hrel
          clear hb0 HN
          obtain rfl : k = m := by omega
          have hfin : Hid (ByteArray.empty = r) := by
            have := HT.out k k HFR.out (by rw [hbk.out, back5_end])
            rw [extract_none] at this
            exact this
          have q2 : (k : Int) ≤ (s.size : Int) := by omega
          clear hbk
          go_wp2
          go_ret
          exact ⟨by rw [← hfin.out]; rfl, hb⟩

theorem findIdx_range (p : Nat → Bool) (n i : Nat) (hi : i ≤ n) (h1 : ∀ j, j < i → p j = false) (h2 : i < n → p i = true) : (List.range n).findIdx p = i := by
  by_cases h : i < n
  · have hl : i < (List.range n).length := by simpa using h
    rw [List.findIdx_eq hl]
    refine ⟨by simpa using h2 h, fun j hj => by simpa using h1 j hj⟩
  · obtain rfl : i = n := by omega
    have : (List.range i).findIdx p = (List.range i).length := by
      rw [List.findIdx_eq_length]
      intro x hx
      exact h1 x (by simpa using hx)
    simpa using this
/-- a note begins at place i -/
def note5 (d : DialectD) (s : ByteArray) (i : Nat) : Bool := if h : 1 ≤ i ∧ i < s.size then hasB d.notes (s[i]'h.2) && blank5 d.esc s (i - 1) else false
/-- where a value without quotes ends -/
def cut5 (d : DialectD) (s : ByteArray) : Nat := if d.inl then (List.range s.size).findIdx (note5 d s) else s.size
/-- what Bare answers -/
def bareT (d : DialectD) (s : ByteArray) : ByteArray × Bool := unT d.esc (trim5 d.esc (s.extract 0 (cut5 d s)))
theorem extract_all (s : ByteArray) : s.extract 0 s.size = s := by
  apply ByteArray.ext
  rw [ByteArray.data_extract]
  show s.data.extract 0 s.data.size = s.data
  simp
theorem bareT_size (d : DialectD) (s : ByteArray) : (bareT d s).1.size ≤ s.size := by
  unfold bareT
  refine Nat.le_trans (unT_size _ _) (Nat.le_trans (trim5_size _ _) ?_)
  rw [ByteArray.size_extract]
  omega

set_option maxRecDepth 100000 in
set_option maxHeartbeats 3200000 in
theorem bare_spec (d : DialectD) (s : ByteArray) (w : World) (hs : s.size ≤ 100000000) (hn : d.notes.size ≤ 100000000) :
    Calls Tryz.prog 155 #[.string s, dialectV d] w fun e w' => e = .returned (.tuple #[.string (bareT d s).1, .bool (bareT d s).2]) ∧ Below w.heap.size w w' := by
  have K1 := Lib.hid (fun (i : Nat) (w : World) (hi : i < s.size) => blank5_spec d s i w hs hi)
  have K0 := Lib.hid (fun (i : Nat) (w : World) (hi : i < s.size) => has_any d.notes s[i] w (by unfold maxLen; omega))
  have HN := Lib.hid (dialAt_new w d)
  have HA : Hid (d.inl = false → bareT d s = unT d.esc (trim5 d.esc s)) := by
    intro h
    unfold bareT cut5
    rw [h]
    simp only [Bool.false_eq_true, if_false]
    rw [extract_all]
  have HB : Hid (d.inl = true → ∀ i, i ≤ s.size → (∀ j, j < i → note5 d s j = false) → (i < s.size → note5 d s i = true) → bareT d s = unT d.esc (trim5 d.esc (s.extract 0 i))) := by
    intro h i hi h1 h2
    unfold bareT cut5
    rw [h]
    simp only [if_true]
    rw [findIdx_range _ _ i hi h1 h2]
  have HNA : Hid (∀ i (h1 : 1 ≤ i) (h : i < s.size), note5 d s i = (hasB d.notes s[i] && blank5 d.esc s (i - 1))) := by
    intro i h1 h
    unfold note5
    rw [dif_pos ⟨h1, h⟩]
  have HN0 : Hid (note5 d s 0 = false) := by unfold Hid note5; rw [dif_neg (fun h => by omega)]
  obtain ⟨d0, d1, d2, d3, d4, d5⟩ := d
  unfold dialectV at *
  simp only at K1 K0 HN HA HB HNA hn ⊢
  generalize hNN : note5 ⟨d0, d1, d2, d3, d4, d5⟩ s = note at *
  clear hNN
  generalize bareT ⟨d0, d1, d2, d3, d4, d5⟩ s = r at *
  have hb0 := (Below.refl w.heap.size w).alloc (Nat.le_refl _) (.cells #[.string d0, .string d1, .bool d2, .bool d3, .bool d4, .int .i64 d5] 25)
  have hw0 : w.heap.size < (w.alloc (.cells #[.string d0, .string d1, .bool d2, .bool d3, .bool d4, .int .i64 d5] 25)).heap.size := by simp
  go_enter Tryz.func155, Tryz.ntmps155
  go_wp2
  generalize w.alloc (.cells #[.string d0, .string d1, .bool d2, .bool d3, .bool d4, .int .i64 d5] 25) = W0 at *
  go_loopw [0, 6] (fun sv i wr => ∃ k : Nat, 1 ≤ k ∧ (k ≤ s.size ∨ k = 1) ∧ sv = .string s ∧ i = .int .i64 k ∧ Hid (∀ j, j < k → note j = false) ∧ Hid (DialAt wr w.heap.size ⟨d0, d1, d2, d3, d4, d5⟩) ∧ Below w.heap.size w wr ∧ w.heap.size < wr.heap.size) (fun _ i _ => s.size - (intOf i).toNat)
  case atStart => exact ⟨1, Nat.le_refl _, .inr rfl, rfl, rfl, fun j hj => (show j = 0 by omega) ▸ HN0.out, HN, hb0, hw0⟩
  case round =>
    obtain ⟨k, hk1, hks, rfl, rfl, hno, hD, hb, hwl⟩ := hrel
    clear hb0 HN hw0
    by_cases hlt : k < s.size
    · cases d2
      · -- no notes behind values
        have HTT : Hid (r = unT d4 (trim5 d4 s)) := HA.out rfl
        have htt := hs
        have HDD := hD
        have HBB := Lib.hid hb
        obtain ⟨c0, c1, c2, c3, c4, c5⟩ := hD.out.cells
        simp only at c2
        clear hno hD hb HA HB HNA K0 K1 c0 c1 c3 c4 c5
        go_wp2_with fail
        clear c2
        have HSZ : Hid ((trim5 d4 s).size ≤ 100000000) := Nat.le_trans (trim5_size d4 s) htt
        have KA : Hid (∀ q os, Calls Tryz.prog 111 #[.string s, .agg #[.string d0, .string d1, .bool false, .bool d3, .bool d4, .int .i64 d5]] (grow (redrawn wr q) os) fun e w' => e = .returned (.string (trim5 d4 s)) ∧ ∃ p : Regrown, w' = grow (redrawn wr p.d) p.os) := by
          intro q os
          exact Calls.regrown_of (trim5_spec ⟨d0, d1, false, d3, d4, d5⟩ s _ htt)
        have KB : Hid (∀ q os, Calls Tryz.prog 170 #[.string (trim5 d4 s), .agg #[.string d0, .string d1, .bool false, .bool d3, .bool d4, .int .i64 d5]] (grow (redrawn wr q) os) fun e w' => e = .returned (.tuple #[.string (unT d4 (trim5 d4 s)).1, .bool (unT d4 (trim5 d4 s)).2]) ∧ ∃ p : Regrown, w' = grow (redrawn wr p.d) p.os) := by
          intro q os
          exact Calls.regrown_of (unescape_spec ⟨d0, d1, false, d3, d4, d5⟩ (trim5 d4 s) _ HSZ.out)
        obtain ⟨c0, c1, c2, c3, c4, c5⟩ := HDD.out.cells
        simp only at c0 c1 c2 c3 c4 c5
        have x0 := cell_regrown c0
        have x1 := cell_regrown c1
        have x2 := cell_regrown c2
        have x3 := cell_regrown c3
        have x4 := cell_regrown c4
        have x5 := cell_regrown c5
        clear c0 c1 c2 c3 c4 c5
        generalize trim5 d4 s = tm at *
        generalize unT d4 tm = ut at *
        obtain ⟨ua, ub⟩ := ut
        simp only at KB
        go_wp2_with fail
        refine wp_region_quiet_below (by kernel_rfl) (by kernel_rfl) ?_
        repeat (go_big_quiet_step (first | with_reducible exact KA.out _ _ | with_reducible exact KB.out _ _))
        refine wpQuiet_nil ?_
        intro _ hw'
        obtain ⟨⟨dq9, osq9⟩, hw''⟩ := hw'
        subst hw''
        have hb9 := HBB.out.trans ((below_regrown wr dq9 osq9).mono HBB.out.size)
        clear KA KB
        go_wp2
        go_ret2
        exact ⟨by rw [HTT.out]; rfl, hb9⟩
      · have hna := HNA.out k hk1 hlt
        obtain ⟨c0, c1, c2, c3, c4, c5⟩ := hD.out.cells
        simp only at c0 c1 c2 c3 c4 c5
        have x0 := cell_regrown c0
        have x1 := cell_regrown c1
        have x2 := cell_regrown c2
        have x3 := cell_regrown c3
        have x4 := cell_regrown c4
        have x5 := cell_regrown c5
        have KA : Hid (∀ q os, Calls Tryz.prog 52 #[.string d0, .int .u8 (s[k].toNat : Int)] (grow (redrawn wr q) os) fun e w' => e = .returned (.bool (hasB d0 s[k])) ∧ ∃ p : Regrown, w' = grow (redrawn wr p.d) p.os) := by
          intro q os
          refine Calls.regrown_of ((K0.out k _ hlt).mono ?_)
          rintro e w' ⟨rfl, rfl⟩
          exact ⟨rfl, Below.refl _ _⟩
        have KB : Hid (∀ q os, Calls Tryz.prog 152 #[.string s, .int .i64 ((k : Int) - 1), .agg #[.string d0, .string d1, .bool true, .bool d3, .bool d4, .int .i64 d5]] (grow (redrawn wr q) os) fun e w' => e = .returned (.bool (blank5 d4 s (k - 1))) ∧ ∃ p : Regrown, w' = grow (redrawn wr p.d) p.os) := by
          intro q os
          have := K1.out (k - 1) (grow (redrawn wr q) os) (by omega)
          rw [show ((k - 1 : Nat) : Int) = (k : Int) - 1 by omega] at this
          exact Calls.regrown_of this
        have hkz2 : (k : Int) < (s.size : Int) := by omega
        have HNA2 := Lib.hid hna
        clear hna
        cases h1 : hasB d0 s[k] <;> cases h2 : blank5 d4 s (k - 1) <;> rw [h1] at KA HNA2 <;> rw [h2] at KB HNA2 <;> clear h1 h2
        all_goals
          go_wp2_with fail
          refine wp_region_quiet_below (by kernel_rfl) (by kernel_rfl) ?_
          repeat (go_big_quiet_step (first | with_reducible exact KA.out _ _ | with_reducible exact KB.out _ _))
          refine wpQuiet_nil ?_
          intro _ hw'
          obtain ⟨⟨dq, osq⟩, hw''⟩ := hw'
          subst hw''
          have hbq := below_regrown wr dq osq
          have hb2 := hb.trans (hbq.mono hb.size)
          have hD2 := Lib.hid (hD.out.over hbq hwl)
          have hwl2 := Nat.lt_of_lt_of_le hwl hbq.size
          clear KA KB c0 c1 c2 c3 c4 c5 x0 x1 x2 x3 x4 x5 hbq hb hD
          generalize grow (redrawn wr dq) osq = w2 at *
        · have hno2 : Hid (∀ j, j < k + 1 → note j = false) := by
            intro j hj
            by_cases e : j = k
            · subst e; exact HNA2.out
            · exact hno.out j (by omega)
          clear hno HNA2
          go_wp2
          go_roundw
          case rel => exact ⟨k + 1, by omega, .inl (by omega), rfl, by go_num, hno2, hD2, hb2, hwl2⟩
          case measure => simp [intOf]; omega
        · have hno2 : Hid (∀ j, j < k + 1 → note j = false) := by
            intro j hj
            by_cases e : j = k
            · subst e; exact HNA2.out
            · exact hno.out j (by omega)
          clear hno HNA2
          go_wp2
          go_roundw
          case rel => exact ⟨k + 1, by omega, .inl (by omega), rfl, by go_num, hno2, hD2, hb2, hwl2⟩
          case measure => simp [intOf]; omega
        · have hno2 : Hid (∀ j, j < k + 1 → note j = false) := by
            intro j hj
            by_cases e : j = k
            · subst e; exact HNA2.out
            · exact hno.out j (by omega)
          clear hno HNA2
          go_wp2
          go_roundw
          case rel => exact ⟨k + 1, by omega, .inl (by omega), rfl, by go_num, hno2, hD2, hb2, hwl2⟩
          case measure => simp [intOf]; omega
        · have HTT : Hid (r = unT d4 (trim5 d4 (s.extract 0 k))) := HB.out trivial k (by omega) hno.out (fun _ => HNA2.out)
          have htt : (s.extract 0 k).size ≤ 100000000 := by rw [ByteArray.size_extract]; omega
          have HDD := hD2
          have HBB := Lib.hid hb2
          have q2 : (k : Int) ≤ (s.size : Int) := by omega
          clear hno hD2 hb2 HA HB HNA HNA2 K0 K1
          go_wp2_with fail
          have HSZ : Hid ((trim5 d4 (s.extract 0 k)).size ≤ 100000000) := Nat.le_trans (trim5_size d4 (s.extract 0 k)) htt
          have KA : Hid (∀ q os, Calls Tryz.prog 111 #[.string (s.extract 0 k), .agg #[.string d0, .string d1, .bool true, .bool d3, .bool d4, .int .i64 d5]] (grow (redrawn w2 q) os) fun e w' => e = .returned (.string (trim5 d4 (s.extract 0 k))) ∧ ∃ p : Regrown, w' = grow (redrawn w2 p.d) p.os) := by
            intro q os
            exact Calls.regrown_of (trim5_spec ⟨d0, d1, true, d3, d4, d5⟩ (s.extract 0 k) _ htt)
          have KB : Hid (∀ q os, Calls Tryz.prog 170 #[.string (trim5 d4 (s.extract 0 k)), .agg #[.string d0, .string d1, .bool true, .bool d3, .bool d4, .int .i64 d5]] (grow (redrawn w2 q) os) fun e w' => e = .returned (.tuple #[.string (unT d4 (trim5 d4 (s.extract 0 k))).1, .bool (unT d4 (trim5 d4 (s.extract 0 k))).2]) ∧ ∃ p : Regrown, w' = grow (redrawn w2 p.d) p.os) := by
            intro q os
            exact Calls.regrown_of (unescape_spec ⟨d0, d1, true, d3, d4, d5⟩ (trim5 d4 (s.extract 0 k)) _ HSZ.out)
          obtain ⟨c0, c1, c2, c3, c4, c5⟩ := HDD.out.cells
          simp only at c0 c1 c2 c3 c4 c5
          have x0 := cell_regrown c0
          have x1 := cell_regrown c1
          have x2 := cell_regrown c2
          have x3 := cell_regrown c3
          have x4 := cell_regrown c4
          have x5 := cell_regrown c5
          clear c0 c1 c2 c3 c4 c5
          generalize trim5 d4 (s.extract 0 k) = tm at *
          generalize unT d4 tm = ut at *
          obtain ⟨ua, ub⟩ := ut
          simp only at KB
          go_wp2_with fail
          refine wp_region_quiet_below (by kernel_rfl) (by kernel_rfl) ?_
          repeat (go_big_quiet_step (first | with_reducible exact KA.out _ _ | with_reducible exact KB.out _ _))
          refine wpQuiet_nil ?_
          intro _ hw'
          obtain ⟨⟨dq9, osq9⟩, hw''⟩ := hw'
          subst hw''
          have hb9 := HBB.out.trans ((below_regrown w2 dq9 osq9).mono HBB.out.size)
          clear KA KB
          go_wp2
          go_ret2
          exact ⟨by rw [HTT.out]; rfl, hb9⟩
    · have HTT : Hid (r = unT d4 (trim5 d4 s)) := by
        cases d2
        · exact HA.out rfl
        · have := HB.out rfl s.size (Nat.le_refl _) (fun j hj => hno.out j (by omega)) (fun h => absurd h (Nat.lt_irrefl _))
          rw [extract_all] at this
          exact this
      have htt := hs
      have HDD := hD
      have HBB := Lib.hid hb
      clear hno hD hb HA HB HNA K0 K1
      go_wp2_with fail
      have HSZ : Hid ((trim5 d4 s).size ≤ 100000000) := Nat.le_trans (trim5_size d4 s) htt
      have KA : Hid (∀ q os, Calls Tryz.prog 111 #[.string s, .agg #[.string d0, .string d1, .bool d2, .bool d3, .bool d4, .int .i64 d5]] (grow (redrawn wr q) os) fun e w' => e = .returned (.string (trim5 d4 s)) ∧ ∃ p : Regrown, w' = grow (redrawn wr p.d) p.os) := by
        intro q os
        exact Calls.regrown_of (trim5_spec ⟨d0, d1, d2, d3, d4, d5⟩ s _ htt)
      have KB : Hid (∀ q os, Calls Tryz.prog 170 #[.string (trim5 d4 s), .agg #[.string d0, .string d1, .bool d2, .bool d3, .bool d4, .int .i64 d5]] (grow (redrawn wr q) os) fun e w' => e = .returned (.tuple #[.string (unT d4 (trim5 d4 s)).1, .bool (unT d4 (trim5 d4 s)).2]) ∧ ∃ p : Regrown, w' = grow (redrawn wr p.d) p.os) := by
        intro q os
        exact Calls.regrown_of (unescape_spec ⟨d0, d1, d2, d3, d4, d5⟩ (trim5 d4 s) _ HSZ.out)
      obtain ⟨c0, c1, c2, c3, c4, c5⟩ := HDD.out.cells
      simp only at c0 c1 c2 c3 c4 c5
      have x0 := cell_regrown c0
      have x1 := cell_regrown c1
      have x2 := cell_regrown c2
      have x3 := cell_regrown c3
      have x4 := cell_regrown c4
      have x5 := cell_regrown c5
      clear c0 c1 c2 c3 c4 c5
      generalize trim5 d4 s = tm at *
      generalize unT d4 tm = ut at *
      obtain ⟨ua, ub⟩ := ut
      simp only at KB
      go_wp2_with fail
      refine wp_region_quiet_below (by kernel_rfl) (by kernel_rfl) ?_
      repeat (go_big_quiet_step (first | with_reducible exact KA.out _ _ | with_reducible exact KB.out _ _))
      refine wpQuiet_nil ?_
      intro _ hw'
      obtain ⟨⟨dq9, osq9⟩, hw''⟩ := hw'
      subst hw''
      have hb9 := HBB.out.trans ((below_regrown wr dq9 osq9).mono HBB.out.size)
      clear KA KB
      go_wp2
      go_ret2
      exact ⟨by rw [HTT.out]; rfl, hb9⟩

end Go.Proofs.YtkhkpjnpjgnckaaGreatDoor

/- Values between quotes: the model's contracts of l05Behind, Quoted. -/
namespace Go.Proofs.YtkhkpjnpjgnckaaGreatDoor
open Go.RowKit Go.Sort
set_option linter.unusedVariables false

/-- a text trimmed -/
def trimT (s : ByteArray) : ByteArray := ⟨(trimL s.data.toList).toArray⟩
theorem trimS_len (l m : List UInt8) : (Lib.trimS l m).length ≤ l.length := by
  unfold Lib.trimS Lib.trimRightS Lib.trimLeftS
  refine Nat.le_trans (List.dropWhile_sublist _).length_le ?_
  simp only [List.length_reverse]
  have := (List.dropWhile_sublist (fun x => m.contains x) (l := l.reverse)).length_le
  rw [List.length_reverse] at this
  exact this
theorem trimT_size (s : ByteArray) : (trimT s).size ≤ s.size := by
  unfold trimT trimL
  rw [Lib.size_eq, Lib.size_eq]
  simpa using trimS_len s.data.toList [32, 9]
/-- what may stand behind something that is closed -/
def behind5 (d : DialectD) (s : ByteArray) : Bool := if h : 0 < (trimT s).size then d.inl && (if h2 : 0 < s.size then blankB s[0] else false) && hasB d.notes (trimT s)[0] else true
theorem text_none (x : ByteArray) (h : x.size = 0) : (x.toList == []) = true ∧ x.toList.isEmpty = true := by
  have : x.toList = [] := by
    rw [Lib.toList_data]
    apply List.eq_nil_of_length_eq_zero
    rw [← Lib.size_eq]
    exact h
  rw [this]
  exact ⟨rfl, rfl⟩
theorem text_some (x : ByteArray) (h : 0 < x.size) : (x.toList == []) = false ∧ x.toList.isEmpty = false := by
  rw [Lib.toList_data]
  cases hl : x.data.toList with
  | nil =>
    have h2 := Lib.size_eq x
    rw [hl, List.length_nil] at h2
    omega
  | cons c t => exact ⟨rfl, rfl⟩

set_option maxHeartbeats 3200000 in
theorem behind5_spec (d : DialectD) (s : ByteArray) (w : World) (hs : s.size ≤ 100000000) (hn : d.notes.size ≤ 100000000) :
    Calls Tryz.prog 153 #[.string s, dialectV d] w fun e w' => e = .returned (.bool (behind5 d s)) ∧ Below w.heap.size w w' := by
  have K0 := Lib.hid (fun w => trim_spec s w (by unfold maxLen; omega))
  have hts := trimT_size s
  have HN := Lib.hid (dialAt_new w d)
  have hv : behind5 d s = (if h : 0 < (trimT s).size then d.inl && (if h2 : 0 < s.size then blankB s[0] else false) && hasB d.notes (trimT s)[0] else true) := rfl
  generalize behind5 d s = r at *
  obtain ⟨d0, d1, d2, d3, d4, d5⟩ := d
  unfold dialectV
  simp only at HN hv hn ⊢
  have htr : (⟨(trimL s.data.toList).toArray⟩ : ByteArray) = trimT s := rfl
  rw [htr] at K0
  clear htr
  generalize trimT s = t at *
  have hb0 := (Below.refl w.heap.size w).alloc (Nat.le_refl _) (.cells #[.string d0, .string d1, .bool d2, .bool d3, .bool d4, .int .i64 d5] 25)
  have hw0 : w.heap.size < (w.alloc (.cells #[.string d0, .string d1, .bool d2, .bool d3, .bool d4, .int .i64 d5] 25)).heap.size := by simp
  by_cases ht : 0 < t.size
  · rw [dif_pos ht] at hv
    have hss : 0 < s.size := by omega
    rw [dif_pos hss] at hv
    obtain ⟨e1, e2⟩ := text_some t ht
    have KA : Hid (∀ wz : World, ∀ q os, Calls Tryz.prog 90 #[.int .u8 (s[0].toNat : Int)] (grow (redrawn wz q) os) fun e w' => e = .returned (.bool (blankB s[0])) ∧ ∃ p : Regrown, w' = grow (redrawn wz p.d) p.os) := by
      intro wz q os
      refine Calls.regrown_of ((blank_any s[0] _).mono ?_)
      rintro e w' ⟨rfl, rfl⟩
      exact ⟨rfl, Below.refl _ _⟩
    have KB : Hid (∀ wz : World, ∀ q os, Calls Tryz.prog 52 #[.string d0, .int .u8 (t[0].toNat : Int)] (grow (redrawn wz q) os) fun e w' => e = .returned (.bool (hasB d0 t[0])) ∧ ∃ p : Regrown, w' = grow (redrawn wz p.d) p.os) := by
      intro wz q os
      refine Calls.regrown_of ((has_any d0 t[0] _ (by unfold maxLen; omega)).mono ?_)
      rintro e w' ⟨rfl, rfl⟩
      exact ⟨rfl, Below.refl _ _⟩
    have hssz : (0 : Int) < (s.size : Int) := by omega
    have htz : (0 : Int) < (t.size : Int) := by omega
    generalize hB0 : blankB s[0] = b0 at *
    generalize hB1 : hasB d0 t[0] = b1 at *
    have HV := Lib.hid hv
    clear hv hB0 hB1
    go_enter Tryz.func153, Tryz.ntmps153
    go_wp2_with fail
    refine (K0.out _).mono ?_
    rintro e w1 ⟨rfl, rfl⟩
    clear K0
    obtain ⟨c0, c1, c2, c3, c4, c5⟩ := HN.out.cells
    simp only at c0 c1 c2 c3 c4 c5
    generalize w.alloc (.cells #[.string d0, .string d1, .bool d2, .bool d3, .bool d4, .int .i64 d5] 25) = W0 at *
    have x0 := cell_regrown c0
    have x2 := cell_regrown c2
    have KA2 := Lib.hid (KA.out W0)
    have KB2 := Lib.hid (KB.out W0)
    clear KA KB HN
    cases d2 <;> cases b0 <;> cases b1
    all_goals
      have HD := Lib.hid HV.out
      simp only [Bool.and_true, Bool.and_false, Bool.true_and, Bool.false_and, Bool.and_self] at HD
      clear HV
      go_wp2_with fail
      refine wp_region_quiet_below (by kernel_rfl) (by kernel_rfl) ?_
      repeat (go_big_quiet_step (first | with_reducible exact KA2.out _ _ | with_reducible exact KB2.out _ _))
      refine wpQuiet_nil ?_
      intro _ hw'
      obtain ⟨⟨dq, osq⟩, hw''⟩ := hw'
      subst hw''
      have hb2 := hb0.trans ((below_regrown W0 dq osq).mono (by omega))
      go_wp2
      go_ret
      exact ⟨by rw [HD.out]; rfl, hb2⟩
  · rw [dif_neg ht] at hv
    obtain ⟨e1, e2⟩ := text_none t (by omega)
    have HV := Lib.hid hv
    clear hv
    go_enter Tryz.func153, Tryz.ntmps153
    go_wp2_with fail
    refine (K0.out _).mono ?_
    rintro e w1 ⟨rfl, rfl⟩
    clear K0 HN
    generalize w.alloc (.cells #[.string d0, .string d1, .bool d2, .bool d3, .bool d4, .int .i64 d5] 25) = W0 at *
    go_wp2_with fail
    refine wp_region_quiet_below (by kernel_rfl) (by kernel_rfl) ?_
    repeat (go_big_quiet_step (fail))
    refine wpQuiet_nil ?_
    intro _ hw'
    obtain ⟨⟨dq, osq⟩, hw''⟩ := hw'
    subst hw''
    have hb2 := hb0.trans ((below_regrown W0 dq osq).mono (by omega))
    go_wp2
    go_ret
    exact ⟨by rw [HV.out]; rfl, hb2⟩

/-- a quote that closes, at place i -/
def clos5 (e : Bool) (s : ByteArray) (i : Nat) : Bool := if h : 1 ≤ i ∧ i < s.size then (s[i]'h.2) == 34 && (!e || tailN (s.extract 1 i) % 2 == 0) else false
/-- where the text between the quotes ends -/
def close5 (e : Bool) (s : ByteArray) : Nat := (List.range s.size).findIdx (clos5 e s)
/-- begins with a quote -/
def opens (s : ByteArray) : Bool := if h : 0 < s.size then s[0] == 34 else false
/-- what Quoted answers -/
def quotT (d : DialectD) (s : ByteArray) : ByteArray × Bool :=
  if opens s = true ∧ close5 d.esc s < s.size then (if behind5 d (s.extract (close5 d.esc s + 1) s.size) then unT d.esc (s.extract 1 (close5 d.esc s)) else (⟨#[]⟩, false)) else (⟨#[]⟩, false)

set_option maxRecDepth 100000 in
set_option maxHeartbeats 3200000 in
theorem quoted_spec (d : DialectD) (s : ByteArray) (w : World) (hs : s.size ≤ 100000000) (hn : d.notes.size ≤ 100000000) :
    Calls Tryz.prog 154 #[.string s, dialectV d] w fun e w' => e = .returned (.tuple #[.string (quotT d s).1, .bool (quotT d s).2]) ∧ Below w.heap.size w w' := by
  have HA : Hid (opens s = false → quotT d s = (⟨#[]⟩, false)) := by
    intro h
    unfold quotT
    rw [if_neg (by intro h2; rw [h] at h2; exact absurd h2.1 (by decide))]
  have HB : Hid (opens s = true → ∀ i, i ≤ s.size → (∀ j, j < i → clos5 d.esc s j = false) → (i < s.size → clos5 d.esc s i = true) → quotT d s = if i < s.size then (if behind5 d (s.extract (i + 1) s.size) then unT d.esc (s.extract 1 i) else (⟨#[]⟩, false)) else (⟨#[]⟩, false)) := by
    intro h i hi h1 h2
    have hc : close5 d.esc s = i := findIdx_range _ _ i hi h1 h2
    unfold quotT
    rw [hc]
    by_cases hl : i < s.size
    · rw [if_pos ⟨h, hl⟩, if_pos hl]
    · rw [if_neg (fun h2 => hl h2.2), if_neg hl]
  have HC : Hid (∀ i (h1 : 1 ≤ i) (h : i < s.size), clos5 d.esc s i = (s[i] == 34 && (!d.esc || tailN (s.extract 1 i) % 2 == 0))) := by
    intro i h1 h
    unfold clos5
    rw [dif_pos ⟨h1, h⟩]
  have HC0 : Hid (clos5 d.esc s 0 = false) := by unfold Hid clos5; rw [dif_neg (fun h => by omega)]
  have KT := Lib.hid (fun (i : Nat) (w : World) => tail_spec (s.extract 1 i) w (by rw [ByteArray.size_extract]; unfold maxLen; omega))
  have HTN : Hid (∀ i, tailN (s.extract 1 i) ≤ 100000000) := by
    intro i
    refine Nat.le_trans (tailN_le _) ?_
    rw [ByteArray.size_extract]
    omega
  have KN := Lib.hid (fun (i : Nat) (w : World) => behind5_spec d (s.extract (i + 1) s.size) w (by rw [ByteArray.size_extract]; omega) hn)
  have KU := Lib.hid (fun (i : Nat) (w : World) => unescape_spec d (s.extract 1 i) w (by rw [ByteArray.size_extract]; omega))
  have HN := Lib.hid (dialAt_new w d)
  obtain ⟨d0, d1, d2, d3, d4, d5⟩ := d
  unfold dialectV at *
  simp only at HA HB HC HC0 KN KU HN hn ⊢
  generalize hCL : clos5 d4 s = cl at *
  clear hCL
  generalize quotT ⟨d0, d1, d2, d3, d4, d5⟩ s = r at *
  have hb0 := (Below.refl w.heap.size w).alloc (Nat.le_refl _) (.cells #[.string d0, .string d1, .bool d2, .bool d3, .bool d4, .int .i64 d5] 25)
  have hw0 : w.heap.size < (w.alloc (.cells #[.string d0, .string d1, .bool d2, .bool d3, .bool d4, .int .i64 d5] 25)).heap.size := by simp
  go_enter Tryz.func154, Tryz.ntmps154
  go_wp2
  generalize w.alloc (.cells #[.string d0, .string d1, .bool d2, .bool d3, .bool d4, .int .i64 d5] 25) = W0 at *
  go_loopw [6] (fun i wr => ∃ k : Nat, 1 ≤ k ∧ (k ≤ s.size ∨ k = 1) ∧ i = .int .i64 k ∧ Hid (∀ j, j < k → cl j = false) ∧ wr = W0) (fun i _ => s.size - (intOf i).toNat)
  case atStart => exact ⟨1, Nat.le_refl _, .inr rfl, rfl, fun j hj => (show j = 0 by omega) ▸ HC0.out, rfl⟩
  case round =>
    obtain ⟨k, hk1, hks, rfl, hno, rfl⟩ := hrel
    have hb := hb0
    by_cases hlt : k < s.size
    · have h0s : 0 < s.size := by omega
      have h0z : (0 : Int) < (s.size : Int) := by omega
      have hkz : (k : Int) < (s.size : Int) := by omega
      by_cases hq : s[0] = 34
      · have hop : opens s = true := by unfold opens; rw [dif_pos h0s]; simp [hq]
        have e0 : ((s[0].toNat : Int) == 34) = true := byte_same _ 34 hq
        obtain ⟨c0, c1, c2, c3, c4, c5⟩ := HN.out.cells
        simp only at c0 c1 c2 c3 c4 c5
        have hck := HC.out k hk1 hlt
        clear hq
        by_cases h34 : s[k] = 34
        · have e34 : ((s[k].toNat : Int) == 34) = true := byte_same _ 34 h34
          have b34 : (s[k] == 34) = true := by simp [h34]
          rw [b34] at hck
          clear h34 b34
          have hyes : Hid (cl k = true → r = if behind5 ⟨d0, d1, d2, d3, d4, d5⟩ (s.extract (k + 1) s.size) then unT d4 (s.extract 1 k) else (⟨#[]⟩, false)) := by
            intro h
            have := HB.out hop k (by omega) hno.out (fun _ => h)
            rw [if_pos hlt] at this
            exact this
          have q1 : (1 : Int) ≤ (k : Int) := by omega
          have q2 : (k : Int) ≤ (s.size : Int) := by omega
          have q3 : (k : Int) + 1 ≤ (s.size : Int) := by omega
          have KN2 := Lib.hid (KN.out k)
          have KU2 := Lib.hid (KU.out k)
          have KT2 := Lib.hid (KT.out k)
          have htn := HTN.out k
          clear KN KU KT HTN HA HB HC HC0
          generalize behind5 ⟨d0, d1, d2, d3, d4, d5⟩ (s.extract (k + 1) s.size) = bh at *
          generalize unT d4 (s.extract 1 k) = ut at *
          obtain ⟨ua, ub⟩ := ut
          generalize tailN (s.extract 1 k) = tn at *
          simp only at KU2
          cases d4
          · have hyes2 : Hid (r = if bh then (ua, ub) else (⟨#[]⟩, false)) := hyes.out hck
            clear hyes hck hno KT2
            go_wp2_with fail
            have KNr : Hid (∀ q os, Calls Tryz.prog 153 #[.string (s.extract (k + 1) s.size), .agg #[.string d0, .string d1, .bool d2, .bool d3, .bool false, .int .i64 d5]] (grow (redrawn wr q) os) fun e w' => e = .returned (.bool bh) ∧ ∃ p : Regrown, w' = grow (redrawn wr p.d) p.os) := by
              intro q os
              exact Calls.regrown_of (KN2.out _)
            have x0 := cell_regrown c0
            have x1 := cell_regrown c1
            have x2 := cell_regrown c2
            have x3 := cell_regrown c3
            have x4 := cell_regrown c4
            have x5 := cell_regrown c5
            cases bh
            · have HF : Hid (r = (⟨#[]⟩, false)) := hyes2.out
              go_wp2_with fail
              refine wp_region_quiet_below (by kernel_rfl) (by kernel_rfl) ?_
              repeat (go_big_quiet_step (first | with_reducible exact KNr.out _ _))
              refine wpQuiet_nil ?_
              intro _ hw'
              obtain ⟨⟨dq, osq⟩, hw''⟩ := hw'
              subst hw''
              have hb2 := hb.trans ((below_regrown wr dq osq).mono (by omega))
              go_wp2
              go_ret2
              exact ⟨by rw [HF.out]; rfl, hb2⟩
            · have HF : Hid (r = (ua, ub)) := hyes2.out
              go_wp2_with fail
              refine wp_region_quiet_below (by kernel_rfl) (by kernel_rfl) ?_
              repeat (go_big_quiet_step (first | with_reducible exact KNr.out _ _))
              refine wpQuiet_nil ?_
              intro _ hw'
              obtain ⟨⟨dq, osq⟩, hw''⟩ := hw'
              subst hw''
              have hbq := below_regrown wr dq osq
              have hb2 := hb.trans (hbq.mono (by omega))
              have hD2 := Lib.hid (HN.out.over hbq hw0)
              clear x0 x1 x2 x3 x4 x5 c0 c1 c2 c3 c4 c5 KNr hbq HN
              generalize grow (redrawn wr dq) osq = w2 at *
              obtain ⟨c0, c1, c2, c3, c4, c5⟩ := hD2.out.cells
              simp only at c0 c1 c2 c3 c4 c5
              have x0 := cell_regrown c0
              have x1 := cell_regrown c1
              have x2 := cell_regrown c2
              have x3 := cell_regrown c3
              have x4 := cell_regrown c4
              have x5 := cell_regrown c5
              have KUr : Hid (∀ q os, Calls Tryz.prog 170 #[.string (s.extract 1 k), .agg #[.string d0, .string d1, .bool d2, .bool d3, .bool false, .int .i64 d5]] (grow (redrawn w2 q) os) fun e w' => e = .returned (.tuple #[.string ua, .bool ub]) ∧ ∃ p : Regrown, w' = grow (redrawn w2 p.d) p.os) := by
                intro q os
                exact Calls.regrown_of (KU2.out _)
              clear c0 c1 c2 c3 c4 c5 KU2 KN2
              go_wp2_with fail
              refine wp_region_quiet_below (by kernel_rfl) (by kernel_rfl) ?_
              repeat (go_big_quiet_step (first | with_reducible exact KUr.out _ _))
              refine wpQuiet_nil ?_
              intro _ hw'
              obtain ⟨⟨dq, osq⟩, hw''⟩ := hw'
              subst hw''
              have hb3 := hb2.trans ((below_regrown w2 dq osq).mono hb2.size)
              go_wp2
              go_ret2
              exact ⟨by rw [HF.out]; rfl, hb3⟩
          · rcases (show tn % 2 = 0 ∨ tn % 2 = 1 by omega) with hp | hp
            · have hyes2 : Hid (r = if bh then (ua, ub) else (⟨#[]⟩, false)) := hyes.out (by rw [hck, hp]; rfl)
              have hpz : (((tn : Int) % 2) == 0) = true := by rw [beq_iff_eq]; omega
              clear hyes hck hno hp
              go_wp2_with fail
              refine (KT2.out _).mono ?_
              rintro e w1 ⟨rfl, rfl⟩
              clear KT2
              go_wp2_with fail
              have KNr : Hid (∀ q os, Calls Tryz.prog 153 #[.string (s.extract (k + 1) s.size), .agg #[.string d0, .string d1, .bool d2, .bool d3, .bool true, .int .i64 d5]] (grow (redrawn wr q) os) fun e w' => e = .returned (.bool bh) ∧ ∃ p : Regrown, w' = grow (redrawn wr p.d) p.os) := by
                intro q os
                exact Calls.regrown_of (KN2.out _)
              have x0 := cell_regrown c0
              have x1 := cell_regrown c1
              have x2 := cell_regrown c2
              have x3 := cell_regrown c3
              have x4 := cell_regrown c4
              have x5 := cell_regrown c5
              cases bh
              · have HF : Hid (r = (⟨#[]⟩, false)) := hyes2.out
                go_wp2_with fail
                refine wp_region_quiet_below (by kernel_rfl) (by kernel_rfl) ?_
                repeat (go_big_quiet_step (first | with_reducible exact KNr.out _ _))
                refine wpQuiet_nil ?_
                intro _ hw'
                obtain ⟨⟨dq, osq⟩, hw''⟩ := hw'
                subst hw''
                have hb2 := hb.trans ((below_regrown wr dq osq).mono (by omega))
                go_wp2
                go_ret2
                exact ⟨by rw [HF.out]; rfl, hb2⟩
              · have HF : Hid (r = (ua, ub)) := hyes2.out
                go_wp2_with fail
                refine wp_region_quiet_below (by kernel_rfl) (by kernel_rfl) ?_
                repeat (go_big_quiet_step (first | with_reducible exact KNr.out _ _))
                refine wpQuiet_nil ?_
                intro _ hw'
                obtain ⟨⟨dq, osq⟩, hw''⟩ := hw'
                subst hw''
                have hbq := below_regrown wr dq osq
                have hb2 := hb.trans (hbq.mono (by omega))
                have hD2 := Lib.hid (HN.out.over hbq hw0)
                clear x0 x1 x2 x3 x4 x5 c0 c1 c2 c3 c4 c5 KNr hbq HN
                generalize grow (redrawn wr dq) osq = w2 at *
                obtain ⟨c0, c1, c2, c3, c4, c5⟩ := hD2.out.cells
                simp only at c0 c1 c2 c3 c4 c5
                have x0 := cell_regrown c0
                have x1 := cell_regrown c1
                have x2 := cell_regrown c2
                have x3 := cell_regrown c3
                have x4 := cell_regrown c4
                have x5 := cell_regrown c5
                have KUr : Hid (∀ q os, Calls Tryz.prog 170 #[.string (s.extract 1 k), .agg #[.string d0, .string d1, .bool d2, .bool d3, .bool true, .int .i64 d5]] (grow (redrawn w2 q) os) fun e w' => e = .returned (.tuple #[.string ua, .bool ub]) ∧ ∃ p : Regrown, w' = grow (redrawn w2 p.d) p.os) := by
                  intro q os
                  exact Calls.regrown_of (KU2.out _)
                clear c0 c1 c2 c3 c4 c5 KU2 KN2
                go_wp2_with fail
                refine wp_region_quiet_below (by kernel_rfl) (by kernel_rfl) ?_
                repeat (go_big_quiet_step (first | with_reducible exact KUr.out _ _))
                refine wpQuiet_nil ?_
                intro _ hw'
                obtain ⟨⟨dq, osq⟩, hw''⟩ := hw'
                subst hw''
                have hb3 := hb2.trans ((below_regrown w2 dq osq).mono hb2.size)
                go_wp2
                go_ret2
                exact ⟨by rw [HF.out]; rfl, hb3⟩
            · have hno2 : Hid (∀ j, j < k + 1 → cl j = false) := by
                intro j hj
                by_cases e : j = k
                · subst e; rw [hck, hp]; rfl
                · exact hno.out j (by omega)
              have hpz : (((tn : Int) % 2) == 0) = false := by rw [beq_eq_false_iff_ne]; omega
              clear hyes hck hno hp
              go_wp2_with fail
              refine (KT2.out _).mono ?_
              rintro e w1 ⟨rfl, rfl⟩
              clear KT2
              go_wp2
              go_roundw
              case rel => exact ⟨k + 1, by omega, .inl (by omega), by go_num, hno2, trivial⟩
              case measure => simp [intOf]; omega
        · have e34 : ((s[k].toNat : Int) == 34) = false := byte_differ _ 34 h34
          have b34 : (s[k] == 34) = false := by simpa using h34
          rw [b34] at hck
          have hno2 : Hid (∀ j, j < k + 1 → cl j = false) := by
            intro j hj
            by_cases e : j = k
            · subst e; exact hck
            · exact hno.out j (by omega)
          clear hno hck h34 b34
          go_wp2
          go_roundw
          case rel => exact ⟨k + 1, by omega, .inl (by omega), by go_num, hno2, trivial⟩
          case measure => simp [intOf]; omega
      · have HF : Hid (r = (⟨#[]⟩, false)) := HA.out (by unfold opens; rw [dif_pos h0s]; simpa using hq)
        have e0 : ((s[0].toNat : Int) == 34) = false := byte_differ _ 34 hq
        clear hq
        clear HA
        go_wp2
        go_ret2
        exact ⟨by rw [HF.out]; rfl, hb⟩
    · have HF : Hid (r = (⟨#[]⟩, false)) := by
        cases hop : opens s
        · exact HA.out hop
        · have := HB.out hop s.size (Nat.le_refl _) (fun j hj => hno.out j (by omega)) (fun h => absurd h (Nat.lt_irrefl _))
          rw [if_neg (Nat.lt_irrefl _)] at this
          exact this
      clear HA
      go_wp2
      go_ret2
      exact ⟨by rw [HF.out]; rfl, hb⟩

end Go.Proofs.YtkhkpjnpjgnckaaGreatDoor
