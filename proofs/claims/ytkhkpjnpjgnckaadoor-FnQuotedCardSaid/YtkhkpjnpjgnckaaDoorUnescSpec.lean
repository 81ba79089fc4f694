/- Escapes taken back: the model's contract of Unescape. -/
import Derived.Test.YtkhkpjnpjgnckaaDoorProg
import Derived.Test.YtkhkpjnpjgnckaaDoorPlain
import Derived.Test.YtkhkpjnpjgnckaaDoorCut
import Derived.Test.YtkhkpjnpjgnckaaDoorTrim
import Derived.Test.YtkhkpjnpjgnckaaDoorDialectRows
import Derived.WalkKit
import Derived.WalkLawsBesides
import Derived.OwnWalk
import Derived.Lib.AppendStr
import Derived.Laws.IdiomStrings
import Derived.Lib.Hide
import Derived.IntWalk
namespace Go.Proofs.YtkhkpjnpjgnckaaDoor
open Go.RowKit
set_option linter.unusedVariables false

abbrev oddsB : ByteArray := ⟨#[91, 93, 61, 58, 35, 59, 33]⟩
/-- a byte that may stand for itself behind a byte 92 -/
def selfB (c : UInt8) : Bool := c == 92 || c == 34 || hasB oddsB c || blankB c
/-- what a byte behind a byte 92 stands for -/
def unB (c : UInt8) : Option UInt8 := if c = 110 then some 10 else if c = 116 then some 9 else if c = 114 then some 13 else if selfB c then some c else none
/-- a text with its escapes taken back -/
def unE : List UInt8 → Option (List UInt8)
  | [] => some []
  | [c] => if c = 92 then none else some [c]
  | c :: e :: t => if c = 92 then (match unB e with | some b => (unE t).map (b :: ·) | none => none) else (unE (e :: t)).map (c :: ·)
theorem unE_nil : unE [] = some [] := rfl
theorem unE_plain {c : UInt8} (t : List UInt8) (h : c ≠ 92) : unE (c :: t) = (unE t).map (c :: ·) := by
  cases t with
  | nil => simp [unE, h]
  | cons e t => simp [unE, h]
theorem unE_end : unE [92] = none := rfl
theorem unE_esc {e b : UInt8} (t : List UInt8) (h : unB e = some b) : unE (92 :: e :: t) = (unE t).map (b :: ·) := by simp [unE, h]
theorem unE_bad {e : UInt8} (t : List UInt8) (h : unB e = none) : unE (92 :: e :: t) = none := by simp [unE, h]
theorem unE_len (l : List UInt8) : ∀ m, unE l = some m → m.length ≤ l.length := by
  induction l using unE.induct with
  | case1 => intro m h; rw [unE_nil] at h; cases h; exact Nat.le_refl _
  | case2 => intro m h; rw [unE_end] at h; cases h
  | case3 c hc => intro m h; rw [unE_plain [] hc] at h; simp [unE] at h; subst h; simp
  | case4 e t b hb ih =>
    intro m h
    rw [unE_esc t hb] at h
    cases h2 : unE t with
    | none => rw [h2] at h; simp at h
    | some m2 =>
      rw [h2] at h
      simp at h
      subst h
      have := ih m2 h2
      simp
      omega
  | case5 e t hb => intro m h; rw [unE_bad t hb] at h; cases h
  | case6 c e t hc ih =>
    intro m h
    rw [unE_plain (e :: t) hc] at h
    cases h2 : unE (e :: t) with
    | none => rw [h2] at h; simp at h
    | some m2 =>
      rw [h2] at h
      simp at h
      subst h
      have := ih m2 h2
      simp at this ⊢
      omega
/-- how far it has come -/
def UnAt (all : List UInt8) (k : Nat) (l : List UInt8) : Prop := unE all = (unE (all.drop k)).map (l ++ ·)
theorem unAt_zero (all : List UInt8) : UnAt all 0 [] := by
  unfold UnAt
  rw [List.drop_zero]
  cases unE all <;> rfl
theorem unAt_plain {all : List UInt8} {k : Nat} {l : List UInt8} (h : UnAt all k l) (hk : k < all.length) (hc : all[k] ≠ 92) : UnAt all (k + 1) (l ++ [all[k]]) := by
  unfold UnAt at *
  rw [h, List.drop_eq_getElem_cons hk, unE_plain _ hc]
  cases unE (all.drop (k + 1)) with
  | none => rfl
  | some x => simp
theorem unAt_esc {all : List UInt8} {k : Nat} {l : List UInt8} {b : UInt8} (h : UnAt all k l) (hk : k + 1 < all.length) (hc : all[k] = 92) (hb : unB all[k + 1] = some b) : UnAt all (k + 2) (l ++ [b]) := by
  unfold UnAt at *
  rw [h, List.drop_eq_getElem_cons (by omega), hc, List.drop_eq_getElem_cons hk, unE_esc _ hb]
  cases unE (all.drop (k + 2)) with
  | none => rfl
  | some x => simp
theorem unAt_bad {all : List UInt8} {k : Nat} {l : List UInt8} (h : UnAt all k l) (hk : k + 1 < all.length) (hc : all[k] = 92) (hb : unB all[k + 1] = none) : unE all = none := by
  unfold UnAt at *
  rw [h, List.drop_eq_getElem_cons (by omega), hc, List.drop_eq_getElem_cons hk, unE_bad _ hb]
  rfl
theorem unAt_last {all : List UInt8} {k : Nat} {l : List UInt8} (h : UnAt all k l) (hk : k < all.length) (hk2 : all.length ≤ k + 1) (hc : all[k] = 92) : unE all = none := by
  unfold UnAt at *
  rw [h, List.drop_eq_getElem_cons hk, hc, List.drop_of_length_le hk2, unE_end]
  rfl
theorem unAt_end {all : List UInt8} {k : Nat} {l : List UInt8} (h : UnAt all k l) (hk : all.length ≤ k) : unE all = some l := by
  unfold UnAt at *
  rw [h, List.drop_of_length_le hk, unE_nil]
  simp
/-- what Unescape answers -/
def unT (e : Bool) (s : ByteArray) : ByteArray × Bool := if e then (match unE s.data.toList with | some l => (⟨l.toArray⟩, true) | none => (⟨#[]⟩, false)) else (s, true)
theorem unT_off (s : ByteArray) : unT false s = (s, true) := rfl
theorem unT_good {s : ByteArray} {l : List UInt8} (h : unE s.data.toList = some l) : unT true s = (⟨l.toArray⟩, true) := by simp [unT, h]
theorem unT_bad {s : ByteArray} (h : unE s.data.toList = none) : unT true s = (⟨#[]⟩, false) := by simp [unT, h]
theorem unT_size (e : Bool) (s : ByteArray) : (unT e s).1.size ≤ s.size := by
  cases e with
  | false => exact Nat.le_refl _
  | true =>
    cases h : unE s.data.toList with
    | none => rw [unT_bad h]; exact Nat.zero_le _
    | some l =>
      rw [unT_good h]
      have := unE_len _ l h
      rw [← Lib.size_eq] at this
      rw [Lib.size_eq]
      simpa using this

theorem byte_same (c d : UInt8) (h : c = d) : ((c.toNat : Int) == (d.toNat : Int)) = true := by rw [h]; simp
theorem byte_differ (c d : UInt8) (h : c ≠ d) : ((c.toNat : Int) == (d.toNat : Int)) = false := by
  rw [beq_eq_false_iff_ne]; intro e; exact h (UInt8.toNat_inj.1 (Int.ofNat_inj.1 e))
theorem byte_same' (c d : UInt8) (h : c = d) : ((c.toNat : Int) != (d.toNat : Int)) = false := by rw [h]; simp
theorem byte_differ' (c d : UInt8) (h : c ≠ d) : ((c.toNat : Int) != (d.toNat : Int)) = true := by
  rw [bne_iff_ne]; intro e; exact h (UInt8.toNat_inj.1 (Int.ofNat_inj.1 e))
theorem own_blockU {w : World} {base e size n : Nat} {v : Value} {xs : List Value} (h : w.ownsRow base e size v n xs) : ∀ j, v.ownBlock = some j → base ≤ j := by
  intro j hj
  rcases h.2 with ⟨rfl, h0⟩ | ⟨g, cap, cur, rfl, hb, hg, hnc, hcm, hcs, htake⟩
  · cases hj
  · simp only [Value.ownBlock] at hj; cases hj; exact hb
theorem cell_one_newU (w : World) (v : Value) (t : Nat) : ∀ j u, [v][j]? = some u → (w.alloc (.cells #[v] t)).cell? ((⟨w.heap.size, 0, none⟩ : Addr).add j) = some u := by
  intro j u hu
  cases j with
  | zero =>
    have ha : (⟨w.heap.size, 0, none⟩ : Addr).add 0 = ⟨w.heap.size, 0, none⟩ := by unfold Addr.add; split <;> simp_all
    rw [ha, Lib.cell_of_heap (heap_alloc_new _ _)]
    simpa using hu
  | succ j => simp at hu
theorem own_stepU {B : Nat} {w wr w1 : World} {t : Nat} {v v' : Value} {l : List UInt8} {c : UInt8} {o : Obj} (hb : Below w.heap.size w wr) (hBw : w.heap.size ≤ B) (hown : wr.ownsRow B t 1 v l.length (Lib.byteCells l))
    (hown' : w1.ownsRow B t 1 v' (l.length + 1) (Lib.byteCells l ++ [.int .u8 (c.toNat : Int)])) (hg : (wr.alloc o).grownBy w1 v.ownBlock) :
    w1.ownsRow B t 1 v' (l ++ [c]).length (Lib.byteCells (l ++ [c])) ∧ Below w.heap.size w w1 := by
  refine ⟨by simpa [Lib.byteCells] using hown', ?_⟩
  exact (hb.alloc hb.size o).grown hg (by have := hb.size; simp; omega) (fun j hj => Nat.le_trans hBw (own_blockU hown j hj))
theorem info_byteU : (Tryd.prog.info? 5).map (fun i => (i.zero, i.size, i.bytes)) = some (some (.int .u8 0), 1, 1) := by kernel_rfl
theorem text_of_ownU (w : World) (base n : Nat) (v : Value) (l : List UInt8) (h : w.ownsRow base 5 1 v n (Lib.byteCells l)) (hn : n = l.length) :
    (convert 22 9 v).run Tryd.prog w = .ok (.string ⟨l.toArray⟩) w := by
  subst hn
  rcases h.2 with ⟨hv, h0⟩ | ⟨g, cap, cur, hv, hb, hg, hnc, hcm, hcs, htake⟩
  · have hl : l = [] := List.eq_nil_of_length_eq_zero h0
    subst hl
    subst hv
    rw [run_convert_bytes_string w 22 9 5 none 0 0 Tryd.underlying22 Tryd.underlying5 Tryd.underlying9]
    rfl
  · subst hv
    refine run_convert_bytes_back w 22 9 5 ⟨g, 0, none⟩ cap l Tryd.underlying22 Tryd.underlying5 Tryd.underlying9 (fun j hj => ?_)
    refine World.ownsRow.cells h (g := g) rfl j _ ?_
    simp [Lib.byteCells, hj]


set_option maxRecDepth 100000 in
set_option maxHeartbeats 3200000 in
theorem unescape_spec (d : DialectD) (s : ByteArray) (w : World) (hs : s.size ≤ 100000000) :
    Calls Tryd.prog 27 #[.string s, dialectV d] w fun e w' => e = .returned (.tuple #[.string (unT d.esc s).1, .bool (unT d.esc s).2]) ∧ Below w.heap.size w w' := by
  obtain ⟨i0, hi, hz0, hz1, hz2⟩ := info_parts info_byteU
  obtain ⟨d0, d1, d2, d3, d4, d5⟩ := d
  unfold dialectV
  simp only
  have hb0 := (Below.refl w.heap.size w).alloc (Nat.le_refl _) (.cells #[.string d0, .string d1, .bool d2, .bool d3, .bool d4, .int .i64 d5] 25)
  cases d4
  · rw [unT_off]
    go_enter Tryd.func27, Tryd.ntmps27
    go_wp2
    go_ret2
    exact ⟨rfl, hb0⟩
  · have hs9 : (s.size : Int) ≤ 100000000 := by omega
    have HSL := Lib.hid (Lib.size_eq s)
    go_enter Tryd.func27, Tryd.ntmps27
    go_wp2
    go_loopw [6, 7] (fun v i wr => ∃ (k : Nat) (l : List UInt8), k ≤ s.size ∧ i = .int .i64 k ∧ l.length ≤ k ∧ Hid (UnAt s.data.toList k l) ∧ wr.ownsRow (w.heap.size + 1) 5 1 v l.length (Lib.byteCells l) ∧ Below w.heap.size w wr ∧ w.heap.size + 1 ≤ wr.heap.size) (fun _ i _ => s.size - (intOf i).toNat)
    case atStart => exact ⟨0, [], Nat.zero_le _, rfl, Nat.le_refl _, unAt_zero _, by have := World.ownsRow_lit (w.alloc (.cells #[.string d0, .string d1, .bool d2, .bool d3, .bool true, .int .i64 d5] 25)) (e := 5) (size := 1) #[] 0 (Nat.le_refl _) (Nat.zero_le _) rfl; rw [World.size_alloc] at this; exact this, hb0.alloc (by simp) _, by simp⟩
    case round =>
      obtain ⟨k, l, hk, rfl, hlk, hat, hown, hb, hw1⟩ := hrel
      clear hb0
      by_cases hlt : k < s.size
      · have hkl : k < s.data.toList.length := by rw [← HSL.out]; exact hlt
        have hget : s.data.toList[k] = s[k] := rfl
        by_cases h92 : s[k] = 92
        · have e92 : ((s[k].toNat : Int) != 92) = false := byte_same' _ 92 h92
          by_cases hlast : k + 1 < s.size
          · have hkl1 : k + 1 < s.data.toList.length := by rw [← HSL.out]; exact hlast
            have hget1 : s.data.toList[k + 1] = s[k + 1] := rfl
            have hfin : Hid (∀ b, unB s[k + 1] = some b → UnAt s.data.toList (k + 2) (l ++ [b])) := fun b hb => unAt_esc hat.out hkl1 h92 hb
            have hbad : Hid (unB s[k + 1] = none → unT true s = (⟨#[]⟩, false)) := fun h => unT_bad (unAt_bad hat.out hkl1 h92 h)
            have hkz : ((k : Int) + 1 == (s.size : Int)) = false := by rw [beq_eq_false_iff_ne]; omega
            have K1 := Lib.hid (fun w => has_any oddsB s[k + 1] w (by decide))
            have K2 := Lib.hid (fun w => blank_any s[k + 1] w)
            have hun : unB s[k + 1] = (if s[k + 1] = 110 then some 10 else if s[k + 1] = 116 then some 9 else if s[k + 1] = 114 then some 13 else if selfB s[k + 1] then some s[k + 1] else none) := rfl
            clear h92 hat hget hget1
            by_cases q1 : s[k + 1] = 110
            · have e1 : ((s[k + 1].toNat : Int) == 110) = true := byte_same _ 110 q1
              have hat2 := Lib.hid (hfin.out 10 (by rw [hun, if_pos q1]))
              clear hfin hbad hun q1 K1 K2
              go_wp2_with (at_builtin; refine wpList_append_own _ rfl _ _ 22 rfl (w.heap.size + 1) 5 i0 (.int .u8 0) 1 1 Tryd.underlying22 hi hz0 hz1 hz2 rfl (by decide) _ _ _ rfl (hown.alloc _) ⟨wr.heap.size, 0, none⟩ 1 1 [.int .u8 ((10 : UInt8).toNat : Int)] rfl rfl (cell_one_newU _ _ _) (by simp [Value.oneCell']) (by unfold maxLen; omega) (by omega) (by simp; omega) ?_; intro v' w1 hown' hgrow _)
              have hw2 : w.heap.size + 1 ≤ w1.heap.size := by have := hgrow.size; simp at this; omega
              obtain ⟨ho2, hb2⟩ := own_stepU hb (Nat.le_succ _) hown hown' hgrow
              clear hown hown' hgrow hb
              go_wp2
              go_roundw
              case rel => exact ⟨k + 2, l ++ [10], by omega, by go_num, by simp; omega, hat2, ho2, hb2, hw2⟩
              case measure => simp [intOf]; omega
            · have e1 : ((s[k + 1].toNat : Int) == 110) = false := byte_differ _ 110 q1
              by_cases q2 : s[k + 1] = 116
              · have e2 : ((s[k + 1].toNat : Int) == 116) = true := byte_same _ 116 q2
                have hat2 := Lib.hid (hfin.out 9 (by rw [hun, if_neg q1, if_pos q2]))
                clear hfin hbad hun q1 q2 K1 K2
                go_wp2_with (at_builtin; refine wpList_append_own _ rfl _ _ 22 rfl (w.heap.size + 1) 5 i0 (.int .u8 0) 1 1 Tryd.underlying22 hi hz0 hz1 hz2 rfl (by decide) _ _ _ rfl (hown.alloc _) ⟨wr.heap.size, 0, none⟩ 1 1 [.int .u8 ((9 : UInt8).toNat : Int)] rfl rfl (cell_one_newU _ _ _) (by simp [Value.oneCell']) (by unfold maxLen; omega) (by omega) (by simp; omega) ?_; intro v' w1 hown' hgrow _)
                have hw2 : w.heap.size + 1 ≤ w1.heap.size := by have := hgrow.size; simp at this; omega
                obtain ⟨ho2, hb2⟩ := own_stepU hb (Nat.le_succ _) hown hown' hgrow
                clear hown hown' hgrow hb
                go_wp2
                go_roundw
                case rel => exact ⟨k + 2, l ++ [9], by omega, by go_num, by simp; omega, hat2, ho2, hb2, hw2⟩
                case measure => simp [intOf]; omega
              · have e2 : ((s[k + 1].toNat : Int) == 116) = false := byte_differ _ 116 q2
                by_cases q3 : s[k + 1] = 114
                · have e3 : ((s[k + 1].toNat : Int) == 114) = true := byte_same _ 114 q3
                  have hat2 := Lib.hid (hfin.out 13 (by rw [hun, if_neg q1, if_neg q2, if_pos q3]))
                  clear hfin hbad hun q1 q2 q3 K1 K2
                  go_wp2_with (at_builtin; refine wpList_append_own _ rfl _ _ 22 rfl (w.heap.size + 1) 5 i0 (.int .u8 0) 1 1 Tryd.underlying22 hi hz0 hz1 hz2 rfl (by decide) _ _ _ rfl (hown.alloc _) ⟨wr.heap.size, 0, none⟩ 1 1 [.int .u8 ((13 : UInt8).toNat : Int)] rfl rfl (cell_one_newU _ _ _) (by simp [Value.oneCell']) (by unfold maxLen; omega) (by omega) (by simp; omega) ?_; intro v' w1 hown' hgrow _)
                  have hw2 : w.heap.size + 1 ≤ w1.heap.size := by have := hgrow.size; simp at this; omega
                  obtain ⟨ho2, hb2⟩ := own_stepU hb (Nat.le_succ _) hown hown' hgrow
                  clear hown hown' hgrow hb
                  go_wp2
                  go_roundw
                  case rel => exact ⟨k + 2, l ++ [13], by omega, by go_num, by simp; omega, hat2, ho2, hb2, hw2⟩
                  case measure => simp [intOf]; omega
                · have e3 : ((s[k + 1].toNat : Int) == 114) = false := byte_differ _ 114 q3
                  rw [if_neg q1, if_neg q2, if_neg q3] at hun
                  clear q1 q2 q3
                  unfold selfB at hun
                  by_cases q4 : s[k + 1] = 92
                  · have e4 : ((s[k + 1].toNat : Int) == 92) = true := byte_same _ 92 q4
                    have hat2 := Lib.hid (hfin.out s[k + 1] (by rw [hun, if_pos (by simp [q4])]))
                    clear hfin hbad hun q4 K1 K2
                    go_wp2_with (at_builtin; refine wpList_append_own _ rfl _ _ 22 rfl (w.heap.size + 1) 5 i0 (.int .u8 0) 1 1 Tryd.underlying22 hi hz0 hz1 hz2 rfl (by decide) _ _ _ rfl (hown.alloc _) ⟨wr.heap.size, 0, none⟩ 1 1 [.int .u8 ((s[k + 1] : UInt8).toNat : Int)] rfl rfl (cell_one_newU _ _ _) (by simp [Value.oneCell']) (by unfold maxLen; omega) (by omega) (by simp; omega) ?_; intro v' w1 hown' hgrow _)
                    have hw2 : w.heap.size + 1 ≤ w1.heap.size := by have := hgrow.size; simp at this; omega
                    obtain ⟨ho2, hb2⟩ := own_stepU hb (Nat.le_succ _) hown hown' hgrow
                    clear hown hown' hgrow hb
                    go_wp2
                    go_roundw
                    case rel => exact ⟨k + 2, l ++ [s[k + 1]], by omega, by go_num, by simp; omega, hat2, ho2, hb2, hw2⟩
                    case measure => simp [intOf]; omega
                  · have e4 : ((s[k + 1].toNat : Int) == 92) = false := byte_differ _ 92 q4
                    by_cases q5 : s[k + 1] = 34
                    · have e5 : ((s[k + 1].toNat : Int) == 34) = true := byte_same _ 34 q5
                      have hat2 := Lib.hid (hfin.out s[k + 1] (by rw [hun, if_pos (by simp [q5])]))
                      clear hfin hbad hun q4 q5 K1 K2
                      go_wp2_with (at_builtin; refine wpList_append_own _ rfl _ _ 22 rfl (w.heap.size + 1) 5 i0 (.int .u8 0) 1 1 Tryd.underlying22 hi hz0 hz1 hz2 rfl (by decide) _ _ _ rfl (hown.alloc _) ⟨wr.heap.size, 0, none⟩ 1 1 [.int .u8 ((s[k + 1] : UInt8).toNat : Int)] rfl rfl (cell_one_newU _ _ _) (by simp [Value.oneCell']) (by unfold maxLen; omega) (by omega) (by simp; omega) ?_; intro v' w1 hown' hgrow _)
                      have hw2 : w.heap.size + 1 ≤ w1.heap.size := by have := hgrow.size; simp at this; omega
                      obtain ⟨ho2, hb2⟩ := own_stepU hb (Nat.le_succ _) hown hown' hgrow
                      clear hown hown' hgrow hb
                      go_wp2
                      go_roundw
                      case rel => exact ⟨k + 2, l ++ [s[k + 1]], by omega, by go_num, by simp; omega, hat2, ho2, hb2, hw2⟩
                      case measure => simp [intOf]; omega
                    · have e5 : ((s[k + 1].toNat : Int) == 34) = false := byte_differ _ 34 q5
                      have b4 : (s[k + 1] == 92) = false := by simpa using q4
                      have b5 : (s[k + 1] == 34) = false := by simpa using q5
                      rw [b4, b5] at hun
                      clear q4 q5 b4 b5
                      cases r1 : hasB oddsB s[k + 1] with
                      | true =>
                        rw [r1] at K1 hun
                        have hat2 := Lib.hid (hfin.out s[k + 1] (by rw [hun]; rfl))
                        clear hfin hbad hun r1 K2
                        go_wp2_with fail
                        refine (K1.out _).mono ?_
                        rintro e w' ⟨rfl, rfl⟩
                        clear K1
                        go_wp2_with (at_builtin; refine wpList_append_own _ rfl _ _ 22 rfl (w.heap.size + 1) 5 i0 (.int .u8 0) 1 1 Tryd.underlying22 hi hz0 hz1 hz2 rfl (by decide) _ _ _ rfl (hown.alloc _) ⟨wr.heap.size, 0, none⟩ 1 1 [.int .u8 ((s[k + 1] : UInt8).toNat : Int)] rfl rfl (cell_one_newU _ _ _) (by simp [Value.oneCell']) (by unfold maxLen; omega) (by omega) (by simp; omega) ?_; intro v' w1 hown' hgrow _)
                        have hw2 : w.heap.size + 1 ≤ w1.heap.size := by have := hgrow.size; simp at this; omega
                        obtain ⟨ho2, hb2⟩ := own_stepU hb (Nat.le_succ _) hown hown' hgrow
                        clear hown hown' hgrow hb
                        go_wp2
                        go_roundw
                        case rel => exact ⟨k + 2, l ++ [s[k + 1]], by omega, by go_num, by simp; omega, hat2, ho2, hb2, hw2⟩
                        case measure => simp [intOf]; omega
                      | false =>
                        rw [r1] at K1 hun
                        cases r2 : blankB s[k + 1] with
                        | true =>
                          rw [r2] at K2 hun
                          have hat2 := Lib.hid (hfin.out s[k + 1] (by rw [hun]; rfl))
                          clear hfin hbad hun r1 r2
                          go_wp2_with fail
                          refine (K1.out _).mono ?_
                          rintro e w' ⟨rfl, rfl⟩
                          go_wp2_with fail
                          refine (K2.out _).mono ?_
                          rintro e w' ⟨rfl, rfl⟩
                          clear K1 K2
                          go_wp2_with (at_builtin; refine wpList_append_own _ rfl _ _ 22 rfl (w.heap.size + 1) 5 i0 (.int .u8 0) 1 1 Tryd.underlying22 hi hz0 hz1 hz2 rfl (by decide) _ _ _ rfl (hown.alloc _) ⟨wr.heap.size, 0, none⟩ 1 1 [.int .u8 ((s[k + 1] : UInt8).toNat : Int)] rfl rfl (cell_one_newU _ _ _) (by simp [Value.oneCell']) (by unfold maxLen; omega) (by omega) (by simp; omega) ?_; intro v' w1 hown' hgrow _)
                          have hw2 : w.heap.size + 1 ≤ w1.heap.size := by have := hgrow.size; simp at this; omega
                          obtain ⟨ho2, hb2⟩ := own_stepU hb (Nat.le_succ _) hown hown' hgrow
                          clear hown hown' hgrow hb
                          go_wp2
                          go_roundw
                          case rel => exact ⟨k + 2, l ++ [s[k + 1]], by omega, by go_num, by simp; omega, hat2, ho2, hb2, hw2⟩
                          case measure => simp [intOf]; omega
                        | false =>
                          rw [r2] at K2 hun
                          have hfin2 := Lib.hid (hbad.out (by rw [hun]; rfl))
                          clear hfin hbad hun r1 r2
                          go_wp2_with fail
                          refine (K1.out _).mono ?_
                          rintro e w' ⟨rfl, rfl⟩
                          go_wp2_with fail
                          refine (K2.out _).mono ?_
                          rintro e w' ⟨rfl, rfl⟩
                          clear K1 K2
                          go_wp2
                          go_ret2
                          exact ⟨by rw [hfin2.out]; rfl, hb⟩
          · have hfin2 := Lib.hid (unT_bad (unAt_last hat.out hkl (by rw [← HSL.out]; omega) h92))
            have hkz : ((k : Int) + 1 == (s.size : Int)) = true := by rw [beq_iff_eq]; omega
            clear hat h92
            go_wp2
            go_ret2
            exact ⟨by rw [hfin2.out]; rfl, hb⟩
        · have e92 : ((s[k].toNat : Int) != 92) = true := byte_differ' _ 92 h92
          have hat2 : Hid (UnAt s.data.toList (k + 1) (l ++ [s[k]])) := unAt_plain hat.out hkl h92
          clear hat h92 hget
          go_wp2_with (at_builtin; refine wpList_append_own _ rfl _ _ 22 rfl (w.heap.size + 1) 5 i0 (.int .u8 0) 1 1 Tryd.underlying22 hi hz0 hz1 hz2 rfl (by decide) _ _ _ rfl (hown.alloc _) ⟨wr.heap.size, 0, none⟩ 1 1 [.int .u8 (s[k].toNat : Int)] rfl rfl (cell_one_newU _ _ _) (by simp [Value.oneCell']) (by unfold maxLen; omega) (by omega) (by simp; omega) ?_; intro v' w1 hown' hgrow _)
          obtain ⟨ho2, hb2⟩ := own_stepU hb (Nat.le_succ _) hown hown' hgrow
          have hw2 : w.heap.size + 1 ≤ w1.heap.size := by have := hgrow.size; simp at this; omega
          clear hown hown' hgrow hb
          go_wp2
          go_roundw
          case rel => exact ⟨k + 1, l ++ [s[k]], by omega, by go_num, by simp; omega, hat2, ho2, hb2, hw2⟩
          case measure => simp [intOf]; omega
      · obtain rfl : k = s.size := by omega
        have hcv := text_of_ownU wr _ _ _ l hown rfl
        have hfin2 := Lib.hid (unT_good (unAt_end hat.out (by rw [← HSL.out]; exact Nat.le_refl _)))
        clear hat hown
        go_wp2
        go_ret2
        exact ⟨by rw [hfin2.out]; rfl, hb⟩

end Go.Proofs.YtkhkpjnpjgnckaaDoor
