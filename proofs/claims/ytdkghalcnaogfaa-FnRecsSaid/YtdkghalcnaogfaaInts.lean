/- Lists of numbers in memory: how they are read, compared, copied and marked. -/
import Derived.Test.YtdkghalcnaogfaaProg
import Derived.Test.YtdkghalcnaogfaaPlain
import Derived.WalkKit
import Derived.WalkLawsBesides
import Derived.OwnWalk
import Derived.BigQuiet
import Derived.Deep.QuietTactic
import Derived.Lib.QuietBelow
import Derived.Laws.IdiomStrings
import Derived.Lib.Hide
import Derived.IntWalk
namespace Go.Proofs.Ytdkghalcnaogfaa
open Go.RowKit Go.Sort
set_option linter.unusedVariables false

/-- a list of numbers, as a value and what it leads to -/
structure IntsRd (w : World) (v : Value) (g o : Nat) (l : List Int) : Prop where
  form : ∃ (a : Option Addr) (cap : Nat), v = .slice a l.length cap ∧ (l ≠ [] → a = some ⟨g, o, none⟩)
  cell : ∀ i (h : i < l.length), w.cell? ⟨g, o + i, none⟩ = some (.int .i64 l[i])
/-- and none of its cells is frozen -/
structure IntsIs (w : World) (v : Value) (g o : Nat) (l : List Int) : Prop extends IntsRd w v g o l where
  free : ∀ i, i < l.length → w.frozen? ⟨g, o + i, none⟩ = false
theorem IntsRd.kept {w w' : World} {v : Value} {g o : Nat} {l : List Int} (h : IntsRd w v g o l) (hk : l ≠ [] → w'.heap[g]? = w.heap[g]?) : IntsRd w' v g o l :=
  ⟨h.form, fun i hi => (World.cell?_of_block (a := ⟨g, o + i, none⟩) (hk (by intro e; subst e; simp at hi))).trans (h.cell i hi)⟩
theorem IntsIs.kept {w w' : World} {v : Value} {g o : Nat} {l : List Int} (h : IntsIs w v g o l) (hk : l ≠ [] → w'.heap[g]? = w.heap[g]?) : IntsIs w' v g o l :=
  ⟨h.toIntsRd.kept hk, fun i hi => (World.frozen?_of_block (a := ⟨g, o + i, none⟩) (hk (by intro e; subst e; simp at hi))).trans (h.free i hi)⟩
theorem IntsRd.lt {w : World} {v : Value} {g o : Nat} {l : List Int} (h : IntsRd w v g o l) (hl : l ≠ []) : g < w.heap.size := by
  have h0 : 0 < l.length := List.length_pos_iff.2 hl
  exact World.block_lt_of_cell? _ _ (h.cell 0 h0)
theorem IntsRd.below {B : Nat} {w w' : World} {v : Value} {g o : Nat} {l : List Int} (h : IntsRd w v g o l) (hb : Below B w w') (hg : l ≠ [] → g < B) : IntsRd w' v g o l :=
  h.kept (fun hl => hb.block g (hg hl))
theorem IntsIs.below {B : Nat} {w w' : World} {v : Value} {g o : Nat} {l : List Int} (h : IntsIs w v g o l) (hb : Below B w w') (hg : l ≠ [] → g < B) : IntsIs w' v g o l :=
  h.kept (fun hl => hb.block g (hg hl))
/-- over what happens above -/
theorem IntsRd.over {w w' : World} {v : Value} {g o : Nat} {l : List Int} (h : IntsRd w v g o l) (hb : Below w.heap.size w w') : IntsRd w' v g o l := h.below hb (fun hl => h.lt hl)
theorem IntsIs.over {w w' : World} {v : Value} {g o : Nat} {l : List Int} (h : IntsIs w v g o l) (hb : Below w.heap.size w w') : IntsIs w' v g o l := h.below hb (fun hl => h.toIntsRd.lt hl)
theorem IntsRd.nil (w : World) (v : Value) (a : Option Addr) (cap g o : Nat) (h : v = .slice a 0 cap) : IntsRd w v g o [] :=
  ⟨⟨a, cap, h, fun h => absurd rfl h⟩, fun i hi => by simp at hi⟩
theorem IntsIs.nil (w : World) (v : Value) (a : Option Addr) (cap g o : Nat) (h : v = .slice a 0 cap) : IntsIs w v g o [] :=
  ⟨IntsRd.nil w v a cap g o h, fun i hi => by simp at hi⟩

def intCells (l : List Int) : List Value := l.map (fun x => Value.int .i64 x)
theorem intCells_length (l : List Int) : (intCells l).length = l.length := by simp [intCells]
theorem intCells_append (a b : List Int) : intCells (a ++ b) = intCells a ++ intCells b := by simp [intCells]
/-- out of a row that the call itself made -/
theorem intsIs_of_owns {w : World} {base n : Nat} {v : Value} {l : List Int} {t : Nat} (h : w.ownsRow base t 1 v n (intCells l)) (hn : n = l.length) (hB : base ≤ w.heap.size) : ∃ g, IntsIs w v g 0 l ∧ base ≤ g := by
  subst hn
  rcases h.2 with ⟨hv, h0⟩ | ⟨g, cap, cur, hv, hb, hg, hnc, hcm, hcs, htake⟩
  · have hl : l = [] := List.eq_nil_of_length_eq_zero h0
    subst hl
    exact ⟨w.heap.size, IntsIs.nil w v none 0 _ _ hv, hB⟩
  · subst hv
    refine ⟨g, ⟨⟨⟨_, cap, rfl, fun _ => rfl⟩, fun i hi => ?_⟩, fun i hi => ?_⟩, hb⟩
    · rw [Nat.zero_add, World.ownsRow.cellAt h i (by omega)]
      simp [intCells, hi]
    · rw [Nat.zero_add]; exact World.ownsRow.frozenAt h i

theorem ints_ne (x y : Int) (h : x ≠ y) : (x != y) = true := by simpa using h

set_option maxHeartbeats 800000 in
theorem eqInts (w : World) (u v : Value) (g o g' o' : Nat) (l m : List Int) (hu : IntsRd w u g o l) (hv : IntsRd w v g' o' m) (hl : l.length ≤ 9223372036854775806) (hm : m.length ≤ 9223372036854775806) :
    Calls Try.prog 29 #[u, v] w fun e w' => e = .returned (.bool (decide (l = m))) ∧ ∃ n, w' = w.drewN n := by
  obtain ⟨⟨a, cap, rfl, ha⟩, cu⟩ := hu
  obtain ⟨⟨b, cap', rfl, hb⟩, cv⟩ := hv
  by_cases hlen : l.length = m.length
  · have hne : ((l.length : Int) != (m.length : Int)) = false := by simp [hlen]
    have HL := Lib.hid hlen
    have CU := Lib.hid cu
    have CV := Lib.hid cv
    have HA := Lib.hid ha
    have HB := Lib.hid hb
    clear hlen cu cv ha hb
    go_enter Try.func29, Try.ntmps29
    go_wp2
    go_loopw [5] (fun i wr => ∃ k n : Nat, k ≤ l.length ∧ i = .int .i64 k ∧ wr = w.drewN n ∧ Hid (l.take k = m.take k)) (fun i wr => l.length - (intOf i).toNat)
    case atStart => exact ⟨0, 0, Nat.zero_le _, rfl, rfl, rfl⟩
    case round =>
      obtain ⟨k, n, hk, rfl, rfl, ht⟩ := hrel
      by_cases hlt : k < l.length
      · have hltm : k < m.length := by rw [← HL.out]; exact hlt
        obtain rfl := HA.out (by intro e; subst e; simp at hlt)
        obtain rfl := HB.out (by intro e; subst e; simp at hltm)
        have h1 := CU.out k hlt
        have h2 := CV.out k hltm
        by_cases heq : l[k] = m[k]
        · have hbb : (l[k] != m[k]) = false := by simp [heq]
          have ht2 : Hid (l.take (k + 1) = m.take (k + 1)) := by
            unfold Hid
            rw [List.take_succ_eq_append_getElem hlt, List.take_succ_eq_append_getElem hltm, ht.out, heq]
          generalize l[k] = x at *
          generalize m[k] = y at *
          clear heq
          go_wp2_with fail
          go_quiet (fail)
          go_wp2
          go_roundw
          case rel => exact ⟨k + 1, n + nq, by omega, by go_num, by simp, ht2⟩
          case measure => simp [intOf]; omega
        · have hbb : (l[k] != m[k]) = true := by simpa using heq
          have HD : Hid (decide (l = m) = false) := by
            unfold Hid
            rw [decide_eq_false_iff_not]
            intro e
            subst e
            exact heq rfl
          generalize l[k] = x at *
          generalize m[k] = y at *
          clear heq ht
          go_wp2_with fail
          go_quiet (fail)
          go_wp2
          go_ret
          exact ⟨by rw [HD.out]; rfl, _, by rw [World.drewN_drewN]⟩
      · have HD : Hid (decide (l = m) = true) := by
          unfold Hid
          rw [decide_eq_true_iff]
          have e := ht.out
          rw [List.take_of_length_le (by omega), List.take_of_length_le (by rw [← HL.out]; omega)] at e
          exact e
        clear ht
        go_wp2
        go_ret
        exact ⟨by rw [HD.out]; rfl, n, rfl⟩
  · have hne : ((l.length : Int) != (m.length : Int)) = true := by rw [bne_iff_ne]; omega
    have HD : Hid (decide (l = m) = false) := by
      unfold Hid
      rw [decide_eq_false_iff_not]
      intro e
      exact hlen (congrArg List.length e)
    clear hlen
    go_enter Try.func29, Try.ntmps29
    go_wp2
    go_ret
    exact ⟨by rw [HD.out]; rfl, 0, rfl⟩

theorem info_int : (Try.prog.info? 3).map (fun i => (i.zero, i.size, i.bytes)) = some (some (.int .i64 0), 1, 8) := by kernel_rfl
theorem made_ints (n : Nat) : (madeCells (Value.cells (.int .i64 0)) (n * 1)).toList = intCells (List.replicate n 0) := by
  simp [Value.cells, toList_madeCells_one, intCells]

/-- one number put into a list -/
theorem IntsIs.store {w : World} {v : Value} {g : Nat} {l : List Int} (h : IntsIs w v g 0 l) (j : Nat) (hj : j < l.length) (x : Int) : IntsIs (w.setCell ⟨g, j, none⟩ (.int .i64 x)) v g 0 (l.set j x) := by
  obtain ⟨⟨⟨a, cap, rfl, ha⟩, hc⟩, hf⟩ := h
  simp only [Nat.zero_add] at hc hf
  refine ⟨⟨⟨a, cap, by rw [List.length_set], fun _ => ha (by intro e; subst e; simp at hj)⟩, fun i hi => ?_⟩, fun i hi => ?_⟩
  · rw [List.length_set] at hi
    rw [Nat.zero_add]
    by_cases e : j = i
    · subst e
      rw [World.cell?_setCell_same _ _ _ (hc j hj)]
      simp
    · rw [World.cell?_setCell_other _ _ _ _ (by intro h2; apply e; cases h2; rfl), hc i hi]
      simp [e]
  · rw [List.length_set] at hi
    rw [Nat.zero_add, World.frozen?_setCell]
    exact hf i hi

/-- the first k of one list, and of the other what follows -/
def mixI (l m : List Int) (k : Nat) : List Int := l.take k ++ m.drop k
theorem mixI_length {l m : List Int} {k : Nat} (h : l.length = m.length) (hk : k ≤ l.length) : (mixI l m k).length = l.length := by simp [mixI]; omega
theorem mixI_set {l m : List Int} {k : Nat} (h : l.length = m.length) (hk : k < l.length) : (mixI l m k).set k l[k] = mixI l m (k + 1) := by
  unfold mixI
  have hm : k < m.length := by omega
  rw [List.set_append_right _ _ (by simp; omega), List.drop_eq_getElem_cons (l := m) hm, List.take_succ_eq_append_getElem hk]
  rw [show k - (List.take k l).length = 0 from by simp; omega, List.set_cons_zero, List.append_assoc]
  rfl
theorem mixI_all {l m : List Int} (h : l.length = m.length) : mixI l m l.length = l := by
  unfold mixI
  rw [List.take_length, List.drop_of_length_le (by omega), List.append_nil]

/-- a list of numbers that the call itself made -/
def NewInts (w : World) (l : List Int) (e : Ending) (w' : World) : Prop := ∃ v g, e = .returned v ∧ IntsIs w' v g 0 l ∧ w.heap.size ≤ g ∧ Below w.heap.size w w'

/-- numbers from k on -/
def countI (k : Nat) (n : Nat) : List Int := (List.range n).map (fun i => ((k + i : Nat) : Int))
theorem countI_length (k n : Nat) : (countI k n).length = n := by simp [countI]
theorem countI_at (k n i : Nat) (h : i < (countI k n).length) : (countI k n)[i] = ((k + i : Nat) : Int) := by simp [countI]

theorem grown_setI (W : World) (b o : Nat) (v : Value) : W.grownBy (W.setCell ⟨b, o, none⟩ v) (some b) :=
  ⟨rfl, rfl, rfl, by simp, fun k _ hk => Below.heap_setCell _ _ _ k (fun e => hk (by rw [e]))⟩
theorem grown_stepI {a w w' : World} {row : Option Nat} (h : a.grownBy w row) (k : w.grownBy w' row) : a.grownBy w' row :=
  ⟨k.os.trans h.os, k.tape.trans h.tape, k.output.trans h.output, Nat.le_trans h.size k.size, fun i hi hne => (k.block i (Nat.lt_of_lt_of_le hi h.size) hne).trans (h.block i hi hne)⟩
theorem below_of_grownI {B b : Nat} {w w' : World} (h : w.grownBy w' (some b)) (hb : B ≤ b) (hB : B ≤ w.heap.size) : Below B w w' :=
  ⟨h.os, h.tape, h.output, h.size, fun k hk => h.block k (by omega) (by intro e; cases e; omega)⟩

set_option maxHeartbeats 800000 in
theorem mark_ints (w : World) (v : Value) (g k : Nat) (l : List Int) (h : IntsIs w v g 0 l) (hk : 1 ≤ k) (hl : k + l.length ≤ 1000000000000) :
    Calls Try.prog 31 #[v, .int .i64 k] w fun e w' => e = .returned (.int .i64 ((k + l.length : Nat) : Int)) ∧ IntsIs w' v g 0 (countI k l.length) ∧ w.grownBy w' (some g) := by
  obtain ⟨a, cap, rfl, ha⟩ := h.form
  have HT : Hid (IntsIs w (.slice a l.length cap) g 0 (mixI (countI k l.length) l 0)) := by unfold Hid; simpa [mixI] using h
  have HA := Lib.hid ha
  have hlen := Lib.hid (countI_length k l.length)
  clear h ha
  go_enter Try.func31, Try.ntmps31
  go_wp2
  go_loopw [1, 5] (fun m i wr => ∃ j : Nat, j ≤ l.length ∧ i = .int .i64 j ∧ m = .int .i64 ((k + j : Nat) : Int) ∧ Hid (IntsIs wr (.slice a l.length cap) g 0 (mixI (countI k l.length) l j)) ∧ Hid (w.grownBy wr (some g))) (fun _ i _ => l.length - (intOf i).toNat)
  case atStart => exact ⟨0, Nat.zero_le _, rfl, rfl, HT, World.grownBy.refl _ _⟩
  case round =>
    obtain ⟨j, hj, rfl, rfl, hT, hG⟩ := hrel
    clear HT
    by_cases hlt : j < l.length
    · obtain rfl := HA.out (by intro e; subst e; simp at hlt)
      have hjc : j < (countI k l.length).length := by rw [hlen.out]; exact hlt
      have hll := mixI_length (l := countI k l.length) (m := l) (k := j) hlen.out (by omega)
      rw [hlen.out] at hll
      have hset := mixI_set (l := countI k l.length) (m := l) hlen.out hjc
      rw [countI_at] at hset
      have hc := hT.out.cell j (by omega)
      have hf := hT.out.free j (by omega)
      simp only [Nat.zero_add] at hc hf
      have hT3 : Hid (IntsIs (wr.setCell ⟨g, j, none⟩ (.int .i64 ((k + j : Nat) : Int))) (.slice (some ⟨g, 0, none⟩) l.length cap) g 0 (mixI (countI k l.length) l (j + 1))) := by
        unfold Hid
        rw [← hset]
        exact hT.out.store j (by omega) _
      have hG3 : Hid (w.grownBy (wr.setCell ⟨g, j, none⟩ (.int .i64 ((k + j : Nat) : Int))) (some g)) := grown_stepI hG.out (grown_setI _ _ _ _)
      generalize (mixI (countI k l.length) l j)[j]'(by omega) = old at hc
      clear hT hG hll hset hjc
      have hcast : ((k + j : Nat) : Int) = (k : Int) + j := by omega
      rw [hcast] at hT3 hG3
      go_wp2
      go_roundw
      case rel => exact ⟨j + 1, by omega, by go_num, by go_num, hT3, hG3⟩
      case measure => simp [intOf]; omega
    · obtain rfl : j = l.length := by omega
      have hT3 : Hid (IntsIs wr (.slice a l.length cap) g 0 (countI k l.length)) := by
        have := hT.out
        have e := mixI_all (l := countI k l.length) (m := l) hlen.out
        rw [hlen.out] at e
        rw [e] at this
        exact this
      clear hT
      go_wp2
      go_ret
      exact ⟨rfl, hT3.out, hG.out⟩

set_option maxHeartbeats 800000 in
theorem held_ints (w : World) (v : Value) (g k n : Nat) (h : IntsIs w v g 0 (countI k n)) (hk : 1 ≤ k) (hl : k + n ≤ 1000000000000) :
    Calls Try.prog 32 #[v, .int .i64 k] w fun e w' => e = .returned (.int .i64 ((k + n : Nat) : Int)) ∧ ∃ n, w' = w.drewN n := by
  obtain ⟨a, cap, rfl, ha⟩ := h.form
  have HC := Lib.hid h.cell
  have HA := Lib.hid ha
  clear h ha
  rw [countI_length]
  go_enter Try.func32, Try.ntmps32
  go_wp2
  go_loopw [1, 5] (fun m i wr => ∃ j q : Nat, j ≤ n ∧ i = .int .i64 j ∧ m = .int .i64 ((k + j : Nat) : Int) ∧ wr = w.drewN q) (fun _ i _ => n - (intOf i).toNat)
  case atStart => exact ⟨0, 0, Nat.zero_le _, rfl, rfl, rfl⟩
  case round =>
    obtain ⟨j, q, hj, rfl, rfl, rfl⟩ := hrel
    by_cases hlt : j < n
    · have hne : countI k n ≠ [] := by intro e; have := countI_length k n; rw [e] at this; simp at this; omega
      obtain rfl := HA.out hne
      have hc := HC.out j (by rw [countI_length]; exact hlt)
      rw [countI_at, Nat.zero_add] at hc
      generalize hx : ((k + j : Nat) : Int) = x at *
      have hxx : (x != x) = false := by simp
      have hxb : x = (k : Int) + j := by omega
      have HX := Lib.hid hxb
      have hx9 : x ≤ 1000000000000 := by omega
      have hx0 : 0 ≤ x := by omega
      have hjn : (j : Int) < (n : Int) := by omega
      clear hne hx hxb
      go_wp2
      go_roundw
      case rel => exact ⟨j + 1, q, by omega, by go_num, by rw [HX.out]; go_num, rfl⟩
      case measure => simp [intOf]; omega
    · obtain rfl : j = n := by omega
      go_wp2
      go_ret
      exact ⟨rfl, q, rfl⟩

end Go.Proofs.Ytdkghalcnaogfaa
