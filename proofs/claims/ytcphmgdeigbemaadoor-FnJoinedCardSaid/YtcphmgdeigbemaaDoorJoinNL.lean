/- Texts put together with a line end between: a Builder's Grow, and strings.Join, at this program. -/
import Derived.Shelf.Strings.Builder2
import Derived.Test.YtcphmgdeigbemaaDoorProg
import Derived.Test.YtcphmgdeigbemaaDoorPlain
import Derived.Test.YtcphmgdeigbemaaDoorTexts
import Derived.Test.YtcphmgdeigbemaaDoorBuild
import Derived.Test.YtcphmgdeigbemaaDoorGrowLay
import Derived.WalkKit
import Derived.WalkLawsBesides
import Derived.BigQuiet
import Derived.Deep.QuietTactic
import Derived.Lib.Hide
import Derived.IntWalk
import Derived.Outline
set_option maxRecDepth 100000
namespace Go.Proofs.YtcphmgdeigbemaaDoor
open Go.RowKit Go.Shelf
set_option linter.unusedVariables false

theorem growX : Builder.Extra Tryd.prog lays241_ren := {
  sizeBuilder := by kernel_rfl
  liesBuilder := by kernel_rfl
  t5 := Tryd.underlying5
  a5 := Tryd.isAgg5
  z5 := Tryd.sizeOf5
  v5 := Tryd.zeroValue5
  infoByte := by kernel_rfl
  cellsByte := by kernel_rfl
  sizeByte := by kernel_rfl
  neB5 := by decide }
set_option maxHeartbeats 1600000 in
theorem grow_new (b n : Nat) (w : World) (hbk : w.heap[b]? = some (.cells #[.pointer none, .slice none 0 0] 90 (0, 0))) (hn : n ≤ 1000000000) (hn1 : 1 ≤ n) :
    Calls Tryd.prog 86 #[.pointer (some ⟨b, 0, none⟩), .int .i64 (n : Int)] w fun e w' => e = .returned (.tuple #[]) ∧ (BuiltF b b [] w' ∧ Below b w w') := by
  have hlt : b < w.heap.size := (Array.getElem?_eq_some_iff.1 hbk).1
  have hk1 : (w.setCell ⟨b, 0, none⟩ (.pointer (some ⟨b, 0, none⟩))).heap[b]? = some (.cells #[.pointer (some ⟨b, 0, none⟩), .slice none 0 0] 90 (0, 0)) := by
    simp [World.setCell, Array.getElem?_modify, hbk]
  have hb1 : Below b w (w.setCell ⟨b, 0, none⟩ (.pointer (some ⟨b, 0, none⟩))) := (Below.refl b w).setCell (p := ⟨b, 0, none⟩) (Nat.le_refl _) _
  have KC := Lib.hid (check_fresh b w (by rw [Lib.cell_of_heap hbk]; rfl) (by simp [World.shape?, hbk]) (Lib.frozen_of_heap hbk 0))
  have hz1 : b ≤ (w.setCell ⟨b, 0, none⟩ (.pointer (some ⟨b, 0, none⟩))).heap.size := by simp [World.setCell]; omega
  have HB1 := Lib.hid hb1
  have HK1 := Lib.hid hk1
  have hn2 : (0 : Int) < (n : Int) := by omega
  have hn3 : ¬ ((n : Int) < 0) := by omega
  clear hbk hb1
  go_enter Tryd.func86, Tryd.ntmps86
  go_wp2_with fail
  refine KC.out.mono ?_
  rintro e w1 ⟨rfl, rfl⟩
  have c1 : (w.setCell ⟨b, 0, none⟩ (.pointer (some ⟨b, 0, none⟩))).cell? ⟨b, 1, none⟩ = some (.slice none 0 0) := by rw [Lib.cell_of_heap hk1]; rfl
  clear hk1
  generalize w.setCell ⟨b, 0, none⟩ (.pointer (some ⟨b, 0, none⟩)) = W at *
  go_wp2_with fail
  go_quiet (fail)
  have hk2 : (W.drewN nq).heap[b]? = some (.cells #[.pointer (some ⟨b, 0, none⟩), .slice none 0 0] 90 (0, 0)) := HK1.out
  have HG := Lib.hid (Any.Builder_grow_fresh lays241 growX b b n (W.drewN nq) (Nat.le_refl _) hk2 hz1 (by omega))
  have hb2 := below_drewN HB1.out nq
  clear hk2 c1
  generalize W.drewN nq = W2 at *
  go_wp2_with fail
  refine HG.out.mono ?_
  rintro e w' ⟨rfl, h1, h2⟩
  go_wp2
  go_end0
  exact ⟨rfl, Lib.IsBuilderF.of (.inr h1), hb2.trans h2⟩

abbrev nlB : ByteArray := ⟨#[10]⟩
/-- texts with a line end ahead of each -/
def nlTail (r : List ByteArray) : List UInt8 := r.flatMap (fun y => (10 : UInt8) :: y.data.toList)
/-- texts with a line end between -/
def nlJoin : List ByteArray → List UInt8
  | [] => []
  | x :: r => x.data.toList ++ nlTail r
theorem nlTail_succ (r : List ByteArray) (k : Nat) (h : k < r.length) : nlTail (r.take (k + 1)) = nlTail (r.take k) ++ [10] ++ r[k].data.toList := by
  unfold nlTail
  rw [List.take_succ_eq_append_getElem h, List.flatMap_append]
  simp only [List.flatMap_cons, List.flatMap_nil, List.append_nil, List.append_assoc, List.cons_append, List.nil_append]
theorem nlTail_take_le (r : List ByteArray) (k : Nat) : (nlTail (r.take k)).length ≤ (nlTail r).length := by
  have e : nlTail r = nlTail (r.take k) ++ nlTail (r.drop k) := by
    unfold nlTail
    conv => lhs; rw [← List.take_append_drop k r]
    rw [List.flatMap_append]
  rw [e, List.length_append]
  omega
theorem nlTail_len (r : List ByteArray) : (nlTail r).length = r.length + (r.map (·.size)).sum := by
  induction r with
  | nil => rfl
  | cons x r ih =>
    have := Lib.size_eq x
    simp only [nlTail, List.flatMap_cons, List.length_append, List.length_cons, List.map_cons, List.sum_cons] at *
    omega
/-- the size of the first k texts -/
def sizesTo (l : List ByteArray) (k : Nat) : Nat := ((l.take k).map (·.size)).sum
theorem sizesTo_succ (l : List ByteArray) (k : Nat) (h : k < l.length) : sizesTo l (k + 1) = sizesTo l k + l[k].size := by
  unfold sizesTo
  rw [List.take_succ_eq_append_getElem h, List.map_append, List.sum_append]
  simp only [List.map_cons, List.map_nil, List.sum_cons, List.sum_nil, Nat.add_zero]
theorem sizesTo_le (l : List ByteArray) (k : Nat) : sizesTo l k ≤ sizesTo l l.length := by
  unfold sizesTo
  rw [List.take_length]
  conv => rhs; rw [← List.take_append_drop k l]
  rw [List.map_append, List.sum_append]
  omega

set_option maxHeartbeats 3200000 in
theorem joinNL_one (w : World) (g c : Nat) (x : ByteArray) (c0 : w.cell? ⟨g, 0, none⟩ = some (.string x)) :
    Calls Tryd.prog 69 #[.slice (some ⟨g, 0, none⟩) 1 c, .string nlB] w fun e w' => e = .returned (.string x) ∧ Below w.heap.size w w' := by
  go_enter Tryd.func69, Tryd.ntmps69
  go_wp2
  go_ret
  exact ⟨rfl, Below.refl _ _⟩

set_option maxHeartbeats 800000 in
theorem joinNL_many (w : World) (g c n : Nat) (xs : List ByteArray) (x : ByteArray) (r : List ByteArray) (hxs : xs = x :: r) (hr : r.length = n + 1) (hT : ∀ i (h : i < xs.length), w.cell? ⟨g, i, none⟩ = some (.string xs[i])) (hg : g < w.heap.size) (hlen : (nlJoin xs).length ≤ 10000000) (hc : xs.length ≤ c) :
    Calls Tryd.prog 69 #[.slice (some ⟨g, 0, none⟩) (n + 2) c, .string nlB] w fun e w' => e = .returned (.string ⟨(nlJoin xs).toArray⟩) ∧ Below w.heap.size w w' := by
  have hl : xs.length = n + 2 := by rw [hxs]; simp [hr]
  have hL : (nlJoin xs).length = x.size + r.length + (r.map (·.size)).sum := by
    have := nlTail_len r
    rw [hxs]
    simp only [nlJoin, List.length_append, ← Lib.size_eq]
    omega
  have hS : sizesTo xs (n + 2) = x.size + (r.map (·.size)).sum := by
    unfold sizesTo
    rw [← hl, List.take_length, hxs]
    simp
  have hS2 : sizesTo xs (n + 2) ≤ 10000000 := by omega
  have hn : n ≤ 10000000 := by omega
  have HW : Hid (∀ k, (x.data.toList ++ nlTail (r.take k)).length ≤ 10000000) := by
    intro k
    have h1 := nlTail_take_le r k
    rw [hxs] at hlen
    simp only [nlJoin, List.length_append] at hlen ⊢
    omega
  have HJ : Hid (nlJoin xs = x.data.toList ++ nlTail (r.take (n + 1))) := by unfold Hid; rw [← hr, List.take_length, hxs]; rfl
  have hX0 : w.cell? ⟨g, 0, none⟩ = some (.string x) := by
    have := hT 0 (by omega)
    simp only [hxs, List.getElem_cons_zero] at this
    exact this
  have HXK : Hid (∀ k (h : k < r.length), w.cell? ⟨g, 1 + k, none⟩ = some (.string r[k])) := by
    intro k h
    have := hT (k + 1) (by omega)
    simp only [hxs, List.getElem_cons_succ] at this
    rw [Nat.add_comm]
    exact this
  have HSL : Hid (∀ k, sizesTo xs k ≤ sizesTo xs (n + 2)) := by intro k; rw [← hl]; exact sizesTo_le xs k
  have HSS : Hid (∀ k (h : k < xs.length), sizesTo xs (k + 1) = sizesTo xs k + xs[k].size) := sizesTo_succ xs
  have HS0 : Hid (sizesTo xs 0 = 0) := by unfold Hid; simp [sizesTo]
  have HT := Lib.hid hT
  have HR := Lib.hid hr
  have HLN := Lib.hid hl
  clear hT hL hS hlen hr hl hxs
  generalize nlJoin xs = res at *
  have h1 : ((n : Int) + 2) - 1 = (n : Int) + 1 := by omega
  have h2 : ¬ (9223372036854775807 / ((n : Int) + 1) ≤ 1) := by
    have : (2 : Int) ≤ 9223372036854775807 / ((n : Int) + 1) := (Int.le_ediv_iff_mul_le (by omega)).2 (by omega)
    omega
  have h3 : (((n : Int) + 2) == 0) = false := beq_eq_false_iff_ne.2 (by omega)
  have h4 : (((n : Int) + 2) == 1) = false := beq_eq_false_iff_ne.2 (by omega)
  go_enter Tryd.func69, Tryd.ntmps69
  go_wp2_with fail
  clear h2 h3 h4
  go_loop [5, 41] (fun m i => ∃ k : Nat, k ≤ n + 2 ∧ i = .int .i64 k ∧ m = .int .i64 ((n + 1 + sizesTo xs k : Nat) : Int)) (fun _ i => n + 2 - (intOf i).toNat)
  case atStart => exact ⟨0, Nat.zero_le _, rfl, by rw [HS0.out]; go_num⟩
  case round =>
    obtain ⟨k, hk, rfl, rfl⟩ := hrel
    by_cases hlt : k < n + 2
    · have hkx : k < xs.length := by rw [HLN.out]; exact hlt
      have hcx := HT.out k hkx
      have hst := HSS.out k hkx
      have hle := HSL.out (k + 1)
      generalize xs[k] = y at *
      have hkz : (k : Int) < (n : Int) + 2 := by omega
      have hys : y.size ≤ 10000000 := by omega
      have hsk : sizesTo xs k ≤ 10000000 := by omega
      have HST := Lib.hid hst
      clear hst hle
      generalize hA : sizesTo xs k = A at *
      have HA := Lib.hid hA
      clear hA
      go_wp2
      go_round
      case rel => exact ⟨k + 1, by omega, by go_num, by rw [HST.out]; go_num⟩
      case measure => simp [intOf]; omega
    · obtain rfl : k = n + 2 := by omega
      clear HSL HSS HS0 HT
      generalize sizesTo xs (n + 2) = T at *
      have KG0 := (grow_new w.heap.size (n + 1 + T) (w.alloc (.cells #[.pointer none, .slice none 0 0] 90)) (heap_alloc_new _ _) (by omega) (by omega))
      rw [show ((n + 1 + T : Nat) : Int) = (n : Int) + 1 + (T : Int) by omega] at KG0
      have KG := Lib.hid KG0
      clear KG0
      go_wp2_with fail
      with_reducible refine KG.out.mono ?_
      rintro e w1 ⟨rfl, hB1, hb1⟩
      clear KG
      have hb1' : Below w.heap.size w w1 := ((Below.refl w.heap.size w).alloc (Nat.le_refl _) _).trans hb1
      have c0 := (hb1'.cell (p := ⟨g, 0, none⟩) hg).trans hX0
      have HB1 := Lib.hid hB1
      have hs1 := hb1'.size
      clear hB1 hb1 hX0
      go_wp2_with fail
      refine (built_write w.heap.size w.heap.size [] x _ HB1.out (by have := HW.out 0; simp at this ⊢; omega) hs1).mono ?_
      rintro e w2 ⟨rfl, hB2, hb2, _⟩
      have hb2' := hb1'.trans hb2
      have HB2 : Hid (BuiltF w.heap.size w.heap.size (x.data.toList ++ nlTail (r.take 0)) w2) := by unfold Hid; simpa [nlTail] using hB2
      clear HB1 hb1' hb2 hB2 c0 hs1
      have hcn : (1 : Int) ≤ (n : Int) + 2 := by omega
      have hcc : ¬ (c = 1) := by have := HLN.out; omega
      have hcc2 : (n : Int) + 2 ≤ (c : Int) := by have := HLN.out; omega
      go_wp2_with fail
      go_loopw [10, 65] (fun _ i wr => ∃ k : Nat, k ≤ n + 1 ∧ i = .int .i64 k ∧ Hid (BuiltF w.heap.size w.heap.size (x.data.toList ++ nlTail (r.take k)) wr) ∧ Below w.heap.size w wr) (fun _ i _ => n + 1 - (intOf i).toNat)
      case atStart => exact ⟨0, Nat.zero_le _, rfl, HB2, hb2'⟩
      case round =>
        obtain ⟨k, hk2, rfl, hB, hb⟩ := hrel
        clear HB2 hb2'
        by_cases hlt2 : k < n + 1
        · have hkr : k < r.length := by rw [HR.out]; exact hlt2
          have cy := (hb.cell (p := ⟨g, 1 + k, none⟩) hg).trans (HXK.out k hkr)
          have HN := Lib.hid (nlTail_succ r k hkr)
          have hl2 := HW.out (k + 1)
          rw [HN.out] at hl2
          simp only [List.length_append, ← Lib.size_eq] at hl2
          have HL2 := Lib.hid hl2
          clear hl2
          generalize r[k] = y at *
          have hkz : (k : Int) < (n : Int) + 1 := by omega
          have hsz := hb.size
          go_wp2_with fail
          refine (built_write w.heap.size w.heap.size _ nlB _ hB.out (by have := HL2.out; rw [List.length_append, ← Lib.size_eq, show nlB.size = 1 from rfl]; simp at this; omega) hsz).mono ?_
          rintro e w3 ⟨rfl, hB3, hb3, _⟩
          have HB3 := Lib.hid hB3
          have hb3' := hb.trans hb3
          have hsz3 := hb3'.size
          clear hB hB3 hb hb3 hsz
          go_wp2_with fail
          refine (built_write w.heap.size w.heap.size _ y _ HB3.out (by have := HL2.out; simp only [List.length_append, ← Lib.size_eq] at this ⊢; simp at this ⊢; omega) hsz3).mono ?_
          rintro e w4 ⟨rfl, hB4, hb4, _⟩
          have HB4 : Hid (BuiltF w.heap.size w.heap.size (x.data.toList ++ nlTail (r.take (k + 1))) w4) := by
            unfold Hid
            rw [HN.out]
            simpa using hB4
          have hb4' := hb3'.trans hb4
          clear HB3 hB4 hb3' hb4 cy HN HL2
          go_wp2
          go_roundw
          case rel => exact ⟨k + 1, by omega, by go_num, HB4, hb4'⟩
          case measure => simp [intOf]; omega
        · obtain rfl : k = n + 1 := by omega
          rw [← HJ.out] at hB
          go_wp2_with fail
          refine (built_string w.heap.size w.heap.size res _ hB.out hb.size).mono ?_
          rintro e w5 ⟨rfl, _, hb5, _⟩
          have hb6 := hb.trans hb5
          clear hB hb5
          go_wp2
          go_ret
          exact ⟨rfl, hb6⟩

end Go.Proofs.YtcphmgdeigbemaaDoor
