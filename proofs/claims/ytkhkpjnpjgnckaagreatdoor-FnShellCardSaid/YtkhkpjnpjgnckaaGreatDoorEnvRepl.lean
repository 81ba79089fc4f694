/- The closure of a Builder's grow at this program, for the library's contract. -/
import Derived.Shelf.Strings.Builder2
import Derived.Test.YtkhkpjnpjgnckaaGreatDoorProg
import Derived.Test.YtkhkpjnpjgnckaaGreatDoorPlain
import Derived.Test.YtkhkpjnpjgnckaaGreatDoorTexts
import Derived.Test.YtkhkpjnpjgnckaaGreatDoorBuild
import Derived.WalkKit
import Derived.WalkLawsBesides
import Derived.BigQuiet
import Derived.Deep.QuietTactic
import Derived.Lib.Hide
import Derived.IntWalk
import Derived.Outline
import Derived.Lib.Bytealg
import Derived.Test.YtkhkpjnpjgnckaaGreatDoorCut
import Derived.Test.YtkhkpjnpjgnckaaGreatDoorEnvOne
namespace Go.Proofs.YtkhkpjnpjgnckaaGreatDoor
open Go.Shelf
def lays241_ren : Go.Shelf.Ren := ⟨fun | 241 => 148 | 277 => 166 | n => n, fun | 70 => 93 | 3 => 3 | 0 => 0 | 72 => 95 | 37 => 22 | 5 => 5 | n => n, fun | n => n⟩
theorem lays241 : Go.Proofs.Lays.n241 Tryz.prog lays241_ren := {
  mixed := by kernel_rfl
  f241 := Tryz.func148.trans (congrArg some (by kernel_rfl))
  f277 := Tryz.func166.trans (congrArg some (by kernel_rfl))
  t0 := Tryz.underlying0
  a0 := Tryz.isAgg0
  z0 := Tryz.sizeOf0
  v0 := Tryz.zeroValue0
  t3 := Tryz.underlying3
  a3 := Tryz.isAgg3
  z3 := Tryz.sizeOf3
  v3 := Tryz.zeroValue3
  t37 := Tryz.underlying22
  a37 := Tryz.isAgg22
  z37 := Tryz.sizeOf22
  v37 := Tryz.zeroValue22
  t70 := Tryz.underlying93
  a70 := Tryz.isAgg93
  z70 := Tryz.sizeOf93
  v70 := Tryz.zeroValue93
  t72 := Tryz.underlying95
  a72 := Tryz.isAgg95
  z72 := Tryz.sizeOf95
  v72 := Tryz.zeroValue95 }
end Go.Proofs.YtkhkpjnpjgnckaaGreatDoor

/- Texts put together with a line end between: a Builder's Grow, and strings.Join, at this program. -/
set_option maxRecDepth 100000
namespace Go.Proofs.YtkhkpjnpjgnckaaGreatDoor
open Go.RowKit Go.Shelf
set_option linter.unusedVariables false

theorem growX : Builder.Extra Tryz.prog lays241_ren := {
  sizeBuilder := by kernel_rfl
  liesBuilder := by kernel_rfl
  t5 := Tryz.underlying5
  a5 := Tryz.isAgg5
  z5 := Tryz.sizeOf5
  v5 := Tryz.zeroValue5
  infoByte := by kernel_rfl
  cellsByte := by kernel_rfl
  sizeByte := by kernel_rfl
  neB5 := by decide }
set_option maxHeartbeats 1600000 in
theorem grow_new (b n : Nat) (w : World) (hbk : w.heap[b]? = some (.cells #[.pointer none, .slice none 0 0] 95 (0, 0))) (hn : n ≤ 1000000000) (hn1 : 1 ≤ n) :
    Calls Tryz.prog 107 #[.pointer (some ⟨b, 0, none⟩), .int .i64 (n : Int)] w fun e w' => e = .returned (.tuple #[]) ∧ (BuiltF b b [] w' ∧ Below b w w') := by
  have hlt : b < w.heap.size := (Array.getElem?_eq_some_iff.1 hbk).1
  have hk1 : (w.setCell ⟨b, 0, none⟩ (.pointer (some ⟨b, 0, none⟩))).heap[b]? = some (.cells #[.pointer (some ⟨b, 0, none⟩), .slice none 0 0] 95 (0, 0)) := by
    simp [World.setCell, Array.getElem?_modify, hbk]
  have hb1 : Below b w (w.setCell ⟨b, 0, none⟩ (.pointer (some ⟨b, 0, none⟩))) := (Below.refl b w).setCell (p := ⟨b, 0, none⟩) (Nat.le_refl _) _
  have KC := Lib.hid (check_fresh b w (by rw [Lib.cell_of_heap hbk]; rfl) (by simp [World.shape?, hbk]) (Lib.frozen_of_heap hbk 0))
  have hz1 : b ≤ (w.setCell ⟨b, 0, none⟩ (.pointer (some ⟨b, 0, none⟩))).heap.size := by simp [World.setCell]; omega
  have HB1 := Lib.hid hb1
  have HK1 := Lib.hid hk1
  have hn2 : (0 : Int) < (n : Int) := by omega
  have hn3 : ¬ ((n : Int) < 0) := by omega
  clear hbk hb1
  go_enter Tryz.func107, Tryz.ntmps107
  go_wp2_with fail
  refine KC.out.mono ?_
  rintro e w1 ⟨rfl, rfl⟩
  have c1 : (w.setCell ⟨b, 0, none⟩ (.pointer (some ⟨b, 0, none⟩))).cell? ⟨b, 1, none⟩ = some (.slice none 0 0) := by rw [Lib.cell_of_heap hk1]; rfl
  clear hk1
  generalize w.setCell ⟨b, 0, none⟩ (.pointer (some ⟨b, 0, none⟩)) = W at *
  go_wp2_with fail
  go_quiet (fail)
  have hk2 : (W.drewN nq).heap[b]? = some (.cells #[.pointer (some ⟨b, 0, none⟩), .slice none 0 0] 95 (0, 0)) := HK1.out
  have HG := Lib.hid (Any.Builder_grow_fresh lays241 growX b b n (W.drewN nq) (Nat.le_refl _) hk2 hz1 (by omega))
  have hb2 := below_drewN HB1.out nq
  clear hk2 c1
  generalize W.drewN nq = W2 at *
  go_wp2_with fail
  refine HG.out.mono ?_
  rintro e w' ⟨rfl, h1, h2⟩
  go_wp2
  go_end0
  exact ⟨rfl, Lib.IsBuilderF.of (.inr h1), hb2.trans h2⟩

abbrev nlB : ByteArray := ⟨#[10]⟩
/-- texts with a line end ahead of each -/
def nlTail (r : List ByteArray) : List UInt8 := r.flatMap (fun y => (10 : UInt8) :: y.data.toList)
/-- texts with a line end between -/
def nlJoin : List ByteArray → List UInt8
  | [] => []
  | x :: r => x.data.toList ++ nlTail r
theorem nlTail_succ (r : List ByteArray) (k : Nat) (h : k < r.length) : nlTail (r.take (k + 1)) = nlTail (r.take k) ++ [10] ++ r[k].data.toList := by
  unfold nlTail
  rw [List.take_succ_eq_append_getElem h, List.flatMap_append]
  simp only [List.flatMap_cons, List.flatMap_nil, List.append_nil, List.append_assoc, List.cons_append, List.nil_append]
theorem nlTail_take_le (r : List ByteArray) (k : Nat) : (nlTail (r.take k)).length ≤ (nlTail r).length := by
  have e : nlTail r = nlTail (r.take k) ++ nlTail (r.drop k) := by
    unfold nlTail
    conv => lhs; rw [← List.take_append_drop k r]
    rw [List.flatMap_append]
  rw [e, List.length_append]
  omega
theorem nlTail_len (r : List ByteArray) : (nlTail r).length = r.length + (r.map (·.size)).sum := by
  induction r with
  | nil => rfl
  | cons x r ih =>
    have := Lib.size_eq x
    simp only [nlTail, List.flatMap_cons, List.length_append, List.length_cons, List.map_cons, List.sum_cons] at *
    omega
/-- the size of the first k texts -/
def sizesTo (l : List ByteArray) (k : Nat) : Nat := ((l.take k).map (·.size)).sum
theorem sizesTo_succ (l : List ByteArray) (k : Nat) (h : k < l.length) : sizesTo l (k + 1) = sizesTo l k + l[k].size := by
  unfold sizesTo
  rw [List.take_succ_eq_append_getElem h, List.map_append, List.sum_append]
  simp only [List.map_cons, List.map_nil, List.sum_cons, List.sum_nil, Nat.add_zero]
theorem sizesTo_le (l : List ByteArray) (k : Nat) : sizesTo l k ≤ sizesTo l l.length := by
  unfold sizesTo
  rw [List.take_length]
  conv => rhs; rw [← List.take_append_drop k l]
  rw [List.map_append, List.sum_append]
  omega

set_option maxHeartbeats 3200000 in
theorem joinNL_one (w : World) (g c : Nat) (x : ByteArray) (c0 : w.cell? ⟨g, 0, none⟩ = some (.string x)) :
    Calls Tryz.prog 87 #[.slice (some ⟨g, 0, none⟩) 1 c, .string nlB] w fun e w' => e = .returned (.string x) ∧ Below w.heap.size w w' := by
  go_enter Tryz.func87, Tryz.ntmps87
  go_wp2
  go_ret
  exact ⟨rfl, Below.refl _ _⟩

set_option maxHeartbeats 800000 in
theorem joinNL_many (w : World) (g c n : Nat) (xs : List ByteArray) (x : ByteArray) (r : List ByteArray) (hxs : xs = x :: r) (hr : r.length = n + 1) (hT : ∀ i (h : i < xs.length), w.cell? ⟨g, i, none⟩ = some (.string xs[i])) (hg : g < w.heap.size) (hlen : (nlJoin xs).length ≤ 10000000) (hc : xs.length ≤ c) :
    Calls Tryz.prog 87 #[.slice (some ⟨g, 0, none⟩) (n + 2) c, .string nlB] w fun e w' => e = .returned (.string ⟨(nlJoin xs).toArray⟩) ∧ Below w.heap.size w w' := by
  have hl : xs.length = n + 2 := by rw [hxs]; simp [hr]
  have hL : (nlJoin xs).length = x.size + r.length + (r.map (·.size)).sum := by
    have := nlTail_len r
    rw [hxs]
    simp only [nlJoin, List.length_append, ← Lib.size_eq]
    omega
  have hS : sizesTo xs (n + 2) = x.size + (r.map (·.size)).sum := by
    unfold sizesTo
    rw [← hl, List.take_length, hxs]
    simp
  have hS2 : sizesTo xs (n + 2) ≤ 10000000 := by omega
  have hn : n ≤ 10000000 := by omega
  have HW : Hid (∀ k, (x.data.toList ++ nlTail (r.take k)).length ≤ 10000000) := by
    intro k
    have h1 := nlTail_take_le r k
    rw [hxs] at hlen
    simp only [nlJoin, List.length_append] at hlen ⊢
    omega
  have HJ : Hid (nlJoin xs = x.data.toList ++ nlTail (r.take (n + 1))) := by unfold Hid; rw [← hr, List.take_length, hxs]; rfl
  have hX0 : w.cell? ⟨g, 0, none⟩ = some (.string x) := by
    have := hT 0 (by omega)
    simp only [hxs, List.getElem_cons_zero] at this
    exact this
  have HXK : Hid (∀ k (h : k < r.length), w.cell? ⟨g, 1 + k, none⟩ = some (.string r[k])) := by
    intro k h
    have := hT (k + 1) (by omega)
    simp only [hxs, List.getElem_cons_succ] at this
    rw [Nat.add_comm]
    exact this
  have HSL : Hid (∀ k, sizesTo xs k ≤ sizesTo xs (n + 2)) := by intro k; rw [← hl]; exact sizesTo_le xs k
  have HSS : Hid (∀ k (h : k < xs.length), sizesTo xs (k + 1) = sizesTo xs k + xs[k].size) := sizesTo_succ xs
  have HS0 : Hid (sizesTo xs 0 = 0) := by unfold Hid; simp [sizesTo]
  have HT := Lib.hid hT
  have HR := Lib.hid hr
  have HLN := Lib.hid hl
  clear hT hL hS hlen hr hl hxs
  generalize nlJoin xs = res at *
  have h1 : ((n : Int) + 2) - 1 = (n : Int) + 1 := by omega
  have h2 : ¬ (9223372036854775807 / ((n : Int) + 1) ≤ 1) := by
    have : (2 : Int) ≤ 9223372036854775807 / ((n : Int) + 1) := (Int.le_ediv_iff_mul_le (by omega)).2 (by omega)
    omega
  have h3 : (((n : Int) + 2) == 0) = false := beq_eq_false_iff_ne.2 (by omega)
  have h4 : (((n : Int) + 2) == 1) = false := beq_eq_false_iff_ne.2 (by omega)
  go_enter Tryz.func87, Tryz.ntmps87
  go_wp2_with fail
  clear h2 h3 h4
  go_loop [5, 41] (fun m i => ∃ k : Nat, k ≤ n + 2 ∧ i = .int .i64 k ∧ m = .int .i64 ((n + 1 + sizesTo xs k : Nat) : Int)) (fun _ i => n + 2 - (intOf i).toNat)
  case atStart => exact ⟨0, Nat.zero_le _, rfl, by rw [HS0.out]; go_num⟩
  case round =>
    obtain ⟨k, hk, rfl, rfl⟩ := hrel
    by_cases hlt : k < n + 2
    · have hkx : k < xs.length := by rw [HLN.out]; exact hlt
      have hcx := HT.out k hkx
      have hst := HSS.out k hkx
      have hle := HSL.out (k + 1)
      generalize xs[k] = y at *
      have hkz : (k : Int) < (n : Int) + 2 := by omega
      have hys : y.size ≤ 10000000 := by omega
      have hsk : sizesTo xs k ≤ 10000000 := by omega
      have HST := Lib.hid hst
      clear hst hle
      generalize hA : sizesTo xs k = A at *
      have HA := Lib.hid hA
      clear hA
      go_wp2
      go_round
      case rel => exact ⟨k + 1, by omega, by go_num, by rw [HST.out]; go_num⟩
      case measure => simp [intOf]; omega
    · obtain rfl : k = n + 2 := by omega
      clear HSL HSS HS0 HT
      generalize sizesTo xs (n + 2) = T at *
      have KG0 := (grow_new w.heap.size (n + 1 + T) (w.alloc (.cells #[.pointer none, .slice none 0 0] 95)) (heap_alloc_new _ _) (by omega) (by omega))
      rw [show ((n + 1 + T : Nat) : Int) = (n : Int) + 1 + (T : Int) by omega] at KG0
      have KG := Lib.hid KG0
      clear KG0
      go_wp2_with fail
      with_reducible refine KG.out.mono ?_
      rintro e w1 ⟨rfl, hB1, hb1⟩
      clear KG
      have hb1' : Below w.heap.size w w1 := ((Below.refl w.heap.size w).alloc (Nat.le_refl _) _).trans hb1
      have c0 := (hb1'.cell (p := ⟨g, 0, none⟩) hg).trans hX0
      have HB1 := Lib.hid hB1
      have hs1 := hb1'.size
      clear hB1 hb1 hX0
      go_wp2_with fail
      refine (built_write w.heap.size w.heap.size [] x _ HB1.out (by have := HW.out 0; simp at this ⊢; omega) hs1).mono ?_
      rintro e w2 ⟨rfl, hB2, hb2, _⟩
      have hb2' := hb1'.trans hb2
      have HB2 : Hid (BuiltF w.heap.size w.heap.size (x.data.toList ++ nlTail (r.take 0)) w2) := by unfold Hid; simpa [nlTail] using hB2
      clear HB1 hb1' hb2 hB2 c0 hs1
      have hcn : (1 : Int) ≤ (n : Int) + 2 := by omega
      have hcc : ¬ (c = 1) := by have := HLN.out; omega
      have hcc2 : (n : Int) + 2 ≤ (c : Int) := by have := HLN.out; omega
      go_wp2_with fail
      go_loopw [10, 65] (fun _ i wr => ∃ k : Nat, k ≤ n + 1 ∧ i = .int .i64 k ∧ Hid (BuiltF w.heap.size w.heap.size (x.data.toList ++ nlTail (r.take k)) wr) ∧ Below w.heap.size w wr) (fun _ i _ => n + 1 - (intOf i).toNat)
      case atStart => exact ⟨0, Nat.zero_le _, rfl, HB2, hb2'⟩
      case round =>
        obtain ⟨k, hk2, rfl, hB, hb⟩ := hrel
        clear HB2 hb2'
        by_cases hlt2 : k < n + 1
        · have hkr : k < r.length := by rw [HR.out]; exact hlt2
          have cy := (hb.cell (p := ⟨g, 1 + k, none⟩) hg).trans (HXK.out k hkr)
          have HN := Lib.hid (nlTail_succ r k hkr)
          have hl2 := HW.out (k + 1)
          rw [HN.out] at hl2
          simp only [List.length_append, ← Lib.size_eq] at hl2
          have HL2 := Lib.hid hl2
          clear hl2
          generalize r[k] = y at *
          have hkz : (k : Int) < (n : Int) + 1 := by omega
          have hsz := hb.size
          go_wp2_with fail
          refine (built_write w.heap.size w.heap.size _ nlB _ hB.out (by have := HL2.out; rw [List.length_append, ← Lib.size_eq, show nlB.size = 1 from rfl]; simp at this; omega) hsz).mono ?_
          rintro e w3 ⟨rfl, hB3, hb3, _⟩
          have HB3 := Lib.hid hB3
          have hb3' := hb.trans hb3
          have hsz3 := hb3'.size
          clear hB hB3 hb hb3 hsz
          go_wp2_with fail
          refine (built_write w.heap.size w.heap.size _ y _ HB3.out (by have := HL2.out; simp only [List.length_append, ← Lib.size_eq] at this ⊢; simp at this ⊢; omega) hsz3).mono ?_
          rintro e w4 ⟨rfl, hB4, hb4, _⟩
          have HB4 : Hid (BuiltF w.heap.size w.heap.size (x.data.toList ++ nlTail (r.take (k + 1))) w4) := by
            unfold Hid
            rw [HN.out]
            simpa using hB4
          have hb4' := hb3'.trans hb4
          clear HB3 hB4 hb3' hb4 cy HN HL2
          go_wp2
          go_roundw
          case rel => exact ⟨k + 1, by omega, by go_num, HB4, hb4'⟩
          case measure => simp [intOf]; omega
        · obtain rfl : k = n + 1 := by omega
          rw [← HJ.out] at hB
          go_wp2_with fail
          refine (built_string w.heap.size w.heap.size res _ hB.out hb.size).mono ?_
          rintro e w5 ⟨rfl, _, hb5, _⟩
          have hb6 := hb.trans hb5
          clear hB hb5
          go_wp2
          go_ret
          exact ⟨rfl, hb6⟩

end Go.Proofs.YtkhkpjnpjgnckaaGreatDoor

/- Environment files: strings.ReplaceAll of one byte 36 by two, at this program; the program's Plain. -/
set_option maxRecDepth 100000
namespace Go.Proofs.YtkhkpjnpjgnckaaGreatDoor
open Go.RowKit Go.Shelf
set_option linter.unusedVariables false

abbrev dollB : ByteArray := ⟨#[36]⟩
abbrev doll2B : ByteArray := ⟨#[36, 36]⟩
theorem plainL_no (l : List UInt8) (h : ∀ c ∈ l, c ≠ 36) : plainL l = l := by
  induction l with
  | nil => rfl
  | cons c l ih =>
    have h1 := ih (fun d hd => h d (List.mem_cons_of_mem _ hd))
    have h2 := h c (List.mem_cons_self ..)
    show plainC c ++ plainL l = _
    rw [h1]
    unfold plainC
    rw [if_neg h2]
    rfl
theorem plainL_app (a b : List UInt8) : plainL (a ++ b) = plainL a ++ plainL b := by simp [plainL]
/-- where a byte is first -/
theorem index_some (l : List UInt8) (c : UInt8) (h : 0 < l.count c) : ∃ j : Nat, Lib.indexByte l c = (j : Int) ∧ j < l.length ∧ (∀ x ∈ l.take j, x ≠ c) ∧ l.drop j = c :: l.drop (j + 1) := by
  induction l with
  | nil => simp at h
  | cons b l ih =>
    unfold Lib.indexByte
    by_cases hb : b = c
    · subst hb
      exact ⟨0, by simp, by simp, by simp, by simp⟩
    · have hb2 : (b == c) = false := by simpa using hb
      rw [List.count_cons_of_ne (by simpa using hb)] at h
      obtain ⟨j, h1, h2, h3, h4⟩ := ih h
      rw [if_neg (by simp [hb2]), if_neg (by rw [h1]; intro e; have := beq_iff_eq.1 e; omega), h1]
      refine ⟨j + 1, by omega, by simp; omega, ?_, by simpa using h4⟩
      intro x hx
      rw [List.take_succ_cons] at hx
      rcases List.mem_cons.1 hx with rfl | hx
      · exact hb
      · exact h3 x hx
theorem index_lite (s : ByteArray) (c : Int) (w : World) :
    Calls Tryz.prog 131 #[.string s, .int .u8 c] w fun e w' => e = .returned (.int .i64 (Lib.indexByte s.data.toList c.toNat.toUInt8)) ∧ w' = w := Any.stringslite_IndexByte (ρ := lays137_ren) { lays137 with } s c w
set_option maxHeartbeats 1600000 in
theorem index_doll (s : ByteArray) (w : World) :
    Calls Tryz.prog 108 #[.string s, .string dollB] w fun e w' => e = .returned (.int .i64 (Lib.indexByte s.data.toList 36)) ∧ w' = w := by
  have KL := Lib.hid (fun w => index_lite s 36 w)
  generalize hx : Lib.indexByte s.data.toList (36 : Int).toNat.toUInt8 = x at KL
  have HX : Hid (Lib.indexByte s.data.toList 36 = x) := hx
  clear hx
  go_enter Tryz.func108, Tryz.ntmps108
  go_wp2_with fail
  have KI : Calls Tryz.prog 149 #[.string s, .string dollB] w fun e w' => e = .returned (.int .i64 x) ∧ w' = w := by
    by_cases q : s.toList = [36]
    · have q2 : (([36] : List UInt8) == s.toList) = true := by rw [q]; rfl
      have HX0 : Hid (x = 0) := by
        unfold Hid
        rw [← HX.out, ← Lib.toList_data, q]
        rfl
      clear q
      go_enter Tryz.func149, Tryz.ntmps149
      go_wp2
      go_ret
      exact ⟨by rw [HX0.out]; rfl, rfl⟩
    · have q2 : (([36] : List UInt8) == s.toList) = false := by rw [beq_eq_false_iff_ne]; exact fun e => q e.symm
      clear q
      go_enter Tryz.func149, Tryz.ntmps149
      go_wp2_with fail
      refine (KL.out _).mono ?_
      rintro e w2 ⟨rfl, rfl⟩
      go_wp2
      go_ret
      exact ⟨rfl, rfl⟩
  refine KI.mono ?_
  rintro e w2 ⟨rfl, rfl⟩
  go_wp2
  go_ret
  exact ⟨by rw [HX.out]; rfl, rfl⟩
set_option maxHeartbeats 1600000 in
theorem count_doll (s : ByteArray) (w : World) :
    Calls Tryz.prog 106 #[.string s, .string dollB] w fun e w' => e = .returned (.int .i64 (s.data.toList.count 36 : Nat)) ∧ w' = w := by
  go_enter Tryz.func106, Tryz.ntmps106
  go_wp2
  rw [run_callFunc_extern Tryz.func147 (by kernel_rfl) (by kernel_rfl) (by kernel_rfl) (e := Extern.BytealgCount.count) (by kernel_rfl), Lib.run_countString]
  simp only [Result.andThen]
  rw [Oper.upon_value]
  go_wp2
  go_ret
  exact ⟨rfl, rfl⟩

theorem drop_nextR {l : List UInt8} {st j : Nat} (h : (l.drop st).drop j = 36 :: (l.drop st).drop (j + 1)) (hno : ∀ x ∈ (l.drop st).take j, x ≠ 36) :
    plainL (l.take (st + j + 1)) = plainL (l.take st) ++ (l.drop st).take j ++ [36, 36] ∧ (l.drop st).count 36 = (l.drop (st + j + 1)).count 36 + 1 := by
  have e1 : l.take (st + j + 1) = l.take st ++ (l.drop st).take j ++ [36] := by
    have : (l.drop st).take (j + 1) = (l.drop st).take j ++ [36] := by
      rw [List.take_add, h]
      rfl
    rw [Nat.add_assoc, List.take_add, this, List.append_assoc]
  have e2 : l.drop st = (l.drop st).take j ++ 36 :: l.drop (st + j + 1) := by
    conv => lhs; rw [← List.take_append_drop j (l.drop st), h]
    rw [List.drop_drop, Nat.add_assoc]
  constructor
  · rw [e1, plainL_app, plainL_app, plainL_no _ hno]
    rfl
  · rw [e2]
    have h0 : ((l.drop st).take j).count 36 = 0 := by
      rw [List.count_eq_zero]
      intro hm
      exact hno _ hm rfl
    simp only [List.count_append, List.count_cons_self, h0]
    have e3 : ((l.drop st).take j ++ 36 :: l.drop (st + j + 1)) = l.drop st := e2.symm
    omega
theorem two_ne : (dollB.toList == doll2B.toList) = false := by decide +kernel
set_option maxHeartbeats 1600000 in
theorem replace_doll (s : ByteArray) (w : World) (hs : (s.size : Int) ≤ 10000000) :
    Calls Tryz.prog 76 #[.string s, .string dollB, .string doll2B, .int .i64 (-1)] w fun e w' => e = .returned (.string (plainT s)) ∧ Below w.heap.size w w' := by
  have KC := Lib.hid (fun w => count_doll s w)
  have HV : Hid (plainT s = ⟨(plainL s.data.toList).toArray⟩) := rfl
  have HSZ := Lib.hid (Lib.size_eq s)
  obtain ⟨cn, hcn⟩ : ∃ cn, s.data.toList.count 36 = cn := ⟨_, rfl⟩
  have hcl : cn ≤ s.size := by rw [← hcn, Lib.size_eq]; exact List.count_le_length
  rw [hcn] at KC
  have tn := two_ne
  by_cases h0 : cn = 0
  · have HF : Hid (plainT s = s) := by
      unfold Hid
      rw [HV.out, plainL_no]
      intro c hc e
      subst e
      have := List.count_pos_iff.2 hc
      omega
    have hcz : ((cn : Int) == 0) = true := by rw [beq_iff_eq]; omega
    clear HV HSZ hcn
    go_enter Tryz.func76, Tryz.ntmps76
    go_wp2_with fail
    refine (KC.out _).mono ?_
    rintro e w1 ⟨rfl, rfl⟩
    go_wp2
    go_ret
    exact ⟨by rw [HF.out]; rfl, Below.refl _ _⟩
  · have hcz : ((cn : Int) == 0) = false := by rw [beq_eq_false_iff_ne]; omega
    have HCN := Lib.hid hcn
    generalize plainT s = r at *
    clear hcn
    go_enter Tryz.func76, Tryz.ntmps76
    go_wp2_with fail
    refine (KC.out _).mono ?_
    rintro e w1 ⟨rfl, rfl⟩
    clear KC
    have KG0 := (grow_new w1.heap.size (s.size + cn) (w1.alloc (.cells #[.pointer none, .slice none 0 0] 95)) (heap_alloc_new _ _) (by omega) (by omega))
    rw [show ((s.size + cn : Nat) : Int) = (s.size : Int) + (cn : Int) by omega] at KG0
    have KG := Lib.hid KG0
    clear KG0
    go_wp2_with fail
    with_reducible refine KG.out.mono ?_
    rintro e w2 ⟨rfl, hB2, hb2⟩
    clear KG
    have hb2' : Below w1.heap.size w1 w2 := ((Below.refl w1.heap.size w1).alloc (Nat.le_refl _) _).trans hb2
    have HB2 : Hid (BuiltF w1.heap.size w1.heap.size (plainL (s.data.toList.take 0)) w2) := hB2
    have HC0 : Hid ((s.data.toList.drop 0).count 36 = cn - 0) := HCN.out
    clear hB2 hb2 hcz
    go_wp2_with fail
    go_loopw [11, 12, 53] (fun st _ i wr => ∃ (k p : Nat), k ≤ cn ∧ p ≤ s.size ∧ st = .int .i64 p ∧ i = .int .i64 k ∧ Hid ((s.data.toList.drop p).count 36 = cn - k) ∧ Hid (BuiltF w1.heap.size w1.heap.size (plainL (s.data.toList.take p)) wr) ∧ Below w1.heap.size w1 wr) (fun _ _ i _ => cn - (intOf i).toNat)
    case atStart => exact ⟨0, 0, Nat.zero_le _, Nat.zero_le _, rfl, rfl, HC0, HB2, hb2'⟩
    case round =>
      obtain ⟨k, p, hk, hp, rfl, rfl, hC, hB, hb⟩ := hrel
      clear HC0 HB2 hb2'
      have hpz : (p : Int) ≤ (s.size : Int) := by omega
      have hsz := hb.size
      have hpl : (plainL (s.data.toList.take p)).length ≤ 20000000 := by
        have := plainL_len (s.data.toList.take p)
        rw [List.length_take] at this
        omega
      have hdr : (s.extract p s.size).data.toList = s.data.toList.drop p := by
        rw [Lib.extract_data]
        exact List.take_of_length_le (by rw [List.length_drop, ← Lib.size_eq]; exact Nat.le_refl _)
      by_cases hlt : k < cn
      · have hkz : (k : Int) < (cn : Int) := by omega
        obtain ⟨j, j1, j2, j3, j4⟩ := index_some (s.data.toList.drop p) 36 (by rw [hC.out]; omega)
        rw [List.length_drop, ← Lib.size_eq] at j2
        obtain ⟨n1, n2⟩ := drop_nextR j4 j3
        have KI := Lib.hid (fun w => index_doll (s.extract p s.size) w)
        rw [hdr, j1] at KI
        have hex : (s.extract p (p + j)).data.toList = (s.data.toList.drop p).take j := by
          rw [Lib.extract_data, show p + j - p = j by omega]
        have HC2 : Hid ((s.data.toList.drop (p + j + 1)).count 36 = cn - (k + 1)) := by
          unfold Hid
          have := hC.out
          omega
        have HN1 := Lib.hid n1
        have HEX := Lib.hid hex
        have hex2 : (s.extract p (p + j)).size ≤ s.size := by rw [ByteArray.size_extract]; omega
        have hjz : (p : Int) + (j : Int) ≤ (s.size : Int) := by omega
        have hjz1 : (p : Int) ≤ (p : Int) + (j : Int) := by omega
        have hjz2 : (p : Int) + (j : Int) + 1 ≤ (s.size : Int) := by omega
        have htn : ((p : Int) + (j : Int)).toNat = p + j := by omega
        have KW := Lib.hid (fun (W : World) (h : BuiltF w1.heap.size w1.heap.size (plainL (s.data.toList.take p)) W) (hz : w1.heap.size ≤ W.heap.size) => built_write w1.heap.size w1.heap.size _ (s.extract p (p + j)) W h (by omega) hz)
        clear j1 j3 j4 n1 n2 hC hdr hex
        go_wp2_with fail
        refine (KI.out _).mono ?_
        rintro e w3 ⟨rfl, rfl⟩
        clear KI
        go_wp2_with fail
        refine (KW.out _ hB.out hsz).mono ?_
        rintro e w4 ⟨rfl, hB4, hb4, _⟩
        have HB4 := Lib.hid hB4
        have hb4' := hb.trans hb4
        have hs4 := hb4'.size
        clear hB4 hb4 hb hB KW
        go_wp2_with fail
        refine (built_write w1.heap.size w1.heap.size _ doll2B _ HB4.out (by rw [List.length_append, ← Lib.size_eq, show doll2B.size = 2 from rfl]; omega) hs4).mono ?_
        rintro e w5 ⟨rfl, hB5, hb5, _⟩
        have HB5 : Hid (BuiltF w1.heap.size w1.heap.size (plainL (s.data.toList.take (p + j + 1))) w5) := by
          unfold Hid
          rw [HN1.out, ← HEX.out]
          exact hB5
        have hb5' := hb4'.trans hb5
        clear hB5 hb5 hb4' HB4 HN1 HEX
        go_wp2
        go_roundw
        case rel => exact ⟨k + 1, p + j + 1, by omega, by omega, by go_num, by go_num, HC2, HB5, hb5'⟩
        case measure => simp [intOf]; omega
      · obtain rfl : k = cn := by omega
        have hkz : ¬ (k : Int) < (k : Int) := by omega
        have HF : Hid (r = ⟨(plainL (s.data.toList.take p) ++ (s.extract p s.size).data.toList).toArray⟩) := by
          unfold Hid
          rw [HV.out, hdr]
          congr 2
          conv => lhs; rw [← List.take_append_drop p s.data.toList]
          rw [plainL_app]
          congr 1
          apply plainL_no
          intro c hc e
          subst e
          have := List.count_pos_iff.2 hc
          have := hC.out
          omega
        have hex2 : (s.extract p s.size).size ≤ s.size := by rw [ByteArray.size_extract]; omega
        clear hC hdr HV HSZ
        go_wp2_with fail
        refine (built_write w1.heap.size w1.heap.size _ (s.extract p s.size) _ hB.out (by omega) hsz).mono ?_
        rintro e w4 ⟨rfl, hB4, hb4, _⟩
        have HB4 := Lib.hid hB4
        have hb4' := hb.trans hb4
        have hs4 := hb4'.size
        clear hB4 hb4 hb hB
        go_wp2_with fail
        refine (built_string w1.heap.size w1.heap.size _ _ HB4.out hs4).mono ?_
        rintro e w5 ⟨rfl, hB5, hb5, _⟩
        have hb5' := hb4'.trans hb5
        clear hB5 hb5 hb4' HB4
        go_wp2
        go_ret
        exact ⟨by rw [HF.out, Lib.extract_data]; rfl, hb5'⟩
set_option maxHeartbeats 1600000 in
theorem plain_impl (s : ByteArray) (w : World) (hs : (s.size : Int) ≤ 10000000) :
    Calls Tryz.prog 19 #[.string s] w fun e w' => e = .returned (.string (plainT s)) ∧ Below w.heap.size w w' := by
  have KR := Lib.hid (fun w => replace_doll s w hs)
  generalize plainT s = r at *
  have KA : Hid (∀ w, Calls Tryz.prog 46 #[.string s, .string dollB, .string doll2B] w fun e w' => e = .returned (.string r) ∧ Below w.heap.size w w') := by
    intro w
    go_enter Tryz.func46, Tryz.ntmps46
    go_wp2_with fail
    refine (KR.out _).mono ?_
    rintro e w2 ⟨rfl, hb⟩
    go_wp2
    go_ret
    exact ⟨rfl, hb⟩
  go_enter Tryz.func19, Tryz.ntmps19
  go_wp2_with fail
  refine (KA.out _).mono ?_
  rintro e w2 ⟨rfl, hb⟩
  go_wp2
  go_ret
  exact ⟨rfl, hb⟩

end Go.Proofs.YtkhkpjnpjgnckaaGreatDoor
