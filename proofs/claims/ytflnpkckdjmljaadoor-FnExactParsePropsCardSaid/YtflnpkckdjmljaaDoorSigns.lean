/- The signs of a text: the contracts of Signs, the model's and the program's. -/
import Derived.Test.YtflnpkckdjmljaaDoorProg
import Derived.Test.YtflnpkckdjmljaaDoorPlain
import Derived.Test.YtflnpkckdjmljaaDoorRunePure
import Derived.Test.YtflnpkckdjmljaaDoorDecodePure
import Derived.Test.YtflnpkckdjmljaaDoorRuneText
import Derived.Test.YtflnpkckdjmljaaDoorInts
import Derived.Test.YtflnpkckdjmljaaDoorBuild
import Derived.Test.YtflnpkckdjmljaaDoorTextOf
import Derived.Test.YtflnpkckdjmljaaDoorNextSpec
import Derived.Test.YtflnpkckdjmljaaDoorValid
import Derived.Lib.OthersKept
import Derived.WalkKit
import Derived.WalkLawsBesides
import Derived.OwnWalk
import Derived.Lib.Hide
import Derived.IntWalk
import Derived.Laws.RangeAny
namespace Go.Proofs.YtflnpkckdjmljaaDoor
open Go.RowKit
set_option linter.unusedVariables false

/-- the signs of a text, as numbers -/
def intsOf (l : List Nat) : List Int := l.map (fun (n : Nat) => (n : Int))
theorem intsOf_length (l : List Nat) : (intsOf l).length = l.length := by simp [intsOf]
theorem intsOf_snoc (l : List Nat) (r : Nat) : intsOf (l ++ [r]) = intsOf l ++ [(r : Int)] := by simp [intsOf]
def signsI (l : List UInt8) : List Int := intsOf ((signsL l).getD [])
def signsO (l : List UInt8) : Bool := (signsL l).isSome
/-- what Signs answers -/
def SignsAre (w : World) (l : List UInt8) (e : Ending) (w' : World) : Prop :=
  ∃ v g, e = .returned (.tuple #[v, .bool (signsO l)]) ∧ IntsIs w' v g 0 (signsI l) ∧ w.heap.size ≤ g ∧ Below w.heap.size w w'
theorem cell_one_newI (w : World) (v : Value) (t : Nat) : ∀ j u, [v][j]? = some u → (w.alloc (.cells #[v] t)).cell? ((⟨w.heap.size, 0, none⟩ : Addr).add j) = some u := by
  intro j u hu
  cases j with
  | zero =>
    have ha : (⟨w.heap.size, 0, none⟩ : Addr).add 0 = ⟨w.heap.size, 0, none⟩ := by unfold Addr.add; split <;> simp_all
    rw [ha, Lib.cell_of_heap (heap_alloc_new _ _)]
    simpa using hu
  | succ j => simp at hu
theorem signsI_few (l : List UInt8) : (signsI l).length ≤ l.length := by
  unfold signsI
  rw [intsOf_length]
  cases h : signsL l with
  | none => exact Nat.zero_le _
  | some list => exact signs_few l list h
theorem signs_bad {l : List UInt8} (h : signsL l = none) : signsI l = [] ∧ signsO l = false := by
  unfold signsI signsO
  rw [h]
  exact ⟨rfl, rfl⟩
theorem signs_good {l : List UInt8} {list : List Nat} (h : signsL l = some list) : signsI l = intsOf list ∧ signsO l = true := by
  unfold signsI signsO
  rw [h]
  exact ⟨rfl, rfl⟩
/-- how far it has come -/
def SignsAt (all : List UInt8) (k : Nat) (l : List Nat) : Prop := signsL all = (signsL (all.drop k)).map (l ++ ·)
theorem signsAt_zero (all : List UInt8) : SignsAt all 0 [] := by
  unfold SignsAt
  rw [List.drop_zero]
  cases signsL all <;> rfl
theorem signsAt_step {all : List UInt8} {k : Nat} {l : List Nat} {r n : Nat} (h : SignsAt all k l) (hn : nextS (all.drop k) = some (r, n)) : SignsAt all (k + n) (l ++ [r]) := by
  unfold SignsAt at *
  rw [h, signsL_good hn, List.drop_drop]
  cases signsL (all.drop (k + n)) with
  | none => rfl
  | some x => simp
theorem signsAt_bad {all : List UInt8} {k : Nat} {l : List Nat} (h : SignsAt all k l) (hk : k < all.length) (hn : nextS (all.drop k) = none) : signsL all = none := by
  unfold SignsAt at h
  rw [h, signsL_bad (by intro e; have := congrArg List.length e; rw [List.length_drop] at this; simp at this; omega) hn]
  rfl
theorem signsAt_end {all : List UInt8} {k : Nat} {l : List Nat} (h : SignsAt all k l) (hk : all.length ≤ k) : signsL all = some l := by
  unfold SignsAt at h
  rw [h, List.drop_of_length_le hk, signsL_nil]
  simp

set_option maxRecDepth 100000 in
set_option maxHeartbeats 1600000 in
theorem signs_spec (s : ByteArray) (hs : s.size ≤ 100000000) (w : World) : Calls Tryd.prog 57 #[.string s] w (SignsAre w s.data.toList) := by
  obtain ⟨i0, hi, hz0, hz1, hz2⟩ := info_parts info_int
  have hs9 : (s.size : Int) ≤ 100000000 := by omega
  have HS := Lib.hid hs
  have HL := Lib.hid (Lib.size_eq s)
  clear hs
  go_enter Tryd.func57, Tryd.ntmps57
  go_wp2
  go_loopw [4, 5] (fun v i wr => ∃ (k : Nat) (l : List Nat), k ≤ s.size ∧ i = .int .i64 k ∧ l.length ≤ k ∧ Hid (SignsAt s.data.toList k l) ∧ wr.ownsRow w.heap.size 3 1 v l.length (intCells (intsOf l)) ∧ Below w.heap.size w wr) (fun _ i _ => s.size - (intOf i).toNat)
  case atStart => exact ⟨0, [], Nat.zero_le _, rfl, Nat.le_refl _, signsAt_zero _, World.ownsRow_lit w #[] 0 (Nat.le_refl _) (Nat.zero_le _) rfl, (Below.refl _ _).alloc (Nat.le_refl _) _⟩
  case round =>
    obtain ⟨k, l, hk, rfl, hlk, hat, hown, hb⟩ := hrel
    by_cases hlt : k < s.size
    · have hltz : (k : Int) < (s.size : Int) := by omega
      go_wp2_with fail
      refine (next_spec s k hlt HS.out _).mono ?_
      rintro e w1 ⟨rfl, hb1⟩
      have hb2 := hb.trans (hb1.mono hb.size)
      cases hn : nextS (s.data.toList.drop k) with
      | none =>
        have h3 := Lib.hid (signs_bad (signsAt_bad hat.out (by rw [← HL.out]; exact hlt) hn))
        have hr : nextRes (s.data.toList.drop k) = .tuple #[.int .i64 0, .int .i64 0] := by unfold nextRes; rw [hn]
        rw [hr]
        clear hn hr hat hown hb hb1
        have hb3 := hb2.alloc hb2.size (.cells #[] 3)
        go_wp2
        go_ret2
        refine ⟨_, w.heap.size, by rw [h3.out.2]; rfl, by rw [h3.out.1]; exact IntsIs.nil _ _ _ _ _ _ rfl, Nat.le_refl _, ?_⟩
        exact hb3
      | some q =>
        obtain ⟨r, n⟩ := q
        have hr : nextRes (s.data.toList.drop k) = .tuple #[.int .i64 r, .int .i64 n] := by unfold nextRes; rw [hn]
        have hp := next_pos hn
        rw [List.length_drop, ← HL.out] at hp
        have hat2 := Lib.hid (signsAt_step hat.out hn)
        have hown2 := own_below hown hb1
        have hn0 : ((n : Int) == 0) = false := by rw [beq_eq_false_iff_ne]; omega
        have hnb : (k : Int) + (n : Int) ≤ (s.size : Int) := by omega
        have hll : Hid (l.length + 1 ≤ 100000000) := by have := HS.out; unfold Hid; omega
        have hb3 := hb2.alloc hb2.size (.cells #[.int .i64 (r : Int)] 3)
        rw [hr]
        clear hn hr hat hown hb hb1
        go_wp2_with (at_builtin; refine wpList_append_own _ rfl _ _ 87 rfl w.heap.size 3 i0 (.int .i64 0) 1 8 Tryd.underlying87 hi hz0 hz1 hz2 rfl (by decide) _ _ _ rfl (hown2.alloc _) ⟨w1.heap.size, 0, none⟩ 1 1 [.int .i64 (r : Int)] rfl rfl (cell_one_newI _ _ _) (by simp [Value.oneCell']) (by have := hll.out; unfold maxLen; omega) (by have := hll.out; omega) hb3.size ?_; intro v' w3 hown3 hgrow _)
        have hb4 := hb3.grown hgrow hb3.size (own_blockI hown2)
        have hown4 : w3.ownsRow w.heap.size 3 1 v' (l ++ [r]).length (intCells (intsOf (l ++ [r]))) := by
          rw [intsOf_snoc, intCells_append, List.length_append]
          exact hown3
        clear hown2 hown3 hgrow hb3 hb2
        go_wp2
        go_roundw
        case rel => exact ⟨k + n, l ++ [r], by omega, by go_num, by simp; omega, hat2, hown4, hb4⟩
        case measure => simp [intOf]; omega
    · obtain rfl : k = s.size := by omega
      have h3 := Lib.hid (signs_good (signsAt_end hat.out (by rw [← HL.out]; exact Nat.le_refl _)))
      obtain ⟨g, hI, hg⟩ := intsIs_of_owns hown (intsOf_length l).symm hb.size
      rw [← h3.out.1] at hI
      have HI := Lib.hid hI
      clear hown hI hat
      go_wp2
      go_ret2
      exact ⟨_, g, by rw [h3.out.2]; rfl, HI.out, hg, hb⟩

theorem decode_at_drop (s : ByteArray) (k : Nat) (hk : k < s.size) (hv : (signsL (s.data.toList.drop k)).isSome = true) : nextS (s.data.toList.drop k) = some (Utf8.decode s k) := by
  rw [← Lib.decodeL_drop]
  have hne : s.data.toList.drop k ≠ [] := by
    intro e
    have := congrArg List.length e
    rw [List.length_drop, ← Lib.size_eq] at this
    simp at this
    omega
  by_cases h : (Lib.decodeL (s.data.toList.drop k)).1 = 65533 ∧ (Lib.decodeL (s.data.toList.drop k)).2 = 1
  · rw [signsL_bad hne (next_decode_bad _ h)] at hv
    cases hv
  · exact next_decode _ hne h
theorem signsAt_some {all : List UInt8} {k : Nat} {l : List Nat} (h : SignsAt all k l) (ho : signsO all = true) : (signsL (all.drop k)).isSome = true := by
  unfold SignsAt at h
  unfold signsO at ho
  rw [h, Option.isSome_map] at ho
  exact ho

theorem own_iterAt {w : World} {b e size n : Nat} {v : Value} {xs : List Value} (h : w.ownsRow (b + 1) e size v n xs) (s : ByteArray) (p : Nat) : (w.iterAt b s p).ownsRow (b + 1) e size v n xs := by
  refine ⟨h.1, ?_⟩
  rcases h.2 with h2 | ⟨g, cap, cur, hv, hb, hg, hnc, hcm, hcs, htake⟩
  · exact .inl h2
  · exact .inr ⟨g, cap, cur, hv, hb, (Lib.iterAt_other w b g s p (by omega)).trans hg, hnc, hcm, hcs, htake⟩
theorem iter_alloc {w : World} {b : Nat} {s : ByteArray} {p : Nat} (h : w.heap[b]? = some (.stringIter s p)) (o : Obj) : (w.alloc o).heap[b]? = some (.stringIter s p) := by
  rw [Below.heap_alloc _ _ _ (Array.getElem?_eq_some_iff.1 h).1]
  exact h

/-- what the program's Signs answers: and the block's cells are numbers -/
def SignsOwn (w : World) (l : List UInt8) (e : Ending) (w' : World) : Prop :=
  ∃ v g, e = .returned (.tuple #[v, .bool (signsO l)]) ∧ IntsIs w' v g 0 (signsI l) ∧ w.heap.size ≤ g ∧ Below w.heap.size w w' ∧ (signsI l ≠ [] → ∃ cs fz, w'.heap[g]? = some (.cells cs 3 fz))
theorem own_typeI {w : World} {base n : Nat} {v : Value} {g : Nat} {l : List Int} {xs : List Value} (h : w.ownsRow base 3 1 v n xs) (hI : IntsIs w v g 0 l) (hl : l ≠ []) : ∃ cs fz, w.heap[g]? = some (.cells cs 3 fz) := by
  obtain ⟨a, cap, hv, ha⟩ := hI.form
  have ha := ha hl
  rcases h.2 with ⟨hv2, _⟩ | ⟨g2, cap2, cur, hv2, hb, hg, _⟩
  · rw [hv, ha] at hv2
    cases hv2
  · rw [hv, ha] at hv2
    injection hv2 with e1
    injection e1 with e1
    injection e1 with e1
    subst e1
    exact ⟨_, _, hg⟩

set_option maxRecDepth 100000 in
set_option maxHeartbeats 1600000 in
theorem signs_implO (s : ByteArray) (hs : s.size ≤ 100000000) (w : World) (hT : TabsV w) : Calls Tryd.prog 62 #[.string s] w (SignsOwn w s.data.toList) := by
  obtain ⟨i0, hi, hz0, hz1, hz2⟩ := info_parts info_int
  have hs9 : (s.size : Int) ≤ 100000000 := by omega
  have HS := Lib.hid hs
  have HT := Lib.hid hT
  have HL := Lib.hid (Lib.size_eq s)
  clear hs hT
  cases ho : signsO s.data.toList
  · have HO := Lib.hid ho
    have h3 := Lib.hid (signs_bad (l := s.data.toList) (by unfold signsO at ho; exact Option.not_isSome_iff_eq_none.1 (by rw [ho]; decide)))
    clear ho
    go_enter Tryd.func62, Tryd.ntmps62
    go_wp2_with fail
    refine (valid_lib s w (by have := HS.out; omega) HT.out).mono ?_
    rintro e w1 ⟨rfl, hb1⟩
    rw [show (signsL s.data.toList).isSome = false from HO.out]
    go_wp2
    go_ret2
    exact ⟨_, w.heap.size, by rw [h3.out.2]; rfl, by rw [h3.out.1]; exact IntsIs.nil _ _ _ _ _ _ rfl, Nat.le_refl _, hb1, fun h => absurd h3.out.1 h⟩
  · have HO := Lib.hid ho
    clear ho
    go_enter Tryd.func62, Tryd.ntmps62
    go_wp2_with fail
    refine (valid_lib s w (by have := HS.out; omega) HT.out).mono ?_
    rintro e w1 ⟨rfl, hb1⟩
    rw [show (signsL s.data.toList).isSome = true from HO.out]
    go_wp2
    go_loopw [4] (fun v wr => ∃ (k : Nat) (l : List Nat), k ≤ s.size ∧ l.length ≤ k ∧ Hid (SignsAt s.data.toList k l) ∧ wr.heap[w1.heap.size]? = some (.stringIter s k) ∧ Hid (wr.ownsRow (w1.heap.size + 1) 3 1 v l.length (intCells (intsOf l))) ∧ Below w1.heap.size w1 wr) (fun _ wr => s.size - wr.iterPos w1.heap.size)
    case atStart =>
      refine ⟨0, [], Nat.zero_le _, Nat.le_refl _, signsAt_zero _, ?_, ⟨rfl, .inl ⟨rfl, rfl⟩⟩, (Below.refl _ w1).alloc (Nat.le_refl _) _⟩
      exact World.iter_heap w1 s 0
    case round =>
      obtain ⟨k, l, hk, hlk, hat, hit, hown, hb⟩ := hrel
      have hsz : w1.heap.size < wr.heap.size := (Array.getElem?_eq_some_iff.1 hit).1
      by_cases hp : k < s.size
      · have hnx : ∀ ty, (Instr.next (.pointer (some ⟨w1.heap.size, 0, none⟩)) true ty).run Tryd.prog wr = _ := fun ty => Lib.run_next_any_at wr w1.heap.size s k ty hit hp
        have hn := decode_at_drop s k hp (signsAt_some hat.out HO.out)
        have hpos := next_pos (r := (Utf8.decode s k).1) (n := (Utf8.decode s k).2) hn
        rw [List.length_drop, ← HL.out] at hpos
        have hat2 := Lib.hid (signsAt_step (r := (Utf8.decode s k).1) (n := (Utf8.decode s k).2) hat.out hn)
        have hd1 := decode_le s k
        have hit2 := Lib.iterAt_heap wr w1.heap.size s k (k + (Utf8.decode s k).2) hit
        have hb2 := Lib.below_iterAt hb (k := w1.heap.size) (by omega) s (k + (Utf8.decode s k).2)
        have hsz2 : w1.heap.size + 1 ≤ (wr.iterAt w1.heap.size s (k + (Utf8.decode s k).2)).heap.size := by rw [Lib.iterAt_size]; omega
        have hown2 := own_iterAt hown.out s (k + (Utf8.decode s k).2)
        have hll : Hid (l.length + 1 ≤ 100000000) := by have := HS.out; unfold Hid; omega
        have hrz : ((Utf8.decode s k).1 : Int) ≤ 2147483647 := by omega
        generalize hdd : Utf8.decode s k = dd at *
        obtain ⟨r, n⟩ := dd
        simp only at *
        have hb3 := hb2.alloc (by omega) (.cells #[.int .i64 (r : Int)] 3)
        have hit3 := iter_alloc hit2 (.cells #[.int .i64 (r : Int)] 3)
        have HIT3 := Lib.hid hit3
        have HPOS := Lib.hid hpos
        have HW : Hid ((wr.iterAt w1.heap.size s (k + n)).heap.size = wr.heap.size) := Lib.iterAt_size _ _ _ _
        clear hn hat hown hb hit2 hd1 hdd hpos hit3
        go_wp2_with (at_builtin; refine wpList_append_own _ rfl _ _ 87 rfl (w1.heap.size + 1) 3 i0 (.int .i64 0) 1 8 Tryd.underlying87 hi hz0 hz1 hz2 rfl (by decide) _ _ _ rfl (hown2.alloc _) ⟨(wr.iterAt w1.heap.size s (k + n)).heap.size, 0, none⟩ 1 1 [.int .i64 (r : Int)] rfl rfl (cell_one_newI _ _ _) (by simp [Value.oneCell']) (by have := hll.out; unfold maxLen; omega) (by have := hll.out; omega) (by simp; omega) ?_; intro v' w3 hown3 hgrow _)
        have hbl := own_blockI hown2
        have hb4 := hb3.grown hgrow (by simp; omega) (fun k hk => by have := hbl k hk; omega)
        have hit4 : w3.heap[w1.heap.size]? = some (.stringIter s (k + n)) := by
          rw [hgrow.block w1.heap.size (by simp; omega) (fun e => by have := hbl w1.heap.size e.symm; omega)]
          exact HIT3.out
        have hown4 : Hid (w3.ownsRow (w1.heap.size + 1) 3 1 v' (l ++ [r]).length (intCells (intsOf (l ++ [r])))) := by
          unfold Hid
          rw [intsOf_snoc, intCells_append, List.length_append]
          exact hown3
        clear hown2 hown3 hgrow hb3 hb2 hbl hnx HIT3
        go_wp2
        go_roundw
        case rel => exact ⟨k + n, l ++ [r], by have := HPOS.out; omega, by have := HPOS.out; simp; omega, hat2, hit4, hown4, hb4⟩
        case measure =>
          have := HPOS.out
          simp only [World.iterPos, hit4, hit]
          omega
      · obtain rfl : k = s.size := by omega
        have hnx : ∀ ty, (Instr.next (.pointer (some ⟨w1.heap.size, 0, none⟩)) true ty).run Tryd.prog wr = _ := fun ty => Lib.run_next_end_at wr w1.heap.size s s.size ty hit hp
        have h3 := Lib.hid (signs_good (signsAt_end hat.out (by rw [← HL.out]; exact Nat.le_refl _)))
        obtain ⟨g, hI, hg⟩ := intsIs_of_owns hown.out (intsOf_length l).symm (by omega)
        rw [← h3.out.1] at hI
        have HY := Lib.hid (own_typeI hown.out hI)
        have HI := Lib.hid hI
        have hb2 := hb1.trans (hb.mono hb1.size)
        have hsz1 := hb1.size
        clear hown hI hat hb
        go_wp2
        go_ret2
        exact ⟨_, g, by rw [h3.out.2]; rfl, HI.out, by omega, hb2, HY.out⟩
theorem signs_impl (s : ByteArray) (hs : s.size ≤ 100000000) (w : World) (hT : TabsV w) : Calls Tryd.prog 62 #[.string s] w (SignsAre w s.data.toList) :=
  (signs_implO s hs w hT).mono fun e w' ⟨v, g, h1, h2, h3, h4, _⟩ => ⟨v, g, h1, h2, h3, h4⟩

end Go.Proofs.YtflnpkckdjmljaaDoor
