/- The lines of odd records: the contracts of OddLines, the model's and the program's. -/
import Derived.Test.YtdkghalcnaogfaaProg
import Derived.Test.YtdkghalcnaogfaaPlain
import Derived.Test.YtdkghalcnaogfaaRows0
import Derived.Test.YtdkghalcnaogfaaRecRows
import Derived.Test.YtdkghalcnaogfaaRecArg
import Derived.Test.YtdkghalcnaogfaaRecEntry
import Derived.Test.YtdkghalcnaogfaaRecRaw
import Derived.Test.YtdkghalcnaogfaaInts
import Derived.WalkKit
import Derived.WalkLawsBesides
import Derived.OwnWalk
import Derived.Lib.AppendStr
import Derived.Lib.Hide
import Derived.IntWalk
namespace Go.Proofs.Ytdkghalcnaogfaa
open Go.RowKit
set_option linter.unusedVariables false

/-- the lines of the odd ones -/
def oddL (l : List RecD) : List Int := (l.filter (fun x => decide (x.kind = 4))).map RecD.line
theorem oddL_yes (l : List RecD) (k : Nat) (h : k < l.length) (hk : l[k].kind = 4) : oddL (l.take (k + 1)) = oddL (l.take k) ++ [l[k].line] := by
  unfold oddL
  rw [List.take_succ_eq_append_getElem h, List.filter_append, List.map_append]
  simp [hk]
theorem oddL_no (l : List RecD) (k : Nat) (h : k < l.length) (hk : l[k].kind ≠ 4) : oddL (l.take (k + 1)) = oddL (l.take k) := by
  unfold oddL
  rw [List.take_succ_eq_append_getElem h, List.filter_append, List.map_append]
  simp [hk]
theorem oddL_len (l : List RecD) : (oddL l).length ≤ l.length := by
  unfold oddL
  rw [List.length_map]
  exact List.length_filter_le _ _
theorem oddL_fits {l : List RecD} (h : costRec l ≤ 1048576) : (oddL l).length ≤ 100000000 := by
  have := oddL_len l
  unfold costRec at h
  omega
theorem oddL_take_len (l : List RecD) (k : Nat) : (oddL (l.take k)).length ≤ k := by
  have := oddL_len (l.take k)
  rw [List.length_take] at this
  omega

theorem cell_one_newR (w : World) (v : Value) (t : Nat) : ∀ j u, [v][j]? = some u → (w.alloc (.cells #[v] t)).cell? ((⟨w.heap.size, 0, none⟩ : Addr).add j) = some u := by
  intro j u hu
  cases j with
  | zero =>
    have ha : (⟨w.heap.size, 0, none⟩ : Addr).add 0 = ⟨w.heap.size, 0, none⟩ := by unfold Addr.add; split <;> simp_all
    rw [ha, Lib.cell_of_heap (heap_alloc_new _ _)]
    simpa using hu
  | succ j => simp at hu
theorem own_stepI {w wr w1 : World} {t : Nat} {v v' : Value} {l : List Int} {x : Int} {o : Obj} (hb : Below w.heap.size w wr) (hown : wr.ownsRow w.heap.size t 1 v l.length (intCells l))
    (hown' : w1.ownsRow w.heap.size t 1 v' (l.length + 1) (intCells l ++ [.int .i64 x])) (hg : (wr.alloc o).grownBy w1 v.ownBlock) :
    w1.ownsRow w.heap.size t 1 v' (l ++ [x]).length (intCells (l ++ [x])) ∧ Below w.heap.size w w1 := by
  refine ⟨by simpa [intCells] using hown', ?_⟩
  exact (hb.alloc hb.size o).grown hg (by have := hb.size; simp; omega) (own_blockR hown)
theorem ownsRow_over {w w' : World} {base e size n : Nat} {v : Value} {xs : List Value} (h : w.ownsRow base e size v n xs) (hb : Below w.heap.size w w') : w'.ownsRow base e size v n xs :=
  h.kept (row := none) ⟨hb.os, hb.tape, hb.output, hb.size, fun k hk _ => hb.block k hk⟩ (by cases hv : v.ownBlock <;> simp)

set_option maxRecDepth 100000 in
set_option maxHeartbeats 3200000 in
theorem oddLines_spec (w : World) (u : Value) (g o : Nat) (l : List RecD) (hu : RowsRd recS w u g o l) (hl : costRec l ≤ 1048576) :
    Calls Try.prog 28 #[u] w (NewInts w (oddL l)) := by
  obtain ⟨i0, hi, hz0, hz1, hz2⟩ := info_parts info_int
  obtain ⟨a, cap, rfl, ha⟩ := hu.form
  have hll : l.length ≤ 1048576 := by unfold costRec at hl; omega
  have CU := Lib.hid hu
  have HA := Lib.hid ha
  clear hu ha
  go_enter Try.func28, Try.ntmps28
  go_wp2
  go_loopw [3, 4] (fun v i wr => ∃ (k : Nat) (z : List Int), k ≤ l.length ∧ i = .int .i64 k ∧ z.length ≤ k ∧ Hid (z = oddL (l.take k)) ∧ wr.ownsRow w.heap.size 3 1 v z.length (intCells z) ∧ Below w.heap.size w wr) (fun _ i _ => l.length - (intOf i).toNat)
  case atStart => exact ⟨0, [], Nat.zero_le _, rfl, Nat.zero_le _, rfl, World.ownsRow_lit w #[] 0 (Nat.le_refl _) (Nat.zero_le _) rfl, (Below.refl _ _).alloc (Nat.le_refl _) _⟩
  case round =>
    obtain ⟨k, z, hk, rfl, hzk, hz, hown, hb⟩ := hrel
    have hsz := hb.size
    by_cases hlt : k < l.length
    · have hln : l ≠ [] := by intro e; subst e; simp at hlt
      obtain rfl := HA.out hln
      have hgl := CU.out.lt hln
      have q0 := (hb.cell (p := ⟨g, o + k * 6, none⟩) hgl).trans (rec_c0 CU.out k hlt)
      have q5 := (hb.cell (p := ⟨g, o + k * 6 + 5, none⟩) hgl).trans (rec_c5 CU.out k hlt)
      by_cases h4 : l[k].kind = 4
      · have hj : Hid (z ++ [l[k].line] = oddL (l.take (k + 1))) := by unfold Hid; rw [oddL_yes l k hlt h4, hz.out]
        have e4 : (l[k].kind == 4) = true := by simp [h4]
        generalize l[k].line = x5 at *
        generalize l[k].kind = x0 at *
        clear h4 hz
        go_wp2_with (at_builtin; refine wpList_append_own _ rfl _ _ 37 rfl w.heap.size 3 i0 (.int .i64 0) 1 8 Try.underlying37 hi hz0 hz1 hz2 rfl (by decide) _ _ _ rfl (hown.alloc _) ⟨wr.heap.size, 0, none⟩ 1 1 [.int .i64 x5] rfl rfl (cell_one_newR _ _ _) (by simp [Value.oneCell']) (by unfold maxLen; omega) (by omega) (by simp; omega) ?_; intro v' w1 hown' hgrow _)
        obtain ⟨ho2, hb2⟩ := own_stepI hb hown hown' hgrow
        clear hown hown' hgrow hb q0 q5
        go_wp2
        go_roundw
        case rel => exact ⟨k + 1, z ++ [x5], by omega, by go_num, by simp; omega, hj, ho2, hb2⟩
        case measure => simp [intOf]; omega
      · have hj : Hid (z = oddL (l.take (k + 1))) := by unfold Hid; rw [oddL_no l k hlt h4, hz.out]
        have e4 : (l[k].kind == 4) = false := by simp [h4]
        generalize l[k].kind = x0 at *
        clear h4 hz
        go_wp2
        go_roundw
        case rel => exact ⟨k + 1, z, by omega, by go_num, by omega, hj, hown, hb⟩
        case measure => simp [intOf]; omega
    · obtain rfl : k = l.length := by omega
      have hz2 : Hid (z = oddL l) := by unfold Hid; have := hz.out; rwa [List.take_length] at this
      obtain ⟨g', hI, hg'⟩ := intsIs_of_owns hown rfl hb.size
      have HI := Lib.hid hI
      clear hz hown hI
      go_wp2
      go_ret
      exact ⟨_, g', rfl, by rw [← hz2.out]; exact HI.out, hg', hb⟩

set_option maxRecDepth 100000 in
set_option maxHeartbeats 3200000 in
theorem oddLines_impl (w : World) (u : Value) (g o : Nat) (l : List RecD) (hu : RowsRd recS w u g o l) (hl : costRec l ≤ 1048576) :
    Calls Try.prog 22 #[u] w (NewInts w (oddL l)) := by
  obtain ⟨i0, hi, hz0, hz1, hz2⟩ := info_parts info_int
  obtain ⟨a, cap, rfl, ha⟩ := hu.form
  have hll : l.length ≤ 1048576 := by unfold costRec at hl; omega
  have CU := Lib.hid hu
  have HA := Lib.hid ha
  clear hu ha
  go_enter Try.func22, Try.ntmps22
  go_wp2
  go_loopw [3, 9] (fun v i wr => ∃ (k : Nat) (z : List Int), k ≤ l.length ∧ i = .int .i64 k ∧ z.length ≤ k ∧ Hid (z = oddL (l.take k)) ∧ wr.ownsRow w.heap.size 3 1 v z.length (intCells z) ∧ Below w.heap.size w wr) (fun _ i _ => l.length - (intOf i).toNat)
  case atStart => exact ⟨0, [], Nat.zero_le _, rfl, Nat.zero_le _, rfl, World.ownsRow_nil w _ _ _, (Below.refl _ _)⟩
  case round =>
    obtain ⟨k, z, hk, rfl, hzk, hz, hown, hb⟩ := hrel
    have hsz := hb.size
    by_cases hlt : k < l.length
    · have hln : l ≠ [] := by intro e; subst e; simp at hlt
      obtain rfl := HA.out hln
      have hgl := CU.out.lt hln
      have q0 := (hb.cell (p := ⟨g, o + k * 6, none⟩) hgl).trans (rec_c0 CU.out k hlt)
      have q1 := (hb.cell (p := ⟨g, o + k * 6 + 1, none⟩) hgl).trans (rec_c1 CU.out k hlt)
      have q2 := (hb.cell (p := ⟨g, o + k * 6 + 2, none⟩) hgl).trans (rec_c2 CU.out k hlt)
      have q3 := (hb.cell (p := ⟨g, o + k * 6 + 3, none⟩) hgl).trans (rec_c3 CU.out k hlt)
      have q4 := (hb.cell (p := ⟨g, o + k * 6 + 4, none⟩) hgl).trans (rec_c4 CU.out k hlt)
      have q5 := (hb.cell (p := ⟨g, o + k * 6 + 5, none⟩) hgl).trans (rec_c5 CU.out k hlt)
      have K := Lib.hid (entry_any l[k])
      by_cases h4 : l[k].kind = 4
      · have hj : Hid (z ++ [l[k].line] = oddL (l.take (k + 1))) := by unfold Hid; rw [oddL_yes l k hlt h4, hz.out]
        have hv : entV l[k] = .iface 74 (.agg #[.string l[k].raw, .int .i64 l[k].line]) := by
          unfold entV
          rw [if_neg (by omega), if_neg (by omega), if_pos h4]
        rw [hv] at K
        generalize l[k] = x at *
        obtain ⟨a0, a1, a2, a3, a4, a5⟩ := x
        unfold recV at K
        simp only at K hj
        clear h4 hz hv
        go_wp2_with fail
        refine (K.out _).mono ?_
        rintro e w2 ⟨rfl, hb2⟩
        have hb3 := (hb.alloc hb.size _).trans (hb2.mono (by simp; omega))
        have hown2 := ownsRow_over (hown.alloc _) hb2
        clear hb2 hown hb K q0 q1 q2 q3 q4 q5
        have hsz2 := hb3.size
        have has := is_odd (.agg #[.string a1, .int .i64 a5])
        have hb4 := hb3.alloc hb3.size (.cells #[.string a1, .int .i64 a5] 74)
        have hown4 := hown2.alloc (.cells #[.string a1, .int .i64 a5] 74)
        go_wp2_with (at_builtin; refine wpList_append_own _ rfl _ _ 37 rfl w.heap.size 3 i0 (.int .i64 0) 1 8 Try.underlying37 hi hz0 hz1 hz2 rfl (by decide) _ _ _ rfl (hown4.alloc _) ⟨w2.heap.size + 1, 0, none⟩ 1 1 [.int .i64 a5] rfl rfl (by have := cell_one_newR (w2.alloc (.cells #[.string a1, .int .i64 a5] 74)) (.int .i64 a5) 3; simpa using this) (by simp [Value.oneCell']) (by unfold maxLen; omega) (by omega) (by simp; omega) ?_; intro v' w3 hown' hgrow _)
        obtain ⟨ho5, hb5⟩ := own_stepI hb4 hown4 hown' hgrow
        clear hown2 hown4 hown' hgrow hb3 hb4
        go_wp2
        go_roundw
        case rel => exact ⟨k + 1, z ++ [a5], by omega, by go_num, by simp; omega, hj, ho5, hb5⟩
        case measure => simp [intOf]; omega
      · have hj : Hid (z = oddL (l.take (k + 1))) := by unfold Hid; rw [oddL_no l k hlt h4, hz.out]
        have has := assert_odd l[k] h4
        generalize entV l[k] = ev at *
        generalize l[k] = x at *
        obtain ⟨a0, a1, a2, a3, a4, a5⟩ := x
        unfold recV at K
        simp only at K
        clear h4 hz
        go_wp2_with fail
        refine (K.out _).mono ?_
        rintro e w2 ⟨rfl, hb2⟩
        have hb3 := (hb.alloc hb.size _).trans (hb2.mono (by simp; omega))
        have hown2 := ownsRow_over (hown.alloc _) hb2
        clear hb2 hown hb K q0 q1 q2 q3 q4 q5
        go_wp2
        go_roundw
        case rel => exact ⟨k + 1, z, by omega, by go_num, by omega, hj, hown2, hb3⟩
        case measure => simp [intOf]; omega
    · obtain rfl : k = l.length := by omega
      have hz2 : Hid (z = oddL l) := by unfold Hid; have := hz.out; rwa [List.take_length] at this
      obtain ⟨g', hI, hg'⟩ := intsIs_of_owns hown rfl hb.size
      have HI := Lib.hid hI
      clear hz hown hI
      go_wp2
      go_ret
      exact ⟨_, g', rfl, by rw [← hz2.out]; exact HI.out, hg', hb⟩

end Go.Proofs.Ytdkghalcnaogfaa
