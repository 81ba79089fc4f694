/- Lists of records kept to their limit: the program's limitRecs, few of them. -/
import Derived.Test.YtkhkpjnpjgnckaaGreatDoorProg
import Derived.Test.YtkhkpjnpjgnckaaGreatDoorPlain
import Derived.Test.YtkhkpjnpjgnckaaGreatDoorRows0
import Derived.Test.YtkhkpjnpjgnckaaGreatDoorRecRows
import Derived.Test.YtkhkpjnpjgnckaaGreatDoorRecArg
import Derived.Test.YtkhkpjnpjgnckaaGreatDoorEnvOne
import Derived.Test.YtkhkpjnpjgnckaaGreatDoorLines
import Derived.Test.YtkhkpjnpjgnckaaGreatDoorSplitSpec
import Derived.Test.YtkhkpjnpjgnckaaGreatDoorSplitImpl
import Derived.Test.YtkhkpjnpjgnckaaGreatDoorJoin
import Derived.Test.YtkhkpjnpjgnckaaGreatDoorRecRaw
import Derived.Test.YtkhkpjnpjgnckaaGreatDoorEnvRecs
import Derived.WalkKit
import Derived.WalkLawsBesides
import Derived.OwnWalk
import Derived.Maps.AppendAt
import Derived.Laws.IdiomStrings
import Derived.Lib.Hide
import Derived.IntWalk
import Derived.Test.YtkhkpjnpjgnckaaGreatDoorEnvSpec
import Derived.BigQuiet
import Derived.Deep.QuietTactic
import Derived.Deep.RegionHeld3
import Derived.Deep.AppendLies
import Derived.Deep.RegionLaw
import Derived.Lib.QuietBelow
import Derived.Outline
set_option maxRecDepth 100000
namespace Go.Proofs.YtkhkpjnpjgnckaaGreatDoor
open Go.RowKit
set_option linter.unusedVariables false

theorem costL_dropP (l : List Ln) (k : Nat) : costL (l.drop k) ≤ costL l := by
  induction l generalizing k with
  | nil => simp
  | cons x l ih =>
    cases k with
    | zero => simp
    | succ k =>
      have := ih k
      simp only [List.drop_succ_cons, costL, List.length_cons, List.map_cons, List.sum_cons] at *
      omega
theorem costL_cutP (l : List Ln) (k n : Nat) : costL ((l.drop k).take n) ≤ costL l := by
  by_cases h : n ≤ (l.drop k).length
  · have h1 := costL_take (l.drop k) n h
    have h2 := costL_dropP l k
    omega
  · rw [List.take_of_length_le (by omega)]
    exact costL_dropP l k
theorem lines_fromP {w : World} {g n cap : Nat} {l : List Ln} (h : LinesRd w (.slice (some ⟨g, 0, none⟩) l.length n) g 0 l) (k c : Nat) (hk : k + c ≤ l.length) : LinesRd w (.slice (some ⟨g, k * 2, none⟩) c cap) g (k * 2) ((l.drop k).take c) := by
  have hl : ((l.drop k).take c).length = c := by rw [List.length_take, List.length_drop]; omega
  refine ⟨⟨some ⟨g, k * 2, none⟩, cap, by rw [hl], fun _ => rfl⟩, fun i hi => ?_, fun i hi => ?_⟩
  · have := h.c0 (k + i) (by omega)
    rw [Nat.zero_add, Nat.add_mul] at this
    rw [this]
    simp
  · have := h.c1 (k + i) (by omega)
    rw [Nat.zero_add, Nat.add_mul] at this
    rw [this]
    simp

theorem info_recP : (Tryz.prog.info? 35).map (fun i => (i.zero, i.size, i.bytes)) = some (some (recV noRec), 6, 80) := by kernel_rfl
/-- what limitRecs does with a list that the call has made -/
def LimOk (m : List RecD) : Prop := ∀ (B : Nat) (W : World) (v : Value), B ≤ W.heap.size → W.ownsRow B 35 6 v m.length (rowCells recS m) → Calls Tryz.prog 35 #[v] W fun e w' => ∃ v' g, e = .returned v' ∧ RowsIs recS w' v' g 0 (limG m) ∧ B ≤ g ∧ Below B W w'
theorem limit_fewP (m : List RecD) (hm : m.length ≤ 200) : LimOk m := by
  intro B W v hB hown
  obtain ⟨g, hr, hg⟩ := rowsIs_of_owns (S := recS) hown rfl hB
  obtain ⟨a, cap, rfl, _⟩ := hr.form
  have HR := Lib.hid hr
  have HL := Lib.hid (limG_few hm)
  have h1 : (m.length : Int) ≤ 200 := by omega
  clear hr hown
  go_enter Tryz.func35, Tryz.ntmps35
  go_wp2
  go_ret
  exact ⟨_, g, rfl, by rw [HL.out]; exact HR.out, hg, Below.refl _ _⟩
theorem kept_setP {w : World} {B e size n : Nat} {v : Value} {xs : List Value} (h : w.ownsRow B e size v n xs) {b j : Nat} (hb : v.ownBlock ≠ some b) (x : Value) : (w.setCell ⟨b, j, none⟩ x).ownsRow B e size v n xs :=
  h.kept (row := some b) ⟨rfl, rfl, rfl, by simp, fun k _ hk => Below.heap_setCell _ _ _ k (fun e => hk (by rw [e]))⟩ (.inr (fun e => hb e))

theorem own_formP {w : World} {base e size n : Nat} {v : Value} {xs : List Value} (h : w.ownsRow base e size v n xs) : ∃ a cap, v = .slice a n cap := by
  rcases h.2 with ⟨rfl, rfl⟩ | ⟨g, cap, cur, rfl, _⟩
  · exact ⟨none, 0, rfl⟩
  · exact ⟨_, cap, rfl⟩
theorem own_ltP {w : World} {base e size n : Nat} {v : Value} {xs : List Value} (h : w.ownsRow base e size v n xs) : ∀ k, v.ownBlock = some k → k < w.heap.size := by
  intro k hk
  rcases h.2 with ⟨rfl, _⟩ | ⟨g, cap, cur, rfl, hb, hg, _⟩
  · cases hk
  · simp only [Value.ownBlock] at hk
    cases hk
    exact (Array.getElem?_eq_some_iff.1 hg).1


end Go.Proofs.YtkhkpjnpjgnckaaGreatDoor

/- A list of records that is longer than its limit: the program's limitRecs. -/
set_option maxRecDepth 100000
namespace Go.Proofs.YtkhkpjnpjgnckaaGreatDoor
open Go.RowKit Go.Sort
set_option linter.unusedVariables false

theorem rawB_take_lenR (l : List RecD) (k : Nat) (h : k ≤ l.length) : (rawB (l.take k)).length ≤ (rawB l).length := by
  have := congrArg List.length (rawB_append (l.take k) (l.drop k))
  rw [List.take_append_drop, List.length_append] at this
  omega
set_option maxHeartbeats 3200000 in
theorem rawOf_implR (w : World) (u : Value) (g o : Nat) (l : List RecD) (hu : RowsRd recS w u g o l) (hl : (rawB l).length + l.length ≤ 1048576) :
    Calls Tryz.prog 58 #[u] w fun e w' => e = .returned (.string ⟨(rawB l).toArray⟩) ∧ Below w.heap.size w w' := by
  obtain ⟨a, cap, rfl, ha⟩ := hu.form
  have hll : l.length ≤ 1048576 := by omega
  have CU := Lib.hid hu
  have HA := Lib.hid ha
  clear hu ha
  have h0 : BuiltF w.heap.size w.heap.size [] (w.alloc (.cells #[.pointer none, .slice none 0 0] 95)) := Lib.IsBuilderF.of (Lib.fresh_isBuilder 95 5 w)
  have H0 := Lib.hid h0
  clear h0
  go_enter Tryz.func58, Tryz.ntmps58
  go_wp2
  go_loopw [8] (fun i wr => ∃ (k : Nat), k ≤ l.length ∧ i = .int .i64 k ∧ Hid (BuiltF w.heap.size w.heap.size (rawB (l.take k)) wr) ∧ w.heap.size < wr.heap.size ∧ Below w.heap.size w wr) (fun i _ => l.length - (intOf i).toNat)
  case atStart => exact ⟨0, Nat.zero_le _, rfl, H0, by simp, (Below.refl _ _).alloc (Nat.le_refl _) _⟩
  case round =>
    obtain ⟨k, hk, rfl, hB, hsz, hb⟩ := hrel
    clear H0
    by_cases hlt : k < l.length
    · have hln : l ≠ [] := by intro e; subst e; simp at hlt
      obtain rfl := HA.out hln
      have hgl := CU.out.lt hln
      have q0 := (hb.cell (p := ⟨g, o + k * 6, none⟩) hgl).trans (rec_c0 CU.out k hlt)
      have q1 := (hb.cell (p := ⟨g, o + k * 6 + 1, none⟩) hgl).trans (rec_c1 CU.out k hlt)
      have q2 := (hb.cell (p := ⟨g, o + k * 6 + 2, none⟩) hgl).trans (rec_c2 CU.out k hlt)
      have q3 := (hb.cell (p := ⟨g, o + k * 6 + 3, none⟩) hgl).trans (rec_c3 CU.out k hlt)
      have q4 := (hb.cell (p := ⟨g, o + k * 6 + 4, none⟩) hgl).trans (rec_c4 CU.out k hlt)
      have q5 := (hb.cell (p := ⟨g, o + k * 6 + 5, none⟩) hgl).trans (rec_c5 CU.out k hlt)
      have hj := Lib.hid (rawB_take_succ l k hlt)
      have hjl := rawB_take_lenR l (k + 1) (by omega)
      rw [hj.out] at hjl
      simp only [List.length_append, ← Lib.size_eq] at hjl
      generalize l[k] = x at *
      obtain ⟨a0, a1, a2, a3, a4, a5⟩ := x
      simp only at hjl
      have HJL := Lib.hid hjl
      clear hjl
      generalize rawB (l.take k) = z at *
      go_wp2_with fail
      have hB1 : BuiltF w.heap.size w.heap.size z (wr.alloc (.cells #[.int .i64 a0, .string a1, .string a2, .string a3, .string a4, .int .i64 a5] 35)) := hB.out.alloc _
      refine (built_write w.heap.size w.heap.size z a1 _ hB1 (by have := HJL.out; omega) (by simp; omega)).mono ?_
      rintro e w1 ⟨rfl, hB2, hb2, hk2⟩
      have hs1 : w.heap.size < w1.heap.size := by have := hb2.size; simp at this; omega
      have hb3 := (hb.alloc (by omega) _).trans hb2
      have HB2 : Hid (BuiltF w.heap.size w.heap.size (rawB (l.take (k + 1))) w1) := by unfold Hid; rw [hj.out]; exact hB2
      clear hB hB1 hk2 hb2 hb hB2 hj HJL
      go_wp2
      go_roundw
      case rel => exact ⟨k + 1, by omega, by go_num, HB2, hs1, hb3⟩
      case measure => simp [intOf]; omega
    · obtain rfl : k = l.length := by omega
      rw [List.take_length] at hB
      go_wp2_with fail
      refine (built_string w.heap.size w.heap.size (rawB l) _ hB.out (by omega)).mono ?_
      rintro e w2 ⟨rfl, _, hb4, _⟩
      have hb5 := hb.trans hb4
      clear hB hb4
      go_wp2
      go_ret
      exact ⟨rfl, hb5⟩


theorem rowCells_take {α : Type} (S : Shape α) (l : List α) (k : Nat) (h : k ≤ l.length) : rowCells S (l.take k) = (rowCells S l).take (k * S.n) := by
  have h1 := rowCells_append S (l.take k) (l.drop k)
  rw [List.take_append_drop] at h1
  rw [h1]
  have h2 := rowCells_length S (l.take k)
  rw [List.length_take, Nat.min_eq_left h] at h2
  rw [← h2, List.take_left]
theorem own_takeL {w : World} {B g cap : Nat} {m : List RecD} (h : w.ownsRow B 35 6 (.slice (some ⟨g, 0, none⟩) m.length cap) m.length (rowCells recS m)) (k : Nat) (hk : k ≤ m.length) :
    w.ownsRow B 35 6 (.slice (some ⟨g, 0, none⟩) k cap) k (rowCells recS (m.take k)) := by
  have hr := rowCells_take recS m k hk
  rw [rec_n] at hr
  refine ⟨?_, .inr ?_⟩
  · rw [rowCells_length, List.length_take, Nat.min_eq_left hk, rec_n]
  rcases h.2 with ⟨hv, h0⟩ | ⟨g2, cap2, cur, hv, hb, hg, hnc, hcm, hcs, htake⟩
  · cases hv
  · injection hv with e1 e2 e3
    injection e1 with e4
    injection e4 with e5
    subst e5
    subst e3
    refine ⟨g, cap, cur, rfl, hb, hg, by omega, hcm, hcs, ?_⟩
    rw [hr, ← htake, List.take_take, Nat.min_eq_left (Nat.mul_le_mul_right 6 hk)]
theorem own_capL {w : World} {B g n cap : Nat} {e size : Nat} {xs : List Value} (h : w.ownsRow B e size (.slice (some ⟨g, 0, none⟩) n cap) n xs) : n ≤ cap ∧ B ≤ g := by
  rcases h.2 with ⟨hv, h0⟩ | ⟨g2, cap2, cur, hv, hb, hg, hnc, hcm, hcs, htake⟩
  · cases hv
  · injection hv with e1 e2 e3
    injection e1 with e4
    injection e4 with e5
    subst e5
    subst e3
    exact ⟨hnc, hb⟩
theorem own_atL {w : World} {B g cap : Nat} {m : List RecD} (h : w.ownsRow B 35 6 (.slice (some ⟨g, 0, none⟩) m.length cap) m.length (rowCells recS m)) (hne : m ≠ []) (hB : B ≤ w.heap.size) : RowsIs recS w (.slice (some ⟨g, 0, none⟩) m.length cap) g 0 m := by
  obtain ⟨gr, hr, _⟩ := rowsIs_of_owns (S := recS) h rfl hB
  obtain ⟨a, c2, hv, ha⟩ := hr.form
  have := ha hne
  subst this
  injection hv with e1
  injection e1 with e2
  injection e2 with e3
  subst e3
  exact hr
theorem rows_dropL {w : World} {g cap : Nat} {m : List RecD} (h : RowsRd recS w (.slice (some ⟨g, 0, none⟩) m.length cap) g 0 m) (k c2 : Nat) : RowsRd recS w (.slice (some ⟨g, k * 6, none⟩) (m.length - k) c2) g (k * 6) (m.drop k) := by
  refine ⟨⟨_, _, by rw [List.length_drop], fun _ => rfl⟩, fun i hi j u hu => ?_⟩
  have hi2 : k + i < m.length := by rw [List.length_drop] at hi; omega
  have := h.cell (k + i) hi2 j u (by rw [List.getElem_drop] at hu; exact hu)
  rw [rec_n] at this ⊢
  rw [show k * 6 + i * 6 + j = 0 + (k + i) * 6 + j by omega]
  exact this

set_option maxHeartbeats 6400000 in
theorem limit_manyP (m : List RecD) (hm : 200 < m.length) (hc : (rawB m).length + m.length ≤ 1048576) : LimOk m := by
  intro B W v hB hown
  obtain ⟨i0, hi, hz0, hz1, hz2⟩ := info_parts info_recP
  obtain ⟨g, cap, rfl, hBg, hgl⟩ := hown.form (by omega)
  have hcap := (own_capL hown).1
  have hne : m ≠ [] := by intro e; subst e; simp at hm
  have HR := own_atL hown hne hB
  have HT := Lib.hid (own_takeL hown 199 (by omega))
  have c2 : W.cell? ⟨g, 1190, none⟩ = some (.string (m[198]'(by omega)).sect) := by have := rec_c2 HR.toRowsRd 198 (by omega); simpa using this
  have c5 : W.cell? ⟨g, 1199, none⟩ = some (.int .i64 (m[199]'(by omega)).line) := by have := rec_c5 HR.toRowsRd 199 (by omega); simpa using this
  have hrl : (rawB (m.drop 199)).length + (m.drop 199).length ≤ 1048576 := by
    have h1 := congrArg List.length (rawB_append (m.take 199) (m.drop 199))
    rw [List.take_append_drop, List.length_append] at h1
    rw [List.length_drop]
    omega
  have HD : Hid (RowsRd recS W (.slice (some ⟨g, 1194, none⟩) (m.length - 199) (cap - 199)) g 1194 (m.drop 199)) := rows_dropL HR.toRowsRd 199 (cap - 199)
  have hdne : m.drop 199 ≠ [] := by intro e; have := congrArg List.length e; simp at this; omega
  have HL := Lib.hid (limG_many hm)
  rw [show (m.getD 198 noRec) = m[198]'(by omega) by rw [List.getD, List.getElem?_eq_getElem (by omega)]; rfl, show (m.getD 199 noRec) = m[199]'(by omega) by rw [List.getD, List.getElem?_eq_getElem (by omega)]; rfl] at HL
  have K0 := Lib.hid (fun W1 (hu : RowsRd recS W1 (.slice (some ⟨g, 1194, none⟩) (m.length - 199) (cap - 199)) g 1194 (m.drop 199)) => rawOf_implR W1 _ g 1194 (m.drop 199) hu hrl)
  have HTL : Hid ((m.take 199).length = 199) := by unfold Hid; rw [List.length_take]; omega
  generalize hraw : (⟨(rawB (m.drop 199)).toArray⟩ : ByteArray) = raw at *
  generalize (m[198]'(by omega)).sect = sc at *
  generalize (m[199]'(by omega)).line = ln at *
  generalize m.drop 199 = md at *
  have h1 : ¬ (m.length : Int) ≤ 200 := by omega
  have h2 : (199 : Int) ≤ (m.length : Int) := by omega
  have h3 : 199 ≤ m.length := by omega
  have h4 : 199 < m.length := by omega
  have h5 : 198 < m.length := by omega
  have h6 : ¬ cap = 199 := by omega
  have h7 : 199 ≤ cap := by omega
  have h8 : ¬ m.length ≤ 200 := by omega
  have h9 : m.length ≤ cap := hcap
  have h10 : (198 : Int) < (m.length : Int) := by omega
  have h11 : (199 : Int) < (m.length : Int) := by omega
  have h12 : (199 : Int) ≤ (cap : Int) := by omega
  have h13 : ¬ m.length ≤ 198 := by omega
  have h14 : ¬ m.length ≤ 199 := by omega
  have hw : IntKind.i64.wrap 198 = 198 := IntWalk.i64_in _ (by omega)
  clear hown hraw HR hrl hdne
  have hbd : Below W.heap.size W W.drew := (Below.refl _ _).drew
  have hba : Below W.heap.size W (W.alloc (.cells #[.int .i64 0, .string ⟨#[]⟩, .string ⟨#[]⟩, .string ⟨#[]⟩, .string ⟨#[]⟩, .int .i64 0] 35)) := (Below.refl _ _).alloc (Nat.le_refl _) _
  have hsa : W.heap.size < (W.alloc (.cells #[.int .i64 0, .string ⟨#[]⟩, .string ⟨#[]⟩, .string ⟨#[]⟩, .string ⟨#[]⟩, .int .i64 0] 35)).heap.size := by simp
  have HRA := Lib.hid (recAt_new W ⟨0, ⟨#[]⟩, ⟨#[]⟩, ⟨#[]⟩, ⟨#[]⟩, 0⟩)
  simp only at HRA
  have KB : Hid (Calls Tryz.prog 58 #[.slice (some ⟨g, 1194, none⟩) (m.length - 199) (cap - 199)] W.drew fun e w' => e = .returned (.string raw) ∧ Below W.heap.size W w') := by
    refine (K0.out W.drew (HD.out.below hbd (fun _ => hgl))).mono ?_
    rintro e w' ⟨he, hb'⟩
    exact ⟨he, hbd.trans hb'⟩
  have KA : Hid (Calls Tryz.prog 58 #[.slice (some ⟨g, 1194, none⟩) (m.length - 199) (cap - 199)] (W.alloc (.cells #[.int .i64 0, .string ⟨#[]⟩, .string ⟨#[]⟩, .string ⟨#[]⟩, .string ⟨#[]⟩, .int .i64 0] 35)).drew fun e w' => e = .returned (.string raw) ∧ Below (W.alloc (.cells #[.int .i64 0, .string ⟨#[]⟩, .string ⟨#[]⟩, .string ⟨#[]⟩, .string ⟨#[]⟩, .int .i64 0] 35)).heap.size (W.alloc (.cells #[.int .i64 0, .string ⟨#[]⟩, .string ⟨#[]⟩, .string ⟨#[]⟩, .string ⟨#[]⟩, .int .i64 0] 35)) w') := by
    have hbd2 : Below (W.alloc (.cells #[.int .i64 0, .string ⟨#[]⟩, .string ⟨#[]⟩, .string ⟨#[]⟩, .string ⟨#[]⟩, .int .i64 0] 35)).heap.size (W.alloc (.cells #[.int .i64 0, .string ⟨#[]⟩, .string ⟨#[]⟩, .string ⟨#[]⟩, .string ⟨#[]⟩, .int .i64 0] 35)) (W.alloc (.cells #[.int .i64 0, .string ⟨#[]⟩, .string ⟨#[]⟩, .string ⟨#[]⟩, .string ⟨#[]⟩, .int .i64 0] 35)).drew := (Below.refl _ _).drew
    refine (K0.out (W.alloc (.cells #[.int .i64 0, .string ⟨#[]⟩, .string ⟨#[]⟩, .string ⟨#[]⟩, .string ⟨#[]⟩, .int .i64 0] 35)).drew ((HD.out.below hba (fun _ => hgl)).below hbd2 (fun _ => by omega))).mono ?_
    rintro e w' ⟨he, hb'⟩
    exact ⟨he, hbd2.trans hb'⟩
  clear K0
  have hgn : g ≠ W.heap.size := by omega
  have hgn2 : W.heap.size ≠ g := by omega
  go_enter Tryz.func35, Tryz.ntmps35
  go_wp2_with fail
  go_region_held3 (fun w' => w'.cell? ⟨g, 1190, none⟩ = some (.string sc) ∧ w'.cell? ⟨g, 1199, none⟩ = some (.int .i64 ln))
    (first | go_keep | exact ⟨m0, m1⟩)
    (first
      | ((with_reducible refine KB.out.mono ?_); rintro e w4 ⟨rfl, hb4⟩; have m0 := (hb4.cell (p := ⟨g, 1190, none⟩) hgl).trans c2; have m1 := (hb4.cell (p := ⟨g, 1199, none⟩) hgl).trans c5)
      | ((with_reducible refine KA.out.mono ?_); rintro e w4 ⟨rfl, hb4⟩; have hbx := hba.trans (hb4.mono (Nat.le_of_lt hsa)); have m0 := (hbx.cell (p := ⟨g, 1190, none⟩) hgl).trans c2; have m1 := (hbx.cell (p := ⟨g, 1199, none⟩) hgl).trans c5; have hr4 := HRA.out.over hb4 hsa; have f0 := hr4.free 0; have f1 := hr4.free 1; have f2 := hr4.free 2; have f3 := hr4.free 3; have f4 := hr4.free 4; have f5 := hr4.free 5; obtain ⟨u0, u1, u2, u3, u4, u5⟩ := hr4.cells; simp only at u0 u1 u2 u3 u4 u5; have HR4 := Lib.hid hr4; clear hr4))
  · have hB5 := hb4.alloc hb4.size (.cells #[.int .i64 4, .string raw, .string sc, .string ⟨#[]⟩, .string ⟨#[]⟩, .int .i64 ln] 35)
    have HR5 := Lib.hid (recAt_new w4 ⟨4, raw, sc, ⟨#[]⟩, ⟨#[]⟩, ln⟩)
    simp only at HR5
    clear KA KB HRA hba hbd hsa m0 m1
    generalize w4.alloc (.cells #[.int .i64 4, .string raw, .string sc, .string ⟨#[]⟩, .string ⟨#[]⟩, .int .i64 ln] 35) = w5 at *
    have hT5 := Lib.hid (own_belowA HT.out hB5)
    have hb5 := hB5.mono hB
    have hB6 : B ≤ w5.heap.size := Nat.le_trans hB hB5.size
    obtain ⟨z0, z1, z2, z3, z4, z5⟩ := HR5.out.cells
    simp only at z0 z1 z2 z3 z4 z5
    go_wp2_with fail
    go_region_law ((refine step_append_lies _ (by rfl) _ _ _ (by rfl) B 35 i0 (recV noRec) 6 80 Tryz.underlying32 hi hz0 hz1 hz2 rfl (by omega) _ _ _ (by rfl) ((hT5.out.alloc _).drew) ⟨w5.heap.size, 0, none⟩ 1 1 [.int .i64 4, .string raw, .string sc, .string ⟨#[]⟩, .string ⟨#[]⟩, .int .i64 ln] (by rfl) (by rfl) (World.news_of_block (cs := #[.int .i64 4, .string raw, .string sc, .string ⟨#[]⟩, .string ⟨#[]⟩, .int .i64 ln]) (t := 35) (fr := (0, 0)) (heap_alloc_new w5 _)) (by simp [Value.oneCell']) (by omega) (by unfold maxLen; omega) (by omega) (by simp; omega) (w5.heap.size + 1) (by simp) ?_; intro gg cp w6 hown6 hgrow hat hlt6; have hbw6 : Below B w5 w6 := Below.grown ((Below.refl B w5).alloc (by omega) (.cells #[.int .i64 4, .string raw, .string sc, .string ⟨#[]⟩, .string ⟨#[]⟩, .int .i64 ln] 35)) ⟨hgrow.os, hgrow.tape, hgrow.output, hgrow.size, hgrow.block⟩ (by simp; omega) (fun i hi => by simp only [Value.ownBlock, Option.some.injEq] at hi; omega); have HO6 := Lib.hid hown6; clear hown6 hgrow))
    all_goals
      have hl200 : (limG m).length = 200 := by rw [HL.out, List.length_append, HTL.out]; rfl
      have hrw : w6.ownsRow B 35 6 (.slice (some ⟨gg, 0, none⟩) (limG m).length cp) (limG m).length (rowCells recS (limG m)) := by
        rw [hl200, HL.out, rowCells_append, rowCells_single]
        exact HO6.out
      have hr6 := own_atL hrw (by intro e; rw [e] at hl200; simp at hl200) (Nat.le_trans hB6 hbw6.size)
      rw [hl200] at hr6
      have hgg := (own_capL hrw).2
      have HR6 := Lib.hid hr6
      have hb6 := hb5.trans hbw6
      clear hr6 hrw hl200 hbw6 HO6
      go_wp2
      go_ret
      exact ⟨_, gg, rfl, HR6.out, hgg, hb6⟩
  · have hB5 := below_put (hba.trans (hb4.mono (Nat.le_of_lt hsa))) (Nat.le_refl W.heap.size) ⟨4, raw, sc, ⟨#[]⟩, ⟨#[]⟩, ln⟩
    have HR5 := Lib.hid (HR4.out.put ⟨4, raw, sc, ⟨#[]⟩, ⟨#[]⟩, ln⟩)
    simp only at hB5 HR5
    clear KA KB HRA hba hbd hsa m0 m1 f0 f1 f2 f3 f4 f5 u0 u1 u2 u3 u4 u5 HR4 hbx
    generalize ((((((w4.setCell ⟨W.heap.size, 0, none⟩ (.int .i64 4)).setCell ⟨W.heap.size, 1, none⟩ (.string raw)).setCell ⟨W.heap.size, 2, none⟩ (.string sc)).setCell ⟨W.heap.size, 3, none⟩ (.string ⟨#[]⟩)).setCell ⟨W.heap.size, 4, none⟩ (.string ⟨#[]⟩)).setCell ⟨W.heap.size, 5, none⟩ (.int .i64 ln)) = w5 at *
    have hT5 := Lib.hid (own_belowA HT.out hB5)
    have hb5 := hB5.mono hB
    have hB6 : B ≤ w5.heap.size := Nat.le_trans hB hB5.size
    obtain ⟨z0, z1, z2, z3, z4, z5⟩ := HR5.out.cells
    simp only at z0 z1 z2 z3 z4 z5
    go_wp2_with fail
    go_region_law ((refine step_append_lies _ (by rfl) _ _ _ (by rfl) B 35 i0 (recV noRec) 6 80 Tryz.underlying32 hi hz0 hz1 hz2 rfl (by omega) _ _ _ (by rfl) ((hT5.out.alloc _).drew) ⟨w5.heap.size, 0, none⟩ 1 1 [.int .i64 4, .string raw, .string sc, .string ⟨#[]⟩, .string ⟨#[]⟩, .int .i64 ln] (by rfl) (by rfl) (World.news_of_block (cs := #[.int .i64 4, .string raw, .string sc, .string ⟨#[]⟩, .string ⟨#[]⟩, .int .i64 ln]) (t := 35) (fr := (0, 0)) (heap_alloc_new w5 _)) (by simp [Value.oneCell']) (by omega) (by unfold maxLen; omega) (by omega) (by simp; omega) (w5.heap.size + 1) (by simp) ?_; intro gg cp w6 hown6 hgrow hat hlt6; have hbw6 : Below B w5 w6 := Below.grown ((Below.refl B w5).alloc (by omega) (.cells #[.int .i64 4, .string raw, .string sc, .string ⟨#[]⟩, .string ⟨#[]⟩, .int .i64 ln] 35)) ⟨hgrow.os, hgrow.tape, hgrow.output, hgrow.size, hgrow.block⟩ (by simp; omega) (fun i hi => by simp only [Value.ownBlock, Option.some.injEq] at hi; omega); have HO6 := Lib.hid hown6; clear hown6 hgrow))
    all_goals
      have hl200 : (limG m).length = 200 := by rw [HL.out, List.length_append, HTL.out]; rfl
      have hrw : w6.ownsRow B 35 6 (.slice (some ⟨gg, 0, none⟩) (limG m).length cp) (limG m).length (rowCells recS (limG m)) := by
        rw [hl200, HL.out, rowCells_append, rowCells_single]
        exact HO6.out
      have hr6 := own_atL hrw (by intro e; rw [e] at hl200; simp at hl200) (Nat.le_trans hB6 hbw6.size)
      rw [hl200] at hr6
      have hgg := (own_capL hrw).2
      have HR6 := Lib.hid hr6
      have hb6 := hb5.trans hbw6
      clear hr6 hrw hl200 hbw6 HO6
      go_wp2
      go_ret
      exact ⟨_, gg, rfl, HR6.out, hgg, hb6⟩

end Go.Proofs.YtkhkpjnpjgnckaaGreatDoor
