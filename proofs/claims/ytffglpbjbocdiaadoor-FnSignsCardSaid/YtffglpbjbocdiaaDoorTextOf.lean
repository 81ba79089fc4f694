/- Signs put together to a text: the contracts of TextOf, the model's and the program's. -/
import Derived.Test.YtffglpbjbocdiaaDoorProg
import Derived.Test.YtffglpbjbocdiaaDoorPlain
import Derived.Test.YtffglpbjbocdiaaDoorRunePure
import Derived.Test.YtffglpbjbocdiaaDoorRuneText
import Derived.Test.YtffglpbjbocdiaaDoorInts
import Derived.Test.YtffglpbjbocdiaaDoorBuild
import Derived.WalkKit
import Derived.WalkLawsBesides
import Derived.OwnWalk
import Derived.Lib.AppendStr
import Derived.Laws.IdiomStrings
import Derived.Lib.Hide
import Derived.IntWalk
namespace Go.Proofs.YtffglpbjbocdiaaDoor
open Go.RowKit
set_option linter.unusedVariables false

/-- what signs are put together to -/
def textB (l : List Int) : List UInt8 := l.flatMap signT
def allSgn (l : List Int) : Bool := l.all sgn
/-- what TextOf tells -/
def textOfB (l : List Int) : List UInt8 := if allSgn l then textB l else []
theorem signT_len (r : Int) : (signT r).length ≤ 4 := by
  unfold signT
  split
  · exact (signB_pos _).2
  · exact Nat.zero_le _
theorem textB_len (l : List Int) : (textB l).length ≤ 4 * l.length := by
  induction l with
  | nil => exact Nat.le_refl _
  | cons x l ih =>
    have h1 := signT_len x
    have h2 : (textB l).length ≤ 4 * l.length := ih
    have e : textB (x :: l) = signT x ++ textB l := by simp [textB]
    rw [e, List.length_append, List.length_cons]
    omega
theorem textB_take_succ (l : List Int) (k : Nat) (h : k < l.length) : textB (l.take (k + 1)) = textB (l.take k) ++ signT l[k] := by
  rw [List.take_succ_eq_append_getElem h]
  unfold textB
  rw [List.flatMap_append, List.flatMap_cons, List.flatMap_nil, List.append_nil]
theorem allSgn_take_succ (l : List Int) (k : Nat) (h : k < l.length) (h1 : allSgn (l.take k) = true) (h2 : sgn l[k] = true) : allSgn (l.take (k + 1)) = true := by
  rw [List.take_succ_eq_append_getElem h]
  unfold allSgn at *
  rw [List.all_append, h1, List.all_cons, h2]
  rfl
theorem allSgn_bad (l : List Int) (k : Nat) (h : k < l.length) (h2 : sgn l[k] = false) : allSgn l = false := by
  unfold allSgn
  rw [← Bool.not_eq_true, List.all_eq_true]
  intro hh
  rw [hh l[k] (List.getElem_mem h)] at h2
  cases h2
theorem toList_size (l : List UInt8) : (⟨l.toArray⟩ : ByteArray).size = l.length := by rw [Lib.size_eq]

theorem own_blockI {w : World} {base e size n : Nat} {v : Value} {xs : List Value} (h : w.ownsRow base e size v n xs) : ∀ k, v.ownBlock = some k → base ≤ k := by
  intro k hk
  rcases h.2 with ⟨hv, _⟩ | ⟨g, cap, cur, hv, hb, _⟩
  · subst hv; cases hk
  · subst hv
    simp [Value.ownBlock] at hk
    omega
/-- a row of the call's own, over what happens above -/
theorem own_below {w w' : World} {base e size n : Nat} {v : Value} {xs : List Value} (h : w.ownsRow base e size v n xs) (hb : Below w.heap.size w w') : w'.ownsRow base e size v n xs := by
  refine h.kept (row := none) ⟨hb.os, hb.tape, hb.output, hb.size, fun k hk _ => hb.block k hk⟩ ?_
  cases v.ownBlock with
  | none => exact .inl rfl
  | some _ => exact .inr (by simp)

/-- a slice of bytes of the call's own, as a text -/
theorem text_of_ownI (w : World) (base n : Nat) (v : Value) (l : List UInt8) (h : w.ownsRow base 5 1 v n (Lib.byteCells l)) (hn : n = l.length) :
    (convert 22 9 v).run Tryd.prog w = .ok (.string ⟨l.toArray⟩) w := by
  subst hn
  rcases h.2 with ⟨hv, h0⟩ | ⟨g, cap, cur, hv, hb, hg, hnc, hcm, hcs, htake⟩
  · have hl : l = [] := List.eq_nil_of_length_eq_zero h0
    subst hl
    subst hv
    rw [run_convert_bytes_string w 22 9 5 none 0 0 Tryd.underlying22 Tryd.underlying5 Tryd.underlying9]
    rfl
  · subst hv
    refine run_convert_bytes_back w 22 9 5 ⟨g, 0, none⟩ cap l Tryd.underlying22 Tryd.underlying5 Tryd.underlying9 (fun j hj => ?_)
    refine World.ownsRow.cells h (g := g) rfl j _ ?_
    simp [Lib.byteCells, hj]

/-- what TextOf answers -/
def textRes (l : List Int) : Value := .tuple #[.string ⟨(textOfB l).toArray⟩, .bool (allSgn l)]
theorem textRes_bad {l : List Int} (h : allSgn l = false) : textRes l = .tuple #[.string ⟨#[]⟩, .bool false] := by
  unfold textRes textOfB
  rw [h]
  rfl
theorem textRes_good {l : List Int} (h : allSgn l = true) : textRes l = .tuple #[.string ⟨(textB l).toArray⟩, .bool true] := by
  unfold textRes textOfB
  rw [h]
  rfl

set_option maxRecDepth 100000 in
set_option maxHeartbeats 1600000 in
theorem textOf_spec (w : World) (u : Value) (g o : Nat) (l : List Int) (hu : IntsRd w u g o l) (hl : l.length ≤ 1048576) :
    Calls Tryd.prog 12 #[u] w fun e w' => e = .returned (textRes l) ∧ Below w.heap.size w w' := by
  obtain ⟨i0, hi, hz0, hz1, hz2⟩ := info_parts info_byteB
  obtain ⟨a, cap, rfl, ha⟩ := hu.form
  have CU := Lib.hid hu
  have HA := Lib.hid ha
  clear hu ha
  go_enter Tryd.func12, Tryd.ntmps12
  go_wp2
  go_loopw [4, 5] (fun v i wr => ∃ (k n : Nat), k ≤ l.length ∧ i = .int .i64 k ∧ n ≤ 4194304 ∧ Hid (n = (textB (l.take k)).length) ∧ Hid (allSgn (l.take k) = true) ∧ wr.ownsRow w.heap.size 5 1 v n (Lib.byteCells (textB (l.take k))) ∧ Below w.heap.size w wr) (fun _ i _ => l.length - (intOf i).toNat)
  case atStart => exact ⟨0, 0, Nat.zero_le _, rfl, Nat.zero_le _, rfl, rfl, World.ownsRow_lit w #[] 0 (Nat.le_refl _) (Nat.zero_le _) rfl, (Below.refl _ _).alloc (Nat.le_refl _) _⟩
  case round =>
    obtain ⟨k, n, hk, rfl, hn, hnl, hal, hown, hb⟩ := hrel
    by_cases hlt : k < l.length
    · have hln : l ≠ [] := by intro e; subst e; simp at hlt
      obtain rfl := HA.out hln
      have q1 := (hb.cell (p := ⟨g, o + k, none⟩) (CU.out.lt hln)).trans (CU.out.cell k hlt)
      have hj := Lib.hid (textB_take_succ l k hlt)
      have hal2 := fun h => Lib.hid (allSgn_take_succ l k hlt hal.out h)
      have hbad := fun h => Lib.hid (textRes_bad (allSgn_bad l k hlt h))
      generalize l[k] = x at *
      cases hs : sgn x
      · have HS := Lib.hid hs
        have h3 := hbad hs
        clear hs hbad hal2 hj hown hal hnl
        go_wp2_with fail
        refine (sign_spec x _).mono ?_
        rintro e w' ⟨rfl, rfl⟩
        rw [HS.out]
        go_wp2
        go_ret2
        exact ⟨by rw [h3.out]; rfl, hb⟩
      · have HS := Lib.hid hs
        have h3 := hal2 hs
        have hx4 := signT_len x
        clear hs hbad hal2 hal
        go_wp2_with fail
        refine (sign_spec x _).mono ?_
        rintro e w' ⟨rfl, rfl⟩
        rw [HS.out]
        go_wp2_with fail
        refine (signText_spec x _).mono ?_
        rintro e w2 ⟨rfl, hb2⟩
        have hown2 := own_below hown hb2
        have hb3 := hb.trans (hb2.mono hb.size)
        have hsz := toList_size (signT x)
        have hlen : (textB (l.take (k + 1))).length ≤ 4 * (k + 1) := by
          have := textB_len (l.take (k + 1))
          rw [List.length_take] at this
          omega
        have hn2 : n + (signT x).length = (textB (l.take (k + 1))).length := by rw [hj.out, List.length_append, hnl.out]
        have hn3 : n + (signT x).length ≤ 4194304 := by omega
        have HN2 := Lib.hid hn2
        have HSZ := Lib.hid hsz
        have HX4 := Lib.hid hx4
        have HN3 := Lib.hid hn3
        clear hown hb2 hb hlen hn2 hsz hx4 hn3 q1
        generalize signT x = t at *
        go_wp2_with (at_builtin; refine Lib.wpList_append_own_string _ rfl _ _ 22 9 rfl w.heap.size 5 i0 Tryd.underlying22 Tryd.underlying9 hi hz0 hz1 hz2 _ _ _ rfl hown2 _ rfl (by rw [HSZ.out]; have := HN3.out; unfold maxLen; omega) (by rw [HSZ.out]; have := HN3.out; omega) hb3.size ?_; intro v2 w3 hown3 hgrow _)
        have hb4 : Below w.heap.size w w3 := hb3.grown hgrow hb3.size (own_blockI hown2)
        have hown4 : w3.ownsRow w.heap.size 5 1 v2 (n + t.length) (Lib.byteCells (textB (l.take (k + 1)))) := by
          rw [hj.out]
          rw [strCells_eq, HSZ.out] at hown3
          simpa [Lib.byteCells] using hown3
        have hn5 := HN3.out
        clear hown2 hown3 hgrow hb3 hj HSZ HN3 HX4
        go_wp2
        go_roundw
        case rel => exact ⟨k + 1, n + t.length, by omega, by go_num, hn5, HN2, h3, hown4, hb4⟩
        case measure => simp [intOf]; omega
    · obtain rfl : k = l.length := by omega
      rw [List.take_length] at hown hnl hal
      have hcv := text_of_ownI wr w.heap.size n _ (textB l) hown hnl.out
      have h3 := Lib.hid (textRes_good hal.out)
      clear hown hnl hal
      go_wp2
      go_ret2
      exact ⟨by rw [h3.out]; rfl, hb⟩

set_option maxRecDepth 100000 in
set_option maxHeartbeats 1600000 in
theorem textOf_impl (w : World) (u : Value) (g o : Nat) (l : List Int) (hu : IntsRd w u g o l) (hl : l.length ≤ 1048576) :
    Calls Tryd.prog 11 #[u] w fun e w' => e = .returned (textRes l) ∧ Below w.heap.size w w' := by
  obtain ⟨a, cap, rfl, ha⟩ := hu.form
  have CU := Lib.hid hu
  have HA := Lib.hid ha
  clear hu ha
  have h0 : BuiltF w.heap.size w.heap.size [] (w.alloc (.cells #[.pointer none, .slice none 0 0] 46)) := Lib.IsBuilderF.of (Lib.fresh_isBuilder 46 5 w)
  have H0 := Lib.hid h0
  clear h0
  go_enter Tryd.func11, Tryd.ntmps11
  go_wp2
  go_loopw [9] (fun i wr => ∃ (k : Nat), k ≤ l.length ∧ i = .int .i64 k ∧ Hid (allSgn (l.take k) = true) ∧ Hid (BuiltF w.heap.size w.heap.size (textB (l.take k)) wr) ∧ w.heap.size < wr.heap.size ∧ Below w.heap.size w wr) (fun i _ => l.length - (intOf i).toNat)
  case atStart => exact ⟨0, Nat.zero_le _, rfl, rfl, H0, by simp, (Below.refl _ _).alloc (Nat.le_refl _) _⟩
  case round =>
    obtain ⟨k, hk, rfl, hal, hB, hsz, hb⟩ := hrel
    clear H0
    by_cases hlt : k < l.length
    · have hln : l ≠ [] := by intro e; subst e; simp at hlt
      obtain rfl := HA.out hln
      have q1 := (hb.cell (p := ⟨g, o + k, none⟩) (CU.out.lt hln)).trans (CU.out.cell k hlt)
      have hj := Lib.hid (textB_take_succ l k hlt)
      have hal2 := fun h => Lib.hid (allSgn_take_succ l k hlt hal.out h)
      have hbad := fun h => Lib.hid (textRes_bad (allSgn_bad l k hlt h))
      generalize l[k] = x at *
      cases hs : sgn x
      · have HS := Lib.hid hs
        have h3 := hbad hs
        clear hs hbad hal2 hj hal hB
        go_wp2_with fail
        refine (sign_impl x _).mono ?_
        rintro e w' ⟨rfl, rfl⟩
        rw [HS.out]
        go_wp2
        go_ret2
        exact ⟨by rw [h3.out]; rfl, hb⟩
      · have HS := Lib.hid hs
        have h3 := hal2 hs
        have hlen : Hid ((textB (l.take k)).length + (⟨(signT x).toArray⟩ : ByteArray).size ≤ 140737488355328) := by
          unfold Hid
          rw [toList_size]
          have h1 := textB_len (l.take k)
          have h2 := signT_len x
          rw [List.length_take] at h1
          omega
        clear hs hbad hal2 hal
        go_wp2_with fail
        refine (sign_impl x _).mono ?_
        rintro e w' ⟨rfl, rfl⟩
        rw [HS.out]
        go_wp2_with fail
        refine (signText_impl x _).mono ?_
        rintro e w2 ⟨rfl, rfl⟩
        generalize signT x = t at *
        go_wp2_with fail
        refine (built_write w.heap.size w.heap.size (textB (l.take k)) ⟨t.toArray⟩ _ hB.out hlen.out (by omega)).mono ?_
        rintro e w3 ⟨rfl, hB2, hb2, hk2⟩
        have hs1 : w.heap.size < w3.heap.size := by have := hb2.size; omega
        have hb3 := hb.trans hb2
        have HB2 : Hid (BuiltF w.heap.size w.heap.size (textB (l.take (k + 1))) w3) := by unfold Hid; rw [hj.out]; exact hB2
        clear hB hB2 hk2 hb2 hb hj hlen
        go_wp2
        go_roundw
        case rel => exact ⟨k + 1, by omega, by go_num, h3, HB2, hs1, hb3⟩
        case measure => simp [intOf]; omega
    · obtain rfl : k = l.length := by omega
      rw [List.take_length] at hB hal
      have h3 := Lib.hid (textRes_good hal.out)
      clear hal
      go_wp2_with fail
      refine (built_string w.heap.size w.heap.size (textB l) _ hB.out (by omega)).mono ?_
      rintro e w2 ⟨rfl, _, hb4, _⟩
      have hb5 := hb.trans hb4
      clear hB hb4
      go_wp2
      go_ret2
      exact ⟨by rw [h3.out]; rfl, hb5⟩

end Go.Proofs.YtffglpbjbocdiaaDoor
