/- The walk of the law FnSigns. -/
import Derived.Test.YtffglpbjbocdiaaDoorProg
import Derived.Test.YtffglpbjbocdiaaDoorPlain
import Derived.Test.YtffglpbjbocdiaaDoorDraw
import Derived.Test.YtffglpbjbocdiaaDoorRunePure
import Derived.Test.YtffglpbjbocdiaaDoorRuneText
import Derived.Test.YtffglpbjbocdiaaDoorInts
import Derived.Test.YtffglpbjbocdiaaDoorTextOf
import Derived.Test.YtffglpbjbocdiaaDoorValid
import Derived.Test.YtffglpbjbocdiaaDoorSigns
import Derived.Test.YtffglpbjbocdiaaDoorSignDraw
import Derived.WalkKit
import Derived.WalkLawsBesides
import Derived.Lib.Hide
import Derived.IntWalk
namespace Go.Proofs.YtffglpbjbocdiaaDoor
open Go.RowKit
set_option linter.unusedVariables false

theorem bytesIn_under {B : Nat} {w w' : World} {a : Option Addr} {len : Nat} (h : BytesIn w a len) (hlow : ∀ x, a = some x → len ≠ 0 → x.block < B) (hb : Below B w w') : BytesIn w' a len :=
  bytesIn_kept (b := 0) h (fun x hx hl => hb.block _ (hlow x hx hl))
theorem drew_under {w : World} : ∀ q, Below w.heap.size w (w.drewN q)
  | 0 => Below.refl _ _
  | q + 1 => by
    rw [show w.drewN (q + 1) = (w.drewN q).drew from rfl]
    exact (drew_under q).drew
/-- numbers that are all signs -/
theorem allSgn_nat (l : List Int) (h : allSgn l = true) : ∃ list : List Nat, l = intsOf list ∧ ∀ r ∈ list, isSign r = true := by
  induction l with
  | nil => exact ⟨[], rfl, fun r hr => by cases hr⟩
  | cons x l ih =>
    unfold allSgn at h
    rw [List.all_cons, Bool.and_eq_true] at h
    obtain ⟨list, hl, hs⟩ := ih h.2
    have hb := (sgn_iff x).1 h.1
    obtain ⟨m, rfl⟩ := Int.eq_ofNat_of_zero_le hb.1.1
    refine ⟨m :: list, by rw [hl]; rfl, fun r hr => ?_⟩
    rcases List.mem_cons.1 hr with rfl | hr
    · rw [← sgn_nat]; exact h.1
    · exact hs r hr
theorem textB_ints (list : List Nat) (h : ∀ r ∈ list, isSign r = true) : textB (intsOf list) = list.flatMap signB := by
  induction list with
  | nil => rfl
  | cons x l ih =>
    have e : textB (intsOf (x :: l)) = signT (x : Int) ++ textB (intsOf l) := by simp [textB, intsOf]
    rw [e, ih (fun r hr => h r (List.mem_cons_of_mem _ hr)), signT_good (by rw [sgn_nat]; exact h x List.mem_cons_self), List.flatMap_cons]
theorem allSgn_ints (list : List Nat) (h : ∀ r ∈ list, isSign r = true) : allSgn (intsOf list) = true := by
  unfold allSgn
  rw [List.all_eq_true]
  intro x hx
  unfold intsOf at hx
  obtain ⟨m, hm, rfl⟩ := List.mem_map.1 hx
  rw [sgn_nat]
  exact h m hm
theorem signs_of_text (l : List Int) (h : allSgn l = true) : signsI (textOfB l) = l ∧ signsO (textOfB l) = true := by
  obtain ⟨list, rfl, hs⟩ := allSgn_nat l h
  unfold textOfB
  rw [h, if_pos rfl, textB_ints list hs]
  exact signs_good (signs_text list hs)
theorem text_of_signs (t : List UInt8) (h : signsO t = true) : textRes (signsI t) = .tuple #[.string ⟨t.toArray⟩, .bool true] := by
  unfold signsO at h
  obtain ⟨list, hl⟩ := Option.isSome_iff_exists.1 h
  obtain ⟨hs, ht⟩ := text_signs t list hl
  rw [(signs_good hl).1, textRes_good (allSgn_ints list hs), textB_ints list hs, ht]
theorem textOfB_len (l : List Int) : (textOfB l).length ≤ 4 * l.length := by
  unfold textOfB
  split
  · exact textB_len l
  · exact Nat.zero_le _

set_option maxRecDepth 100000 in
set_option maxHeartbeats 3200000 in
theorem fnSigns_walk (a0 : Option Addr) (len0 cap0 : Nat) (w : World) (hB : BytesIn w a0 len0) (hlow : ∀ x, a0 = some x → len0 ≠ 0 → x.block < w.heap.size) (hT : TabsV w) :
    Calls Tryd.prog 3 #[.slice a0 len0 cap0] w fun e w' => e = .returned (.bool true) ∧ Below w.heap.size w w' := by
  have HT := Lib.hid hT
  clear hT
  by_cases h0 : len0 ≤ 1048576
  · have HB := Lib.hid hB
    have HLOW := Lib.hid hlow
    clear hB hlow
    go_enter Tryd.func3, Tryd.ntmps3
    go_wp2_with fail
    refine (big_no _ _ _ _ h0).mono ?_
    rintro e w1 ⟨rfl, rfl⟩
    go_wp2_with fail
    refine (drawTextOf w a0 len0 cap0 h0 HB.out HLOW.out).mono ?_
    rintro e w2 ⟨v2, g2, l, hl6, rfl, hI2, hg2, hb2⟩
    -- its text, twice
    go_wp2_with fail
    refine (textOf_impl w2 v2 g2 0 l hI2.toIntsRd (by omega)).mono ?_
    rintro e w3 ⟨rfl, hb3⟩
    have hI3 := hI2.over hb3
    have hb3' := hb2.trans (hb3.mono hb2.size)
    clear hI2 hb2 hb3
    have hlen := textOfB_len l
    have hsz := toList_size (textOfB l)
    unfold textRes
    generalize ho : allSgn l = o
    generalize hbs : (⟨(textOfB l).toArray⟩ : ByteArray) = bs at *
    have hd : bs.data.toList = textOfB l := by rw [← hbs]
    have hgood : Hid (o = true → signsI bs.data.toList = l ∧ signsO bs.data.toList = true) := by
      intro h; rw [hd]; exact signs_of_text l (ho.trans h)
    have hbad : Hid (o = false → bs.toList = []) := by
      intro h
      rw [Lib.toList_data, hd]
      unfold textOfB
      rw [ho, h]
      rfl
    have K3 : Hid (Calls Tryd.prog 12 #[v2] w3 fun e w' => e = .returned (.tuple #[.string bs, .bool o]) ∧ Below w3.heap.size w3 w') := by
      have := textOf_spec w3 v2 g2 0 l hI3.toIntsRd (by omega)
      unfold textRes at this
      rw [ho, hbs] at this
      exact this
    have K6 := Lib.hid (signs_impl bs (by omega))
    clear ho hbs hd hsz hlen
    have hoo : (o != o) = false := by simp
    go_wp2_with fail
    refine K3.out.mono ?_
    rintro e w4 ⟨rfl, hb4⟩
    have hI4 := hI3.over hb4
    have hb4' := hb3'.trans (hb4.mono hb3'.size)
    clear hI3 hb3' hb4 K3
    go_wp2_with fail
    -- the other text
    refine (drawSigns w4 a0 len0 cap0 h0 (bytesIn_under HB.out HLOW.out hb4') (fun x hx hl => Nat.lt_of_lt_of_le (HLOW.out x hx hl) hb4'.size)).mono ?_
    rintro e w5 ⟨t, ht, rfl, hb5⟩
    have hI5 := hI4.over hb5
    have hb5' := hb4'.trans (hb5.mono hb4'.size)
    clear hI4 hb4' hb5 HB HLOW hoo
    have hgoodt : Hid (signsO t.data.toList = true → textRes (signsI t.data.toList) = .tuple #[.string t, .bool true]) := fun h => text_of_signs t.data.toList h
    have hbadt : Hid (signsO t.data.toList = false → signsI t.data.toList = []) := fun h => (signs_bad (by unfold signsO at h; exact Option.not_isSome_iff_eq_none.1 (by rw [h]; decide))).1
    have hfew := signsI_few t.data.toList
    rw [← Lib.size_eq] at hfew
    have K4 := Lib.hid (signs_impl t (by omega))
    have K5 := Lib.hid (signs_spec t (by omega))
    unfold SignsAre at K4 K5
    generalize signsI t.data.toList = lt at *
    generalize signsO t.data.toList = ot at *
    have hoo : (ot != ot) = false := by simp
    go_wp2_with fail
    refine (K4.out _ (tabs_over HT.out hb5')).mono ?_
    rintro e w6 ⟨v6, g6, rfl, hI6, hg6, hb6⟩
    have hJ5 := hI5.over hb6
    have hb6' := hb5'.trans (hb6.mono hb5'.size)
    clear K4 hI5 hb5' hb6
    go_wp2_with fail
    refine (K5.out _).mono ?_
    rintro e w7 ⟨v7, g7, rfl, hI7, hg7, hb7⟩
    have hJ6 := hJ5.over hb7
    have hK6 := hI6.over hb7
    have hb7' := hb6'.trans (hb7.mono hb6'.size)
    clear K5 hJ5 hI6 hI7 hg7 hb6' hb7
    go_wp2_with fail
    refine (K6.out _ (tabs_over HT.out hb7')).mono ?_
    rintro e w8 ⟨v8, g8, rfl, hI8, hg8, hb8⟩
    have hJ7 := hJ6.over hb8
    have hK7 := hK6.over hb8
    have hb8' := hb7'.trans (hb8.mono hb7'.size)
    clear K6 hJ6 hK6 hb7' hb8 hoo
    go_wp2_with fail
    refine (textOf_impl w8 v6 g6 0 lt hK7.toIntsRd (by omega)).mono ?_
    rintro e w9 ⟨rfl, hb9⟩
    have hJ8 := hJ7.over hb9
    have hK8 := hK7.over hb9
    have hI9 := hI8.over hb9
    have hb9' := hb8'.trans (hb9.mono hb8'.size)
    clear hJ7 hK7 hI8 hb8' hb9
    -- the end
    obtain ⟨a6, c6, hv6, _⟩ := hK8.form
    subst hv6
    have fin2 : Hid ((ot = false ∧ lt = []) ∨ (ot = true ∧ textRes lt = .tuple #[.string t, .bool true])) := by
      cases hot : ot
      · exact .inl ⟨rfl, hbadt.out hot⟩
      · exact .inr ⟨rfl, hgoodt.out hot⟩
    have hbt : (t.toList == t.toList) = true := by simp
    clear hgoodt hbadt hK8
    cases o
    · have hbe := hbad.out rfl
      have hbe1 : bs.toList.isEmpty = true := by rw [hbe]; rfl
      have hbe2 : (bs.toList == []) = true := by rw [hbe]; rfl
      clear hbe hbad hgood hI9 hJ8
      rcases fin2.out with ⟨rfl, rfl⟩ | ⟨rfl, hr⟩
      · unfold textRes
        clear fin2
        generalize (⟨(textOfB []).toArray⟩ : ByteArray) = z
        generalize allSgn [] = zz
        generalize signsO bs.data.toList = ob
        go_wp2
        go_ret
        exact ⟨rfl, hb9'⟩
      · rw [hr]
        clear fin2 hr
        generalize signsO bs.data.toList = ob
        go_wp2
        go_ret
        exact ⟨rfl, hb9'⟩
    · obtain ⟨e1, e2⟩ := hgood.out rfl
      rw [e1] at hI9
      rw [e2]
      have K7 := Lib.hid (sameInts_any w9 v8 v2 g8 0 g2 0 l l hI9.toIntsRd hJ8.toIntsRd (by omega) (by omega))
      rw [show decide (l = l) = true by simp] at K7
      clear hbad hgood hI9 hJ8 e1 e2
      rcases fin2.out with ⟨rfl, rfl⟩ | ⟨rfl, hr⟩
      · unfold textRes
        clear fin2
        generalize (⟨(textOfB []).toArray⟩ : ByteArray) = z
        generalize allSgn [] = zz
        go_wp2_with fail
        refine K7.out.mono ?_
        rintro e w10 ⟨rfl, n, rfl⟩
        have hb10 := hb9'.trans ((drew_under (w := w9) n).mono hb9'.size)
        go_wp2
        go_ret
        exact ⟨rfl, hb10⟩
      · rw [hr]
        clear fin2 hr
        go_wp2_with fail
        refine K7.out.mono ?_
        rintro e w10 ⟨rfl, n, rfl⟩
        have hb10 := hb9'.trans ((drew_under (w := w9) n).mono hb9'.size)
        go_wp2
        go_ret
        exact ⟨rfl, hb10⟩
  · go_enter Tryd.func3, Tryd.ntmps3
    go_wp2_with fail
    refine (big_yes _ _ _ _ (by omega)).mono ?_
    rintro e w1 ⟨rfl, rfl⟩
    go_wp2
    go_ret
    exact ⟨rfl, Below.refl _ _⟩

end Go.Proofs.YtffglpbjbocdiaaDoor
