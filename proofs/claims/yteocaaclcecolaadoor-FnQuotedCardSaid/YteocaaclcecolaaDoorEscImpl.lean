/- Escapes put: the program's contract of Escape. -/
import Derived.Test.YteocaaclcecolaaDoorProg
import Derived.Test.YteocaaclcecolaaDoorPlain
import Derived.Test.YteocaaclcecolaaDoorCut
import Derived.Test.YteocaaclcecolaaDoorTrim
import Derived.Test.YteocaaclcecolaaDoorTail
import Derived.Test.YteocaaclcecolaaDoorDialectRows
import Derived.Test.YteocaaclcecolaaDoorBuild
import Derived.Test.YteocaaclcecolaaDoorUnescSpec
import Derived.Test.YteocaaclcecolaaDoorUnescImpl
import Derived.Test.YteocaaclcecolaaDoorBareSpec
import Derived.Test.YteocaaclcecolaaDoorQuotImpl
import Derived.Test.YteocaaclcecolaaDoorEscSpec
import Derived.WalkKit
import Derived.WalkLawsBesides
import Derived.BigQuiet
import Derived.Deep.QuietTactic
import Derived.Deep.RegionHeld3
import Derived.Lib.QuietBelow
import Derived.Laws.IdiomStrings
import Derived.Lib.Hide
import Derived.IntWalk
set_option maxRecDepth 100000
namespace Go.Proofs.YteocaaclcecolaaDoor
open Go.RowKit Go.Sort
set_option linter.unusedVariables false

theorem one_text {x : ByteArray} {c : UInt8} (h : x = ⟨[c].toArray⟩) (b : UInt8) : (x.toList == [b]) = (c == b) := by
  subst h
  rw [Lib.toList_data]
  simp
theorem one_note {x : ByteArray} {c : UInt8} (h : x = ⟨[c].toArray⟩) (d : DialectD) : isN d x = hasB d.notes c := by
  subst h
  rfl
set_option maxHeartbeats 1600000 in
theorem escapeOf_impl (d : DialectD) (c : UInt8) (x : ByteArray) (w : World) (hx : x = ⟨[c].toArray⟩) :
    Calls Tryd.prog 39 #[dialectV d, .string x] w fun e w' => e = .returned (.string ⟨(escC d.notes c).toArray⟩) ∧ Below w.heap.size w w' := by
  have KN := Lib.hid (fun w => isNote_impl d x w (by subst hx; exact (by decide : (1 : Nat) ≤ 1048576)))
  rw [one_note hx d] at KN
  have HC : Hid (escC d.notes c = (if c = 10 then [92, 110] else if c = 9 then [92, 116] else if c = 13 then [92, 114] else if (c == 92 || c == 34 || hasB d.notes c) = true then [92, c] else [c])) := rfl
  have t10 := one_text hx 10
  have t9 := one_text hx 9
  have t13 := one_text hx 13
  have t92 := one_text hx 92
  have t34 := one_text hx 34
  have H2 : Hid ((⟨#[92]⟩ : ByteArray) ++ x = ⟨[92, c].toArray⟩) := by rw [hx]; exact Pl.join_lists [92] [c]
  have H1 := Lib.hid hx
  have hxs : x.size = 1 := by rw [hx]; rfl
  have HD := Lib.hid (dialAt_new w d)
  generalize escC d.notes c = m at *
  generalize hasB d.notes c = hv at *
  obtain ⟨d0, d1, d2, d3, d4, d5⟩ := d
  unfold dialectV at *
  simp only at KN HD ⊢
  clear hx
  have hb0 := (Below.refl w.heap.size w).alloc (Nat.le_refl _) (.cells #[.string d0, .string d1, .bool d2, .bool d3, .bool d4, .int .i64 d5] 25)
  have hw0 : w.heap.size < (w.alloc (.cells #[.string d0, .string d1, .bool d2, .bool d3, .bool d4, .int .i64 d5] 25)).heap.size := by simp
  by_cases q1 : c = 10
  · have HR : Hid (m = [92, 110]) := by unfold Hid; rw [HC.out, if_pos q1]
    have s1 : (c == 10) = true := by simpa using q1
    rw [s1] at t10
    clear HC q1 s1 t9 t13 t92 t34 KN H2 H1
    go_enter Tryd.func39, Tryd.ntmps39
    go_wp2
    go_ret
    exact ⟨by rw [HR.out]; rfl, hb0⟩
  · have s1 : (c == 10) = false := by simpa using q1
    rw [s1] at t10
    by_cases q2 : c = 9
    · have HR : Hid (m = [92, 116]) := by unfold Hid; rw [HC.out, if_neg q1, if_pos q2]
      have s2 : (c == 9) = true := by simpa using q2
      rw [s2] at t9
      clear HC q1 s1 q2 s2 t13 t92 t34 KN H2 H1
      go_enter Tryd.func39, Tryd.ntmps39
      go_wp2
      go_ret
      exact ⟨by rw [HR.out]; rfl, hb0⟩
    · have s2 : (c == 9) = false := by simpa using q2
      rw [s2] at t9
      by_cases q3 : c = 13
      · have HR : Hid (m = [92, 114]) := by unfold Hid; rw [HC.out, if_neg q1, if_neg q2, if_pos q3]
        have s3 : (c == 13) = true := by simpa using q3
        rw [s3] at t13
        clear HC q1 s1 q2 s2 q3 s3 t92 t34 KN H2 H1
        go_enter Tryd.func39, Tryd.ntmps39
        go_wp2
        go_ret
        exact ⟨by rw [HR.out]; rfl, hb0⟩
      · have s3 : (c == 13) = false := by simpa using q3
        rw [s3] at t13
        have HC2 : Hid (m = if (c == 92 || c == 34 || hv) = true then [92, c] else [c]) := by unfold Hid; rw [HC.out, if_neg q1, if_neg q2, if_neg q3]
        clear HC q1 s1 q2 s2 q3 s3
        cases q4 : (c == 92)
        · rw [q4] at t92 HC2
          cases q5 : (c == 34)
          · rw [q5] at t34 HC2
            clear q4 q5
            cases hv
            · have HR : Hid (m = [c]) := HC2.out
              clear HC2
              go_enter Tryd.func39, Tryd.ntmps39
              go_wp2_with fail
              obtain ⟨c0, c1, c2, c3, c4, c5⟩ := HD.out.cells
              simp only at c0 c1 c2 c3 c4 c5
              go_wp2_with fail
              refine (KN.out _).mono ?_
              rintro e w1 ⟨rfl, hb1⟩
              have hb2 := hb0.trans (hb1.mono hb0.size)
              clear KN hb1 hb0 c0 c1 c2 c3 c4 c5
              go_wp2
              go_ret
              exact ⟨by rw [HR.out, ← H1.out]; rfl, hb2⟩
            · have HR : Hid (m = [92, c]) := HC2.out
              clear HC2
              go_enter Tryd.func39, Tryd.ntmps39
              go_wp2_with fail
              obtain ⟨c0, c1, c2, c3, c4, c5⟩ := HD.out.cells
              simp only at c0 c1 c2 c3 c4 c5
              go_wp2_with fail
              refine (KN.out _).mono ?_
              rintro e w1 ⟨rfl, hb1⟩
              have hb2 := hb0.trans (hb1.mono hb0.size)
              clear KN hb1 hb0 c0 c1 c2 c3 c4 c5
              go_wp2
              go_ret
              exact ⟨by rw [HR.out, ← H2.out]; rfl, hb2⟩
          · rw [q5] at t34 HC2
            have HR : Hid (m = [92, c]) := HC2.out
            clear HC2 q4 q5 KN
            go_enter Tryd.func39, Tryd.ntmps39
            go_wp2
            go_ret
            exact ⟨by rw [HR.out, ← H2.out]; rfl, hb0⟩
        · rw [q4] at t92 HC2
          have HR : Hid (m = [92, c]) := HC2.out
          clear HC2 q4 KN
          go_enter Tryd.func39, Tryd.ntmps39
          go_wp2
          go_ret
          exact ⟨by rw [HR.out, ← H2.out]; rfl, hb0⟩

theorem one_at (s : ByteArray) (k : Nat) (h : k < s.size) : s.extract k (k + 1) = ⟨[s[k]].toArray⟩ := by
  apply ByteArray.ext
  apply Array.toList_inj.1
  rw [Lib.extract_eq]
  have hl : k < s.data.toList.length := by rw [← Lib.size_eq]; exact h
  show ((s.data.toList.drop k).take (k + 1 - k)) = [s[k]]
  rw [List.drop_eq_getElem_cons hl, show k + 1 - k = 1 by omega, List.take_succ_cons, List.take_zero]
  rfl
set_option maxHeartbeats 3200000 in
theorem escape_impl (d : DialectD) (s : ByteArray) (w : World) (hs : s.size ≤ 1048576) :
    Calls Tryd.prog 15 #[.string s, dialectV d] w fun e w' => e = .returned (.string (escT d s)) ∧ Below w.heap.size w w' := by
  have HN := dialAt_new w d
  have HV : Hid (escT d s = if d.esc then ⟨(escL d.notes s.data.toList).toArray⟩ else s) := rfl
  have HE := Lib.hid (fun k h => escL_succ d.notes s k h)
  have HL := Lib.hid (fun k => escL_len d.notes (s.data.toList.take k))
  have KE := Lib.hid (fun (k : Nat) (h : k < s.size) w => escapeOf_impl d s[k] (s.extract k (k + 1)) w (one_at s k h))
  generalize escT d s = r at *
  have h0 : BuiltF (w.heap.size + 1) (w.heap.size + 1) [] ((w.alloc (.cells #[.string d.notes, .string d.seps, .bool d.inl, .bool d.quo, .bool d.esc, .int .i64 d.join] 25)).alloc (.cells #[.pointer none, .slice none 0 0] 51)) := by
    have := Lib.IsBuilderF.of (Lib.fresh_isBuilder 51 5 (w.alloc (.cells #[.string d.notes, .string d.seps, .bool d.inl, .bool d.quo, .bool d.esc, .int .i64 d.join] 25)))
    rwa [World.size_alloc] at this
  have H0 := Lib.hid h0
  have hb0 := (Below.refl w.heap.size w).alloc (Nat.le_refl _) (.cells #[.string d.notes, .string d.seps, .bool d.inl, .bool d.quo, .bool d.esc, .int .i64 d.join] 25)
  have hbB := (Below.refl (w.heap.size + 1) (w.alloc (.cells #[.string d.notes, .string d.seps, .bool d.inl, .bool d.quo, .bool d.esc, .int .i64 d.join] 25))).alloc (by simp) (.cells #[.pointer none, .slice none 0 0] 51)
  have HN1 := Lib.hid (HN.over hbB (Nat.lt_succ_self _))
  have hb1 := hb0.trans (hbB.mono (by simp))
  clear h0 HN hbB
  obtain ⟨d0, d1, d2, d3, d4, d5⟩ := d
  unfold dialectV at *
  simp only at KE HN1 H0 HV HE HL hb0 hb1 ⊢
  cases d4
  · have HR : Hid (r = s) := HV.out
    clear KE H0 HN1 hb1 HE HL HV
    go_enter Tryd.func15, Tryd.ntmps15
    go_wp2
    go_ret
    exact ⟨by rw [HR.out]; rfl, hb0⟩
  · have HR : Hid (r = ⟨(escL d0 s.data.toList).toArray⟩) := HV.out
    have HSL := Lib.hid (Lib.size_eq s)
    clear HV
    have hs9 : (s.size : Int) ≤ 1048576 := by omega
    go_enter Tryd.func15, Tryd.ntmps15
    go_wp2
    go_loopw [13] (fun i wr => ∃ (k : Nat) (l : List UInt8), k ≤ s.size ∧ i = .int .i64 k ∧ Hid (l = escL d0 (s.data.toList.take k)) ∧ Hid (BuiltF (w.heap.size + 1) (w.heap.size + 1) l wr) ∧ Hid (DialAt wr w.heap.size ⟨d0, d1, d2, d3, true, d5⟩) ∧ w.heap.size + 1 < wr.heap.size ∧ Below w.heap.size w wr) (fun i _ => s.size - (intOf i).toNat)
    case atStart => exact ⟨0, [], Nat.zero_le _, rfl, rfl, H0, HN1, by simp, hb1⟩
    case round =>
      obtain ⟨k, l, hk, rfl, hat, hB, hD, hsz, hb⟩ := hrel
      clear H0 HN1 hb1 hb0
      by_cases hlt : k < s.size
      · have HA : Hid (l ++ escC d0 s[k] = escL d0 (s.data.toList.take (k + 1))) := by unfold Hid; rw [HE.out k hlt, hat.out]
        have hll : l.length ≤ 2 * s.size := by
          have h1 := HL.out k
          have h2 : (s.data.toList.take k).length ≤ s.size := by rw [List.length_take, HSL.out]; omega
          rw [← hat.out] at h1
          omega
        have hml := escC_len d0 s[k]
        have KE1 : Hid (Calls Tryd.prog 39 #[.agg #[.string d0, .string d1, .bool d2, .bool d3, .bool true, .int .i64 d5], .string (s.extract k (k + 1))] wr.drew fun e w' => e = .returned (.string ⟨(escC d0 s[k]).toArray⟩) ∧ Below wr.heap.size wr w') := by
          refine (KE.out k hlt _).mono ?_
          rintro e w' ⟨rfl, h⟩
          exact ⟨rfl, (below_drewN (Below.refl wr.heap.size wr) 1).trans h⟩
        clear HE HL KE hat HR
        generalize escC d0 s[k] = m at *
        obtain ⟨c0, c1, c2, c3, c4, c5⟩ := hD.out.cells
        simp only at c0 c1 c2 c3 c4 c5
        have hk1 : (k : Int) + 1 ≤ (s.size : Int) := by omega
        have hk2 : ((k : Int) + 1).toNat = k + 1 := by omega
        have hk3 : (k : Int) ≤ (k : Int) + 1 := by omega
        have hk4 : IntKind.i64.wrap ((k : Int) + 1) = (k : Int) + 1 := IntWalk.i64_in _ (by omega)
        have hk5 : (k : Int) < (s.size : Int) := by omega
        have hmz : (⟨m.toArray⟩ : ByteArray).size ≤ 2 := by rw [Lib.size_eq]; simpa using hml
        go_wp2_with fail
        go_region_held3 (fun w' => w'.cell? ⟨w.heap.size, 0, none⟩ = some (.string d0) ∧ w'.cell? ⟨w.heap.size, 1, none⟩ = some (.string d1) ∧ w'.cell? ⟨w.heap.size, 2, none⟩ = some (.bool d2) ∧ w'.cell? ⟨w.heap.size, 3, none⟩ = some (.bool d3) ∧ w'.cell? ⟨w.heap.size, 4, none⟩ = some (.bool true) ∧ w'.cell? ⟨w.heap.size, 5, none⟩ = some (.int .i64 d5))
          (first | go_keep | exact ⟨m0, m1, m2, m3, m4, m5⟩)
          (first
            | ((with_reducible refine KE1.out.mono ?_); rintro e V1 ⟨rfl, hv1⟩; have HD1 := Lib.hid (hD.out.over hv1 (by omega)); have HB1 := Lib.hid (builtU_over hB.out hv1); have hs1 := Nat.lt_of_lt_of_le hsz hv1.size; have hbv := hb.trans (hv1.mono hb.size); obtain ⟨m0, m1, m2, m3, m4, m5⟩ := HD1.out.cells; simp only at m0 m1 m2 m3 m4 m5)
            | ((with_reducible refine (built_write (w.heap.size + 1) (w.heap.size + 1) l ⟨m.toArray⟩ _ HB1.out (by omega) (by omega)).mono ?_); rintro e V2 ⟨rfl, hB2, hv2, _⟩; have HB2 := Lib.hid hB2; have HD2 := Lib.hid (HD1.out.over hv2 (Nat.lt_succ_self _)); have hs2 := Nat.lt_of_lt_of_le hs1 hv2.size; have hbv2 := hbv.trans (hv2.mono (Nat.le_succ _)); obtain ⟨m0, m1, m2, m3, m4, m5⟩ := HD2.out.cells; simp only at m0 m1 m2 m3 m4 m5))
        clear c0 c1 c2 c3 c4 c5 KE1 hB hD hB2
        go_wp2
        go_roundw
        case rel => exact ⟨k + 1, l ++ m, by omega, by go_num, HA, HB2, HD2, hs2, hbv2⟩
        case measure => simp [intOf]; omega
      · obtain rfl : k = s.size := by omega
        have HF : Hid (r = ⟨l.toArray⟩) := by unfold Hid; rw [HR.out, hat.out, HSL.out, List.take_length]
        clear HE HL KE hat HR
        go_wp2_with fail
        refine (built_string (w.heap.size + 1) (w.heap.size + 1) l _ hB.out (by omega)).mono ?_
        rintro e w2 ⟨rfl, _, hb2, _⟩
        have hbF := hb.trans (hb2.mono (Nat.le_succ _))
        go_wp2
        go_ret
        exact ⟨by rw [HF.out]; rfl, hbF⟩

end Go.Proofs.YteocaaclcecolaaDoor
