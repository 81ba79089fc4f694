/- A right Dialect: the program's contract of DialectOk. -/
import Derived.Test.YtkhkpjnpjgnckaaGreatDoorProg
import Derived.Test.YtkhkpjnpjgnckaaGreatDoorPlain
import Derived.Test.YtkhkpjnpjgnckaaGreatDoorHex
import Derived.Test.YtkhkpjnpjgnckaaGreatDoorCut
import Derived.Test.YtkhkpjnpjgnckaaGreatDoorDialectRows
import Derived.Test.YtkhkpjnpjgnckaaGreatDoorQuotSpec
import Derived.WalkKit
import Derived.WalkLawsBesides
import Derived.BigQuiet
import Derived.Deep.QuietTactic
import Derived.Lib.QuietBelow
import Derived.Laws.IdiomStrings
import Derived.Lib.Hide
import Derived.IntWalk
set_option maxRecDepth 100000
namespace Go.Proofs.YtkhkpjnpjgnckaaGreatDoor
open Go.RowKit Go.Sort
set_option linter.unusedVariables false

theorem few_of_nodup : ∀ (l m : List UInt8), l.Nodup → (∀ x, x ∈ l → x ∈ m) → l.length ≤ m.length := by
  intro l
  induction l with
  | nil => intro m _ _; exact Nat.zero_le _
  | cons a t ih =>
    intro m hn hs
    have ha := hs a (by simp)
    rw [List.nodup_cons] at hn
    have h2 := ih (m.erase a) hn.2 (fun x hx => by
      have hne : x ≠ a := fun e => hn.1 (e ▸ hx)
      exact (List.mem_erase_of_ne hne).2 (hs x (by simp [hx])))
    rw [List.length_erase_of_mem ha] at h2
    have : 0 < m.length := List.length_pos_of_mem ha
    simp only [List.length_cons]
    omega
theorem ofTo_nodup (s u : ByteArray) : ∀ k, k ≤ s.size → ofTo s u k = true → (s.data.toList.take k).Nodup ∧ ∀ x, x ∈ s.data.toList.take k → x ∈ u.data.toList := by
  intro k
  induction k with
  | zero => intro _ _; simp
  | succ k ih =>
    intro hk h
    simp only [ofTo, Bool.and_eq_true] at h
    obtain ⟨h1, h2⟩ := h
    obtain ⟨n1, n2⟩ := ih (by omega) h1
    unfold ofAt at h2
    rw [dif_pos (by omega)] at h2
    simp only [Bool.and_eq_true, Bool.not_eq_true'] at h2
    obtain ⟨h3, h4⟩ := h2
    have hl : k < s.data.toList.length := by rw [← Lib.size_eq]; omega
    have e : s.data.toList.take (k + 1) = s.data.toList.take k ++ [s.data.toList[k]] := by rw [List.take_succ_eq_append_getElem hl]
    have e2 : s.data.toList[k] = s[k]'(by omega) := rfl
    have e3 : s[k]'(by omega) ∉ s.data.toList.take k := by
      unfold hasB at h4
      rw [Lib.extract_eq] at h4
      simpa using h4
    have e4 : s[k]'(by omega) ∈ u.data.toList := by
      unfold hasB at h3
      simpa using h3
    rw [e, e2]
    refine ⟨?_, ?_⟩
    · rw [List.nodup_append]
      refine ⟨n1, by simp, ?_⟩
      intro a ha b hb
      rw [List.mem_singleton] at hb
      subst hb
      intro e
      exact e3 (e ▸ ha)
    · intro x hx
      rw [List.mem_append, List.mem_singleton] at hx
      rcases hx with hx | hx
      · exact n2 x hx
      · subst hx; exact e4
theorem ofTo_few {s u : ByteArray} (h : ofTo s u s.size = true) : s.size ≤ u.size := by
  obtain ⟨h1, h2⟩ := ofTo_nodup s u s.size (Nat.le_refl _) h
  rw [Lib.size_eq, List.take_of_length_le (Nat.le_refl _)] at h1 h2
  have := few_of_nodup _ _ h1 h2
  rw [Lib.size_eq, Lib.size_eq]
  exact this
theorem choice_with (s u : ByteArray) (m : Int) (hm : (u.size : Int) = m) : ofWith s u m = (ofTo s u s.size && !s.toList.isEmpty) := by
  unfold ofWith
  cases h : ofTo s u s.size
  · rfl
  · have h1 := ofTo_few h
    rw [Bool.true_and, Bool.true_and, Lib.toList_data]
    have h3 := Lib.size_eq s
    cases h2 : s.data.toList with
    | nil => rw [h2, List.length_nil] at h3; rw [Pl.inB_false (by omega)]; rfl
    | cons c t => rw [h2, List.length_cons] at h3; rw [Pl.inB_true (by omega) (by omega)]; rfl

set_option maxHeartbeats 1600000 in
theorem isChoice_impl (s u : ByteArray) (m : Int) (w : World) (hs : s.size ≤ 1048576) (hm : (u.size : Int) = m) :
    Calls Tryz.prog 53 #[.string s, .string u] w fun e w' => e = .returned (.bool (ofWith s u m)) ∧ Below w.heap.size w w' := by
  rw [choice_with s u m hm]
  clear hm
  go_enter Tryz.func53, Tryz.ntmps53
  go_wp2
  go_loopw [8] (fun i wr => ∃ k : Nat, k ≤ s.size ∧ i = .int .i64 k ∧ Hid (ofTo s u k = true) ∧ Below w.heap.size w wr) (fun i _ => s.size - (intOf i).toNat)
  case atStart => exact ⟨0, Nat.zero_le _, rfl, rfl, Below.refl _ _⟩
  case round =>
    obtain ⟨k, hk, rfl, hok, hb⟩ := hrel
    by_cases hlt : k < s.size
    · have hat : ofAt s u k = (hasB u s[k] && !hasB (s.extract 0 k) s[k]) := by unfold ofAt; rw [dif_pos hlt]
      have hstep : ofTo s u (k + 1) = (hasB u s[k] && !hasB (s.extract 0 k) s[k]) := by simp only [ofTo]; rw [hok.out, hat]; rfl
      have HST := Lib.hid hstep
      clear hat hstep
      have K1 : Hid (∀ d os, Calls Tryz.prog 64 #[.string u, .int .u8 (s[k].toNat : Int)] (grow (redrawn wr d) os) fun e w' => e = .returned (.bool (hasB u s[k])) ∧ ∃ p : Regrown, w' = grow (redrawn wr p.d) p.os) := by
        intro d os
        refine Calls.regrown_of ((hasByte_any u s[k] _).mono ?_)
        rintro e w' ⟨rfl, rfl⟩
        exact ⟨rfl, Below.refl _ _⟩
      have K2 : Hid (∀ d os, Calls Tryz.prog 64 #[.string (s.extract 0 k), .int .u8 (s[k].toNat : Int)] (grow (redrawn wr d) os) fun e w' => e = .returned (.bool (hasB (s.extract 0 k) s[k])) ∧ ∃ p : Regrown, w' = grow (redrawn wr p.d) p.os) := by
        intro d os
        refine Calls.regrown_of ((hasByte_any (s.extract 0 k) s[k] _).mono ?_)
        rintro e w' ⟨rfl, rfl⟩
        exact ⟨rfl, Below.refl _ _⟩
      have hkz : (k : Int) ≤ (s.size : Int) := by omega
      have hkz2 : (k : Int) < (s.size : Int) := by omega
      cases h1 : hasB u s[k] <;> cases h2 : hasB (s.extract 0 k) s[k] <;> rw [h1] at K1 HST <;> rw [h2] at K2 HST <;> clear h1 h2
      all_goals
        go_wp2_with fail
        refine wp_region_quiet_below (by kernel_rfl) (by kernel_rfl) ?_
        repeat (go_big_quiet_step (first | with_reducible exact K1.out _ _ | with_reducible exact K2.out _ _))
        refine wpQuiet_nil ?_
        intro _ hw'
        obtain ⟨⟨dq, osq⟩, hw''⟩ := hw'
        subst hw''
        have hb2 := hb.trans ((below_regrown wr dq osq).mono hb.size)
      · have HF : Hid (ofTo s u s.size = false) := ofTo_false (k := k) HST.out s.size (by omega)
        clear HST hok
        go_wp2
        go_ret
        exact ⟨by rw [HF.out]; rfl, hb2⟩
      · have HF : Hid (ofTo s u s.size = false) := ofTo_false (k := k) HST.out s.size (by omega)
        clear HST hok
        go_wp2
        go_ret
        exact ⟨by rw [HF.out]; rfl, hb2⟩
      · have hok2 : Hid (ofTo s u (k + 1) = true) := HST.out
        clear HST hok
        go_wp2
        go_roundw
        case rel => exact ⟨k + 1, by omega, by go_num, hok2, hb2⟩
        case measure => simp [intOf]; omega
      · have HF : Hid (ofTo s u s.size = false) := ofTo_false (k := k) HST.out s.size (by omega)
        clear HST hok
        go_wp2
        go_ret
        exact ⟨by rw [HF.out]; rfl, hb2⟩
    · obtain rfl : k = s.size := by omega
      go_wp2
      go_ret
      exact ⟨by rw [hok.out]; rfl, hb⟩

set_option maxHeartbeats 1600000 in
theorem dialectOk_impl (d : DialectD) (w : World) (h1 : d.notes.size ≤ 1048576) (h2 : d.seps.size ≤ 1048576) :
    Calls Tryz.prog 27 #[dialectV d] w fun e w' => e = .returned (.bool (dialOk d)) ∧ Below w.heap.size w w' := by
  have K1 := Lib.hid (fun w => isChoice_impl d.notes notesB 3 w h1 rfl)
  have K2 := Lib.hid (fun w => isChoice_impl d.seps sepsB 2 w h2 rfl)
  unfold dialOk
  obtain ⟨d0, d1, d2, d3, d4, d5⟩ := d
  unfold dialectV
  simp only at K1 K2 ⊢
  clear h1 h2
  have hb0 := (Below.refl w.heap.size w).alloc (Nat.le_refl _) (.cells #[.string d0, .string d1, .bool d2, .bool d3, .bool d4, .int .i64 d5] 25)
  have c1 : (w.alloc (.cells #[.string d0, .string d1, .bool d2, .bool d3, .bool d4, .int .i64 d5] 25)).cell? ⟨w.heap.size, 1, none⟩ = some (.string d1) := by simp
  have c5 : (w.alloc (.cells #[.string d0, .string d1, .bool d2, .bool d3, .bool d4, .int .i64 d5] 25)).cell? ⟨w.heap.size, 5, none⟩ = some (.int .i64 d5) := by simp
  have hw0 : w.heap.size < (w.alloc (.cells #[.string d0, .string d1, .bool d2, .bool d3, .bool d4, .int .i64 d5] 25)).heap.size := by simp
  generalize ofWith d0 notesB 3 = r1 at *
  generalize ofWith d1 sepsB 2 = r2 at *
  go_enter Tryz.func27, Tryz.ntmps27
  go_wp2_with fail
  refine (K1.out _).mono ?_
  rintro e w1 ⟨rfl, hb1⟩
  have hb1' := hb0.trans (hb1.mono (by simp))
  have c1' := (hb1.cell (p := ⟨w.heap.size, 1, none⟩) hw0).trans c1
  have c5' := (hb1.cell (p := ⟨w.heap.size, 5, none⟩) hw0).trans c5
  have hw1 := Nat.lt_of_lt_of_le hw0 hb1.size
  clear hb1 hb0 c1 c5 K1 hw0
  cases r1
  · go_wp2
    go_ret
    exact ⟨rfl, hb1'⟩
  · go_wp2_with fail
    refine (K2.out _).mono ?_
    rintro e w2 ⟨rfl, hb2⟩
    have hb2' := hb1'.trans (hb2.mono hb1'.size)
    have c5'' := (hb2.cell (p := ⟨w.heap.size, 5, none⟩) hw1).trans c5'
    clear hb2 hb1' c1' c5' K2
    cases r2
    · go_wp2
      go_ret
      exact ⟨rfl, hb2'⟩
    · by_cases hj : 0 ≤ d5
      · have hj1 : decide (0 ≤ d5) = true := by simpa using hj
        have hf : Hid (Pl.inB d5 0 2 = decide (d5 ≤ 2)) := by unfold Hid Pl.inB; rw [hj1]; rfl
        clear hj1
        go_wp2
        go_ret
        exact ⟨by rw [hf.out]; rfl, hb2'⟩
      · have hf : Hid (Pl.inB d5 0 2 = false) := Pl.inB_false (by omega)
        go_wp2
        go_ret
        exact ⟨by rw [hf.out]; rfl, hb2'⟩

end Go.Proofs.YtkhkpjnpjgnckaaGreatDoor
