/- Environment files: the program's cutWhere, with the closures of read and of bareEnv. -/
import Derived.Test.YtkhkpjnpjgnckaaGreatDoorProg
import Derived.Test.YtkhkpjnpjgnckaaGreatDoorPlain
import Derived.Test.YtkhkpjnpjgnckaaGreatDoorCut
import Derived.Test.YtkhkpjnpjgnckaaGreatDoorTrim
import Derived.Test.YtkhkpjnpjgnckaaGreatDoorTail
import Derived.Test.YtkhkpjnpjgnckaaGreatDoorDialectRows
import Derived.Test.YtkhkpjnpjgnckaaGreatDoorQuotSpec
import Derived.Test.YtkhkpjnpjgnckaaGreatDoorBareImpl
import Derived.Test.YtkhkpjnpjgnckaaGreatDoorEnvOne
import Derived.WalkKit
import Derived.WalkLawsBesides
import Derived.OwnWalk
import Derived.BigQuiet
import Derived.Deep.QuietTactic
import Derived.Deep.RegionHeld3
import Derived.Lib.QuietBelow
import Derived.Laws.IdiomStrings
import Derived.Lib.Hide
import Derived.IntWalk
import Derived.Outline
set_option maxRecDepth 100000
namespace Go.Proofs.YtkhkpjnpjgnckaaGreatDoor
open Go.RowKit Go.Sort
set_option linter.unusedVariables false

/-- a kind of quotes in its block -/
def QuoAt (w : World) (b : Nat) (d : DialectD) (m : ByteArray) (fn : Value) : Prop := w.heap[b]? = some (.cells #[.string d.notes, .string d.seps, .bool d.inl, .bool d.quo, .bool d.esc, .int .i64 d.join, .string m, fn] 115 (0, 0))
theorem QuoAt.over {w w' : World} {b B : Nat} {d : DialectD} {m : ByteArray} {fn : Value} (h : QuoAt w b d m fn) (hb : Below B w w') (hB : b < B) : QuoAt w' b d m fn := by
  unfold QuoAt at *
  rw [hb.block b hB]
  exact h
theorem QuoAt.cells {w : World} {b : Nat} {d : DialectD} {m : ByteArray} {fn : Value} (h : QuoAt w b d m fn) : w.cell? ⟨b, 0, none⟩ = some (.string d.notes) ∧ w.cell? ⟨b, 1, none⟩ = some (.string d.seps) ∧ w.cell? ⟨b, 2, none⟩ = some (.bool d.inl) ∧ w.cell? ⟨b, 3, none⟩ = some (.bool d.quo) ∧ w.cell? ⟨b, 4, none⟩ = some (.bool d.esc) ∧ w.cell? ⟨b, 5, none⟩ = some (.int .i64 d.join) ∧ w.cell? ⟨b, 6, none⟩ = some (.string m) ∧ w.cell? ⟨b, 7, none⟩ = some fn := by
  unfold QuoAt at h
  refine ⟨?_, ?_, ?_, ?_, ?_, ?_, ?_, ?_⟩ <;> (rw [Lib.cell_of_heap h]; rfl)
/-- a text in its box -/
def BoxAt (w : World) (b : Nat) (s : ByteArray) : Prop := w.heap[b]? = some (.cells #[.string s] 9 (0, 0))
theorem BoxAt.over {w w' : World} {b B : Nat} {s : ByteArray} (h : BoxAt w b s) (hb : Below B w w') (hB : b < B) : BoxAt w' b s := by
  unfold BoxAt at *
  rw [hb.block b hB]
  exact h
theorem BoxAt.cell {w : World} {b : Nat} {s : ByteArray} (h : BoxAt w b s) : w.cell? ⟨b, 0, none⟩ = some (.string s) := by
  unfold BoxAt at h
  rw [Lib.cell_of_heap h]
  rfl
theorem BoxAt.free {w : World} {b : Nat} {s : ByteArray} (h : BoxAt w b s) (j : Nat) : w.frozen? ⟨b, j, none⟩ = false := by
  unfold BoxAt at h
  exact Lib.frozen_of_heap h j
theorem BoxAt.set {w : World} {b : Nat} {s : ByteArray} (h : BoxAt w b s) (t : ByteArray) : BoxAt (w.setCell ⟨b, 0, none⟩ (.string t)) b t := by
  unfold BoxAt at *
  simp [World.setCell, Array.getElem?_modify, h]

/-- a quote that counts -/
def endQ (e : Bool) (m : UInt8) (s : ByteArray) (i : Nat) : Bool := if h : i < s.size then (s[i] == m) && !esc5 e s i else false
def cutQ (e : Bool) (m : UInt8) (s : ByteArray) : Nat := (List.range s.size).findIdx (endQ e m s)
theorem one_has (m c : UInt8) : hasB ⟨#[m]⟩ c = (c == m) := by
  unfold hasB
  show ([m] : List UInt8).contains c = _
  rw [List.contains_cons, List.contains_nil, Bool.or_false]
set_option maxHeartbeats 1600000 in
theorem closes_impl (d : DialectD) (m : UInt8) (fn : Value) (s : ByteArray) (i : Nat) (w : World) (bq bs : Nat) (hQ : QuoAt w bq d ⟨#[m]⟩ fn) (hS : BoxAt w bs s) (hs : s.size ≤ 1048576) (hi : i < s.size) :
    Calls Tryz.prog 138 #[.int .i64 (i : Int), .pointer (some ⟨bq, 0, none⟩), .pointer (some ⟨bs, 0, none⟩)] w fun e w' => e = .returned (.bool (endQ d.esc m s i)) ∧ Below w.heap.size w w' := by
  have K1 := Lib.hid (fun (w : World) => isEscaped_impl d s i w hs (by omega))
  have KH := Lib.hid (fun (w : World) => hasByte_any ⟨#[m]⟩ s[i] w)
  rw [one_has] at KH
  have HV : Hid (endQ d.esc m s i = ((s[i] == m) && !esc5 d.esc s i)) := by unfold Hid endQ; rw [dif_pos hi]
  generalize endQ d.esc m s i = r at *
  obtain ⟨c0, c1, c2, c3, c4, c5, c6, c7⟩ := hQ.cells
  have cs := hS.cell
  have x0 := cell_regrown c0
  have x1 := cell_regrown c1
  have x2 := cell_regrown c2
  have x3 := cell_regrown c3
  have x4 := cell_regrown c4
  have x5 := cell_regrown c5
  have x6 := cell_regrown c6
  have xs := cell_regrown cs
  have hiz : (i : Int) < (s.size : Int) := by omega
  clear hQ hS
  obtain ⟨d0, d1, d2, d3, d4, d5⟩ := d
  unfold dialectV at *
  simp only at K1 HV c0 c1 c2 c3 c4 c5 x0 x1 x2 x3 x4 x5 ⊢
  generalize esc5 d4 s i = ev at *
  generalize hse : (s[i] == m) = sv at *
  clear hse
  have KB : Hid (∀ q os, Calls Tryz.prog 139 #[.agg #[.string d0, .string d1, .bool d2, .bool d3, .bool d4, .int .i64 d5], .string s, .int .i64 (i : Int)] (grow (redrawn w q) os) fun e w' => e = .returned (.bool ev) ∧ ∃ p : Regrown, w' = grow (redrawn w p.d) p.os) := by
    intro q os
    exact Calls.regrown_of (K1.out (grow (redrawn w q) os))
  have KH2 : Hid (∀ q os, Calls Tryz.prog 64 #[.string ⟨#[m]⟩, .int .u8 s[i].toNat] (grow (redrawn w q) os) fun e w' => e = .returned (.bool sv) ∧ ∃ p : Regrown, w' = grow (redrawn w p.d) p.os) := by
    intro q os
    refine Calls.regrown_of ((KH.out (grow (redrawn w q) os)).mono ?_)
    rintro e w' ⟨rfl, rfl⟩
    exact ⟨rfl, Below.refl _ _⟩
  clear K1 KH
  cases sv
  · have HF : Hid (r = false) := HV.out
    clear HV KB
    go_enter Tryz.func138, Tryz.ntmps138
    go_wp2_with fail
    refine wp_region_quiet_below (by kernel_rfl) (by kernel_rfl) ?_
    repeat (go_big_quiet_step (first | with_reducible exact KH2.out _ _))
    refine wpQuiet_nil ?_
    intro _ hw'
    obtain ⟨⟨dq, osq⟩, hw''⟩ := hw'
    subst hw''
    have hbq := below_regrown w dq osq
    go_wp2
    go_ret
    exact ⟨by rw [HF.out]; rfl, hbq⟩
  · cases ev
    all_goals
      have HF := Lib.hid HV.out
      simp only [Bool.true_and, Bool.not_true, Bool.not_false] at HF
      clear HV
      go_enter Tryz.func138, Tryz.ntmps138
      go_wp2_with fail
      refine wp_region_quiet_below (by kernel_rfl) (by kernel_rfl) ?_
      repeat (go_big_quiet_step (first | with_reducible exact KH2.out _ _ | with_reducible exact KB.out _ _))
      refine wpQuiet_nil ?_
      intro _ hw'
      obtain ⟨⟨dq, osq⟩, hw''⟩ := hw'
      subst hw''
      have hbq := below_regrown w dq osq
      go_wp2
      go_ret
      exact ⟨by rw [HF.out]; rfl, hbq⟩
set_option maxHeartbeats 1600000 in
theorem begins_impl (s : ByteArray) (i : Nat) (w : World) (bs : Nat) (hS : BoxAt w bs s) (hs : s.size ≤ 1048576) (hi : i < s.size) :
    Calls Tryz.prog 142 #[.int .i64 (i : Int), .pointer (some ⟨bs, 0, none⟩)] w fun e w' => e = .returned (.bool (noteE s i)) ∧ Below w.heap.size w w' := by
  have KH := Lib.hid (fun (w : World) => hasByte_any ⟨#[35]⟩ s[i] w)
  rw [one_has] at KH
  have HV0 : noteE s i = ((s[i] == 35) && (i == 0 || blankB (s[i - 1]'(by omega)))) := by unfold noteE; rw [dif_pos hi]
  generalize noteE s i = r at *
  have cs := hS.cell
  have hiz : (i : Int) < (s.size : Int) := by omega
  clear hS
  generalize hse : (s[i] == 35) = sv at *
  clear hse
  cases sv
  · have HF : Hid (r = false) := HV0
    clear HV0
    go_enter Tryz.func142, Tryz.ntmps142
    go_wp2_with fail
    refine (KH.out _).mono ?_
    rintro e w1 ⟨rfl, rfl⟩
    go_wp2
    go_ret
    exact ⟨by rw [HF.out]; rfl, Below.refl _ _⟩
  · by_cases h0 : i = 0
    · subst h0
      have HF : Hid (r = true) := HV0
      clear HV0
      go_enter Tryz.func142, Tryz.ntmps142
      go_wp2_with fail
      refine (KH.out _).mono ?_
      rintro e w1 ⟨rfl, rfl⟩
      go_wp2
      go_ret
      exact ⟨by rw [HF.out]; rfl, Below.refl _ _⟩
    · obtain ⟨j, rfl⟩ : ∃ j, i = j + 1 := ⟨i - 1, by omega⟩
      have KB := Lib.hid (fun (w : World) => isBlankD_any (s[j]'(by omega)) w)
      have HV : Hid (r = blankB (s[j]'(by omega))) := by
        unfold Hid
        rw [HV0]
        simp
      generalize blankB (s[j]'(by omega)) = b at *
      have hjz : ((j + 1 : Nat) : Int) - 1 = (j : Int) := by omega
      have hj0 : (((j + 1 : Nat) : Int) == 0) = false := by rw [beq_eq_false_iff_ne]; omega
      have hj1 : (((j : Int) + 1) == 0) = false := by rw [beq_eq_false_iff_ne]; omega
      have hjl : (j : Int) < (s.size : Int) := by omega
      have hjx : ∀ W, (Instr.index 9 (.string s) (.int .i64 (((j : Int) + 1) - 1))).run Tryz.prog W = .ok (.int .u8 ((s[j]'(by omega)).toNat : Int)) W := by
        intro W
        rw [run_index_string (h := Tryz.underlying9)]
        have e1 : ((j : Int) + 1 - 1).toNat = j := by omega
        rw [dif_pos ⟨by omega, by omega⟩]
        simp only [e1]
      clear HV0
      go_enter Tryz.func142, Tryz.ntmps142
      go_wp2_with fail
      refine (KH.out _).mono ?_
      rintro e w1 ⟨rfl, rfl⟩
      go_wp2_with fail
      refine (KB.out _).mono ?_
      rintro e w1 ⟨rfl, rfl⟩
      go_wp2
      go_ret
      exact ⟨by rw [HV.out]; rfl, Below.refl _ _⟩

set_option maxHeartbeats 1600000 in
theorem cutWhere_quote (d : DialectD) (m : UInt8) (fn : Value) (s : ByteArray) (w : World) (bs : Nat) (bq : Nat) (hQ : QuoAt w bq d ⟨#[m]⟩ fn) (hbq : bq < w.heap.size) (hS : BoxAt w bs s) (hbs : bs < w.heap.size) (hs : s.size ≤ 1048576) :
    Calls Tryz.prog 140 #[.string s, .func (Fn.func 138) #[] #[.pointer (some ⟨bq, 0, none⟩), .pointer (some ⟨bs, 0, none⟩)]] w fun e w' => e = .returned (cutRes s (cutQ d.esc m s)) ∧ Below w.heap.size w w' := by
  have HYES : Hid (∀ i, i < s.size → (∀ j, j < i → endQ d.esc m s j = false) → endQ d.esc m s i = true → cutRes s (cutQ d.esc m s) = .tuple #[.string (s.extract 0 i), .string (s.extract (i + 1) s.size), .bool true]) := by
    intro i hi h1 h2
    unfold cutRes cutQ
    rw [findIdx_rangeE _ _ i (by omega) h1 (fun _ => h2), if_pos hi]
  have HNO : Hid ((∀ j, j < s.size → endQ d.esc m s j = false) → cutRes s (cutQ d.esc m s) = .tuple #[.string s, .string ⟨#[]⟩, .bool false]) := by
    intro h1
    unfold cutRes cutQ
    rw [findIdx_rangeE _ _ s.size (Nat.le_refl _) h1 (fun h => absurd h (Nat.lt_irrefl _)), if_neg (Nat.lt_irrefl _)]
  have KF : Hid (∀ (i : Nat) (W : World), i < s.size → Below w.heap.size w W → Calls Tryz.prog 138 #[.int .i64 (i : Int), .pointer (some ⟨bq, 0, none⟩), .pointer (some ⟨bs, 0, none⟩)] W fun e w' => e = .returned (.bool (endQ d.esc m s i)) ∧ Below W.heap.size W w') := by
    intro i W hi hW
    exact closes_impl d m fn s i W bq bs (hQ.over hW hbq) (hS.over hW hbs) hs hi
  clear hS hQ
  generalize hcl : endQ d.esc m s = cl at *
  clear hcl
  generalize cutRes s (cutQ d.esc m s) = r at *
  go_enter Tryz.func140, Tryz.ntmps140
  go_wp2
  go_loopw [10] (fun i wr => ∃ k : Nat, k ≤ s.size ∧ i = .int .i64 k ∧ Hid (∀ j, j < k → cl j = false) ∧ Below w.heap.size w wr) (fun i _ => s.size - (intOf i).toNat)
  case atStart => exact ⟨0, Nat.zero_le _, rfl, fun j hj => absurd hj (Nat.not_lt_zero _), Below.refl _ _⟩
  case round =>
    obtain ⟨k, hk, rfl, hno, hb⟩ := hrel
    by_cases hlt : k < s.size
    · have hkz : (k : Int) < (s.size : Int) := by omega
      have hkz2 : (k : Int) ≤ (s.size : Int) := by omega
      have hkz3 : (k : Int) + 1 ≤ (s.size : Int) := by omega
      have KF2 := Lib.hid (KF.out k wr hlt hb)
      generalize hck : cl k = b at *
      cases b
      · have hno2 : Hid (∀ j, j < k + 1 → cl j = false) := by
          intro j hj
          by_cases e : j = k
          · subst e; exact hck
          · exact hno.out j (by omega)
        clear hno hck
        go_wp2_with fail
        refine KF2.out.mono ?_
        rintro e w1 ⟨rfl, hb1⟩
        have hb2 := hb.trans (hb1.mono hb.size)
        clear hb hb1 KF2
        go_wp2
        go_roundw
        case rel => exact ⟨k + 1, by omega, by go_num, hno2, hb2⟩
        case measure => simp [intOf]; omega
      · have HF := Lib.hid (HYES.out k hlt hno.out hck)
        clear hno hck HYES HNO KF
        go_wp2_with fail
        refine KF2.out.mono ?_
        rintro e w1 ⟨rfl, hb1⟩
        have hb2 := hb.trans (hb1.mono hb.size)
        clear hb hb1 KF2
        go_wp2_with fail
        refine wp_region_quiet_below (by kernel_rfl) (by kernel_rfl) ?_
        repeat (go_big_quiet_step (fail))
        refine wpQuiet_nil ?_
        intro _ hw'
        obtain ⟨⟨dq, osq⟩, hw''⟩ := hw'
        subst hw''
        have hb3 := hb2.trans ((below_regrown w1 dq osq).mono hb2.size)
        clear hb2
        go_wp2
        go_ret3
        exact ⟨by rw [HF.out]; rfl, hb3⟩
    · obtain rfl : k = s.size := by omega
      have HF := Lib.hid (HNO.out hno.out)
      have hkz : ¬ (s.size : Int) < (s.size : Int) := by omega
      clear hno HYES HNO KF
      go_wp2
      go_ret3
      exact ⟨by rw [HF.out]; rfl, hb⟩

set_option maxHeartbeats 1600000 in
theorem cutWhere_note  (s : ByteArray) (w : World) (bs : Nat) (hS : BoxAt w bs s) (hbs : bs < w.heap.size) (hs : s.size ≤ 1048576) :
    Calls Tryz.prog 140 #[.string s, .func (Fn.func 142) #[] #[.pointer (some ⟨bs, 0, none⟩)]] w fun e w' => e = .returned (cutRes s (cutE s)) ∧ Below w.heap.size w w' := by
  have HYES : Hid (∀ i, i < s.size → (∀ j, j < i → noteE s j = false) → noteE s i = true → cutRes s (cutE s) = .tuple #[.string (s.extract 0 i), .string (s.extract (i + 1) s.size), .bool true]) := by
    intro i hi h1 h2
    unfold cutRes cutE
    rw [findIdx_rangeE _ _ i (by omega) h1 (fun _ => h2), if_pos hi]
  have HNO : Hid ((∀ j, j < s.size → noteE s j = false) → cutRes s (cutE s) = .tuple #[.string s, .string ⟨#[]⟩, .bool false]) := by
    intro h1
    unfold cutRes cutE
    rw [findIdx_rangeE _ _ s.size (Nat.le_refl _) h1 (fun h => absurd h (Nat.lt_irrefl _)), if_neg (Nat.lt_irrefl _)]
  have KF : Hid (∀ (i : Nat) (W : World), i < s.size → Below w.heap.size w W → Calls Tryz.prog 142 #[.int .i64 (i : Int), .pointer (some ⟨bs, 0, none⟩)] W fun e w' => e = .returned (.bool (noteE s i)) ∧ Below W.heap.size W w') := by
    intro i W hi hW
    exact begins_impl s i W bs (hS.over hW hbs) hs hi
  clear hS 
  generalize hcl : noteE s = cl at *
  clear hcl
  generalize cutRes s (cutE s) = r at *
  go_enter Tryz.func140, Tryz.ntmps140
  go_wp2
  go_loopw [10] (fun i wr => ∃ k : Nat, k ≤ s.size ∧ i = .int .i64 k ∧ Hid (∀ j, j < k → cl j = false) ∧ Below w.heap.size w wr) (fun i _ => s.size - (intOf i).toNat)
  case atStart => exact ⟨0, Nat.zero_le _, rfl, fun j hj => absurd hj (Nat.not_lt_zero _), Below.refl _ _⟩
  case round =>
    obtain ⟨k, hk, rfl, hno, hb⟩ := hrel
    by_cases hlt : k < s.size
    · have hkz : (k : Int) < (s.size : Int) := by omega
      have hkz2 : (k : Int) ≤ (s.size : Int) := by omega
      have hkz3 : (k : Int) + 1 ≤ (s.size : Int) := by omega
      have KF2 := Lib.hid (KF.out k wr hlt hb)
      generalize hck : cl k = b at *
      cases b
      · have hno2 : Hid (∀ j, j < k + 1 → cl j = false) := by
          intro j hj
          by_cases e : j = k
          · subst e; exact hck
          · exact hno.out j (by omega)
        clear hno hck
        go_wp2_with fail
        refine KF2.out.mono ?_
        rintro e w1 ⟨rfl, hb1⟩
        have hb2 := hb.trans (hb1.mono hb.size)
        clear hb hb1 KF2
        go_wp2
        go_roundw
        case rel => exact ⟨k + 1, by omega, by go_num, hno2, hb2⟩
        case measure => simp [intOf]; omega
      · have HF := Lib.hid (HYES.out k hlt hno.out hck)
        clear hno hck HYES HNO KF
        go_wp2_with fail
        refine KF2.out.mono ?_
        rintro e w1 ⟨rfl, hb1⟩
        have hb2 := hb.trans (hb1.mono hb.size)
        clear hb hb1 KF2
        go_wp2_with fail
        refine wp_region_quiet_below (by kernel_rfl) (by kernel_rfl) ?_
        repeat (go_big_quiet_step (fail))
        refine wpQuiet_nil ?_
        intro _ hw'
        obtain ⟨⟨dq, osq⟩, hw''⟩ := hw'
        subst hw''
        have hb3 := hb2.trans ((below_regrown w1 dq osq).mono hb2.size)
        clear hb2
        go_wp2
        go_ret3
        exact ⟨by rw [HF.out]; rfl, hb3⟩
    · obtain rfl : k = s.size := by omega
      have HF := Lib.hid (HNO.out hno.out)
      have hkz : ¬ (s.size : Int) < (s.size : Int) := by omega
      clear hno HYES HNO KF
      go_wp2
      go_ret3
      exact ⟨by rw [HF.out]; rfl, hb⟩

end Go.Proofs.YtkhkpjnpjgnckaaGreatDoor
