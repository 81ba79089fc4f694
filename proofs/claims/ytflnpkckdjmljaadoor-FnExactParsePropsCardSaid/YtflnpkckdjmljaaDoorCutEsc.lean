/- The program's cut of one escape, and its kinds. -/
import Derived.Test.YtflnpkckdjmljaaDoorProg
import Derived.Test.YtflnpkckdjmljaaDoorPlain
import Derived.Test.YtflnpkckdjmljaaDoorSign
import Derived.Test.YtflnpkckdjmljaaDoorReadInt
import Derived.Test.YtflnpkckdjmljaaDoorRunePure
import Derived.Test.YtflnpkckdjmljaaDoorRuneText
import Derived.Test.YtflnpkckdjmljaaDoorNextSpec
import Derived.Test.YtflnpkckdjmljaaDoorBuild
import Derived.Test.YtflnpkckdjmljaaDoorGetPure
import Derived.WalkKit
import Derived.WalkLawsBesides
import Derived.BigQuiet
import Derived.Deep.QuietTactic
import Derived.Lib.QuietBelow
import Derived.Lib.Hide
import Derived.IntWalk
namespace Go.Proofs.YtflnpkckdjmljaaDoor
open Go.RowKit Go.Sort
set_option linter.unusedVariables false

/-- the kind of an escape's number -/
def kindI (u : Int) : Int := if u < 0 then 0 else if sgn u = true then 1 else if u < 56320 then 2 else 3
theorem kind_impl (u : Int) (w : World) :
    Calls Tryd.prog 128 #[.int .i64 u] w fun e w' => e = .returned (.int .i64 (kindI u)) ∧ w = w' := by
  by_cases h0 : u < 0
  · have h3 : Hid (kindI u = 0) := by unfold Hid kindI; rw [if_pos h0]
    go_enter Tryd.func128, Tryd.ntmps128
    go_wp2
    go_ret
    exact ⟨by rw [h3.out]; rfl, rfl⟩
  · cases hs : sgn u
    · by_cases h5 : u < 56320
      · have h3 : Hid (kindI u = 2) := by unfold Hid kindI; rw [if_neg h0, hs, if_neg (by decide), if_pos h5]
        have HS := Lib.hid hs
        clear hs
        go_enter Tryd.func128, Tryd.ntmps128
        go_wp2_with fail
        refine (sign_impl _ _).mono ?_
        rintro e w' ⟨rfl, rfl⟩
        rw [HS.out]
        go_wp2
        go_ret
        exact ⟨by rw [h3.out]; rfl, rfl⟩
      · have h3 : Hid (kindI u = 3) := by unfold Hid kindI; rw [if_neg h0, hs, if_neg (by decide), if_neg h5]
        have HS := Lib.hid hs
        clear hs
        go_enter Tryd.func128, Tryd.ntmps128
        go_wp2_with fail
        refine (sign_impl _ _).mono ?_
        rintro e w' ⟨rfl, rfl⟩
        rw [HS.out]
        go_wp2
        go_ret
        exact ⟨by rw [h3.out]; rfl, rfl⟩
    · have h3 : Hid (kindI u = 1) := by unfold Hid kindI; rw [if_neg h0, if_pos hs]
      have HS := Lib.hid hs
      clear hs
      go_enter Tryd.func128, Tryd.ntmps128
      go_wp2_with fail
      refine (sign_impl _ _).mono ?_
      rintro e w' ⟨rfl, rfl⟩
      rw [HS.out]
      go_wp2
      go_ret
      exact ⟨by rw [h3.out]; rfl, rfl⟩
theorem pair_impl (a b : Int) (w : World) (ha : 55296 ≤ a) (ha2 : a ≤ 56319) (hb : 56320 ≤ b) (hb2 : b ≤ 57343) :
    Calls Tryd.prog 120 #[.int .i64 a, .int .i64 b] w fun e w' => e = .returned (.int .i64 (65536 + 1024 * (a - 55296) + (b - 56320))) ∧ w = w' := by
  go_enter Tryd.func120, Tryd.ntmps120
  go_wp2
  go_ret
  refine ⟨?_, rfl⟩
  show Ending.returned (.int .i64 (65536 + (a - 55296) * 1024 + b - 56320)) = _
  have e : 65536 + (a - 55296) * 1024 + b - 56320 = 65536 + 1024 * (a - 55296) + (b - 56320) := by omega
  rw [e]

theorem hasPrefix_two (l : List UInt8) (c d : UInt8) : Lib.hasPrefix l [c, d] = decide (l[0]? = some c ∧ l[1]? = some d) := by
  match l with
  | [] => simp [Lib.hasPrefix, List.isPrefixOf]
  | [a] => simp [Lib.hasPrefix, List.isPrefixOf]
  | a :: b :: t =>
    simp only [Lib.hasPrefix, List.isPrefixOf, Bool.and_true, List.getElem?_cons_zero, List.getElem?_cons_succ, Option.some.injEq]
    by_cases h1 : c = a
    · by_cases h2 : d = b
      · simp [h1, h2]
      · have : ¬ b = d := fun e => h2 e.symm
        simp [h1, h2, this]
    · have : ¬ a = c := fun e => h1 e.symm
      simp [h1, this]

/-- what is cut off -/
def CutE (l : List UInt8) (u k : Int) (rest : List UInt8) : Prop :=
  (∃ t, l = 92 :: 92 :: t ∧ u = 92 ∧ k = 1 ∧ rest = t) ∨
  (¬ (l[0]? = some 92 ∧ l[1]? = some 92) ∧ fourE l = none ∧ k = 0 ∧ rest.length ≤ l.length) ∨
  (¬ (l[0]? = some 92 ∧ l[1]? = some 92) ∧ ∃ a : Nat, fourE l = some a ∧ u = a ∧ k = kindI a ∧ rest = l.drop 6)
theorem two_form {l : List UInt8} {c d : UInt8} (h : l[0]? = some c ∧ l[1]? = some d) : ∃ t, l = c :: d :: t := by
  match l, h with
  | a :: b :: t, h =>
    simp only [List.getElem?_cons_zero, List.getElem?_cons_succ, Option.some.injEq] at h
    exact ⟨t, by rw [h.1, h.2]⟩
theorem extract_rest (s : ByteArray) (k : Nat) : (s.extract k s.size).data.toList = s.data.toList.drop k := by
  rw [extract_toList, List.take_of_length_le]
  rw [List.length_drop, ← Lib.size_eq]
  exact Nat.le_refl _
theorem slice_from (s : ByteArray) (k : Nat) (h : k ≤ s.size) (W : World) : (Instr.slice 9 (.string s) (some (.int .i64 (k : Int))) none none).run Tryd.prog W = .ok (.string (s.extract k s.size)) W := by
  rw [run_slice_string_from_if (h := Tryd.underlying9)]
  first
    | rw [if_pos (by omega), Int.toNat_natCast]
    | (simp; omega)
theorem drewQ {w : World} : ∀ q, Below w.heap.size w (w.drewN q)
  | 0 => Below.refl _ _
  | q + 1 => by
    rw [show w.drewN (q + 1) = (w.drewN q).drew from rfl]
    exact (drewQ q).drew
theorem four_head (s : ByteArray) (h : s.data.toList[0]? = some 92 ∧ s.data.toList[1]? = some 117) (h6 : 6 ≤ s.size) : fourE s.data.toList = Pl.readN 16 8 (s.extract 2 6).data.toList := by
  rw [extract_toList]
  have hl := Lib.size_eq s
  obtain ⟨t, ht⟩ := two_form h
  rw [ht] at hl ⊢
  match t, hl with
  | a :: b :: c :: d :: t, _ => rfl
  | [], hl => simp only [List.length_cons, List.length_nil] at hl; omega
  | [_], hl => simp only [List.length_cons, List.length_nil] at hl; omega
  | [_, _], hl => simp only [List.length_cons, List.length_nil] at hl; omega
  | [_, _, _], hl => simp only [List.length_cons, List.length_nil] at hl; omega
theorem four_not (l : List UInt8) (h : ¬ (l[0]? = some 92 ∧ l[1]? = some 117)) : fourE l = none := by
  unfold fourE
  split
  · rw [if_neg]
    rintro ⟨h1, h2⟩
    subst h1 h2
    exact h ⟨rfl, rfl⟩
  · rfl
/-- what cutEscape answers -/
def CutIs (w : World) (l : List UInt8) (e : Ending) (w' : World) : Prop :=
  ∃ (u k : Int) (rest : ByteArray), e = .returned (.tuple #[.int .i64 u, .int .i64 k, .string rest]) ∧ CutE l u k rest.data.toList ∧ Below w.heap.size w w'

set_option maxHeartbeats 1600000 in
theorem cutEscape_impl (s : ByteArray) (hs : (s.size : Int) ≤ 1048576) (w : World) : Calls Tryd.prog 119 #[.string s] w (CutIs w s.data.toList) := by
  have K1 := Lib.hid (hasPrefix_lib s ⟨#[92, 92]⟩)
  have K2 := Lib.hid (hasPrefix_lib s ⟨#[92, 117]⟩)
  have P1 := Lib.hid (hasPrefix_two s.data.toList 92 92)
  have P2 := Lib.hid (hasPrefix_two s.data.toList 92 117)
  have HL := Lib.hid (Lib.size_eq s)
  by_cases h92 : s.data.toList[0]? = some 92 ∧ s.data.toList[1]? = some 92
  · obtain ⟨t, ht⟩ := two_form h92
    have hsz : 2 ≤ s.size := by rw [HL.out, ht]; simp
    have hsz2 : (2 : Int) ≤ (s.size : Int) := by omega
    have hcut : CutE s.data.toList 92 1 (s.extract 2 s.size).data.toList := .inl ⟨t, ht, rfl, rfl, by rw [extract_rest, ht]; rfl⟩
    have HC := Lib.hid hcut
    have Q1 : Hid (Lib.hasPrefix s.data.toList [92, 92] = true) := by unfold Hid; rw [P1.out, decide_eq_true h92]
    clear h92 ht hcut P1 P2 K2
    go_enter Tryd.func119, Tryd.ntmps119
    go_wp2_with fail
    refine (K1.out _).mono ?_
    rintro e w' ⟨rfl, rfl⟩
    rw [show Lib.hasPrefix s.data.toList (⟨#[92, 92]⟩ : ByteArray).data.toList = true from Q1.out]
    go_wp2_with fail
    go_quiet (fail)
    go_wp2
    go_ret3
    exact ⟨_, _, _, rfl, HC.out, drewQ _⟩
  · have Q1 : Hid (Lib.hasPrefix s.data.toList [92, 92] = false) := by unfold Hid; rw [P1.out, decide_eq_false h92]
    by_cases hu : (s.data.toList[0]? = some 92 ∧ s.data.toList[1]? = some 117)
    · have Q2 : Hid (Lib.hasPrefix s.data.toList [92, 117] = true) := by unfold Hid; rw [P2.out, decide_eq_true hu]
      by_cases h6 : (s.size : Int) < 6
      · have hcut : CutE s.data.toList 0 0 s.data.toList := .inr (.inl ⟨h92, four_short _ (by rw [← Lib.size_eq]; omega), rfl, Nat.le_refl _⟩)
        have HC := Lib.hid hcut
        clear hcut hu h92 P1 P2
        go_enter Tryd.func119, Tryd.ntmps119
        go_wp2_with fail
        refine (K1.out _).mono ?_
        rintro e w' ⟨rfl, rfl⟩
        rw [show Lib.hasPrefix s.data.toList (⟨#[92, 92]⟩ : ByteArray).data.toList = false from Q1.out]
        go_wp2_with fail
        refine (K2.out _).mono ?_
        rintro e w' ⟨rfl, rfl⟩
        rw [show Lib.hasPrefix s.data.toList (⟨#[92, 117]⟩ : ByteArray).data.toList = true from Q2.out]
        go_wp2
        go_ret3
        exact ⟨_, _, _, rfl, HC.out, Below.refl _ _⟩
      · have hf := four_head s hu (by omega)
        have hsz : (6 : Int) ≤ (s.size : Int) := by omega
        have hq1 : decide ((s.size : Int) < 6) = false := decide_eq_false h6
        obtain ⟨z, hz⟩ : ∃ z, orNeg (Pl.readN 16 8 (s.extract 2 6).data.toList) = z := ⟨_, rfl⟩
        have hcut : CutE s.data.toList z (kindI z) (s.extract 6 s.size).data.toList := by
          cases hr : Pl.readN 16 8 (s.extract 2 6).data.toList with
          | none =>
            rw [hr] at hz hf
            refine .inr (.inl ⟨h92, hf, ?_, by rw [extract_rest, List.length_drop]; omega⟩)
            rw [← hz]
            rfl
          | some a =>
            rw [hr] at hz hf
            exact .inr (.inr ⟨h92, a, hf, hz.symm, by rw [← hz]; rfl, extract_rest s 6⟩)
        have HC := Lib.hid hcut
        have HZ := Lib.hid hz
        clear hcut hz hf hu h92 P1 P2 h6
        go_enter Tryd.func119, Tryd.ntmps119
        go_wp2_with fail
        refine (K1.out _).mono ?_
        rintro e w' ⟨rfl, rfl⟩
        rw [show Lib.hasPrefix s.data.toList (⟨#[92, 92]⟩ : ByteArray).data.toList = false from Q1.out]
        go_wp2_with fail
        refine (K2.out _).mono ?_
        rintro e w' ⟨rfl, rfl⟩
        rw [show Lib.hasPrefix s.data.toList (⟨#[92, 117]⟩ : ByteArray).data.toList = true from Q2.out]
        go_wp2_with fail
        refine (readHex_impl _ _).mono ?_
        rintro e w2 ⟨rfl, hb2⟩
        rw [HZ.out]
        have km : Hid (∀ d os, Calls Tryd.prog 128 #[.int .i64 z] (grow (redrawn w2 d) os) fun e w' => e = .returned (.int .i64 (kindI z)) ∧ ∃ p : Regrown, w' = grow (redrawn w2 p.d) p.os) := by
          intro d os
          exact Calls.regrown_of ((kind_impl z _).mono (fun e w' h => ⟨h.1, by rw [← h.2]; exact Below.refl _ _⟩))
        clear K1 K2
        generalize kindI z = kd at *
        go_wp2_with fail
        refine wp_region_quiet_below (by kernel_rfl) (by kernel_rfl) ?_
        repeat (go_big_quiet_step (exact km.out _ _))
        refine wpQuiet_nil ?_
        intro _ hw'
        obtain ⟨⟨dq, osq⟩, hw''⟩ := hw'
        subst hw''
        have hb3 := hb2.trans ((below_regrown w2 dq osq).mono hb2.size)
        generalize grow (redrawn w2 { d := dq, os := osq : Regrown }.d) { d := dq, os := osq : Regrown }.os = w6 at *
        go_wp2
        go_ret3
        exact ⟨_, _, _, rfl, HC.out, hb3⟩
    · have Q2 : Hid (Lib.hasPrefix s.data.toList [92, 117] = false) := by unfold Hid; rw [P2.out, decide_eq_false hu]
      have hcut : CutE s.data.toList 0 0 s.data.toList := .inr (.inl ⟨h92, four_not _ hu, rfl, Nat.le_refl _⟩)
      have HC := Lib.hid hcut
      clear hcut hu h92 P1 P2
      go_enter Tryd.func119, Tryd.ntmps119
      go_wp2_with fail
      refine (K1.out _).mono ?_
      rintro e w' ⟨rfl, rfl⟩
      rw [show Lib.hasPrefix s.data.toList (⟨#[92, 92]⟩ : ByteArray).data.toList = false from Q1.out]
      go_wp2_with fail
      refine (K2.out _).mono ?_
      rintro e w' ⟨rfl, rfl⟩
      rw [show Lib.hasPrefix s.data.toList (⟨#[92, 117]⟩ : ByteArray).data.toList = false from Q2.out]
      go_wp2
      go_ret3
      exact ⟨_, _, _, rfl, HC.out, Below.refl _ _⟩

end Go.Proofs.YtflnpkckdjmljaaDoor
