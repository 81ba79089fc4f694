/- The contract of the model's search for a sign at a place. -/
import Derived.Test.YtflnpkckdjmljaaDoorProg
import Derived.Test.YtflnpkckdjmljaaDoorPlain
import Derived.Test.YtflnpkckdjmljaaDoorRunePure
import Derived.Test.YtflnpkckdjmljaaDoorRuneText
import Derived.WalkKit
import Derived.WalkLawsBesides
import Derived.BigQuiet
import Derived.Deep.QuietTactic
import Derived.Lib.QuietBelow
import Derived.Lib.Hide
import Derived.IntWalk
namespace Go.Proofs.YtflnpkckdjmljaaDoor
open Go.RowKit Go.Sort
set_option linter.unusedVariables false

/-- the number of j bytes from place i on, the first of which told R -/
def FS (s : ByteArray) (i R j : Nat) : Nat := foldR R ((s.data.toList.drop (i + 1)).take (j - 1))
theorem FS_one (s : ByteArray) (i R : Nat) : FS s i R 1 = R := by simp [FS, foldR]
theorem FS_succ (s : ByteArray) (i R j : Nat) (h : i + j < s.size) (hj : 1 ≤ j) : FS s i R (j + 1) = 64 * FS s i R j + s[i + j].toNat % 64 := by
  unfold FS
  obtain ⟨k, rfl⟩ : ∃ k, j = k + 1 := ⟨j - 1, by omega⟩
  have hl := Lib.size_eq s
  have hk : k < (s.data.toList.drop (i + 1)).length := by rw [List.length_drop]; omega
  rw [show k + 1 + 1 - 1 = k + 1 from rfl, show k + 1 - 1 = k from rfl, List.take_succ_eq_append_getElem hk, foldR_snoc]
  have e : (s.data.toList.drop (i + 1))[k] = s[i + (k + 1)] := by
    rw [List.getElem_drop]
    show s.data.toList[i + 1 + k]'_ = s.data[i + (k + 1)]'_
    rw [Array.getElem_toList]
    congr 1
    omega
  rw [e]
theorem foldR_lt (r : Nat) (l : List UInt8) : foldR r l + 1 ≤ (r + 1) * 64 ^ l.length := by
  induction l using Pl.snocInd with
  | nil => simp [foldR]
  | snoc l c ih =>
    rw [foldR_snoc, List.length_append, List.length_cons, List.length_nil, Nat.pow_succ, ← Nat.mul_assoc]
    omega
theorem FS_lt (s : ByteArray) (i R j : Nat) (hR : R < 256) (hj : j ≤ 4) : FS s i R j < 67108864 := by
  unfold FS
  have h1 := foldR_lt R ((s.data.toList.drop (i + 1)).take (j - 1))
  have h2 : ((s.data.toList.drop (i + 1)).take (j - 1)).length ≤ 3 := by rw [List.length_take]; omega
  have h3 : 64 ^ ((s.data.toList.drop (i + 1)).take (j - 1)).length ≤ 64 ^ 3 := Nat.pow_le_pow_right (by decide) h2
  have h4 : (R + 1) * 64 ^ ((s.data.toList.drop (i + 1)).take (j - 1)).length ≤ 256 * 64 ^ 3 := Nat.mul_le_mul (by omega) h3
  omega
theorem drop_at (s : ByteArray) (i : Nat) (h : i < s.size) : s.data.toList.drop i = s[i] :: s.data.toList.drop (i + 1) := by
  have h2 : i < s.data.toList.length := by rw [← Lib.size_eq]; exact h
  rw [List.drop_eq_getElem_cons h2]
  rfl
/-- what l03Next answers -/
def nextRes (l : List UInt8) : Value := match nextS l with
  | none => .tuple #[.int .i64 0, .int .i64 0]
  | some (r, n) => .tuple #[.int .i64 r, .int .i64 n]
theorem next_short (s : ByteArray) (i : Nat) (h : i < s.size) (hs : s.size < i + headN s[i].toNat) : nextRes (s.data.toList.drop i) = .tuple #[.int .i64 0, .int .i64 0] := by
  unfold nextRes
  rw [drop_at s i h, nextS_cons, if_pos (by rw [List.length_drop, ← Lib.size_eq]; have := headN_pos s[i].toNat; omega)]
theorem extract_toList (s : ByteArray) (a b : Nat) : (s.extract a b).data.toList = (s.data.toList.drop a).take (b - a) := by
  simp [ByteArray.data_extract, Array.toList_extract, List.extract_eq_take_drop]
theorem extract_head (s : ByteArray) (i n : Nat) (h : i < s.size) (hn : 1 ≤ n) : (s.extract i (i + n)).data.toList = s[i] :: (s.data.toList.drop (i + 1)).take (n - 1) := by
  rw [extract_toList, drop_at s i h, show i + n - i = n - 1 + 1 from by omega, List.take_succ_cons]
theorem signT_is (F : Nat) (c : UInt8) (t : List UInt8) : signT (F : Int) = c :: t ↔ (isSign F = true ∧ signB F = c :: t) := by
  unfold signT
  by_cases h : isSign F = true
  · rw [if_pos ⟨by omega, by simpa using h⟩, Int.toNat_natCast]
    exact ⟨fun e => ⟨h, e⟩, fun e => e.2⟩
  · rw [if_neg (by rintro ⟨_, h2⟩; exact h (by simpa using h2))]
    exact ⟨fun e => (by cases e), fun e => absurd e.1 h⟩
theorem next_long (s : ByteArray) (i : Nat) (h : i < s.size) (hs : i + headN s[i].toNat ≤ s.size) :
    nextS (s.data.toList.drop i) = if signT (FS s i (headR s[i].toNat) (headN s[i].toNat) : Nat) = (s.extract i (i + headN s[i].toNat)).data.toList then some (FS s i (headR s[i].toNat) (headN s[i].toNat), headN s[i].toNat) else none := by
  have hp := (headN_pos s[i].toNat).1
  rw [extract_head s i _ h hp, drop_at s i h, nextS_cons, if_neg (by rw [List.length_drop, ← Lib.size_eq]; omega)]
  unfold FS
  by_cases hh : isSign (foldR (headR s[i].toNat) ((s.data.toList.drop (i + 1)).take (headN s[i].toNat - 1))) = true ∧ signB (foldR (headR s[i].toNat) ((s.data.toList.drop (i + 1)).take (headN s[i].toNat - 1))) = s[i] :: (s.data.toList.drop (i + 1)).take (headN s[i].toNat - 1)
  · rw [if_pos hh, if_pos ((signT_is _ _ _).2 hh)]
  · rw [if_neg hh, if_neg (fun e => hh ((signT_is _ _ _).1 e))]
theorem next_yes (s : ByteArray) (i : Nat) (h : i < s.size) (hs : i + headN s[i].toNat ≤ s.size) (he : signT (FS s i (headR s[i].toNat) (headN s[i].toNat) : Nat) = (s.extract i (i + headN s[i].toNat)).data.toList) :
    nextRes (s.data.toList.drop i) = .tuple #[.int .i64 (FS s i (headR s[i].toNat) (headN s[i].toNat) : Nat), .int .i64 (headN s[i].toNat : Nat)] := by
  unfold nextRes
  rw [next_long s i h hs, if_pos he]
theorem next_no (s : ByteArray) (i : Nat) (h : i < s.size) (hs : i + headN s[i].toNat ≤ s.size) (he : signT (FS s i (headR s[i].toNat) (headN s[i].toNat) : Nat) ≠ (s.extract i (i + headN s[i].toNat)).data.toList) :
    nextRes (s.data.toList.drop i) = .tuple #[.int .i64 0, .int .i64 0] := by
  unfold nextRes
  rw [next_long s i h hs, if_neg he]
theorem beq_of_lists (l : List UInt8) (b : ByteArray) : (l == b.toList) = decide (l = b.data.toList) := by
  rw [Lib.toList_data]
  by_cases h : l = b.data.toList
  · rw [decide_eq_true h]; simpa using h
  · rw [decide_eq_false h, beq_eq_false_iff_ne]; simpa using h

theorem index_sum (s : ByteArray) (i j : Nat) (h : i + j < s.size) (W : World) : (Instr.index 9 (.string s) (.int .i64 ((i : Int) + (j : Int)))).run Tryd.prog W = .ok (.int .u8 (s[i + j].toNat : Int)) W := by
  rw [run_index_string (h := Tryd.underlying9)]
  have e1 : ((i : Int) + (j : Int)).toNat = i + j := by omega
  rw [dif_pos ⟨by omega, by omega⟩]
  simp only [e1]

set_option maxRecDepth 100000 in
set_option maxHeartbeats 3200000 in
theorem next_spec (s : ByteArray) (i : Nat) (hi : i < s.size) (hs : s.size ≤ 100000000) (w : World) :
    Calls Tryd.prog 60 #[.string s, .int .i64 i] w fun e w' => e = .returned (nextRes (s.data.toList.drop i)) ∧ Below w.heap.size w w' := by
  have hs9 : (s.size : Int) ≤ 100000000 := by omega
  have hiz : (i : Int) < (s.size : Int) := by omega
  have hx := Lib.hid (next_short s i hi)
  have hy := Lib.hid (next_yes s i hi)
  have hz := Lib.hid (next_no s i hi)
  have hc8 := s[i].toNat_lt
  have HS := Lib.hid hs
  clear hs
  by_cases a4 : 240 ≤ s[i].toNat
  · have hN : headN s[i].toNat = 4 := by unfold headN; rw [if_pos a4]
    have hR : headR s[i].toNat = s[i].toNat % 8 := by unfold headR; rw [if_pos a4]
    rw [hN] at hx hy hz
    rw [hR] at hy hz
    have hRb : s[i].toNat % 8 < 256 := by omega
    have HRB := Lib.hid hRb
    clear hN hR hRb
    generalize hcc : s[i].toNat = c at *
    have az : (240 : Int) ≤ (c : Int) := by omega
    by_cases hlen : (s.size : Int) < (i : Int) + 4
    · have h3 := Lib.hid (hx.out (by omega))
      clear hx hy hz
      go_enter Tryd.func60, Tryd.ntmps60
      go_wp2
      go_ret2
      exact ⟨by rw [h3.out]; rfl, Below.refl _ _⟩
    · have hlen2 : Hid (i + 4 ≤ s.size) := by unfold Hid; omega
      go_enter Tryd.func60, Tryd.ntmps60
      go_wp2
      go_loop [8, 9] (fun r k => ∃ j : Nat, 1 ≤ j ∧ j ≤ 4 ∧ k = .int .i64 j ∧ r = .int .i64 (FS s i (c % 8) j : Nat)) (fun _ k => 4 - (intOf k).toNat)
      case atStart => exact ⟨1, by decide, by decide, rfl, by rw [FS_one]; go_num⟩
      case round =>
        obtain ⟨j, hj1, hj2, rfl, rfl⟩ := hrel
        by_cases hlt : j < 4
        · have hij : i + j < s.size := by have := hlen2.out; omega
          have hix := index_sum s i j hij
          have hF := Lib.hid (FS_succ s i (c % 8) j hij hj1)
          obtain ⟨f, hf⟩ : ∃ f : Int, f = (FS s i (c % 8) j : Nat) := ⟨_, rfl⟩
          have hFb : f < 67108864 := by have := FS_lt s i (c % 8) j HRB.out (by omega); omega
          have hF0 : 0 ≤ f := by omega
          rw [← hf]
          have HF := Lib.hid hf
          clear hf
          have hb8 := s[i + j].toNat_lt
          have hijz : (i : Int) + (j : Int) < s.size := by omega
          generalize s[i + j].toNat = b at *
          have hb9 : (b : Int) < 256 := by omega
          clear hx hy hz hij hb8
          go_wp2
          go_round
          case rel => exact ⟨j + 1, by omega, by omega, by go_num, by rw [hF.out, Int.natCast_add, Int.natCast_mul, ← HF.out]; go_num⟩
          case measure => simp [intOf]; omega
        · obtain rfl : j = 4 := by omega
          have hcmp := beq_of_lists (signT (FS s i (c % 8) 4 : Nat)) (s.extract i (i + 4))
          have e1 : IntKind.i64.wrap ((i : Int) + 4) = (i : Int) + 4 := by rw [IntKind.wrap_i64]; omega
          have e2 : ((i : Int) + 4).toNat = i + 4 := by omega
          have e3 : (i : Int) + 4 ≤ (s.size : Int) := by omega
          have e4 : (i : Int) ≤ (i : Int) + 4 := by omega
          have e5 : (0 : Int) ≤ (i : Int) := by omega
          have km : Hid (∀ d os, Calls Tryd.prog 77 #[.int .i64 (FS s i (c % 8) 4 : Nat)] (grow (redrawn w d) os) fun e w' => e = .returned (.string ⟨(signT (FS s i (c % 8) 4 : Nat)).toArray⟩) ∧ ∃ p : Regrown, w' = grow (redrawn w p.d) p.os) := by
            intro d os
            exact Calls.regrown_of (signText_spec _ _)
          by_cases he : signT (FS s i (c % 8) 4 : Nat) = (s.extract i (i + 4)).data.toList
          · have h3 := Lib.hid (hy.out hlen2.out he)
            rw [decide_eq_true he] at hcmp
            clear hx hy hz he
            generalize FS s i (c % 8) 4 = f at *
            generalize signT (f : Int) = tf at *
            go_wp2_with fail
            refine wp_region_quiet_below (by kernel_rfl) (by kernel_rfl) ?_
            repeat (go_big_quiet_step (exact km.out _ _))
            refine wpQuiet_nil ?_
            intro _ hw'
            obtain ⟨⟨dq, osq⟩, hw''⟩ := hw'
            subst hw''
            have hb2 := below_regrown w dq osq
            generalize grow (redrawn w { d := dq, os := osq : Regrown }.d) { d := dq, os := osq : Regrown }.os = w6 at *
            clear hs9 e1 e2 e3 e4 e5 km hlen2 HRB HS
            go_wp2
            go_ret2
            exact ⟨by rw [h3.out]; rfl, hb2⟩
          · have h3 := Lib.hid (hz.out hlen2.out he)
            rw [decide_eq_false he] at hcmp
            clear hx hy hz he
            generalize FS s i (c % 8) 4 = f at *
            generalize signT (f : Int) = tf at *
            go_wp2_with fail
            refine wp_region_quiet_below (by kernel_rfl) (by kernel_rfl) ?_
            repeat (go_big_quiet_step (exact km.out _ _))
            refine wpQuiet_nil ?_
            intro _ hw'
            obtain ⟨⟨dq, osq⟩, hw''⟩ := hw'
            subst hw''
            have hb2 := below_regrown w dq osq
            generalize grow (redrawn w { d := dq, os := osq : Regrown }.d) { d := dq, os := osq : Regrown }.os = w6 at *
            clear hs9 e1 e2 e3 e4 e5 km hlen2 HRB HS
            go_wp2
            go_ret2
            exact ⟨by rw [h3.out]; rfl, hb2⟩
  · by_cases a3 : 224 ≤ s[i].toNat
    · have hN : headN s[i].toNat = 3 := by unfold headN; rw [if_neg a4, if_pos a3]
      have hR : headR s[i].toNat = s[i].toNat % 16 := by unfold headR; rw [if_neg a4, if_pos a3]
      rw [hN] at hx hy hz
      rw [hR] at hy hz
      have hRb : s[i].toNat % 16 < 256 := by omega
      have HRB := Lib.hid hRb
      clear hN hR hRb
      generalize hcc : s[i].toNat = c at *
      have az : (c : Int) < 240 := by omega
      have bz : (224 : Int) ≤ (c : Int) := by omega
      by_cases hlen : (s.size : Int) < (i : Int) + 3
      · have h3 := Lib.hid (hx.out (by omega))
        clear hx hy hz
        go_enter Tryd.func60, Tryd.ntmps60
        go_wp2
        go_ret2
        exact ⟨by rw [h3.out]; rfl, Below.refl _ _⟩
      · have hlen2 : Hid (i + 3 ≤ s.size) := by unfold Hid; omega
        go_enter Tryd.func60, Tryd.ntmps60
        go_wp2
        go_loop [8, 9] (fun r k => ∃ j : Nat, 1 ≤ j ∧ j ≤ 3 ∧ k = .int .i64 j ∧ r = .int .i64 (FS s i (c % 16) j : Nat)) (fun _ k => 3 - (intOf k).toNat)
        case atStart => exact ⟨1, by decide, by decide, rfl, by rw [FS_one]; go_num⟩
        case round =>
          obtain ⟨j, hj1, hj2, rfl, rfl⟩ := hrel
          by_cases hlt : j < 3
          · have hij : i + j < s.size := by have := hlen2.out; omega
            have hix := index_sum s i j hij
            have hF := Lib.hid (FS_succ s i (c % 16) j hij hj1)
            obtain ⟨f, hf⟩ : ∃ f : Int, f = (FS s i (c % 16) j : Nat) := ⟨_, rfl⟩
            have hFb : f < 67108864 := by have := FS_lt s i (c % 16) j HRB.out (by omega); omega
            have hF0 : 0 ≤ f := by omega
            rw [← hf]
            have HF := Lib.hid hf
            clear hf
            have hb8 := s[i + j].toNat_lt
            have hijz : (i : Int) + (j : Int) < s.size := by omega
            generalize s[i + j].toNat = b at *
            have hb9 : (b : Int) < 256 := by omega
            clear hx hy hz hij hb8
            go_wp2
            go_round
            case rel => exact ⟨j + 1, by omega, by omega, by go_num, by rw [hF.out, Int.natCast_add, Int.natCast_mul, ← HF.out]; go_num⟩
            case measure => simp [intOf]; omega
          · obtain rfl : j = 3 := by omega
            have hcmp := beq_of_lists (signT (FS s i (c % 16) 3 : Nat)) (s.extract i (i + 3))
            have e1 : IntKind.i64.wrap ((i : Int) + 3) = (i : Int) + 3 := by rw [IntKind.wrap_i64]; omega
            have e2 : ((i : Int) + 3).toNat = i + 3 := by omega
            have e3 : (i : Int) + 3 ≤ (s.size : Int) := by omega
            have e4 : (i : Int) ≤ (i : Int) + 3 := by omega
            have e5 : (0 : Int) ≤ (i : Int) := by omega
            have km : Hid (∀ d os, Calls Tryd.prog 77 #[.int .i64 (FS s i (c % 16) 3 : Nat)] (grow (redrawn w d) os) fun e w' => e = .returned (.string ⟨(signT (FS s i (c % 16) 3 : Nat)).toArray⟩) ∧ ∃ p : Regrown, w' = grow (redrawn w p.d) p.os) := by
              intro d os
              exact Calls.regrown_of (signText_spec _ _)
            by_cases he : signT (FS s i (c % 16) 3 : Nat) = (s.extract i (i + 3)).data.toList
            · have h3 := Lib.hid (hy.out hlen2.out he)
              rw [decide_eq_true he] at hcmp
              clear hx hy hz he
              generalize FS s i (c % 16) 3 = f at *
              generalize signT (f : Int) = tf at *
              go_wp2_with fail
              refine wp_region_quiet_below (by kernel_rfl) (by kernel_rfl) ?_
              repeat (go_big_quiet_step (exact km.out _ _))
              refine wpQuiet_nil ?_
              intro _ hw'
              obtain ⟨⟨dq, osq⟩, hw''⟩ := hw'
              subst hw''
              have hb2 := below_regrown w dq osq
              generalize grow (redrawn w { d := dq, os := osq : Regrown }.d) { d := dq, os := osq : Regrown }.os = w6 at *
              clear hs9 e1 e2 e3 e4 e5 km hlen2 HRB HS
              go_wp2
              go_ret2
              exact ⟨by rw [h3.out]; rfl, hb2⟩
            · have h3 := Lib.hid (hz.out hlen2.out he)
              rw [decide_eq_false he] at hcmp
              clear hx hy hz he
              generalize FS s i (c % 16) 3 = f at *
              generalize signT (f : Int) = tf at *
              go_wp2_with fail
              refine wp_region_quiet_below (by kernel_rfl) (by kernel_rfl) ?_
              repeat (go_big_quiet_step (exact km.out _ _))
              refine wpQuiet_nil ?_
              intro _ hw'
              obtain ⟨⟨dq, osq⟩, hw''⟩ := hw'
              subst hw''
              have hb2 := below_regrown w dq osq
              generalize grow (redrawn w { d := dq, os := osq : Regrown }.d) { d := dq, os := osq : Regrown }.os = w6 at *
              clear hs9 e1 e2 e3 e4 e5 km hlen2 HRB HS
              go_wp2
              go_ret2
              exact ⟨by rw [h3.out]; rfl, hb2⟩
    · by_cases a2 : 192 ≤ s[i].toNat
      · have hN : headN s[i].toNat = 2 := by unfold headN; rw [if_neg a4, if_neg a3, if_pos a2]
        have hR : headR s[i].toNat = s[i].toNat % 32 := by unfold headR; rw [if_neg a4, if_neg a3, if_pos a2]
        rw [hN] at hx hy hz
        rw [hR] at hy hz
        have hRb : s[i].toNat % 32 < 256 := by omega
        have HRB := Lib.hid hRb
        clear hN hR hRb
        generalize hcc : s[i].toNat = c at *
        have az : (c : Int) < 224 := by omega
        have bz : (192 : Int) ≤ (c : Int) := by omega
        by_cases hlen : (s.size : Int) < (i : Int) + 2
        · have h3 := Lib.hid (hx.out (by omega))
          clear hx hy hz
          go_enter Tryd.func60, Tryd.ntmps60
          go_wp2
          go_ret2
          exact ⟨by rw [h3.out]; rfl, Below.refl _ _⟩
        · have hlen2 : Hid (i + 2 ≤ s.size) := by unfold Hid; omega
          go_enter Tryd.func60, Tryd.ntmps60
          go_wp2
          go_loop [8, 9] (fun r k => ∃ j : Nat, 1 ≤ j ∧ j ≤ 2 ∧ k = .int .i64 j ∧ r = .int .i64 (FS s i (c % 32) j : Nat)) (fun _ k => 2 - (intOf k).toNat)
          case atStart => exact ⟨1, by decide, by decide, rfl, by rw [FS_one]; go_num⟩
          case round =>
            obtain ⟨j, hj1, hj2, rfl, rfl⟩ := hrel
            by_cases hlt : j < 2
            · have hij : i + j < s.size := by have := hlen2.out; omega
              have hix := index_sum s i j hij
              have hF := Lib.hid (FS_succ s i (c % 32) j hij hj1)
              obtain ⟨f, hf⟩ : ∃ f : Int, f = (FS s i (c % 32) j : Nat) := ⟨_, rfl⟩
              have hFb : f < 67108864 := by have := FS_lt s i (c % 32) j HRB.out (by omega); omega
              have hF0 : 0 ≤ f := by omega
              rw [← hf]
              have HF := Lib.hid hf
              clear hf
              have hb8 := s[i + j].toNat_lt
              have hijz : (i : Int) + (j : Int) < s.size := by omega
              generalize s[i + j].toNat = b at *
              have hb9 : (b : Int) < 256 := by omega
              clear hx hy hz hij hb8
              go_wp2
              go_round
              case rel => exact ⟨j + 1, by omega, by omega, by go_num, by rw [hF.out, Int.natCast_add, Int.natCast_mul, ← HF.out]; go_num⟩
              case measure => simp [intOf]; omega
            · obtain rfl : j = 2 := by omega
              have hcmp := beq_of_lists (signT (FS s i (c % 32) 2 : Nat)) (s.extract i (i + 2))
              have e1 : IntKind.i64.wrap ((i : Int) + 2) = (i : Int) + 2 := by rw [IntKind.wrap_i64]; omega
              have e2 : ((i : Int) + 2).toNat = i + 2 := by omega
              have e3 : (i : Int) + 2 ≤ (s.size : Int) := by omega
              have e4 : (i : Int) ≤ (i : Int) + 2 := by omega
              have e5 : (0 : Int) ≤ (i : Int) := by omega
              have km : Hid (∀ d os, Calls Tryd.prog 77 #[.int .i64 (FS s i (c % 32) 2 : Nat)] (grow (redrawn w d) os) fun e w' => e = .returned (.string ⟨(signT (FS s i (c % 32) 2 : Nat)).toArray⟩) ∧ ∃ p : Regrown, w' = grow (redrawn w p.d) p.os) := by
                intro d os
                exact Calls.regrown_of (signText_spec _ _)
              by_cases he : signT (FS s i (c % 32) 2 : Nat) = (s.extract i (i + 2)).data.toList
              · have h3 := Lib.hid (hy.out hlen2.out he)
                rw [decide_eq_true he] at hcmp
                clear hx hy hz he
                generalize FS s i (c % 32) 2 = f at *
                generalize signT (f : Int) = tf at *
                go_wp2_with fail
                refine wp_region_quiet_below (by kernel_rfl) (by kernel_rfl) ?_
                repeat (go_big_quiet_step (exact km.out _ _))
                refine wpQuiet_nil ?_
                intro _ hw'
                obtain ⟨⟨dq, osq⟩, hw''⟩ := hw'
                subst hw''
                have hb2 := below_regrown w dq osq
                generalize grow (redrawn w { d := dq, os := osq : Regrown }.d) { d := dq, os := osq : Regrown }.os = w6 at *
                clear hs9 e1 e2 e3 e4 e5 km hlen2 HRB HS
                go_wp2
                go_ret2
                exact ⟨by rw [h3.out]; rfl, hb2⟩
              · have h3 := Lib.hid (hz.out hlen2.out he)
                rw [decide_eq_false he] at hcmp
                clear hx hy hz he
                generalize FS s i (c % 32) 2 = f at *
                generalize signT (f : Int) = tf at *
                go_wp2_with fail
                refine wp_region_quiet_below (by kernel_rfl) (by kernel_rfl) ?_
                repeat (go_big_quiet_step (exact km.out _ _))
                refine wpQuiet_nil ?_
                intro _ hw'
                obtain ⟨⟨dq, osq⟩, hw''⟩ := hw'
                subst hw''
                have hb2 := below_regrown w dq osq
                generalize grow (redrawn w { d := dq, os := osq : Regrown }.d) { d := dq, os := osq : Regrown }.os = w6 at *
                clear hs9 e1 e2 e3 e4 e5 km hlen2 HRB HS
                go_wp2
                go_ret2
                exact ⟨by rw [h3.out]; rfl, hb2⟩
      · have hN : headN s[i].toNat = 1 := by unfold headN; rw [if_neg a4, if_neg a3, if_neg a2]
        have hR : headR s[i].toNat = s[i].toNat := by unfold headR; simp [a4, a3, a2]
        rw [hN] at hx hy hz
        rw [hR] at hy hz
        have hRb : s[i].toNat < 256 := by omega
        have HRB := Lib.hid hRb
        clear hN hR hRb
        generalize hcc : s[i].toNat = c at *
        have az : (c : Int) < 192 := by omega
        have hlen2 : Hid (i + 1 ≤ s.size) := by unfold Hid; omega
        go_enter Tryd.func60, Tryd.ntmps60
        go_wp2
        go_loop [8, 9] (fun r k => ∃ j : Nat, 1 ≤ j ∧ j ≤ 1 ∧ k = .int .i64 j ∧ r = .int .i64 (FS s i (c) j : Nat)) (fun _ k => 1 - (intOf k).toNat)
        case atStart => exact ⟨1, by decide, by decide, rfl, by rw [FS_one]⟩
        case round =>
          obtain ⟨j, hj1, hj2, rfl, rfl⟩ := hrel
          obtain rfl : j = 1 := by omega
          have hcmp := beq_of_lists (signT (FS s i (c) 1 : Nat)) (s.extract i (i + 1))
          have e1 : IntKind.i64.wrap ((i : Int) + 1) = (i : Int) + 1 := by rw [IntKind.wrap_i64]; omega
          have e2 : ((i : Int) + 1).toNat = i + 1 := by omega
          have e3 : (i : Int) + 1 ≤ (s.size : Int) := by omega
          have e4 : (i : Int) ≤ (i : Int) + 1 := by omega
          have e5 : (0 : Int) ≤ (i : Int) := by omega
          have km : Hid (∀ d os, Calls Tryd.prog 77 #[.int .i64 (FS s i (c) 1 : Nat)] (grow (redrawn w d) os) fun e w' => e = .returned (.string ⟨(signT (FS s i (c) 1 : Nat)).toArray⟩) ∧ ∃ p : Regrown, w' = grow (redrawn w p.d) p.os) := by
            intro d os
            exact Calls.regrown_of (signText_spec _ _)
          by_cases he : signT (FS s i (c) 1 : Nat) = (s.extract i (i + 1)).data.toList
          · have h3 := Lib.hid (hy.out hlen2.out he)
            rw [decide_eq_true he] at hcmp
            clear hx hy hz he
            generalize FS s i (c) 1 = f at *
            generalize signT (f : Int) = tf at *
            go_wp2_with fail
            refine wp_region_quiet_below (by kernel_rfl) (by kernel_rfl) ?_
            repeat (go_big_quiet_step (exact km.out _ _))
            refine wpQuiet_nil ?_
            intro _ hw'
            obtain ⟨⟨dq, osq⟩, hw''⟩ := hw'
            subst hw''
            have hb2 := below_regrown w dq osq
            generalize grow (redrawn w { d := dq, os := osq : Regrown }.d) { d := dq, os := osq : Regrown }.os = w6 at *
            clear hs9 e1 e2 e3 e4 e5 km hlen2 HRB HS
            go_wp2
            go_ret2
            exact ⟨by rw [h3.out]; rfl, hb2⟩
          · have h3 := Lib.hid (hz.out hlen2.out he)
            rw [decide_eq_false he] at hcmp
            clear hx hy hz he
            generalize FS s i (c) 1 = f at *
            generalize signT (f : Int) = tf at *
            go_wp2_with fail
            refine wp_region_quiet_below (by kernel_rfl) (by kernel_rfl) ?_
            repeat (go_big_quiet_step (exact km.out _ _))
            refine wpQuiet_nil ?_
            intro _ hw'
            obtain ⟨⟨dq, osq⟩, hw''⟩ := hw'
            subst hw''
            have hb2 := below_regrown w dq osq
            generalize grow (redrawn w { d := dq, os := osq : Regrown }.d) { d := dq, os := osq : Regrown }.os = w6 at *
            clear hs9 e1 e2 e3 e4 e5 km hlen2 HRB HS
            go_wp2
            go_ret2
            exact ⟨by rw [h3.out]; rfl, hb2⟩

end Go.Proofs.YtflnpkckdjmljaaDoor
