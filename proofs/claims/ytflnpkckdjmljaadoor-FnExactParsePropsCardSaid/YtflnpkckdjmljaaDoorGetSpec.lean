/- Escapes read: the contracts of the model's GetEscapes and of what it calls. -/
import Derived.Test.YtflnpkckdjmljaaDoorProg
import Derived.Test.YtflnpkckdjmljaaDoorPlain
import Derived.Test.YtflnpkckdjmljaaDoorHex
import Derived.Test.YtflnpkckdjmljaaDoorSign
import Derived.Test.YtflnpkckdjmljaaDoorReadInt
import Derived.Test.YtflnpkckdjmljaaDoorRunePure
import Derived.Test.YtflnpkckdjmljaaDoorRuneText
import Derived.Test.YtflnpkckdjmljaaDoorInts
import Derived.Test.YtflnpkckdjmljaaDoorBuild
import Derived.Test.YtflnpkckdjmljaaDoorTextOf
import Derived.Test.YtflnpkckdjmljaaDoorNextSpec
import Derived.Test.YtflnpkckdjmljaaDoorSigns
import Derived.Test.YtflnpkckdjmljaaDoorPutEsc
import Derived.Test.YtflnpkckdjmljaaDoorGetPure
import Derived.WalkKit
import Derived.WalkLawsBesides
import Derived.OwnWalk
import Derived.Lib.AppendStr
import Derived.Lib.Hide
import Derived.IntWalk
namespace Go.Proofs.YtflnpkckdjmljaaDoor
open Go.RowKit
set_option linter.unusedVariables false

theorem index_next (s : ByteArray) (i : Nat) (h : i + 1 < s.size) (W : World) : (Instr.index 9 (.string s) (.int .i64 ((i : Int) + 1))).run Tryd.prog W = .ok (.int .u8 (s[i + 1].toNat : Int)) W := by
  rw [run_index_string (h := Tryd.underlying9)]
  have e1 : ((i : Int) + 1).toNat = i + 1 := by omega
  rw [dif_pos ⟨by omega, by omega⟩]
  simp only [e1]
theorem slice_four (s : ByteArray) (i : Nat) (h : i + 6 ≤ s.size) (W : World) : (Instr.slice 9 (.string s) (some (.int .i64 ((i : Int) + 2))) (some (.int .i64 ((i : Int) + 6))) none).run Tryd.prog W = .ok (.string (s.extract (i + 2) (i + 6))) W := by
  rw [run_slice_string (h := Tryd.underlying9) (h0 := by omega) (h1 := by omega) (h2 := by omega)]
  have e1 : ((i : Int) + 2).toNat = i + 2 := by omega
  have e2 : ((i : Int) + 6).toNat = i + 6 := by omega
  rw [e1, e2]
theorem byte_ne {c d : UInt8} (h : c ≠ d) : ((c.toNat : Int) != (d.toNat : Int)) = true := by
  rw [bne_iff_ne]; intro e; exact h (UInt8.toNat_inj.1 (Int.ofNat_inj.1 e))
theorem byte_ne2 {c d : UInt8} (h : c ≠ d) : ((c.toNat : Int) == (d.toNat : Int)) = false := by
  rw [beq_eq_false_iff_ne]; intro e; exact h (UInt8.toNat_inj.1 (Int.ofNat_inj.1 e))

set_option maxHeartbeats 800000 in
theorem four_spec (s : ByteArray) (i : Nat) (hs : UpTo s.size 100000000) (hi : UpTo i 100000012) (w : World) :
    Calls Tryd.prog 96 #[.string s, .int .i64 i] w fun e w' => e = .returned (.int .i64 (orNeg (fourE (s.data.toList.drop i)))) ∧ w = w' := by
  have hi9 : (i : Int) ≤ 100000012 := by unfold UpTo at hi; omega
  have hs9 : (s.size : Int) ≤ 100000000 := by unfold UpTo at hs; omega
  by_cases hl : (s.size : Int) < (i : Int) + 6
  · have h3 := Lib.hid (four_drop_short s i (by omega))
    go_enter Tryd.func96, Tryd.ntmps96
    go_wp2
    go_ret
    exact ⟨by rw [h3.out]; rfl, rfl⟩
  · have hfa := four_at s i (by omega)
    have hlt : i < s.size := by omega
    have hlt1 : i + 1 < s.size := by omega
    by_cases h1 : s[i] = 92
    · have b1 : ((s[i].toNat : Int) != 92) = false := by rw [h1]; rfl
      have hix := index_next s i hlt1
      by_cases h2 : s[i + 1] = 117
      · have b2 : ((s[i + 1].toNat : Int) != 117) = false := by rw [h2]; rfl
        rw [if_pos ⟨h1, h2⟩] at hfa
        have h3 := Lib.hid hfa
        have hsl := slice_four s i (by omega)
        clear hfa h1 h2
        generalize s[i + 1].toNat = c1 at *
        go_enter Tryd.func96, Tryd.ntmps96
        go_wp2_with fail
        refine (readHex_spec _ _).mono ?_
        rintro e w' ⟨rfl, rfl⟩
        obtain ⟨z, hz⟩ : ∃ z, orNeg (Pl.readN 16 8 (s.extract (i + 2) (i + 6)).data.toList) = z := ⟨_, rfl⟩
        rw [hz]
        have HZ := Lib.hid hz
        clear hsl hz
        go_wp2
        go_ret
        exact ⟨by rw [h3.out, HZ.out]; rfl, rfl⟩
      · have b2 : ((s[i + 1].toNat : Int) != 117) = true := byte_ne (d := 117) h2
        rw [if_neg (fun h => h2 h.2)] at hfa
        have h3 := Lib.hid hfa
        clear hfa h1 h2
        generalize s[i + 1].toNat = c1 at *
        go_enter Tryd.func96, Tryd.ntmps96
        go_wp2
        go_ret
        exact ⟨by rw [h3.out]; rfl, rfl⟩
    · have b1 : ((s[i].toNat : Int) != 92) = true := byte_ne (d := 92) h1
      rw [if_neg (fun h => h1 h.1)] at hfa
      have h3 := Lib.hid hfa
      clear hfa h1
      go_enter Tryd.func96, Tryd.ntmps96
      go_wp2
      go_ret
      exact ⟨by rw [h3.out]; rfl, rfl⟩

/-- what l03Escape answers -/
def escRes (l : List UInt8) : Value := match escapeE l with
  | none => .tuple #[.int .i64 0, .int .i64 0]
  | some (r, n) => .tuple #[.int .i64 r, .int .i64 n]
theorem escRes_none {l : List UInt8} (h : escapeE l = none) : escRes l = .tuple #[.int .i64 0, .int .i64 0] := by unfold escRes; rw [h]
theorem escRes_some {l : List UInt8} {r n : Nat} (h : escapeE l = some (r, n)) : escRes l = .tuple #[.int .i64 r, .int .i64 n] := by unfold escRes; rw [h]

set_option maxHeartbeats 800000 in
theorem escape_spec (s : ByteArray) (i : Nat) (hs : UpTo s.size 100000000) (hi : i < s.size) (w : World) :
    Calls Tryd.prog 76 #[.string s, .int .i64 i] w fun e w' => e = .returned (escRes (s.data.toList.drop i)) ∧ w = w' := by
  have K := Lib.hid (four_spec s i hs (by unfold UpTo at *; omega))
  have K6 := Lib.hid (four_spec s (i + 6) hs (by unfold UpTo at *; omega))
  have e6 : (((i + 6 : Nat)) : Int) = (i : Int) + 6 := by omega
  rw [e6] at K6
  have hi9 : (i : Int) ≤ 100000000 := by unfold UpTo at hs; omega
  have hd : s.data.toList.drop (i + 6) = (s.data.toList.drop i).drop 6 := by rw [List.drop_drop]
  rw [hd] at K6
  clear hs hi e6 hd
  generalize s.data.toList.drop i = l at *
  cases hf : fourE l with
  | none =>
    have h3 := Lib.hid (escRes_none (escape_none_four hf))
    have HF := Lib.hid hf
    clear hf K6
    go_enter Tryd.func76, Tryd.ntmps76
    go_wp2_with fail
    refine (K.out _).mono ?_
    rintro e w' ⟨rfl, rfl⟩
    rw [HF.out, show orNeg none = -1 from rfl]
    go_wp2
    go_ret2
    exact ⟨by rw [h3.out]; rfl, rfl⟩
  | some a =>
    have ha := four_lt hf
    have HF := Lib.hid hf
    obtain ⟨z, hz⟩ : ∃ z : Int, z = (a : Int) := ⟨_, rfl⟩
    have hz0 : 0 ≤ z := by omega
    have hz1 : z < 65536 := by omega
    by_cases h1 : 56320 ≤ z ∧ z ≤ 57343
    · have h3 := Lib.hid (escRes_none (escape_second hf (by omega)))
      have h1a := h1.1
      have h1b := h1.2
      have HZ := Lib.hid hz
      clear hf K6 ha h1 hz
      go_enter Tryd.func76, Tryd.ntmps76
      go_wp2_with fail
      refine (K.out _).mono ?_
      rintro e w' ⟨rfl, rfl⟩
      rw [HF.out, show orNeg (some a) = (a : Int) from rfl, ← HZ.out]
      go_wp2_with fail
      refine (in_yes _ _ _ _ h1a h1b).mono ?_
      rintro e w' ⟨rfl, rfl⟩
      go_wp2
      go_ret2
      exact ⟨by rw [h3.out]; rfl, rfl⟩
    · by_cases h2 : 55296 ≤ z ∧ z ≤ 56319
      · have h2a := h2.1
        have h2b := h2.2
        have N1 : Hid (z < 56320 ∨ 57343 < z) := by unfold Hid; omega
        cases hf2 : fourE (l.drop 6) with
        | none =>
          have h3 := Lib.hid (escRes_none (escape_first_none hf (by omega) hf2))
          have HF2 := Lib.hid hf2
          have HZ := Lib.hid hz
          clear hf hf2 ha h1 h2 hz
          go_enter Tryd.func76, Tryd.ntmps76
          go_wp2_with fail
          refine (K.out _).mono ?_
          rintro e w' ⟨rfl, rfl⟩
          rw [HF.out, show orNeg (some a) = (a : Int) from rfl, ← HZ.out]
          go_wp2_with fail
          refine (in_no _ _ _ _ N1.out).mono ?_
          rintro e w' ⟨rfl, rfl⟩
          go_wp2_with fail
          refine (in_yes _ _ _ _ h2a h2b).mono ?_
          rintro e w' ⟨rfl, rfl⟩
          go_wp2_with fail
          refine (K6.out _).mono ?_
          rintro e w' ⟨rfl, rfl⟩
          rw [HF2.out, show orNeg none = -1 from rfl]
          go_wp2_with fail
          refine (in_no _ _ _ _ (by omega)).mono ?_
          rintro e w' ⟨rfl, rfl⟩
          go_wp2
          go_ret2
          exact ⟨by rw [h3.out]; rfl, rfl⟩
        | some b =>
          have hb := four_lt hf2
          obtain ⟨y, hy⟩ : ∃ y : Int, y = (b : Int) := ⟨_, rfl⟩
          have hy0 : 0 ≤ y := by omega
          have hy1 : y < 65536 := by omega
          by_cases h4 : 56320 ≤ y ∧ y ≤ 57343
          · have h3 := Lib.hid (escRes_some (escape_two hf (by omega) hf2 (by omega)))
            have HV : Hid (((65536 + 1024 * (a - 55296) + (b - 56320) : Nat) : Int) = 65536 + 1024 * (z - 55296) + y - 56320) := by unfold Hid; omega
            have HF2 := Lib.hid hf2
            have HZ := Lib.hid hz
            have HY := Lib.hid hy
            have h4a := h4.1
            have h4b := h4.2
            clear hf hf2 ha h1 h2 hz hy hb h4
            go_enter Tryd.func76, Tryd.ntmps76
            go_wp2_with fail
            refine (K.out _).mono ?_
            rintro e w' ⟨rfl, rfl⟩
            rw [HF.out, show orNeg (some a) = (a : Int) from rfl, ← HZ.out]
            go_wp2_with fail
            refine (in_no _ _ _ _ N1.out).mono ?_
            rintro e w' ⟨rfl, rfl⟩
            go_wp2_with fail
            refine (in_yes _ _ _ _ h2a h2b).mono ?_
            rintro e w' ⟨rfl, rfl⟩
            go_wp2_with fail
            refine (K6.out _).mono ?_
            rintro e w' ⟨rfl, rfl⟩
            rw [HF2.out, show orNeg (some b) = (b : Int) from rfl, ← HY.out]
            go_wp2_with fail
            refine (in_yes _ _ _ _ h4a h4b).mono ?_
            rintro e w' ⟨rfl, rfl⟩
            go_wp2
            go_ret2
            exact ⟨by rw [h3.out, HV.out]; rfl, rfl⟩
          · have h3 := Lib.hid (escRes_none (escape_first_bad hf (by omega) hf2 (by omega)))
            have N4 : Hid (y < 56320 ∨ 57343 < y) := by unfold Hid; omega
            have HF2 := Lib.hid hf2
            have HZ := Lib.hid hz
            have HY := Lib.hid hy
            clear hf hf2 ha h1 h2 hz hy hb h4
            go_enter Tryd.func76, Tryd.ntmps76
            go_wp2_with fail
            refine (K.out _).mono ?_
            rintro e w' ⟨rfl, rfl⟩
            rw [HF.out, show orNeg (some a) = (a : Int) from rfl, ← HZ.out]
            go_wp2_with fail
            refine (in_no _ _ _ _ N1.out).mono ?_
            rintro e w' ⟨rfl, rfl⟩
            go_wp2_with fail
            refine (in_yes _ _ _ _ h2a h2b).mono ?_
            rintro e w' ⟨rfl, rfl⟩
            go_wp2_with fail
            refine (K6.out _).mono ?_
            rintro e w' ⟨rfl, rfl⟩
            rw [HF2.out, show orNeg (some b) = (b : Int) from rfl, ← HY.out]
            go_wp2_with fail
            refine (in_no _ _ _ _ N4.out).mono ?_
            rintro e w' ⟨rfl, rfl⟩
            go_wp2
            go_ret2
            exact ⟨by rw [h3.out]; rfl, rfl⟩
      · have h3 := Lib.hid (escRes_some (escape_one hf (by omega) (by omega)))
        have N1 : Hid (z < 56320 ∨ 57343 < z) := by unfold Hid; omega
        have N2 : Hid (z < 55296 ∨ 56319 < z) := by unfold Hid; omega
        have HZ := Lib.hid hz
        clear hf K6 ha h1 h2 hz
        go_enter Tryd.func76, Tryd.ntmps76
        go_wp2_with fail
        refine (K.out _).mono ?_
        rintro e w' ⟨rfl, rfl⟩
        rw [HF.out, show orNeg (some a) = (a : Int) from rfl, ← HZ.out]
        go_wp2_with fail
        refine (in_no _ _ _ _ N1.out).mono ?_
        rintro e w' ⟨rfl, rfl⟩
        go_wp2_with fail
        refine (in_no _ _ _ _ N2.out).mono ?_
        rintro e w' ⟨rfl, rfl⟩
        go_wp2
        go_ret2
        exact ⟨by rw [h3.out, ← HZ.out]; rfl, rfl⟩

theorem drop_0 (s : ByteArray) (k : Nat) (h : k < s.size) : (s.data.toList.drop k)[0]? = some s[k] := by rw [drop_at s k h]; rfl
theorem drop_1 (s : ByteArray) (k : Nat) (h : k + 1 < s.size) : (s.data.toList.drop k)[1]? = some s[k + 1] := by
  rw [drop_at s k (by omega), drop_at s (k + 1) h]; rfl
theorem drop_1_none (s : ByteArray) (k : Nat) (h : ¬ k + 1 < s.size) : (s.data.toList.drop k)[1]? = none := by
  rw [List.getElem?_eq_none]
  rw [List.length_drop, ← Lib.size_eq]
  omega
theorem cells_one (c : UInt8) : Lib.byteCells [c] = [.int .u8 (c.toNat : Int)] := rfl

end Go.Proofs.YtflnpkckdjmljaaDoor
