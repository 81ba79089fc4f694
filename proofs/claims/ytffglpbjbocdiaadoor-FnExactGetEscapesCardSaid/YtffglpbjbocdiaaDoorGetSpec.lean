/- Escapes read: the contracts of the model's GetEscapes and of what it calls. -/
import Derived.Test.YtffglpbjbocdiaaDoorProg
import Derived.Test.YtffglpbjbocdiaaDoorPlain
import Derived.Test.YtffglpbjbocdiaaDoorHex
import Derived.Test.YtffglpbjbocdiaaDoorSign
import Derived.Test.YtffglpbjbocdiaaDoorReadInt
import Derived.Test.YtffglpbjbocdiaaDoorRunePure
import Derived.Test.YtffglpbjbocdiaaDoorRuneText
import Derived.Test.YtffglpbjbocdiaaDoorInts
import Derived.Test.YtffglpbjbocdiaaDoorBuild
import Derived.Test.YtffglpbjbocdiaaDoorTextOf
import Derived.Test.YtffglpbjbocdiaaDoorNextSpec
import Derived.Test.YtffglpbjbocdiaaDoorSigns
import Derived.Test.YtffglpbjbocdiaaDoorPutEsc
import Derived.Test.YtffglpbjbocdiaaDoorGetPure
import Derived.WalkKit
import Derived.WalkLawsBesides
import Derived.OwnWalk
import Derived.Lib.AppendStr
import Derived.Lib.Hide
import Derived.IntWalk
namespace Go.Proofs.YtffglpbjbocdiaaDoor
open Go.RowKit
set_option linter.unusedVariables false

theorem index_next (s : ByteArray) (i : Nat) (h : i + 1 < s.size) (W : World) : (Instr.index 9 (.string s) (.int .i64 ((i : Int) + 1))).run Tryd.prog W = .ok (.int .u8 (s[i + 1].toNat : Int)) W := by
  rw [run_index_string (h := Tryd.underlying9)]
  have e1 : ((i : Int) + 1).toNat = i + 1 := by omega
  rw [dif_pos ⟨by omega, by omega⟩]
  simp only [e1]
theorem slice_four (s : ByteArray) (i : Nat) (h : i + 6 ≤ s.size) (W : World) : (Instr.slice 9 (.string s) (some (.int .i64 ((i : Int) + 2))) (some (.int .i64 ((i : Int) + 6))) none).run Tryd.prog W = .ok (.string (s.extract (i + 2) (i + 6))) W := by
  rw [run_slice_string (h := Tryd.underlying9) (h0 := by omega) (h1 := by omega) (h2 := by omega)]
  have e1 : ((i : Int) + 2).toNat = i + 2 := by omega
  have e2 : ((i : Int) + 6).toNat = i + 6 := by omega
  rw [e1, e2]
theorem byte_ne {c d : UInt8} (h : c ≠ d) : ((c.toNat : Int) != (d.toNat : Int)) = true := by
  rw [bne_iff_ne]; intro e; exact h (UInt8.toNat_inj.1 (Int.ofNat_inj.1 e))
theorem byte_ne2 {c d : UInt8} (h : c ≠ d) : ((c.toNat : Int) == (d.toNat : Int)) = false := by
  rw [beq_eq_false_iff_ne]; intro e; exact h (UInt8.toNat_inj.1 (Int.ofNat_inj.1 e))

set_option maxHeartbeats 800000 in
theorem four_spec (s : ByteArray) (i : Nat) (hs : UpTo s.size 100000000) (hi : UpTo i 100000012) (w : World) :
    Calls Tryd.prog 59 #[.string s, .int .i64 i] w fun e w' => e = .returned (.int .i64 (orNeg (fourE (s.data.toList.drop i)))) ∧ w = w' := by
  have hi9 : (i : Int) ≤ 100000012 := by unfold UpTo at hi; omega
  have hs9 : (s.size : Int) ≤ 100000000 := by unfold UpTo at hs; omega
  by_cases hl : (s.size : Int) < (i : Int) + 6
  · have h3 := Lib.hid (four_drop_short s i (by omega))
    go_enter Tryd.func59, Tryd.ntmps59
    go_wp2
    go_ret
    exact ⟨by rw [h3.out]; rfl, rfl⟩
  · have hfa := four_at s i (by omega)
    have hlt : i < s.size := by omega
    have hlt1 : i + 1 < s.size := by omega
    by_cases h1 : s[i] = 92
    · have b1 : ((s[i].toNat : Int) != 92) = false := by rw [h1]; rfl
      have hix := index_next s i hlt1
      by_cases h2 : s[i + 1] = 117
      · have b2 : ((s[i + 1].toNat : Int) != 117) = false := by rw [h2]; rfl
        rw [if_pos ⟨h1, h2⟩] at hfa
        have h3 := Lib.hid hfa
        have hsl := slice_four s i (by omega)
        clear hfa h1 h2
        generalize s[i + 1].toNat = c1 at *
        go_enter Tryd.func59, Tryd.ntmps59
        go_wp2_with fail
        refine (readHex_spec _ _).mono ?_
        rintro e w' ⟨rfl, rfl⟩
        obtain ⟨z, hz⟩ : ∃ z, orNeg (Pl.readN 16 8 (s.extract (i + 2) (i + 6)).data.toList) = z := ⟨_, rfl⟩
        rw [hz]
        have HZ := Lib.hid hz
        clear hsl hz
        go_wp2
        go_ret
        exact ⟨by rw [h3.out, HZ.out]; rfl, rfl⟩
      · have b2 : ((s[i + 1].toNat : Int) != 117) = true := byte_ne (d := 117) h2
        rw [if_neg (fun h => h2 h.2)] at hfa
        have h3 := Lib.hid hfa
        clear hfa h1 h2
        generalize s[i + 1].toNat = c1 at *
        go_enter Tryd.func59, Tryd.ntmps59
        go_wp2
        go_ret
        exact ⟨by rw [h3.out]; rfl, rfl⟩
    · have b1 : ((s[i].toNat : Int) != 92) = true := byte_ne (d := 92) h1
      rw [if_neg (fun h => h1 h.1)] at hfa
      have h3 := Lib.hid hfa
      clear hfa h1
      go_enter Tryd.func59, Tryd.ntmps59
      go_wp2
      go_ret
      exact ⟨by rw [h3.out]; rfl, rfl⟩

/-- what l03Escape answers -/
def escRes (l : List UInt8) : Value := match escapeE l with
  | none => .tuple #[.int .i64 0, .int .i64 0]
  | some (r, n) => .tuple #[.int .i64 r, .int .i64 n]
theorem escRes_none {l : List UInt8} (h : escapeE l = none) : escRes l = .tuple #[.int .i64 0, .int .i64 0] := by unfold escRes; rw [h]
theorem escRes_some {l : List UInt8} {r n : Nat} (h : escapeE l = some (r, n)) : escRes l = .tuple #[.int .i64 r, .int .i64 n] := by unfold escRes; rw [h]

set_option maxHeartbeats 800000 in
theorem escape_spec (s : ByteArray) (i : Nat) (hs : UpTo s.size 100000000) (hi : i < s.size) (w : World) :
    Calls Tryd.prog 49 #[.string s, .int .i64 i] w fun e w' => e = .returned (escRes (s.data.toList.drop i)) ∧ w = w' := by
  have K := Lib.hid (four_spec s i hs (by unfold UpTo at *; omega))
  have K6 := Lib.hid (four_spec s (i + 6) hs (by unfold UpTo at *; omega))
  have e6 : (((i + 6 : Nat)) : Int) = (i : Int) + 6 := by omega
  rw [e6] at K6
  have hi9 : (i : Int) ≤ 100000000 := by unfold UpTo at hs; omega
  have hd : s.data.toList.drop (i + 6) = (s.data.toList.drop i).drop 6 := by rw [List.drop_drop]
  rw [hd] at K6
  clear hs hi e6 hd
  generalize s.data.toList.drop i = l at *
  cases hf : fourE l with
  | none =>
    have h3 := Lib.hid (escRes_none (escape_none_four hf))
    have HF := Lib.hid hf
    clear hf K6
    go_enter Tryd.func49, Tryd.ntmps49
    go_wp2_with fail
    refine (K.out _).mono ?_
    rintro e w' ⟨rfl, rfl⟩
    rw [HF.out, show orNeg none = -1 from rfl]
    go_wp2
    go_ret2
    exact ⟨by rw [h3.out]; rfl, rfl⟩
  | some a =>
    have ha := four_lt hf
    have HF := Lib.hid hf
    obtain ⟨z, hz⟩ : ∃ z : Int, z = (a : Int) := ⟨_, rfl⟩
    have hz0 : 0 ≤ z := by omega
    have hz1 : z < 65536 := by omega
    by_cases h1 : 56320 ≤ z ∧ z ≤ 57343
    · have h3 := Lib.hid (escRes_none (escape_second hf (by omega)))
      have h1a := h1.1
      have h1b := h1.2
      have HZ := Lib.hid hz
      clear hf K6 ha h1 hz
      go_enter Tryd.func49, Tryd.ntmps49
      go_wp2_with fail
      refine (K.out _).mono ?_
      rintro e w' ⟨rfl, rfl⟩
      rw [HF.out, show orNeg (some a) = (a : Int) from rfl, ← HZ.out]
      go_wp2_with fail
      refine (in_yes _ _ _ _ h1a h1b).mono ?_
      rintro e w' ⟨rfl, rfl⟩
      go_wp2
      go_ret2
      exact ⟨by rw [h3.out]; rfl, rfl⟩
    · by_cases h2 : 55296 ≤ z ∧ z ≤ 56319
      · have h2a := h2.1
        have h2b := h2.2
        have N1 : Hid (z < 56320 ∨ 57343 < z) := by unfold Hid; omega
        cases hf2 : fourE (l.drop 6) with
        | none =>
          have h3 := Lib.hid (escRes_none (escape_first_none hf (by omega) hf2))
          have HF2 := Lib.hid hf2
          have HZ := Lib.hid hz
          clear hf hf2 ha h1 h2 hz
          go_enter Tryd.func49, Tryd.ntmps49
          go_wp2_with fail
          refine (K.out _).mono ?_
          rintro e w' ⟨rfl, rfl⟩
          rw [HF.out, show orNeg (some a) = (a : Int) from rfl, ← HZ.out]
          go_wp2_with fail
          refine (in_no _ _ _ _ N1.out).mono ?_
          rintro e w' ⟨rfl, rfl⟩
          go_wp2_with fail
          refine (in_yes _ _ _ _ h2a h2b).mono ?_
          rintro e w' ⟨rfl, rfl⟩
          go_wp2_with fail
          refine (K6.out _).mono ?_
          rintro e w' ⟨rfl, rfl⟩
          rw [HF2.out, show orNeg none = -1 from rfl]
          go_wp2_with fail
          refine (in_no _ _ _ _ (by omega)).mono ?_
          rintro e w' ⟨rfl, rfl⟩
          go_wp2
          go_ret2
          exact ⟨by rw [h3.out]; rfl, rfl⟩
        | some b =>
          have hb := four_lt hf2
          obtain ⟨y, hy⟩ : ∃ y : Int, y = (b : Int) := ⟨_, rfl⟩
          have hy0 : 0 ≤ y := by omega
          have hy1 : y < 65536 := by omega
          by_cases h4 : 56320 ≤ y ∧ y ≤ 57343
          · have h3 := Lib.hid (escRes_some (escape_two hf (by omega) hf2 (by omega)))
            have HV : Hid (((65536 + 1024 * (a - 55296) + (b - 56320) : Nat) : Int) = 65536 + 1024 * (z - 55296) + y - 56320) := by unfold Hid; omega
            have HF2 := Lib.hid hf2
            have HZ := Lib.hid hz
            have HY := Lib.hid hy
            have h4a := h4.1
            have h4b := h4.2
            clear hf hf2 ha h1 h2 hz hy hb h4
            go_enter Tryd.func49, Tryd.ntmps49
            go_wp2_with fail
            refine (K.out _).mono ?_
            rintro e w' ⟨rfl, rfl⟩
            rw [HF.out, show orNeg (some a) = (a : Int) from rfl, ← HZ.out]
            go_wp2_with fail
            refine (in_no _ _ _ _ N1.out).mono ?_
            rintro e w' ⟨rfl, rfl⟩
            go_wp2_with fail
            refine (in_yes _ _ _ _ h2a h2b).mono ?_
            rintro e w' ⟨rfl, rfl⟩
            go_wp2_with fail
            refine (K6.out _).mono ?_
            rintro e w' ⟨rfl, rfl⟩
            rw [HF2.out, show orNeg (some b) = (b : Int) from rfl, ← HY.out]
            go_wp2_with fail
            refine (in_yes _ _ _ _ h4a h4b).mono ?_
            rintro e w' ⟨rfl, rfl⟩
            go_wp2
            go_ret2
            exact ⟨by rw [h3.out, HV.out]; rfl, rfl⟩
          · have h3 := Lib.hid (escRes_none (escape_first_bad hf (by omega) hf2 (by omega)))
            have N4 : Hid (y < 56320 ∨ 57343 < y) := by unfold Hid; omega
            have HF2 := Lib.hid hf2
            have HZ := Lib.hid hz
            have HY := Lib.hid hy
            clear hf hf2 ha h1 h2 hz hy hb h4
            go_enter Tryd.func49, Tryd.ntmps49
            go_wp2_with fail
            refine (K.out _).mono ?_
            rintro e w' ⟨rfl, rfl⟩
            rw [HF.out, show orNeg (some a) = (a : Int) from rfl, ← HZ.out]
            go_wp2_with fail
            refine (in_no _ _ _ _ N1.out).mono ?_
            rintro e w' ⟨rfl, rfl⟩
            go_wp2_with fail
            refine (in_yes _ _ _ _ h2a h2b).mono ?_
            rintro e w' ⟨rfl, rfl⟩
            go_wp2_with fail
            refine (K6.out _).mono ?_
            rintro e w' ⟨rfl, rfl⟩
            rw [HF2.out, show orNeg (some b) = (b : Int) from rfl, ← HY.out]
            go_wp2_with fail
            refine (in_no _ _ _ _ N4.out).mono ?_
            rintro e w' ⟨rfl, rfl⟩
            go_wp2
            go_ret2
            exact ⟨by rw [h3.out]; rfl, rfl⟩
      · have h3 := Lib.hid (escRes_some (escape_one hf (by omega) (by omega)))
        have N1 : Hid (z < 56320 ∨ 57343 < z) := by unfold Hid; omega
        have N2 : Hid (z < 55296 ∨ 56319 < z) := by unfold Hid; omega
        have HZ := Lib.hid hz
        clear hf K6 ha h1 h2 hz
        go_enter Tryd.func49, Tryd.ntmps49
        go_wp2_with fail
        refine (K.out _).mono ?_
        rintro e w' ⟨rfl, rfl⟩
        rw [HF.out, show orNeg (some a) = (a : Int) from rfl, ← HZ.out]
        go_wp2_with fail
        refine (in_no _ _ _ _ N1.out).mono ?_
        rintro e w' ⟨rfl, rfl⟩
        go_wp2_with fail
        refine (in_no _ _ _ _ N2.out).mono ?_
        rintro e w' ⟨rfl, rfl⟩
        go_wp2
        go_ret2
        exact ⟨by rw [h3.out, ← HZ.out]; rfl, rfl⟩

theorem drop_0 (s : ByteArray) (k : Nat) (h : k < s.size) : (s.data.toList.drop k)[0]? = some s[k] := by rw [drop_at s k h]; rfl
theorem drop_1 (s : ByteArray) (k : Nat) (h : k + 1 < s.size) : (s.data.toList.drop k)[1]? = some s[k + 1] := by
  rw [drop_at s k (by omega), drop_at s (k + 1) h]; rfl
theorem drop_1_none (s : ByteArray) (k : Nat) (h : ¬ k + 1 < s.size) : (s.data.toList.drop k)[1]? = none := by
  rw [List.getElem?_eq_none]
  rw [List.length_drop, ← Lib.size_eq]
  omega
theorem cells_one (c : UInt8) : Lib.byteCells [c] = [.int .u8 (c.toNat : Int)] := rfl

set_option maxRecDepth 100000 in
set_option maxHeartbeats 3200000 in
theorem get_spec (s : ByteArray) (hs : s.size ≤ 100000000) (w : World) :
    Calls Tryd.prog 22 #[.string s] w fun e w' => e = .returned (getRes s.data.toList) ∧ Below w.heap.size w w' := by
  obtain ⟨i0, hi, hz0, hz1, hz2⟩ := info_parts info_byteB
  have HU : UpTo s.size 100000000 := hs
  have K1 := Lib.hid (signs_spec s hs w)
  have HL := Lib.hid (Lib.size_eq s)
  clear hs
  go_enter Tryd.func22, Tryd.ntmps22
  go_wp2_with fail
  refine K1.out.mono ?_
  rintro e w1 ⟨v0, g, rfl, hI, hg, hb1⟩
  clear K1 hI
  cases ho : signsO s.data.toList
  · have h3 := Lib.hid (getRes_wrong (l := s.data.toList) ho)
    clear ho
    go_wp2
    go_ret2
    exact ⟨by rw [h3.out]; rfl, hb1⟩
  · have HO := Lib.hid (show (signsL s.data.toList).isSome = true from ho)
    have hsz1 := hb1.size
    clear ho
    go_wp2
    go_loopw [6, 7] (fun v i wr => ∃ (k : Nat) (acc : List UInt8), k ≤ s.size ∧ i = .int .i64 k ∧ acc.length ≤ k ∧ Hid (GetAt s.data.toList k acc) ∧ wr.ownsRow w1.heap.size 5 1 v acc.length (Lib.byteCells acc) ∧ Below w1.heap.size w1 wr) (fun _ i _ => s.size - (intOf i).toNat)
    case atStart => exact ⟨0, [], Nat.zero_le _, rfl, Nat.le_refl _, getAt_zero _, World.ownsRow_lit w1 #[] 0 (Nat.le_refl _) (Nat.zero_le _) rfl, (Below.refl _ _).alloc (Nat.le_refl _) _⟩
    case round =>
      obtain ⟨k, acc, hk, rfl, hak, hat, hown, hb⟩ := hrel
      by_cases hlt : k < s.size
      · have hnb : UpTo acc.length 100000000 := by unfold UpTo at *; omega
        have HKB : UpTo k 100000000 := by unfold UpTo at *; omega
        by_cases h92 : s[k] = 92
        · have b92 : ((s[k].toNat : Int) != 92) = false := by rw [h92]; rfl
          have d0 := Lib.hid ((drop_0 s k hlt).trans (congrArg some h92))
          by_cases hn : ∃ h : k + 1 < s.size, s[k + 1] = 92
          · obtain ⟨hk1, h93⟩ := hn
            have b93 : ((s[k + 1].toNat : Int) == 92) = true := by rw [h93]; rfl
            have hix := index_next s k hk1
            have hat2 : Hid (GetAt s.data.toList (k + 2) (acc ++ [92])) := getAt_two hat.out (t := s.data.toList.drop (k + 1 + 1)) (by rw [drop_at s k hlt, drop_at s (k + 1) hk1, h92, h93])
            have hk1z : (k : Int) + 1 < (s.size : Int) := by omega
            generalize s[k + 1].toNat = c1 at *
            clear h92 h93 hat
            have hb2 := hb.alloc hb.size (.cells #[.int .u8 92] 5)
            have hkc : (k : Int) < 100000001 := by unfold UpTo at HKB; omega
            go_wp2_with (at_builtin; refine wpList_append_own _ rfl _ _ 22 rfl w1.heap.size 5 i0 (.int .u8 0) 1 1 Tryd.underlying22 hi hz0 hz1 hz2 rfl (by decide) _ _ _ rfl (hown.alloc _) ⟨wr.heap.size, 0, none⟩ 1 1 [.int .u8 92] rfl rfl (cell_one_newI _ _ _) (by simp [Value.oneCell']) (by unfold UpTo at hnb; unfold maxLen; omega) (by unfold UpTo at hnb; omega) hb2.size ?_; intro v2 w3 hown3 hgrow _)
            have hb4 := hb2.grown hgrow hb2.size (own_blockI hown)
            have hown4 : w3.ownsRow w1.heap.size 5 1 v2 (acc ++ [92]).length (Lib.byteCells (acc ++ [92])) := by
              rw [Lib.byteCells_append, List.length_append]; exact hown3
            clear hown hown3 hgrow hb2 hb
            go_wp2
            go_roundw
            case rel => exact ⟨k + 2, acc ++ [92], by omega, by go_num, by simp; omega, hat2, hown4, hb4⟩
            case measure => simp [intOf]; omega
          · have d1 : Hid ((s.data.toList.drop k)[1]? ≠ some 92) := by
              unfold Hid
              by_cases hk1 : k + 1 < s.size
              · rw [drop_1 s k hk1]
                intro e
                injection e with e
                exact hn ⟨hk1, e⟩
              · rw [drop_1_none s k hk1]
                simp
            have KE := Lib.hid (escape_spec s k HU hlt)
            have hkc : (k : Int) < 100000001 := by unfold UpTo at HKB; omega
            by_cases hk1 : k + 1 < s.size
            · have hk1z : (k : Int) + 1 < (s.size : Int) := by omega
              have b93 : ((s[k + 1].toNat : Int) == 92) = false := byte_ne2 (d := 92) (fun e => hn ⟨hk1, e⟩)
              have hix := index_next s k hk1
              generalize s[k + 1].toNat = c1 at *
              clear hn h92
              cases he : escapeE (s.data.toList.drop k) with
              | none =>
                have h3 := Lib.hid (getRes_bad HO.out (getAt_bad hat.out d0.out d1.out he))
                have hr := Lib.hid (escRes_none he)
                have hb5 := hb1.trans (hb.mono hsz1)
                clear he hat hown hb
                go_wp2_with fail
                refine (KE.out _).mono ?_
                rintro e w2 ⟨rfl, rfl⟩
                rw [hr.out]
                go_wp2
                go_ret2
                exact ⟨by rw [h3.out]; rfl, hb5⟩
              | some q =>
                obtain ⟨r, n⟩ := q
                have hr := Lib.hid (escRes_some he)
                have hpos := escape_pos he
                rw [List.length_drop, ← HL.out] at hpos
                have hat2 := Lib.hid (getAt_escape hat.out d0.out d1.out he)
                have hle := escape_len he
                have hsT : Hid (signT (r : Int) = signB r) := signT_good (by rw [sgn_nat]; exact escape_sign he)
                have hn0 : ((n : Int) == 0) = false := by rw [beq_eq_false_iff_ne]; omega
                have hnk : (k : Int) + (n : Int) ≤ (s.size : Int) := by omega
                have hnk2 : (k : Int) + (n : Int) ≤ 100000000 := by unfold UpTo at HU; omega
                have HPOS := Lib.hid hpos
                have HLE := Lib.hid hle
                clear he hat hpos hle
                go_wp2_with fail
                refine (KE.out _).mono ?_
                rintro e w2 ⟨rfl, rfl⟩
                rw [hr.out]
                go_wp2_with fail
                refine (signText_spec _ _).mono ?_
                rintro e w2 ⟨rfl, hb2⟩
                rw [hsT.out]
                have hown2 := own_below hown hb2
                have hb3 := hb.trans (hb2.mono hb.size)
                have HSZ := Lib.hid (toList_size (signB r))
                have HE : Hid ((⟨(signB r).toArray⟩ : ByteArray).data.toList = signB r) := rfl
                generalize (⟨(signB r).toArray⟩ : ByteArray) = t at *
                clear hown hb2 hb
                go_wp2_with (at_builtin; refine Lib.wpList_append_own_string _ rfl _ _ 22 9 rfl w1.heap.size 5 i0 Tryd.underlying22 Tryd.underlying9 hi hz0 hz1 hz2 _ _ _ rfl hown2 _ rfl (by rw [HSZ.out]; have := HPOS.out; have := HLE.out; unfold UpTo at hnb; unfold maxLen; omega) (by rw [HSZ.out]; have := HPOS.out; have := HLE.out; unfold UpTo at hnb; omega) hb3.size ?_; intro v2 w3 hown3 hgrow _)
                have hb4 := hb3.grown hgrow hb3.size (own_blockI hown2)
                have hown4 : w3.ownsRow w1.heap.size 5 1 v2 (acc ++ signB r).length (Lib.byteCells (acc ++ signB r)) := by
                  rw [Lib.byteCells_append, List.length_append]
                  rw [strCells_eq, HSZ.out, HE.out] at hown3
                  exact hown3
                clear hown2 hown3 hgrow hb3
                go_wp2
                go_roundw
                case rel => exact ⟨k + n, acc ++ signB r, by have := HPOS.out; omega, by go_num, by have := HPOS.out; have := HLE.out; simp; omega, hat2, hown4, hb4⟩
                case measure => have := HPOS.out; simp [intOf]; omega
            · have bk : decide ((k : Int) + 1 < (s.size : Int)) = false := decide_eq_false (by omega)
              clear hn h92
              cases he : escapeE (s.data.toList.drop k) with
              | none =>
                have h3 := Lib.hid (getRes_bad HO.out (getAt_bad hat.out d0.out d1.out he))
                have hr := Lib.hid (escRes_none he)
                have hb5 := hb1.trans (hb.mono hsz1)
                clear he hat hown hb
                go_wp2_with fail
                refine (KE.out _).mono ?_
                rintro e w2 ⟨rfl, rfl⟩
                rw [hr.out]
                go_wp2
                go_ret2
                exact ⟨by rw [h3.out]; rfl, hb5⟩
              | some q =>
                obtain ⟨r, n⟩ := q
                have hr := Lib.hid (escRes_some he)
                have hpos := escape_pos he
                rw [List.length_drop, ← HL.out] at hpos
                have hat2 := Lib.hid (getAt_escape hat.out d0.out d1.out he)
                have hle := escape_len he
                have hsT : Hid (signT (r : Int) = signB r) := signT_good (by rw [sgn_nat]; exact escape_sign he)
                have hn0 : ((n : Int) == 0) = false := by rw [beq_eq_false_iff_ne]; omega
                have hnk : (k : Int) + (n : Int) ≤ (s.size : Int) := by omega
                have hnk2 : (k : Int) + (n : Int) ≤ 100000000 := by unfold UpTo at HU; omega
                have HPOS := Lib.hid hpos
                have HLE := Lib.hid hle
                clear he hat hpos hle
                go_wp2_with fail
                refine (KE.out _).mono ?_
                rintro e w2 ⟨rfl, rfl⟩
                rw [hr.out]
                go_wp2_with fail
                refine (signText_spec _ _).mono ?_
                rintro e w2 ⟨rfl, hb2⟩
                rw [hsT.out]
                have hown2 := own_below hown hb2
                have hb3 := hb.trans (hb2.mono hb.size)
                have HSZ := Lib.hid (toList_size (signB r))
                have HE : Hid ((⟨(signB r).toArray⟩ : ByteArray).data.toList = signB r) := rfl
                generalize (⟨(signB r).toArray⟩ : ByteArray) = t at *
                clear hown hb2 hb
                go_wp2_with (at_builtin; refine Lib.wpList_append_own_string _ rfl _ _ 22 9 rfl w1.heap.size 5 i0 Tryd.underlying22 Tryd.underlying9 hi hz0 hz1 hz2 _ _ _ rfl hown2 _ rfl (by rw [HSZ.out]; have := HPOS.out; have := HLE.out; unfold UpTo at hnb; unfold maxLen; omega) (by rw [HSZ.out]; have := HPOS.out; have := HLE.out; unfold UpTo at hnb; omega) hb3.size ?_; intro v2 w3 hown3 hgrow _)
                have hb4 := hb3.grown hgrow hb3.size (own_blockI hown2)
                have hown4 : w3.ownsRow w1.heap.size 5 1 v2 (acc ++ signB r).length (Lib.byteCells (acc ++ signB r)) := by
                  rw [Lib.byteCells_append, List.length_append]
                  rw [strCells_eq, HSZ.out, HE.out] at hown3
                  exact hown3
                clear hown2 hown3 hgrow hb3
                go_wp2
                go_roundw
                case rel => exact ⟨k + n, acc ++ signB r, by have := HPOS.out; omega, by go_num, by have := HPOS.out; have := HLE.out; simp; omega, hat2, hown4, hb4⟩
                case measure => have := HPOS.out; simp [intOf]; omega
        · have b92 : ((s[k].toNat : Int) != 92) = true := byte_ne (d := 92) h92
          have hat2 := Lib.hid (getAt_on hat.out (drop_at s k hlt) h92)
          have hb2 := hb.alloc hb.size (.cells #[.int .u8 (s[k].toNat : Int)] 5)
          have hkc : (k : Int) < 100000001 := by unfold UpTo at HKB; omega
          clear h92 hat
          go_wp2_with (at_builtin; refine wpList_append_own _ rfl _ _ 22 rfl w1.heap.size 5 i0 (.int .u8 0) 1 1 Tryd.underlying22 hi hz0 hz1 hz2 rfl (by decide) _ _ _ rfl (hown.alloc _) ⟨wr.heap.size, 0, none⟩ 1 1 [.int .u8 (s[k].toNat : Int)] rfl rfl (cell_one_newI _ _ _) (by simp [Value.oneCell']) (by unfold UpTo at hnb; unfold maxLen; omega) (by unfold UpTo at hnb; omega) hb2.size ?_; intro v2 w3 hown3 hgrow _)
          have hb4 := hb2.grown hgrow hb2.size (own_blockI hown)
          have hown4 : w3.ownsRow w1.heap.size 5 1 v2 (acc ++ [s[k]]).length (Lib.byteCells (acc ++ [s[k]])) := by
            rw [Lib.byteCells_append, List.length_append]; exact hown3
          clear hown hown3 hgrow hb2 hb
          go_wp2
          go_roundw
          case rel => exact ⟨k + 1, acc ++ [s[k]], by omega, by go_num, by simp; omega, hat2, hown4, hb4⟩
          case measure => simp [intOf]; omega
      · obtain rfl : k = s.size := by omega
        have h3 := Lib.hid (getRes_good HO.out (getAt_end hat.out (by rw [← HL.out]; exact Nat.le_refl _)))
        have hcv := text_of_ownI wr w1.heap.size acc.length _ acc hown rfl
        have hb5 := hb1.trans (hb.mono hsz1)
        clear hown hat
        go_wp2
        go_ret2
        exact ⟨by rw [h3.out]; rfl, hb5⟩

end Go.Proofs.YtffglpbjbocdiaaDoor
