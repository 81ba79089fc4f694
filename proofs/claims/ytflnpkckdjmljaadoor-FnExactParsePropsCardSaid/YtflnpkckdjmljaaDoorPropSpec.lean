/- Texts of property files taken back: the model's contract of PropText. -/
import Derived.Test.YtflnpkckdjmljaaDoorProg
import Derived.Test.YtflnpkckdjmljaaDoorPlain
import Derived.Test.YtflnpkckdjmljaaDoorHex
import Derived.Test.YtflnpkckdjmljaaDoorRunePure
import Derived.Test.YtflnpkckdjmljaaDoorRuneText
import Derived.Test.YtflnpkckdjmljaaDoorInts
import Derived.Test.YtflnpkckdjmljaaDoorBuild
import Derived.Test.YtflnpkckdjmljaaDoorTextOf
import Derived.Test.YtflnpkckdjmljaaDoorNextSpec
import Derived.Test.YtflnpkckdjmljaaDoorSigns
import Derived.Test.YtflnpkckdjmljaaDoorPutEsc
import Derived.Test.YtflnpkckdjmljaaDoorGetPure
import Derived.Test.YtflnpkckdjmljaaDoorGetSpec
import Derived.Test.YtflnpkckdjmljaaDoorPropPure
import Derived.WalkKit
import Derived.WalkLawsBesides
import Derived.OwnWalk
import Derived.Lib.AppendStr
import Derived.Laws.IdiomStrings
import Derived.Lib.Hide
import Derived.IntWalk
set_option maxRecDepth 100000
namespace Go.Proofs.YtflnpkckdjmljaaDoor
open Go.RowKit
set_option linter.unusedVariables false

/-- what PropText answers -/
def propT (s : ByteArray) : ByteArray × Bool := match propR s.data.toList with
  | some t => (⟨t.toArray⟩, true)
  | none => (⟨#[]⟩, false)
theorem propT_good {s : ByteArray} {t : List UInt8} (h : propR s.data.toList = some t) : propT s = (⟨t.toArray⟩, true) := by unfold propT; rw [h]
theorem propT_bad {s : ByteArray} (h : propR s.data.toList = none) : propT s = (⟨#[]⟩, false) := by unfold propT; rw [h]
theorem propT_size (s : ByteArray) : (propT s).1.size ≤ s.size := by
  cases h : propR s.data.toList with
  | none => rw [propT_bad h]; exact Nat.zero_le _
  | some t =>
    rw [propT_good h]
    have := propR_len _ t h
    rw [← Lib.size_eq] at this
    rw [Lib.size_eq]
    simpa using this
theorem byte_eqP {c d : UInt8} (h : c = d) : ((c.toNat : Int) == (d.toNat : Int)) = true := by rw [h]; simp

set_option maxHeartbeats 3200000 in
theorem propText_spec (s : ByteArray) (w : World) (hs : s.size ≤ 100000000) :
    Calls Tryd.prog 54 #[.string s] w fun e w' => e = .returned (.tuple #[.string (propT s).1, .bool (propT s).2]) ∧ Below w.heap.size w w' := by
  obtain ⟨i0, hi, hz0, hz1, hz2⟩ := info_parts info_byteB
  have HU : UpTo s.size 100000000 := hs
  have HL := Lib.hid (Lib.size_eq s)
  clear hs
  go_enter Tryd.func54, Tryd.ntmps54
  go_wp2
  go_loopw [4, 5] (fun v i wr => ∃ (k : Nat) (acc : List UInt8), k ≤ s.size ∧ i = .int .i64 k ∧ acc.length ≤ k ∧ Hid (PropAt s.data.toList k acc) ∧ wr.ownsRow w.heap.size 5 1 v acc.length (Lib.byteCells acc) ∧ Below w.heap.size w wr) (fun _ i _ => s.size - (intOf i).toNat)
  case atStart => exact ⟨0, [], Nat.zero_le _, rfl, Nat.le_refl _, propAt_zero _, World.ownsRow_lit w #[] 0 (Nat.le_refl _) (Nat.zero_le _) rfl, (Below.refl _ _).alloc (Nat.le_refl _) _⟩
  case round =>
    obtain ⟨k, acc, hk, rfl, hak, hat, hown, hb⟩ := hrel
    have hsw := hb.size
    by_cases hlt : k < s.size
    · have hnb : UpTo acc.length 100000000 := by unfold UpTo at *; omega
      have HKB : UpTo k 100000000 := by unfold UpTo at *; omega
      have hkc : (k : Int) < 100000001 := by unfold UpTo at HKB; omega
      by_cases h92 : s[k] = 92
      · have b92 : ((s[k].toNat : Int) != 92) = false := by rw [h92]; rfl
        by_cases hk1 : k + 1 < s.size
        · have hk1z : (k : Int) + 1 < (s.size : Int) := by omega
          have hk1e : ((k : Int) + 1 == (s.size : Int)) = false := by rw [beq_eq_false_iff_ne]; omega
          have hix := index_next s k hk1
          have HD : Hid (s.data.toList.drop k = 92 :: s[k + 1] :: s.data.toList.drop (k + 1 + 1)) := by
            unfold Hid
            rw [drop_at s k hlt, drop_at s (k + 1) hk1, h92]
          have HA : Hid (∀ b, s[k + 1] ≠ 117 → propB s[k + 1] = b → PropAt s.data.toList (k + 2) (acc ++ [b])) := fun b h1 h2 => by rw [← h2]; exact propAt_two hat.out HD.out h1
          have KE := Lib.hid (escape_spec s k HU hlt)
          clear h92
          by_cases q1 : s[k + 1] = 110
          · have e_q1 : ((s[k + 1].toNat : Int) == 110) = true := byte_eqP (d := 110) q1
            have hat2 := Lib.hid (HA.out 10 (by rw [q1]; decide) (by unfold propB; rw [if_pos q1]))
            clear HA HD KE hat q1 
            generalize s[k + 1].toNat = c1 at *
            have hb2 := hb.alloc hsw (.cells #[.int .u8 10] 5)
            go_wp2_with (at_builtin; refine wpList_append_own _ rfl _ _ 22 rfl w.heap.size 5 i0 (.int .u8 0) 1 1 Tryd.underlying22 hi hz0 hz1 hz2 rfl (by decide) _ _ _ rfl (hown.alloc _) ⟨wr.heap.size, 0, none⟩ 1 1 [.int .u8 10] rfl rfl (cell_one_newI _ _ _) (by simp [Value.oneCell']) (by unfold UpTo at hnb; unfold maxLen; omega) (by unfold UpTo at hnb; omega) hb2.size ?_; intro v2 w3 hown3 hgrow _)
            have hb4 := hb2.grown hgrow hb2.size (own_blockI hown)
            have hown4 : w3.ownsRow w.heap.size 5 1 v2 (acc ++ [10]).length (Lib.byteCells (acc ++ [10])) := by
              rw [Lib.byteCells_append, List.length_append]; exact hown3
            clear hown hown3 hgrow hb2 hb
            go_wp2
            go_roundw
            case rel => exact ⟨k + 2, acc ++ [10], by omega, by go_num, by simp; omega, hat2, hown4, hb4⟩
            case measure => simp [intOf]; omega
          have e_q1 : ((s[k + 1].toNat : Int) == 110) = false := byte_ne2 (d := 110) q1
          by_cases q2 : s[k + 1] = 116
          · have e_q2 : ((s[k + 1].toNat : Int) == 116) = true := byte_eqP (d := 116) q2
            have hat2 := Lib.hid (HA.out 9 (by rw [q2]; decide) (by unfold propB; rw [if_neg q1, if_pos q2]))
            clear HA HD KE hat q2 q1
            generalize s[k + 1].toNat = c1 at *
            have hb2 := hb.alloc hsw (.cells #[.int .u8 9] 5)
            go_wp2_with (at_builtin; refine wpList_append_own _ rfl _ _ 22 rfl w.heap.size 5 i0 (.int .u8 0) 1 1 Tryd.underlying22 hi hz0 hz1 hz2 rfl (by decide) _ _ _ rfl (hown.alloc _) ⟨wr.heap.size, 0, none⟩ 1 1 [.int .u8 9] rfl rfl (cell_one_newI _ _ _) (by simp [Value.oneCell']) (by unfold UpTo at hnb; unfold maxLen; omega) (by unfold UpTo at hnb; omega) hb2.size ?_; intro v2 w3 hown3 hgrow _)
            have hb4 := hb2.grown hgrow hb2.size (own_blockI hown)
            have hown4 : w3.ownsRow w.heap.size 5 1 v2 (acc ++ [9]).length (Lib.byteCells (acc ++ [9])) := by
              rw [Lib.byteCells_append, List.length_append]; exact hown3
            clear hown hown3 hgrow hb2 hb
            go_wp2
            go_roundw
            case rel => exact ⟨k + 2, acc ++ [9], by omega, by go_num, by simp; omega, hat2, hown4, hb4⟩
            case measure => simp [intOf]; omega
          have e_q2 : ((s[k + 1].toNat : Int) == 116) = false := byte_ne2 (d := 116) q2
          by_cases q3 : s[k + 1] = 114
          · have e_q3 : ((s[k + 1].toNat : Int) == 114) = true := byte_eqP (d := 114) q3
            have hat2 := Lib.hid (HA.out 13 (by rw [q3]; decide) (by unfold propB; rw [if_neg q1, if_neg q2, if_pos q3]))
            clear HA HD KE hat q3 q1 q2
            generalize s[k + 1].toNat = c1 at *
            have hb2 := hb.alloc hsw (.cells #[.int .u8 13] 5)
            go_wp2_with (at_builtin; refine wpList_append_own _ rfl _ _ 22 rfl w.heap.size 5 i0 (.int .u8 0) 1 1 Tryd.underlying22 hi hz0 hz1 hz2 rfl (by decide) _ _ _ rfl (hown.alloc _) ⟨wr.heap.size, 0, none⟩ 1 1 [.int .u8 13] rfl rfl (cell_one_newI _ _ _) (by simp [Value.oneCell']) (by unfold UpTo at hnb; unfold maxLen; omega) (by unfold UpTo at hnb; omega) hb2.size ?_; intro v2 w3 hown3 hgrow _)
            have hb4 := hb2.grown hgrow hb2.size (own_blockI hown)
            have hown4 : w3.ownsRow w.heap.size 5 1 v2 (acc ++ [13]).length (Lib.byteCells (acc ++ [13])) := by
              rw [Lib.byteCells_append, List.length_append]; exact hown3
            clear hown hown3 hgrow hb2 hb
            go_wp2
            go_roundw
            case rel => exact ⟨k + 2, acc ++ [13], by omega, by go_num, by simp; omega, hat2, hown4, hb4⟩
            case measure => simp [intOf]; omega
          have e_q3 : ((s[k + 1].toNat : Int) == 114) = false := byte_ne2 (d := 114) q3
          by_cases q4 : s[k + 1] = 102
          · have e_q4 : ((s[k + 1].toNat : Int) == 102) = true := byte_eqP (d := 102) q4
            have hat2 := Lib.hid (HA.out 12 (by rw [q4]; decide) (by unfold propB; rw [if_neg q1, if_neg q2, if_neg q3, if_pos q4]))
            clear HA HD KE hat q4 q1 q2 q3
            generalize s[k + 1].toNat = c1 at *
            have hb2 := hb.alloc hsw (.cells #[.int .u8 12] 5)
            go_wp2_with (at_builtin; refine wpList_append_own _ rfl _ _ 22 rfl w.heap.size 5 i0 (.int .u8 0) 1 1 Tryd.underlying22 hi hz0 hz1 hz2 rfl (by decide) _ _ _ rfl (hown.alloc _) ⟨wr.heap.size, 0, none⟩ 1 1 [.int .u8 12] rfl rfl (cell_one_newI _ _ _) (by simp [Value.oneCell']) (by unfold UpTo at hnb; unfold maxLen; omega) (by unfold UpTo at hnb; omega) hb2.size ?_; intro v2 w3 hown3 hgrow _)
            have hb4 := hb2.grown hgrow hb2.size (own_blockI hown)
            have hown4 : w3.ownsRow w.heap.size 5 1 v2 (acc ++ [12]).length (Lib.byteCells (acc ++ [12])) := by
              rw [Lib.byteCells_append, List.length_append]; exact hown3
            clear hown hown3 hgrow hb2 hb
            go_wp2
            go_roundw
            case rel => exact ⟨k + 2, acc ++ [12], by omega, by go_num, by simp; omega, hat2, hown4, hb4⟩
            case measure => simp [intOf]; omega
          have e_q4 : ((s[k + 1].toNat : Int) == 102) = false := byte_ne2 (d := 102) q4
          by_cases q5 : s[k + 1] = 117
          · have e_q5 : ((s[k + 1].toNat : Int) == 117) = true := byte_eqP (d := 117) q5
            have HD2 : Hid (s.data.toList.drop k = 92 :: 117 :: s.data.toList.drop (k + 1 + 1)) := by unfold Hid; rw [HD.out, q5]
            clear HA HD q1 q2 q3 q4 q5
            generalize s[k + 1].toNat = c1 at *
            cases he : escapeE (s.data.toList.drop k) with
            | none =>
              have h3 := Lib.hid (propT_bad (propAt_bad hat.out HD2.out he))
              have hr := Lib.hid (escRes_none he)
              clear he hat hown HD2
              go_wp2_with fail
              refine (KE.out _).mono ?_
              rintro e w2 ⟨rfl, rfl⟩
              rw [hr.out]
              go_wp2
              go_ret2
              exact ⟨by rw [h3.out]; rfl, hb⟩
            | some q =>
              obtain ⟨r, n⟩ := q
              have hr := Lib.hid (escRes_some he)
              have hpos := escape_pos he
              rw [List.length_drop, ← HL.out] at hpos
              have hat2 := Lib.hid (propAt_u hat.out HD2.out he)
              have hle := escape_len he
              have hsT : Hid (signT (r : Int) = signB r) := signT_good (by rw [sgn_nat]; exact escape_sign he)
              have hn0 : ((n : Int) == 0) = false := by rw [beq_eq_false_iff_ne]; omega
              have hnk : (k : Int) + (n : Int) ≤ (s.size : Int) := by omega
              have hnk2 : (k : Int) + (n : Int) ≤ 100000000 := by unfold UpTo at HU; omega
              have HPOS := Lib.hid hpos
              have HLE := Lib.hid hle
              clear he hat hpos hle HD2
              go_wp2_with fail
              refine (KE.out _).mono ?_
              rintro e w2 ⟨rfl, rfl⟩
              rw [hr.out]
              go_wp2_with fail
              refine (signText_spec _ _).mono ?_
              rintro e w2 ⟨rfl, hb2⟩
              rw [hsT.out]
              have hown2 := own_below hown hb2
              have hb3 := hb.trans (hb2.mono hb.size)
              have HSZ := Lib.hid (toList_size (signB r))
              have HE : Hid ((⟨(signB r).toArray⟩ : ByteArray).data.toList = signB r) := rfl
              generalize (⟨(signB r).toArray⟩ : ByteArray) = t at *
              clear hown hb2 hb
              go_wp2_with (at_builtin; refine Lib.wpList_append_own_string _ rfl _ _ 22 9 rfl w.heap.size 5 i0 Tryd.underlying22 Tryd.underlying9 hi hz0 hz1 hz2 _ _ _ rfl hown2 _ rfl (by rw [HSZ.out]; have := HPOS.out; have := HLE.out; unfold UpTo at hnb; unfold maxLen; omega) (by rw [HSZ.out]; have := HPOS.out; have := HLE.out; unfold UpTo at hnb; omega) hb3.size ?_; intro v2 w3 hown3 hgrow _)
              have hb4 := hb3.grown hgrow hb3.size (own_blockI hown2)
              have hown4 : w3.ownsRow w.heap.size 5 1 v2 (acc ++ signB r).length (Lib.byteCells (acc ++ signB r)) := by
                rw [Lib.byteCells_append, List.length_append]
                rw [strCells_eq, HSZ.out, HE.out] at hown3
                exact hown3
              clear hown2 hown3 hgrow hb3
              go_wp2
              go_roundw
              case rel => exact ⟨k + n, acc ++ signB r, by have := HPOS.out; omega, by go_num, by have := HPOS.out; have := HLE.out; simp; omega, hat2, hown4, hb4⟩
              case measure => have := HPOS.out; simp [intOf]; omega
          have e_q5 : ((s[k + 1].toNat : Int) == 117) = false := byte_ne2 (d := 117) q5
          have hat2 := Lib.hid (HA.out s[k + 1] q5 (by unfold propB; rw [if_neg q1, if_neg q2, if_neg q3, if_neg q4]))
          clear HA HD KE hat q1 q2 q3 q4 q5
          have hb2 := hb.alloc hsw (.cells #[.int .u8 (s[k + 1].toNat : Int)] 5)
          go_wp2_with (at_builtin; refine wpList_append_own _ rfl _ _ 22 rfl w.heap.size 5 i0 (.int .u8 0) 1 1 Tryd.underlying22 hi hz0 hz1 hz2 rfl (by decide) _ _ _ rfl (hown.alloc _) ⟨wr.heap.size, 0, none⟩ 1 1 [.int .u8 (s[k + 1].toNat : Int)] rfl rfl (cell_one_newI _ _ _) (by simp [Value.oneCell']) (by unfold UpTo at hnb; unfold maxLen; omega) (by unfold UpTo at hnb; omega) hb2.size ?_; intro v2 w3 hown3 hgrow _)
          have hb4 := hb2.grown hgrow hb2.size (own_blockI hown)
          have hown4 : w3.ownsRow w.heap.size 5 1 v2 (acc ++ [s[k + 1]]).length (Lib.byteCells (acc ++ [s[k + 1]])) := by
            rw [Lib.byteCells_append, List.length_append]; exact hown3
          clear hown hown3 hgrow hb2 hb
          go_wp2
          go_roundw
          case rel => exact ⟨k + 2, acc ++ [s[k + 1]], by omega, by go_num, by simp; omega, hat2, hown4, hb4⟩
          case measure => simp [intOf]; omega
        · have hk1e : ((k : Int) + 1 == (s.size : Int)) = true := by rw [beq_iff_eq]; omega
          have hd : s.data.toList.drop k = [92] := by
            rw [drop_at s k hlt, h92, List.drop_of_length_le (by rw [← HL.out]; omega)]
          have hat2 := Lib.hid (propAt_last hat.out hd)
          clear hd h92 hat
          go_wp2
          go_roundw
          case rel => exact ⟨k + 1, acc, by omega, by go_num, by omega, hat2, hown, hb⟩
          case measure => simp [intOf]; omega
      · have b92 : ((s[k].toNat : Int) != 92) = true := byte_ne (d := 92) h92
        have hat2 := Lib.hid (propAt_plain hat.out (drop_at s k hlt) h92)
        clear h92 hat
        have hb2 := hb.alloc hsw (.cells #[.int .u8 (s[k].toNat : Int)] 5)
        go_wp2_with (at_builtin; refine wpList_append_own _ rfl _ _ 22 rfl w.heap.size 5 i0 (.int .u8 0) 1 1 Tryd.underlying22 hi hz0 hz1 hz2 rfl (by decide) _ _ _ rfl (hown.alloc _) ⟨wr.heap.size, 0, none⟩ 1 1 [.int .u8 (s[k].toNat : Int)] rfl rfl (cell_one_newI _ _ _) (by simp [Value.oneCell']) (by unfold UpTo at hnb; unfold maxLen; omega) (by unfold UpTo at hnb; omega) hb2.size ?_; intro v2 w3 hown3 hgrow _)
        have hb4 := hb2.grown hgrow hb2.size (own_blockI hown)
        have hown4 : w3.ownsRow w.heap.size 5 1 v2 (acc ++ [s[k]]).length (Lib.byteCells (acc ++ [s[k]])) := by
          rw [Lib.byteCells_append, List.length_append]; exact hown3
        clear hown hown3 hgrow hb2 hb
        go_wp2
        go_roundw
        case rel => exact ⟨k + 1, acc ++ [s[k]], by omega, by go_num, by simp; omega, hat2, hown4, hb4⟩
        case measure => simp [intOf]; omega
    · obtain rfl : k = s.size := by omega
      have h3 := Lib.hid (propT_good (propAt_end hat.out (by rw [← HL.out]; exact Nat.le_refl _)))
      have hcv := text_of_ownI wr w.heap.size acc.length _ acc hown rfl
      clear hown hat
      go_wp2
      go_ret2
      exact ⟨by rw [h3.out]; rfl, hb⟩

end Go.Proofs.YtflnpkckdjmljaaDoor
