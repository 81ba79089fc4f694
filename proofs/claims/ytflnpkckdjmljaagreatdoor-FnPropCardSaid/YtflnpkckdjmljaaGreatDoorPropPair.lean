/- Texts of property files put: the model's contracts of l07Put, PropKey, PropValue, PropPair. -/
import Derived.Test.YtflnpkckdjmljaaGreatDoorProg
import Derived.Test.YtflnpkckdjmljaaGreatDoorPlain
import Derived.Test.YtflnpkckdjmljaaGreatDoorHex
import Derived.Test.YtflnpkckdjmljaaGreatDoorCut
import Derived.Test.YtflnpkckdjmljaaGreatDoorRunePure
import Derived.Test.YtflnpkckdjmljaaGreatDoorRuneText
import Derived.Test.YtflnpkckdjmljaaGreatDoorInts
import Derived.Test.YtflnpkckdjmljaaGreatDoorBuild
import Derived.Test.YtflnpkckdjmljaaGreatDoorTextOf
import Derived.Test.YtflnpkckdjmljaaGreatDoorNextSpec
import Derived.Test.YtflnpkckdjmljaaGreatDoorSigns
import Derived.Test.YtflnpkckdjmljaaGreatDoorPutEsc
import Derived.Test.YtflnpkckdjmljaaGreatDoorPropPure
import Derived.WalkKit
import Derived.WalkLawsBesides
import Derived.OwnWalk
import Derived.Lib.AppendStr
import Derived.Laws.IdiomStrings
import Derived.Lib.Hide
import Derived.IntWalk
set_option maxRecDepth 100000
namespace Go.Proofs.YtflnpkckdjmljaaGreatDoor
open Go.RowKit
set_option linter.unusedVariables false

theorem cell_two_newP (w : World) (x y : Value) (t : TypeId) : ∀ j u, [x, y][j]? = some u → (w.alloc (.cells #[x, y] t)).cell? ((⟨w.heap.size, 0, none⟩ : Addr).add j) = some u := by
  intro j u hu
  have ha : ∀ j, (⟨w.heap.size, 0, none⟩ : Addr).add j = ⟨w.heap.size, j, none⟩ := by intro j; unfold Addr.add; split <;> simp_all
  rw [ha, Lib.cell_of_heap (heap_alloc_new _ _)]
  match j, hu with
  | 0, hu => simpa using hu
  | 1, hu => simpa using hu
  | j + 2, hu => simp at hu
theorem byte_isP {c d : UInt8} (h : c = d) : ((c.toNat : Int) == (d.toNat : Int)) = true := by rw [h]; simp
theorem byte_noP {c d : UInt8} (h : c ≠ d) : ((c.toNat : Int) == (d.toNat : Int)) = false := by
  rw [beq_eq_false_iff_ne]; intro e; exact h (UInt8.toNat_inj.1 (Int.ofNat_inj.1 e))
abbrev put4B : ByteArray := ⟨#[61, 58, 35, 33]⟩
theorem mark_has (c : UInt8) : hasB put4B c = (c == 61 || c == 58 || c == 35 || c == 33) := by
  unfold hasB
  simp only [List.contains_cons, List.contains_nil, Bool.or_false, Bool.or_assoc]
/-- how far it has come -/
def PutAt (all : Bool) (L : List UInt8) (k : Nat) (acc : List UInt8) : Prop := propL all L = acc ++ propW (signsO L) all L.length (k == 0) (L.drop k) ∧ (signsO L = true → (signsL (L.drop k)).isSome = true)
theorem putAt_zero (all : Bool) (L : List UInt8) : PutAt all L 0 [] := ⟨by rw [List.drop_zero]; rfl, fun h => by rw [List.drop_zero]; exact h⟩
theorem propP_len (all : Bool) (b : UInt8) : (propP all b).length ≤ 6 := by
  unfold propP
  repeat' split
  all_goals simp [uE_len]
theorem putAt_byte {all : Bool} {L : List UInt8} {k : Nat} {acc : List UInt8} {c : UInt8} {t : List UInt8} (h : PutAt all L k acc) (hd : L.drop k = c :: t) (hc : ¬ (127 < c.toNat ∧ signsO L = true)) : PutAt all L (k + 1) (acc ++ propP (all || k == 0) c) := by
  obtain ⟨h1, h2⟩ := h
  have hl : k < L.length := by
    apply Classical.byContradiction
    intro hn
    rw [List.drop_of_length_le (by omega)] at hd
    cases hd
  have ht : L.drop (k + 1) = t := by rw [← List.drop_drop, hd]; rfl
  obtain ⟨f, hf⟩ : ∃ f, L.length = f + 1 := ⟨L.length - 1, by omega⟩
  have htl : t.length ≤ f := by rw [← ht, List.length_drop]; omega
  refine ⟨?_, ?_⟩
  · rw [h1, hd, hf, propW_byte _ _ _ _ _ _ hc, ht, propW_more _ _ f (f + 1) false t htl (by omega)]
    simp
  · intro ho
    have hlow : c.toNat ≤ 127 := by
      apply Classical.byContradiction
      intro hx
      exact hc ⟨by omega, ho⟩
    have := h2 ho
    rw [hd] at this
    have := signs_on (next_low (t := t) hlow) this
    rw [ht]
    simpa using this
theorem putAt_sign {all : Bool} {L : List UInt8} {k : Nat} {acc : List UInt8} {c : UInt8} {t : List UInt8} {r n : Nat} (h : PutAt all L k acc) (hd : L.drop k = c :: t) (hc : 127 < c.toNat) (ho : signsO L = true) (hn : nextS (c :: t) = some (r, n)) : PutAt all L (k + n) (acc ++ escB r) := by
  obtain ⟨h1, h2⟩ := h
  have hp := next_pos hn
  have hl : k < L.length := by
    apply Classical.byContradiction
    intro hx
    rw [List.drop_of_length_le (by omega)] at hd
    cases hd
  have ht : L.drop (k + n) = (c :: t).drop n := by rw [← List.drop_drop, hd]
  obtain ⟨f, hf⟩ : ∃ f, L.length = f + 1 := ⟨L.length - 1, by omega⟩
  have htl : ((c :: t).drop n).length ≤ f := by rw [← ht, List.length_drop]; omega
  refine ⟨?_, ?_⟩
  · rw [h1, hd, hf, ho, propW_sign _ _ _ _ _ hc hn, ht, propW_more _ _ f (f + 1) false _ htl (by omega)]
    have : (k + n == 0) = false := by rw [beq_eq_false_iff_ne]; omega
    rw [this]
    simp
  · intro _
    have := h2 ho
    rw [hd] at this
    rw [ht]
    exact signs_on hn this
theorem putAt_end {all : Bool} {L : List UInt8} {k : Nat} {acc : List UInt8} (h : PutAt all L k acc) (hk : L.length ≤ k) : propL all L = acc := by
  rw [h.1, List.drop_of_length_le hk]
  cases L.length <;> simp [propW]
theorem put_sign {s : ByteArray} {k r n : Nat} (hn : nextS (s.data.toList.drop k) = some (r, n)) : putT (s.extract k (k + n)).data.toList = escB r := by
  obtain ⟨h1, h2, h3, _⟩ := next_some hn
  have e : (s.extract k (k + n)).data.toList = signB r := by
    rw [extract_toList, show k + n - k = n by omega, h3, h2, List.take_left']
    rfl
  have hs := signsL_sign r h1 []
  rw [List.append_nil, signsL_nil] at hs
  rw [e]
  unfold putT signsI
  rw [hs]
  have e2 : (Option.map (r :: ·) (some ([] : List Nat))).getD [] = [r] := rfl
  rw [e2, putI_of]
  simp [putE]
def propPutT (all : Bool) (s : ByteArray) : ByteArray := ⟨(propL all s.data.toList).toArray⟩

set_option maxHeartbeats 6400000 in
theorem propPut_spec (s : ByteArray) (all : Bool) (w : World) (hs : s.size ≤ 8000000) :
    Calls Tryz.prog 39 #[.string s, .bool all] w fun e w' => e = .returned (.string (propPutT all s)) ∧ Below w.heap.size w w' := by
  obtain ⟨i0, hi, hz0, hz1, hz2⟩ := info_parts info_byteB
  have HU : UpTo s.size 8000000 := hs
  have HL := Lib.hid (Lib.size_eq s)
  have KS := Lib.hid (signs_spec s (by omega) w)
  have KN := Lib.hid (fun (k : Nat) (h : k < s.size) w => next_spec s k h (by omega) w)
  have KP := Lib.hid (fun (x : ByteArray) (h : x.size ≤ 100000000) w => put_spec x h w)
  clear hs
  go_enter Tryz.func39, Tryz.ntmps39
  go_wp2_with fail
  refine KS.out.mono ?_
  rintro e w1 ⟨v0, g, rfl, hI, hg, hb1⟩
  clear KS hI hg
  have hsz1 := hb1.size
  obtain ⟨ok, hok⟩ : ∃ ok, ok = signsO s.data.toList := ⟨_, rfl⟩
  rw [← hok]
  have HOK := Lib.hid hok
  clear hok
  go_wp2
  go_loopw [7, 8] (fun v i wr => ∃ (k : Nat) (acc : List UInt8), k ≤ s.size ∧ i = .int .i64 k ∧ acc.length ≤ 12 * k ∧ Hid (PutAt all s.data.toList k acc) ∧ wr.ownsRow w1.heap.size 5 1 v acc.length (Lib.byteCells acc) ∧ Below w1.heap.size w1 wr) (fun _ i _ => s.size - (intOf i).toNat)
  case atStart => exact ⟨0, [], Nat.zero_le _, rfl, Nat.le_refl _, putAt_zero _ _, World.ownsRow_lit w1 #[] 0 (Nat.le_refl _) (Nat.zero_le _) rfl, (Below.refl _ _).alloc (Nat.le_refl _) _⟩
  case round =>
    obtain ⟨k, acc, hk, rfl, hak, hat, hown, hb⟩ := hrel
    by_cases hlt : k < s.size
    · have hnb : UpTo acc.length 96000000 := by unfold UpTo at *; omega
      have hd := drop_at s k hlt
      have HB : Hid (∀ m, ¬ (127 < s[k].toNat ∧ ok = true) → propP (all || k == 0) s[k] = m → PutAt all s.data.toList (k + 1) (acc ++ m)) := fun m h1 h2 => by rw [← h2]; exact putAt_byte hat.out hd (by rw [← HOK.out]; exact h1)
      have HS : Hid (∀ r n, 127 < s[k].toNat → ok = true → nextS (s.data.toList.drop k) = some (r, n) → PutAt all s.data.toList (k + n) (acc ++ escB r)) := fun r n h1 h2 h3 => putAt_sign hat.out hd h1 (by rw [← HOK.out]; exact h2) (by rw [← hd]; exact h3)
      have HO : Hid (ok = true → (signsL (s.data.toList.drop k)).isSome = true) := fun h => hat.out.2 (by rw [← HOK.out]; exact h)
      have KH := Lib.hid (fun w => has_any put4B s[k] w (by decide))
      rw [mark_has] at KH
      have HNE : Hid (s.data.toList.drop k ≠ []) := by unfold Hid; rw [hd]; simp
      have hkc : (k : Int) < 100000001 := by unfold UpTo at HU; omega
      clear hd hat
      by_cases q1 : s[k] = 10
      · have e_q1 : ((s[k].toNat : Int) == 10) = true := byte_isP (d := 10) q1
        have hat2 := Lib.hid (HB.out [92, 110] (by rw [q1]; exact fun h => absurd h.1 (by decide)) (by unfold propP; rw [if_pos q1]))
        clear HB HS HO KH HNE KN KP q1 
        have hb2 := hb.alloc hb.size (.cells #[.int .u8 92, .int .u8 110] 5)
        go_wp2_with (at_builtin; refine wpList_append_own _ rfl _ _ 22 rfl w1.heap.size 5 i0 (.int .u8 0) 1 1 Tryz.underlying22 hi hz0 hz1 hz2 rfl (by decide) _ _ _ rfl (hown.alloc _) ⟨wr.heap.size, 0, none⟩ 2 2 [.int .u8 92, .int .u8 110] rfl rfl (cell_two_newP _ _ _ _) (by simp [Value.oneCell']) (by unfold UpTo at hnb; unfold maxLen; omega) (by unfold UpTo at hnb; omega) hb2.size ?_; intro v2 w3 hown3 hgrow _)
        have hb4 := hb2.grown hgrow hb2.size (own_blockI hown)
        have hown4 : w3.ownsRow w1.heap.size 5 1 v2 (acc ++ [92, 110]).length (Lib.byteCells (acc ++ [92, 110])) := by
          rw [Lib.byteCells_append, List.length_append]; exact hown3
        clear hown hown3 hgrow hb2 hb
        go_wp2
        go_roundw
        case rel => exact ⟨k + 1, acc ++ [92, 110], by omega, by go_num, by simp; omega, hat2, hown4, hb4⟩
        case measure => simp [intOf]; omega
      have e_q1 : ((s[k].toNat : Int) == 10) = false := byte_noP (d := 10) q1
      by_cases q2 : s[k] = 9
      · have e_q2 : ((s[k].toNat : Int) == 9) = true := byte_isP (d := 9) q2
        have hat2 := Lib.hid (HB.out [92, 116] (by rw [q2]; exact fun h => absurd h.1 (by decide)) (by unfold propP; rw [if_neg q1, if_pos q2]))
        clear HB HS HO KH HNE KN KP q2 q1
        have hb2 := hb.alloc hb.size (.cells #[.int .u8 92, .int .u8 116] 5)
        go_wp2_with (at_builtin; refine wpList_append_own _ rfl _ _ 22 rfl w1.heap.size 5 i0 (.int .u8 0) 1 1 Tryz.underlying22 hi hz0 hz1 hz2 rfl (by decide) _ _ _ rfl (hown.alloc _) ⟨wr.heap.size, 0, none⟩ 2 2 [.int .u8 92, .int .u8 116] rfl rfl (cell_two_newP _ _ _ _) (by simp [Value.oneCell']) (by unfold UpTo at hnb; unfold maxLen; omega) (by unfold UpTo at hnb; omega) hb2.size ?_; intro v2 w3 hown3 hgrow _)
        have hb4 := hb2.grown hgrow hb2.size (own_blockI hown)
        have hown4 : w3.ownsRow w1.heap.size 5 1 v2 (acc ++ [92, 116]).length (Lib.byteCells (acc ++ [92, 116])) := by
          rw [Lib.byteCells_append, List.length_append]; exact hown3
        clear hown hown3 hgrow hb2 hb
        go_wp2
        go_roundw
        case rel => exact ⟨k + 1, acc ++ [92, 116], by omega, by go_num, by simp; omega, hat2, hown4, hb4⟩
        case measure => simp [intOf]; omega
      have e_q2 : ((s[k].toNat : Int) == 9) = false := byte_noP (d := 9) q2
      by_cases q3 : s[k] = 13
      · have e_q3 : ((s[k].toNat : Int) == 13) = true := byte_isP (d := 13) q3
        have hat2 := Lib.hid (HB.out [92, 114] (by rw [q3]; exact fun h => absurd h.1 (by decide)) (by unfold propP; rw [if_neg q1, if_neg q2, if_pos q3]))
        clear HB HS HO KH HNE KN KP q3 q1 q2
        have hb2 := hb.alloc hb.size (.cells #[.int .u8 92, .int .u8 114] 5)
        go_wp2_with (at_builtin; refine wpList_append_own _ rfl _ _ 22 rfl w1.heap.size 5 i0 (.int .u8 0) 1 1 Tryz.underlying22 hi hz0 hz1 hz2 rfl (by decide) _ _ _ rfl (hown.alloc _) ⟨wr.heap.size, 0, none⟩ 2 2 [.int .u8 92, .int .u8 114] rfl rfl (cell_two_newP _ _ _ _) (by simp [Value.oneCell']) (by unfold UpTo at hnb; unfold maxLen; omega) (by unfold UpTo at hnb; omega) hb2.size ?_; intro v2 w3 hown3 hgrow _)
        have hb4 := hb2.grown hgrow hb2.size (own_blockI hown)
        have hown4 : w3.ownsRow w1.heap.size 5 1 v2 (acc ++ [92, 114]).length (Lib.byteCells (acc ++ [92, 114])) := by
          rw [Lib.byteCells_append, List.length_append]; exact hown3
        clear hown hown3 hgrow hb2 hb
        go_wp2
        go_roundw
        case rel => exact ⟨k + 1, acc ++ [92, 114], by omega, by go_num, by simp; omega, hat2, hown4, hb4⟩
        case measure => simp [intOf]; omega
      have e_q3 : ((s[k].toNat : Int) == 13) = false := byte_noP (d := 13) q3
      by_cases q4 : s[k] = 12
      · have e_q4 : ((s[k].toNat : Int) == 12) = true := byte_isP (d := 12) q4
        have hat2 := Lib.hid (HB.out [92, 102] (by rw [q4]; exact fun h => absurd h.1 (by decide)) (by unfold propP; rw [if_neg q1, if_neg q2, if_neg q3, if_pos q4]))
        clear HB HS HO KH HNE KN KP q4 q1 q2 q3
        have hb2 := hb.alloc hb.size (.cells #[.int .u8 92, .int .u8 102] 5)
        go_wp2_with (at_builtin; refine wpList_append_own _ rfl _ _ 22 rfl w1.heap.size 5 i0 (.int .u8 0) 1 1 Tryz.underlying22 hi hz0 hz1 hz2 rfl (by decide) _ _ _ rfl (hown.alloc _) ⟨wr.heap.size, 0, none⟩ 2 2 [.int .u8 92, .int .u8 102] rfl rfl (cell_two_newP _ _ _ _) (by simp [Value.oneCell']) (by unfold UpTo at hnb; unfold maxLen; omega) (by unfold UpTo at hnb; omega) hb2.size ?_; intro v2 w3 hown3 hgrow _)
        have hb4 := hb2.grown hgrow hb2.size (own_blockI hown)
        have hown4 : w3.ownsRow w1.heap.size 5 1 v2 (acc ++ [92, 102]).length (Lib.byteCells (acc ++ [92, 102])) := by
          rw [Lib.byteCells_append, List.length_append]; exact hown3
        clear hown hown3 hgrow hb2 hb
        go_wp2
        go_roundw
        case rel => exact ⟨k + 1, acc ++ [92, 102], by omega, by go_num, by simp; omega, hat2, hown4, hb4⟩
        case measure => simp [intOf]; omega
      have e_q4 : ((s[k].toNat : Int) == 12) = false := byte_noP (d := 12) q4
      have HB2 : Hid (∀ m, ¬ (127 < s[k].toNat ∧ ok = true) → (if propM (all || k == 0) s[k] then [92, s[k]] else if s[k].toNat < 32 ∨ s[k] = 127 then uE s[k].toNat else [s[k]]) = m → PutAt all s.data.toList (k + 1) (acc ++ m)) := fun m h1 h2 => HB.out m h1 (by unfold propP; rw [if_neg q1, if_neg q2, if_neg q3, if_neg q4]; exact h2)
      clear HB q1 q2 q3 q4
      have k0 : ((k : Int) == 0) = (k == 0) := by
        by_cases e : k = 0
        · rw [e]; rfl
        · rw [show (k == 0) = false by simpa using e, beq_eq_false_iff_ne]; omega
      by_cases q5 : s[k] = 92
      · have e5 : ((s[k].toNat : Int) == 92) = true := byte_isP (d := 92) q5
        have hat2 := Lib.hid (HB2.out [92, s[k]] (by rw [q5]; exact fun h => absurd h.1 (by decide)) (by rw [if_pos (by rw [q5]; unfold propM; rfl)]))
        clear HB2 HS HO KH HNE KN KP q5 k0
        have hb2 := hb.alloc hb.size (.cells #[.int .u8 92, .int .u8 (s[k].toNat : Int)] 5)
        go_wp2_with (at_builtin; refine wpList_append_own _ rfl _ _ 22 rfl w1.heap.size 5 i0 (.int .u8 0) 1 1 Tryz.underlying22 hi hz0 hz1 hz2 rfl (by decide) _ _ _ rfl (hown.alloc _) ⟨wr.heap.size, 0, none⟩ 2 2 [.int .u8 92, .int .u8 (s[k].toNat : Int)] rfl rfl (cell_two_newP _ _ _ _) (by simp [Value.oneCell']) (by unfold UpTo at hnb; unfold maxLen; omega) (by unfold UpTo at hnb; omega) hb2.size ?_; intro v2 w3 hown3 hgrow _)
        have hb4 := hb2.grown hgrow hb2.size (own_blockI hown)
        have hown4 : w3.ownsRow w1.heap.size 5 1 v2 (acc ++ [92, s[k]]).length (Lib.byteCells (acc ++ [92, s[k]])) := by
          rw [Lib.byteCells_append, List.length_append]; exact hown3
        clear hown hown3 hgrow hb2 hb
        go_wp2
        go_roundw
        case rel => exact ⟨k + 1, acc ++ [92, s[k]], by omega, by go_num, by simp; omega, hat2, hown4, hb4⟩
        case measure => simp [intOf]; omega
      have e5 : ((s[k].toNat : Int) == 92) = false := byte_noP (d := 92) q5
      have n92 : (s[k] == 92) = false := by simpa using q5
      have HPM : Hid (propM (all || k == 0) s[k] = ((s[k] == 61 || s[k] == 58 || s[k] == 35 || s[k] == 33) || (s[k] == 32 && (all || k == 0)))) := by unfold Hid propM; rw [n92, Bool.false_or]
      clear q5 n92
      cases hm : (s[k] == 61 || s[k] == 58 || s[k] == 35 || s[k] == 33)
      · rw [hm] at KH HPM
        rw [Bool.false_or] at HPM
        by_cases q6 : s[k] = 32
        · have e6 : ((s[k].toNat : Int) == 32) = true := byte_isP (d := 32) q6
          have b32 : (s[k] == 32) = true := by simpa using q6
          rw [b32, Bool.true_and] at HPM
          have hlow : ¬ (127 < s[k].toNat ∧ ok = true) := by rw [q6]; exact fun h => absurd h.1 (by decide)
          cases hall : (all || k == 0)
          · rw [hall] at HPM
            have hat2 := Lib.hid (HB2.out [s[k]] hlow (by rw [hall, HPM.out, if_neg (by decide), if_neg (by rw [q6]; decide)]))
            have hg1 : decide ((s[k].toNat : Int) < 32) = false := by rw [q6]; rfl
            have hg2 : ((s[k].toNat : Int) == 127) = false := by rw [q6]; rfl
            have hg3 : decide (127 < (s[k].toNat : Int)) = false := by rw [q6]; rfl
            have hg4 : decide ((s[k].toNat : Int) > 127) = false := by rw [q6]; rfl
            simp only [Bool.or_eq_false_iff] at hall
            obtain ⟨rfl, hk0⟩ := hall
            rw [hk0] at k0
            clear HB2 HS HO HNE KN KP HPM q6 b32 hlow hm hk0
            go_wp2_with fail
            refine (KH.out _).mono ?_
            rintro e w2 ⟨rfl, rfl⟩
            clear KH
            have hb2 := hb.alloc hb.size (.cells #[.int .u8 (s[k].toNat : Int)] 5)
            go_wp2_with (at_builtin; refine wpList_append_own _ rfl _ _ 22 rfl w1.heap.size 5 i0 (.int .u8 0) 1 1 Tryz.underlying22 hi hz0 hz1 hz2 rfl (by decide) _ _ _ rfl (hown.alloc _) ⟨wr.heap.size, 0, none⟩ 1 1 [.int .u8 (s[k].toNat : Int)] rfl rfl (cell_one_newI _ _ _) (by simp [Value.oneCell']) (by unfold UpTo at hnb; unfold maxLen; omega) (by unfold UpTo at hnb; omega) hb2.size ?_; intro v2 w3 hown3 hgrow _)
            have hb4 := hb2.grown hgrow hb2.size (own_blockI hown)
            have hown4 : w3.ownsRow w1.heap.size 5 1 v2 (acc ++ [s[k]]).length (Lib.byteCells (acc ++ [s[k]])) := by
              rw [Lib.byteCells_append, List.length_append]; exact hown3
            clear hown hown3 hgrow hb2 hb
            go_wp2
            go_roundw
            case rel => exact ⟨k + 1, acc ++ [s[k]], by omega, by go_num, by simp; omega, hat2, hown4, hb4⟩
            case measure => simp [intOf]; omega
          · rw [hall] at HPM
            have hat2 := Lib.hid (HB2.out [92, s[k]] hlow (by rw [hall, HPM.out, if_pos rfl]))
            clear HB2 HS HO HNE KN KP HPM q6 b32 hlow hm
            cases all
            · rw [Bool.false_or] at hall
              rw [hall] at k0
              clear hall
              go_wp2_with fail
              refine (KH.out _).mono ?_
              rintro e w2 ⟨rfl, rfl⟩
              clear KH
              have hb2 := hb.alloc hb.size (.cells #[.int .u8 92, .int .u8 (s[k].toNat : Int)] 5)
              go_wp2_with (at_builtin; refine wpList_append_own _ rfl _ _ 22 rfl w1.heap.size 5 i0 (.int .u8 0) 1 1 Tryz.underlying22 hi hz0 hz1 hz2 rfl (by decide) _ _ _ rfl (hown.alloc _) ⟨wr.heap.size, 0, none⟩ 2 2 [.int .u8 92, .int .u8 (s[k].toNat : Int)] rfl rfl (cell_two_newP _ _ _ _) (by simp [Value.oneCell']) (by unfold UpTo at hnb; unfold maxLen; omega) (by unfold UpTo at hnb; omega) hb2.size ?_; intro v2 w3 hown3 hgrow _)
              have hb4 := hb2.grown hgrow hb2.size (own_blockI hown)
              have hown4 : w3.ownsRow w1.heap.size 5 1 v2 (acc ++ [92, s[k]]).length (Lib.byteCells (acc ++ [92, s[k]])) := by
                rw [Lib.byteCells_append, List.length_append]; exact hown3
              clear hown hown3 hgrow hb2 hb
              go_wp2
              go_roundw
              case rel => exact ⟨k + 1, acc ++ [92, s[k]], by omega, by go_num, by simp; omega, hat2, hown4, hb4⟩
              case measure => simp [intOf]; omega
            · clear hall k0
              go_wp2_with fail
              refine (KH.out _).mono ?_
              rintro e w2 ⟨rfl, rfl⟩
              clear KH
              have hb2 := hb.alloc hb.size (.cells #[.int .u8 92, .int .u8 (s[k].toNat : Int)] 5)
              go_wp2_with (at_builtin; refine wpList_append_own _ rfl _ _ 22 rfl w1.heap.size 5 i0 (.int .u8 0) 1 1 Tryz.underlying22 hi hz0 hz1 hz2 rfl (by decide) _ _ _ rfl (hown.alloc _) ⟨wr.heap.size, 0, none⟩ 2 2 [.int .u8 92, .int .u8 (s[k].toNat : Int)] rfl rfl (cell_two_newP _ _ _ _) (by simp [Value.oneCell']) (by unfold UpTo at hnb; unfold maxLen; omega) (by unfold UpTo at hnb; omega) hb2.size ?_; intro v2 w3 hown3 hgrow _)
              have hb4 := hb2.grown hgrow hb2.size (own_blockI hown)
              have hown4 : w3.ownsRow w1.heap.size 5 1 v2 (acc ++ [92, s[k]]).length (Lib.byteCells (acc ++ [92, s[k]])) := by
                rw [Lib.byteCells_append, List.length_append]; exact hown3
              clear hown hown3 hgrow hb2 hb
              go_wp2
              go_roundw
              case rel => exact ⟨k + 1, acc ++ [92, s[k]], by omega, by go_num, by simp; omega, hat2, hown4, hb4⟩
              case measure => simp [intOf]; omega
        · have e6 : ((s[k].toNat : Int) == 32) = false := byte_noP (d := 32) q6
          have b32 : (s[k] == 32) = false := by simpa using q6
          rw [b32, Bool.false_and] at HPM
          clear q6 b32 hm k0
          by_cases q7 : s[k].toNat < 32 ∨ s[k] = 127
          · have hlow : ¬ (127 < s[k].toNat ∧ ok = true) := by
              rcases q7 with h | h
              · intro h2; omega
              · rw [h]; exact fun h => absurd h.1 (by decide)
            have hat2 := Lib.hid (HB2.out (uE s[k].toNat) hlow (by rw [HPM.out, if_neg (by decide), if_pos q7]))
            have KU := Lib.hid (fun w => uText_spec (s[k].toNat : Int) w (by omega) (by have := s[k].toNat_lt; omega))
            have hcv8 : IntKind.i64.wrap (s[k].toNat : Int) = (s[k].toNat : Int) := IntWalk.i64_in _ (by have := s[k].toNat_lt; omega)
            have HSZ0 := Lib.hid (toList_size (uE s[k].toNat))
            have HLE0 : Hid ((uE s[k].toNat).length = 6) := uE_len _
            have hnat : ((s[k].toNat : Int)).toNat = s[k].toNat := by omega
            rw [hnat] at KU
            have hg : (decide ((s[k].toNat : Int) < 32) = true) ∨ (decide ((s[k].toNat : Int) < 32) = false ∧ ((s[k].toNat : Int) == 127) = true) := by
              rcases q7 with h | h
              · exact .inl (by rw [decide_eq_true_iff]; omega)
              · exact .inr ⟨by rw [h]; rfl, by rw [h]; rfl⟩
            have HPOS : Hid (k + 1 ≤ s.size) := by unfold Hid; omega
            clear HB2 HS HO HNE KN KP HPM q7 hlow
            rcases hg with h32 | ⟨h32, h127⟩
            all_goals
              go_wp2_with fail
              refine (KH.out _).mono ?_
              rintro e w2 ⟨rfl, rfl⟩
              clear KH
              go_wp2_with fail
              refine (KU.out _).mono ?_
              rintro e w2 ⟨rfl, rfl⟩
              clear KU
              have HSZ := HSZ0
              have HE : Hid ((⟨(uE s[k].toNat).toArray⟩ : ByteArray).data.toList = uE s[k].toNat) := rfl
              have HLE := HLE0
              generalize (⟨(uE s[k].toNat).toArray⟩ : ByteArray) = t at *
              go_wp2_with (at_builtin; refine Lib.wpList_append_own_string _ rfl _ _ 22 9 rfl w1.heap.size 5 i0 Tryz.underlying22 Tryz.underlying9 hi hz0 hz1 hz2 _ _ _ rfl hown _ rfl (by rw [HSZ.out]; have := HLE.out; unfold UpTo at hnb; unfold maxLen; omega) (by rw [HSZ.out]; have := HLE.out; unfold UpTo at hnb; omega) hb.size ?_; intro v2 w3 hown3 hgrow _)
              have hb4 := hb.grown hgrow hb.size (own_blockI hown)
              have hown4 : w3.ownsRow w1.heap.size 5 1 v2 (acc ++ uE s[k].toNat).length (Lib.byteCells (acc ++ uE s[k].toNat)) := by
                rw [Lib.byteCells_append, List.length_append]
                rw [strCells_eq, HSZ.out, HE.out] at hown3
                exact hown3
              clear hown hown3 hgrow hb
              go_wp2
              go_roundw
              case rel => exact ⟨k + 1, acc ++ uE s[k].toNat, by have := HPOS.out; omega, by go_num, by have := HLE.out; have := HPOS.out; simp; omega, hat2, hown4, hb4⟩
              case measure => have := HPOS.out; simp [intOf]; omega
          · have h32 : decide ((s[k].toNat : Int) < 32) = false := by rw [decide_eq_false_iff_not]; omega
            have h127 : ((s[k].toNat : Int) == 127) = false := byte_noP (d := 127) (fun e => q7 (.inr e))
            by_cases q8 : 127 < s[k].toNat
            · have hgt : decide (127 < (s[k].toNat : Int)) = true := by rw [decide_eq_true_iff]; omega
              have hgt2 : decide ((s[k].toNat : Int) > 127) = true := by rw [decide_eq_true_iff]; omega
              cases ok
              · have hat2 := Lib.hid (HB2.out [s[k]] (by simp) (by rw [HPM.out, if_neg (by decide), if_neg q7]))
                clear HB2 HS HO HNE KN KP HPM q7 q8
                go_wp2_with fail
                refine (KH.out _).mono ?_
                rintro e w2 ⟨rfl, rfl⟩
                clear KH
                have hb2 := hb.alloc hb.size (.cells #[.int .u8 (s[k].toNat : Int)] 5)
                go_wp2_with (at_builtin; refine wpList_append_own _ rfl _ _ 22 rfl w1.heap.size 5 i0 (.int .u8 0) 1 1 Tryz.underlying22 hi hz0 hz1 hz2 rfl (by decide) _ _ _ rfl (hown.alloc _) ⟨wr.heap.size, 0, none⟩ 1 1 [.int .u8 (s[k].toNat : Int)] rfl rfl (cell_one_newI _ _ _) (by simp [Value.oneCell']) (by unfold UpTo at hnb; unfold maxLen; omega) (by unfold UpTo at hnb; omega) hb2.size ?_; intro v2 w3 hown3 hgrow _)
                have hb4 := hb2.grown hgrow hb2.size (own_blockI hown)
                have hown4 : w3.ownsRow w1.heap.size 5 1 v2 (acc ++ [s[k]]).length (Lib.byteCells (acc ++ [s[k]])) := by
                  rw [Lib.byteCells_append, List.length_append]; exact hown3
                clear hown hown3 hgrow hb2 hb
                go_wp2
                go_roundw
                case rel => exact ⟨k + 1, acc ++ [s[k]], by omega, by go_num, by simp; omega, hat2, hown4, hb4⟩
                case measure => simp [intOf]; omega
              · cases hn : nextS (s.data.toList.drop k) with
                | none =>
                  have h9 := HO.out rfl
                  rw [signsL_bad HNE.out hn] at h9
                  cases h9
                | some p =>
                  obtain ⟨r, n⟩ := p
                  have hat2 := Lib.hid (HS.out r n q8 rfl hn)
                  have hp := next_pos hn
                  rw [List.length_drop, ← HL.out] at hp
                  have hr : Hid (nextRes (s.data.toList.drop k) = .tuple #[.int .i64 r, .int .i64 n]) := by unfold Hid nextRes; rw [hn]
                  have hps := Lib.hid (put_sign hn)
                  have KN1 := Lib.hid (fun w => KN.out k hlt w)
                  have KP1 := Lib.hid (fun w => KP.out (s.extract k (k + n)) (by rw [ByteArray.size_extract]; unfold UpTo at HU; omega) w)
                  have hle : (escB r).length ≤ 12 := by have := escI_len (r : Int); simpa [escI] using this
                  have hnk : (k : Int) + (n : Int) ≤ (s.size : Int) := by omega
                  have hnk2 : (k : Int) ≤ (k : Int) + (n : Int) := by omega
                  have hnk3 : ((k : Int) + (n : Int)).toNat = k + n := by omega
                  have HLE := Lib.hid hle
                  have HPOS := Lib.hid hp
                  have hwk : wrap64 ((k : Int) + (n : Int)) = (k : Int) + (n : Int) := by unfold UpTo at HU; unfold wrap64; omega
                  clear HB2 HS HO HNE KN KP HPM q7 q8 hn hle hp
                  go_wp2_with fail
                  refine (KH.out _).mono ?_
                  rintro e w2 ⟨rfl, rfl⟩
                  clear KH
                  go_wp2_with fail
                  refine (KN1.out _).mono ?_
                  rintro e w2 ⟨rfl, hb2⟩
                  rw [hr.out]
                  have hown1 := own_below hown hb2
                  have hb3 := hb.trans (hb2.mono hb.size)
                  clear KN1 hown hb hb2
                  go_wp2_with fail
                  refine (KP1.out _).mono ?_
                  rintro e w4 ⟨rfl, hb2⟩
                  rw [hps.out]
                  have hown := own_below hown1 hb2
                  have hb := hb3.trans (hb2.mono hb3.size)
                  clear KP1 hown1 hb2 hb3
                  have HSZ := Lib.hid (toList_size (escB r))
                  have HE : Hid ((⟨(escB r).toArray⟩ : ByteArray).data.toList = escB r) := rfl
                  generalize (⟨(escB r).toArray⟩ : ByteArray) = t at *
                  go_wp2_with (at_builtin; refine Lib.wpList_append_own_string _ rfl _ _ 22 9 rfl w1.heap.size 5 i0 Tryz.underlying22 Tryz.underlying9 hi hz0 hz1 hz2 _ _ _ rfl hown _ rfl (by rw [HSZ.out]; have := HLE.out; unfold UpTo at hnb; unfold maxLen; omega) (by rw [HSZ.out]; have := HLE.out; unfold UpTo at hnb; omega) hb.size ?_; intro v2 w3 hown3 hgrow _)
                  have hb4 := hb.grown hgrow hb.size (own_blockI hown)
                  have hown4 : w3.ownsRow w1.heap.size 5 1 v2 (acc ++ escB r).length (Lib.byteCells (acc ++ escB r)) := by
                    rw [Lib.byteCells_append, List.length_append]
                    rw [strCells_eq, HSZ.out, HE.out] at hown3
                    exact hown3
                  clear hown hown3 hgrow hb
                  go_wp2
                  have HWK := Lib.hid hwk; clear hwk
                  go_roundw
                  case rel => exact ⟨k + n, acc ++ escB r, by have := HPOS.out; omega, by simp only [HWK.out]; go_num, by have := HLE.out; have := HPOS.out; simp; omega, hat2, hown4, hb4⟩
                  case measure => have := HPOS.out; simp only [HWK.out]; simp [intOf]; omega
            · have hgt : decide (127 < (s[k].toNat : Int)) = false := by rw [decide_eq_false_iff_not]; omega
              have hgt2 : decide ((s[k].toNat : Int) > 127) = false := by rw [decide_eq_false_iff_not]; omega
              have hat2 := Lib.hid (HB2.out [s[k]] (fun h => q8 h.1) (by rw [HPM.out, if_neg (by decide), if_neg q7]))
              clear HB2 HS HO HNE KN KP HPM q7 q8
              go_wp2_with fail
              refine (KH.out _).mono ?_
              rintro e w2 ⟨rfl, rfl⟩
              clear KH
              have hb2 := hb.alloc hb.size (.cells #[.int .u8 (s[k].toNat : Int)] 5)
              go_wp2_with (at_builtin; refine wpList_append_own _ rfl _ _ 22 rfl w1.heap.size 5 i0 (.int .u8 0) 1 1 Tryz.underlying22 hi hz0 hz1 hz2 rfl (by decide) _ _ _ rfl (hown.alloc _) ⟨wr.heap.size, 0, none⟩ 1 1 [.int .u8 (s[k].toNat : Int)] rfl rfl (cell_one_newI _ _ _) (by simp [Value.oneCell']) (by unfold UpTo at hnb; unfold maxLen; omega) (by unfold UpTo at hnb; omega) hb2.size ?_; intro v2 w3 hown3 hgrow _)
              have hb4 := hb2.grown hgrow hb2.size (own_blockI hown)
              have hown4 : w3.ownsRow w1.heap.size 5 1 v2 (acc ++ [s[k]]).length (Lib.byteCells (acc ++ [s[k]])) := by
                rw [Lib.byteCells_append, List.length_append]; exact hown3
              clear hown hown3 hgrow hb2 hb
              go_wp2
              go_roundw
              case rel => exact ⟨k + 1, acc ++ [s[k]], by omega, by go_num, by simp; omega, hat2, hown4, hb4⟩
              case measure => simp [intOf]; omega
      · rw [hm] at KH HPM
        rw [Bool.true_or] at HPM
        have hlow : ¬ (127 < s[k].toNat ∧ ok = true) := by
          simp only [Bool.or_eq_true, beq_iff_eq] at hm
          rcases hm with ((h | h) | h) | h <;> (rw [h]; exact fun h => absurd h.1 (by decide))
        have hat2 := Lib.hid (HB2.out [92, s[k]] hlow (by rw [HPM.out, if_pos rfl]))
        clear HB2 HS HO HNE KN KP HPM hlow hm k0
        go_wp2_with fail
        refine (KH.out _).mono ?_
        rintro e w2 ⟨rfl, rfl⟩
        clear KH
        have hb2 := hb.alloc hb.size (.cells #[.int .u8 92, .int .u8 (s[k].toNat : Int)] 5)
        go_wp2_with (at_builtin; refine wpList_append_own _ rfl _ _ 22 rfl w1.heap.size 5 i0 (.int .u8 0) 1 1 Tryz.underlying22 hi hz0 hz1 hz2 rfl (by decide) _ _ _ rfl (hown.alloc _) ⟨wr.heap.size, 0, none⟩ 2 2 [.int .u8 92, .int .u8 (s[k].toNat : Int)] rfl rfl (cell_two_newP _ _ _ _) (by simp [Value.oneCell']) (by unfold UpTo at hnb; unfold maxLen; omega) (by unfold UpTo at hnb; omega) hb2.size ?_; intro v2 w3 hown3 hgrow _)
        have hb4 := hb2.grown hgrow hb2.size (own_blockI hown)
        have hown4 : w3.ownsRow w1.heap.size 5 1 v2 (acc ++ [92, s[k]]).length (Lib.byteCells (acc ++ [92, s[k]])) := by
          rw [Lib.byteCells_append, List.length_append]; exact hown3
        clear hown hown3 hgrow hb2 hb
        go_wp2
        go_roundw
        case rel => exact ⟨k + 1, acc ++ [92, s[k]], by omega, by go_num, by simp; omega, hat2, hown4, hb4⟩
        case measure => simp [intOf]; omega
    · obtain rfl : k = s.size := by omega
      have h3 := Lib.hid (putAt_end hat.out (by rw [← HL.out]; exact Nat.le_refl _))
      have hcv := text_of_ownI wr w1.heap.size acc.length _ acc hown rfl
      have hb5 := hb1.trans (hb.mono hsz1)
      clear hown hat KN KP
      go_wp2
      go_ret
      exact ⟨by unfold propPutT; rw [h3.out]; rfl, hb5⟩

end Go.Proofs.YtflnpkckdjmljaaGreatDoor

/- A pair as it is written: the model's contracts of PropKey, PropValue and PropPair. -/
set_option maxRecDepth 100000
namespace Go.Proofs.YtflnpkckdjmljaaGreatDoor
open Go.RowKit
set_option linter.unusedVariables false

theorem propPutT_back (all : Bool) (s : ByteArray) : propR (propPutT all s).data.toList = some s.data.toList := propR_put all _
theorem propW_len (ok all : Bool) (f : Nat) (first : Bool) (l : List UInt8) : (propW ok all f first l).length ≤ 12 * l.length := by
  induction f generalizing first l with
  | zero => cases l <;> exact Nat.zero_le _
  | succ f ih =>
    cases l with
    | nil => simp [propW]
    | cons c t =>
      by_cases hc : 127 < c.toNat ∧ ok = true
      · obtain ⟨hc, rfl⟩ := hc
        cases hn : nextS (c :: t) with
        | none =>
          unfold propW
          simp [hc, hn]
        | some p =>
          obtain ⟨r, n⟩ := p
          have hp := next_pos hn
          rw [propW_sign _ _ _ _ _ hc hn, List.length_append]
          have h1 := ih false ((c :: t).drop n)
          have h2 : (escB r).length ≤ 12 := by have := escI_len (r : Int); simpa [escI] using this
          rw [List.length_drop] at h1
          simp only [List.length_cons] at *
          omega
      · rw [propW_byte _ _ _ _ _ _ hc, List.length_append]
        have h1 := ih false t
        have h2 := propP_len (all || first) c
        simp only [List.length_cons]
        omega
theorem propPutT_size (all : Bool) (s : ByteArray) : (propPutT all s).size ≤ 12 * s.size := by
  unfold propPutT
  rw [toList_size]
  have := propW_len (signsL s.data.toList).isSome all s.data.toList.length true s.data.toList
  rw [Lib.size_eq s]
  exact this
theorem propKey_spec (s : ByteArray) (w : World) (hs : s.size ≤ 8000000) :
    Calls Tryz.prog 21 #[.string s] w fun e w' => e = .returned (.string (propPutT true s)) ∧ Below w.heap.size w w' := by
  have K := Lib.hid (propPut_spec s true w hs)
  go_enter Tryz.func21, Tryz.ntmps21
  go_wp2_with fail
  refine K.out.mono ?_
  rintro e w1 ⟨rfl, hb⟩
  go_wp2
  go_ret
  exact ⟨rfl, hb⟩
theorem propValue_spec (s : ByteArray) (w : World) (hs : s.size ≤ 8000000) :
    Calls Tryz.prog 16 #[.string s] w fun e w' => e = .returned (.string (propPutT false s)) ∧ Below w.heap.size w w' := by
  have K := Lib.hid (propPut_spec s false w hs)
  go_enter Tryz.func16, Tryz.ntmps16
  go_wp2_with fail
  refine K.out.mono ?_
  rintro e w1 ⟨rfl, hb⟩
  go_wp2
  go_ret
  exact ⟨rfl, hb⟩
theorem propPair_spec (k v : ByteArray) (w : World) (hk : k.size ≤ 8000000) (hv : v.size ≤ 8000000) :
    Calls Tryz.prog 8 #[.string k, .string v] w fun e w' => e = .returned (.string (propPutT true k ++ ⟨#[61]⟩ ++ propPutT false v)) ∧ Below w.heap.size w w' := by
  have K1 := Lib.hid (propKey_spec k w hk)
  have K2 := Lib.hid (fun w => propValue_spec v w hv)
  go_enter Tryz.func8, Tryz.ntmps8
  go_wp2_with fail
  refine K1.out.mono ?_
  rintro e w1 ⟨rfl, hb⟩
  have hs1 := propPutT_size true k
  have hs2 := propPutT_size false v
  generalize ha : propPutT true k = a at *
  have hsa : a.size < 100000000 := by omega
  have hone : (⟨#[61]⟩ : ByteArray).size = 1 := rfl
  go_wp2_with fail
  refine (K2.out _).mono ?_
  rintro e w2 ⟨rfl, hb2⟩
  generalize hbv : propPutT false v = b at *
  have hsb : b.size < 100000000 := by omega
  have hsab : (a ++ ⟨#[61]⟩).size = a.size + 1 := by rw [ByteArray.size_append]; rfl
  go_wp2
  go_ret
  exact ⟨by rw [ha, hbv]; rfl, hb.trans (hb2.mono hb.size)⟩

end Go.Proofs.YtflnpkckdjmljaaGreatDoor
