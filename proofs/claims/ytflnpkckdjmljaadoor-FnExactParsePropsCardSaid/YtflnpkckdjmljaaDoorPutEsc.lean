/- Escapes written: the contracts of PutEscapes, the model's and the program's. -/
import Derived.Test.YtflnpkckdjmljaaDoorProg
import Derived.Test.YtflnpkckdjmljaaDoorPlain
import Derived.Test.YtflnpkckdjmljaaDoorHex
import Derived.Test.YtflnpkckdjmljaaDoorRunePure
import Derived.Test.YtflnpkckdjmljaaDoorRuneText
import Derived.Test.YtflnpkckdjmljaaDoorInts
import Derived.Test.YtflnpkckdjmljaaDoorBuild
import Derived.Test.YtflnpkckdjmljaaDoorTextOf
import Derived.Test.YtflnpkckdjmljaaDoorValid
import Derived.Test.YtflnpkckdjmljaaDoorSigns
import Derived.WalkKit
import Derived.WalkLawsBesides
import Derived.OwnWalk
import Derived.Lib.AppendStr
import Derived.Deep.AppendLies
import Derived.Lib.Hide
import Derived.IntWalk
namespace Go.Proofs.YtflnpkckdjmljaaDoor
open Go.RowKit
set_option linter.unusedVariables false

def escI (r : Int) : List UInt8 := escB r.toNat
theorem uE_of (n : Int) (h : 0 ≤ n) : (⟨#[92, 117]⟩ : ByteArray) ++ ⟨(Pl.hexOf n 4).toArray⟩ = ⟨(uE n.toNat).toArray⟩ := by
  have e : Pl.hexOf n 4 = Pl.hexT n.toNat 4 := by unfold Pl.hexOf; rw [if_neg (by omega)]; rfl
  rw [e]
  exact Pl.join_lists [92, 117] _
theorem uText_spec (n : Int) (w : World) (h0 : 0 ≤ n) (h1 : n ≤ 9223372036854775807) :
    Calls Tryd.prog 59 #[.int .i64 n] w fun e w' => e = .returned (.string ⟨(uE n.toNat).toArray⟩) ∧ w = w' := by
  have h3 := Lib.hid (uE_of n h0)
  have hl : (Pl.hexOf n 4).length ≤ 4 := by
    unfold Pl.hexOf
    rw [if_neg (by omega), Pl.hexT_length]
    decide
  go_enter Tryd.func59, Tryd.ntmps59
  go_wp2_with fail
  refine (hex_spec n 4 _ h1).mono ?_
  rintro e w' ⟨rfl, rfl⟩
  generalize Pl.hexOf n 4 = t at *
  go_wp2
  go_ret
  exact ⟨by rw [← h3.out]; rfl, rfl⟩
theorem uText_impl (n : Int) (w : World) (h0 : 0 ≤ n) (h1 : n ≤ 9223372036854775807) :
    Calls Tryd.prog 101 #[.int .i64 n] w fun e w' => e = .returned (.string ⟨(uE n.toNat).toArray⟩) ∧ Below w.heap.size w w' := by
  have h3 := Lib.hid (uE_of n h0)
  have hl : (Pl.hexOf n 4).length ≤ 4 := by
    unfold Pl.hexOf
    rw [if_neg (by omega), Pl.hexT_length]
    decide
  go_enter Tryd.func101, Tryd.ntmps101
  go_wp2_with fail
  refine (hex_impl n 4 _ h1).mono ?_
  rintro e w' ⟨rfl, hb⟩
  generalize Pl.hexOf n 4 = t at *
  go_wp2
  go_ret
  exact ⟨by rw [← h3.out]; rfl, hb⟩

theorem escI_92 : escI 92 = [92, 92] := by unfold escI escB; rfl
theorem escI_plain {r : Int} (h0 : 32 ≤ r) (h1 : r ≤ 126) (h : r ≠ 92) : escI r = [u8 r.toNat] := by
  unfold escI escB
  rw [if_neg (by omega), if_pos (by omega)]
theorem escI_low {r : Int} (h0 : 0 ≤ r) (h : r < 32 ∨ 126 < r) (h1 : r < 65536) : escI r = uE r.toNat := by
  unfold escI escB
  rw [if_neg (by omega), if_neg (by omega), if_pos (by omega)]
theorem escI_high {r : Int} (h : 65536 ≤ r) : escI r = uE (55296 + (r - 65536) / 1024).toNat ++ uE (56320 + (r - 65536) % 1024).toNat := by
  unfold escI escB
  rw [if_neg (by omega), if_neg (by omega), if_neg (by omega)]
  have e1 : (55296 + (r - 65536) / 1024).toNat = 55296 + (r.toNat - 65536) / 1024 := by omega
  have e2 : (56320 + (r - 65536) % 1024).toNat = 56320 + (r.toNat - 65536) % 1024 := by omega
  rw [e1, e2]
theorem escI_len (r : Int) : (escI r).length ≤ 12 := by
  unfold escI escB
  repeat' split
  all_goals simp [uE_len]

theorem i64_and1023 (n : Int) : bits .and .i64 n 1023 = n % 1024 := by
  have h : (BitVec.ofInt 64 n &&& BitVec.ofInt 64 1023).toNat = (BitVec.ofInt 64 n).toNat % 1024 := by
    rw [BitVec.toNat_and]
    show (BitVec.ofInt 64 n).toNat &&& (2 ^ 10 - 1) = _
    rw [Nat.and_two_pow_sub_one_eq_mod]
  have h2 : (BitVec.ofInt 64 n).toNat % 1024 = (n % 1024).toNat := by
    rw [BitVec.toNat_ofInt]
    omega
  unfold bits
  generalize hq : (BitVec.ofInt IntKind.i64.bits n &&& BitVec.ofInt IntKind.i64.bits 1023).toNat = q
  have hq' : q = (n % 1024).toNat := by rw [← hq]; exact h.trans h2
  simp only [IntKind.wrap_i64]
  rw [hq, hq']
  omega

set_option maxHeartbeats 800000 in
theorem escaped_impl (r : Int) (w : World) (hs : sgn r = true) :
    Calls Tryd.prog 83 #[.int .i64 r] w fun e w' => e = .returned (.string ⟨(escI r).toArray⟩) ∧ Below w.heap.size w w' := by
  have hb := (sgn_iff r).1 hs
  have hr0 : 0 ≤ r := by omega
  have hr1 : r ≤ 1114111 := by omega
  have HS := Lib.hid hs
  clear hb hs
  by_cases h92 : r = 92
  · have h3 := Lib.hid escI_92
    subst h92
    go_enter Tryd.func83, Tryd.ntmps83
    go_wp2
    go_ret
    exact ⟨by rw [h3.out]; rfl, Below.refl _ _⟩
  · have b92 : (r == 92) = false := beq_eq_false_iff_ne.2 h92
    by_cases h6 : 65536 ≤ r
    · have h3 := Lib.hid (escI_high h6)
      go_enter Tryd.func83, Tryd.ntmps83
      go_wp2_with fail
      refine (uText_impl _ _ (by omega) (by omega)).mono ?_
      rintro e w1 ⟨rfl, hb1⟩
      have e2 := i64_and1023 (r - 65536)
      have hl1 := uE_len (55296 + (r - 65536) / 1024).toNat
      have hm0 := Int.emod_nonneg (r - 65536) (show (1024 : Int) ≠ 0 by decide)
      have hm1 := Int.emod_lt_of_pos (r - 65536) (show (0 : Int) < 1024 by decide)
      generalize uE (55296 + (r - 65536) / 1024).toNat = t1 at *
      go_wp2_with fail
      refine (uText_impl _ _ (by omega) (by omega)).mono ?_
      rintro e w2 ⟨rfl, hb2⟩
      have hb3 := hb1.trans (hb2.mono hb1.size)
      have hl2 := uE_len (56320 + (r - 65536) % 1024).toNat
      generalize uE (56320 + (r - 65536) % 1024).toNat = t2 at *
      go_wp2
      go_ret
      exact ⟨by rw [h3.out, ← Pl.join_lists]; rfl, hb3⟩
    · by_cases h5 : r < 32 ∨ 126 < r
      · have h3 := Lib.hid (escI_low hr0 h5 (by omega))
        rcases h5 with h5 | h5
        · go_enter Tryd.func83, Tryd.ntmps83
          go_wp2_with fail
          refine (uText_impl r _ hr0 (by omega)).mono ?_
          rintro e w' ⟨rfl, hb⟩
          go_wp2
          go_ret
          exact ⟨by rw [h3.out]; rfl, hb⟩
        · go_enter Tryd.func83, Tryd.ntmps83
          go_wp2_with fail
          refine (uText_impl r _ hr0 (by omega)).mono ?_
          rintro e w' ⟨rfl, hb⟩
          go_wp2
          go_ret
          exact ⟨by rw [h3.out]; rfl, hb⟩
      · have h3 := Lib.hid (escI_plain (r := r) (by omega) (by omega) h92)
        have h4 : Hid (signT r = [u8 r.toNat]) := by
          unfold Hid signT
          unfold sgn at HS
          rw [if_pos ⟨hr0, (Bool.and_eq_true _ _ ▸ HS.out).2⟩]
          unfold signB
          rw [if_pos (by omega)]
        have h7 : 32 ≤ r := by omega
        have h8 : r < 127 := by omega
        clear h5
        go_enter Tryd.func83, Tryd.ntmps83
        go_wp2_with fail
        refine (signText_impl r _).mono ?_
        rintro e w' ⟨rfl, rfl⟩
        rw [h4.out]
        go_wp2
        go_ret
        exact ⟨by rw [h3.out]; rfl, Below.refl _ _⟩

/-- a builder, over what happens above -/
theorem builtAt_over {T e B b : Nat} {p : Value} {bs : List Value} {w w' : World} (h : Lib.BuilderAtF T e B b p bs w) (hb : Below w.heap.size w w') : Lib.BuilderAtF T e B b p bs w' := by
  obtain ⟨hB, v, hbk, hown, hne⟩ := h
  refine ⟨hB, v, (hb.block b (Array.getElem?_eq_some_iff.1 hbk).1).trans hbk, ⟨hown.1, ?_⟩, hne⟩
  rcases hown.2 with h2 | ⟨g, cap, cur, fz, hv, hg0, hg, h5, h6, h7, h8, h9⟩
  · exact .inl h2
  · exact .inr ⟨g, cap, cur, fz, hv, hg0, (hb.block g (Array.getElem?_eq_some_iff.1 hg).1).trans hg, h5, h6, h7, h8, h9⟩
theorem built_over {B b : Nat} {l : List UInt8} {w w' : World} (h : BuiltF B b l w) (hb : Below w.heap.size w w') : BuiltF B b l w' := by
  rcases h with h | h
  · exact .inl (builtAt_over h hb)
  · exact .inr (builtAt_over h hb)

/-- a bound that the walk does not look into -/
def UpTo (n m : Nat) : Prop := n ≤ m

/-! lists of them -/
def putI (l : List Int) : List UInt8 := l.flatMap escI
theorem putI_take_succ (l : List Int) (k : Nat) (h : k < l.length) : putI (l.take (k + 1)) = putI (l.take k) ++ escI l[k] := by
  rw [List.take_succ_eq_append_getElem h]
  unfold putI
  rw [List.flatMap_append, List.flatMap_cons, List.flatMap_nil, List.append_nil]
theorem putI_len (l : List Int) : (putI l).length ≤ 12 * l.length := by
  induction l with
  | nil => exact Nat.le_refl _
  | cons x l ih =>
    have h1 := escI_len x
    have h2 : (putI l).length ≤ 12 * l.length := ih
    have e : putI (x :: l) = escI x ++ putI l := by simp [putI]
    rw [e, List.length_append, List.length_cons]
    omega
theorem putI_take_len (l : List Int) (k : Nat) : (putI (l.take k)).length ≤ 12 * k := by
  have := putI_len (l.take k)
  rw [List.length_take] at this
  omega
theorem putI_of (list : List Nat) : putI (intsOf list) = putE list := by
  unfold putI putE intsOf
  rw [List.flatMap_map]
  rfl
/-- what PutEscapes answers -/
def putT (l : List UInt8) : List UInt8 := putI (signsI l)
theorem signsI_sgn (l : List UInt8) : ∀ i (h : i < (signsI l).length), sgn (signsI l)[i] = true := by
  intro i h
  have hm : (signsI l)[i] ∈ signsI l := List.getElem_mem h
  generalize (signsI l)[i] = r at hm
  unfold signsI intsOf at hm
  obtain ⟨n, hn, rfl⟩ := List.mem_map.1 hm
  cases hs : signsL l with
  | none => rw [hs] at hn; simp at hn
  | some list =>
    rw [hs] at hn
    have := (text_signs l list hs).1 n (by simpa using hn)
    rw [sgn_nat]
    exact this
theorem cells_92 : Lib.byteCells [92, 92] = [.int .u8 92, .int .u8 92] := rfl
theorem cells_u8 (r : Int) (h0 : 0 ≤ r) (h1 : r < 256) : Lib.byteCells [u8 r.toNat] = [.int .u8 r] := by
  simp only [Lib.byteCells, List.map_cons, List.map_nil]
  rw [u8_nat _ (by omega), Int.toNat_of_nonneg h0]

set_option maxRecDepth 100000 in
set_option maxHeartbeats 3200000 in
theorem put_spec (s : ByteArray) (hs : s.size ≤ 100000000) (w : World) :
    Calls Tryd.prog 61 #[.string s] w fun e w' => e = .returned (.string ⟨(putT s.data.toList).toArray⟩) ∧ Below w.heap.size w w' := by
  obtain ⟨i0, hi, hz0, hz1, hz2⟩ := info_parts info_byteB
  have HF : UpTo (signsI s.data.toList).length 100000000 := by unfold UpTo; have := signsI_few s.data.toList; rw [← Lib.size_eq] at this; omega
  have HG := Lib.hid (signsI_sgn s.data.toList)
  have HP : Hid (putT s.data.toList = putI (signsI s.data.toList)) := rfl
  have K1 := Lib.hid (signs_spec s hs)
  have HN : Hid (signsO s.data.toList = false → signsI s.data.toList = []) := by
    unfold Hid
    intro h
    exact (signs_bad (l := s.data.toList) (by unfold signsO at h; exact Option.not_isSome_iff_eq_none.1 (by rw [h]; decide))).1
  clear hs
  go_enter Tryd.func61, Tryd.ntmps61
  go_wp2_with fail
  refine (K1.out _).mono ?_
  rintro e w1 ⟨v0, g, rfl, hI, hg, hb1⟩
  clear K1
  generalize signsI s.data.toList = l at *
  cases ho : signsO s.data.toList
  · have h3 : Hid (putT s.data.toList = []) := by unfold Hid; rw [HP.out, HN.out ho]; rfl
    clear ho HN hI
    go_wp2
    go_ret
    exact ⟨by rw [h3.out]; rfl, hb1⟩
  · clear ho HN
    obtain ⟨a, cap, rfl, ha⟩ := hI.form
    have CU := Lib.hid hI.toIntsRd
    have HA := Lib.hid ha
    have hsz1 := hb1.size
    clear hI ha
    go_wp2
    go_loopw [5, 6] (fun v i wr => ∃ (k n : Nat), k ≤ l.length ∧ i = .int .i64 k ∧ Hid (n = (putI (l.take k)).length) ∧ wr.ownsRow w1.heap.size 5 1 v n (Lib.byteCells (putI (l.take k))) ∧ Below w1.heap.size w1 wr) (fun _ i _ => l.length - (intOf i).toNat)
    case atStart => exact ⟨0, 0, Nat.zero_le _, rfl, rfl, World.ownsRow_lit w1 #[] 0 (Nat.le_refl _) (Nat.zero_le _) rfl, (Below.refl _ _).alloc (Nat.le_refl _) _⟩
    case round =>
      obtain ⟨k, n, hk, rfl, hnl, hown, hb⟩ := hrel
      by_cases hlt : k < l.length
      · have hln : l ≠ [] := by intro e; subst e; simp at hlt
        obtain rfl := HA.out hln
        have q1 := (hb.cell (p := ⟨g, 0 + k, none⟩) (CU.out.lt hln)).trans (CU.out.cell k hlt)
        rw [Nat.zero_add] at q1
        have hj := Lib.hid (putI_take_succ l k hlt)
        have hx := HG.out k hlt
        have hnb : UpTo n 1200000000 := by have := putI_take_len l k; have := hnl.out; unfold UpTo at *; omega
        have HKB : UpTo k 100000000 := by unfold UpTo at *; omega
        generalize l[k] = x at *
        have hs := (sgn_iff x).1 hx
        have hx0 : 0 ≤ x := by omega
        have hx1 : x ≤ 1114111 := by omega
        clear hs hx HG
        by_cases h92 : x = 92
        · have b92 : (x == 92) = true := by rw [h92]; rfl
          have h3 := Lib.hid escI_92
          rw [← h92] at h3
          clear h92
          have hb2 := hb.alloc hb.size (.cells #[.int .u8 92, .int .u8 92] 5)
          go_wp2_with (at_builtin; refine wpList_append_own _ rfl _ _ 22 rfl w1.heap.size 5 i0 (.int .u8 0) 1 1 Tryd.underlying22 hi hz0 hz1 hz2 rfl (by decide) _ _ _ rfl (hown.alloc _) ⟨wr.heap.size, 0, none⟩ 2 2 [.int .u8 92, .int .u8 92] rfl rfl (World.news_of_block (cs := #[.int .u8 92, .int .u8 92]) (t := 5) (fr := (0, 0)) (heap_alloc_new wr _)) (by simp [Value.oneCell']) (by unfold UpTo at hnb; unfold maxLen; omega) (by unfold UpTo at hnb; omega) hb2.size ?_; intro v2 w3 hown3 hgrow _; have hkb : (k : Int) < 100000001 := by unfold UpTo at HKB; omega)
          have hb4 := hb2.grown hgrow hb2.size (own_blockI hown)
          have hown4 : w3.ownsRow w1.heap.size 5 1 v2 (n + 2) (Lib.byteCells (putI (l.take (k + 1)))) := by
            rw [hj.out, h3.out, Lib.byteCells_append, cells_92]; exact hown3
          have hn2 : Hid (n + 2 = (putI (l.take (k + 1))).length) := by unfold Hid; rw [hj.out, h3.out, List.length_append, hnl.out]; rfl
          clear hown hown3 hgrow hb2 hb hnl hj
          go_wp2
          go_roundw
          case rel => exact ⟨k + 1, n + 2, by omega, by go_num, hn2, hown4, hb4⟩
          case measure => simp [intOf]; omega
        · have b92 : (x == 92) = false := beq_eq_false_iff_ne.2 h92
          by_cases hp : 32 ≤ x ∧ x ≤ 126
          · have h3 := Lib.hid (escI_plain hp.1 hp.2 h92)
            have h4 := Lib.hid (cells_u8 x hx0 (by omega))
            have hp0 := hp.1
            have hp1 := hp.2
            clear h92 hp
            have hb2 := hb.alloc hb.size (.cells #[.int .u8 x] 5)
            go_wp2_with fail
            refine (in_yes _ _ _ _ hp0 hp1).mono ?_
            rintro e w' ⟨rfl, rfl⟩
            go_wp2_with (at_builtin; refine wpList_append_own _ rfl _ _ 22 rfl w1.heap.size 5 i0 (.int .u8 0) 1 1 Tryd.underlying22 hi hz0 hz1 hz2 rfl (by decide) _ _ _ rfl (hown.alloc _) ⟨wr.heap.size, 0, none⟩ 1 1 [.int .u8 x] rfl rfl (cell_one_newI _ _ _) (by simp [Value.oneCell']) (by unfold UpTo at hnb; unfold maxLen; omega) (by unfold UpTo at hnb; omega) hb2.size ?_; intro v2 w3 hown3 hgrow _; have hkb : (k : Int) < 100000001 := by unfold UpTo at HKB; omega)
            have hb4 := hb2.grown hgrow hb2.size (own_blockI hown)
            have hown4 : w3.ownsRow w1.heap.size 5 1 v2 (n + 1) (Lib.byteCells (putI (l.take (k + 1)))) := by
              rw [hj.out, h3.out, Lib.byteCells_append, h4.out]; exact hown3
            have hn2 : Hid (n + 1 = (putI (l.take (k + 1))).length) := by unfold Hid; rw [hj.out, h3.out, List.length_append, hnl.out]; rfl
            clear hown hown3 hgrow hb2 hb hnl hj
            go_wp2
            go_roundw
            case rel => exact ⟨k + 1, n + 1, by omega, by go_num, hn2, hown4, hb4⟩
            case measure => simp [intOf]; omega
          · have HNP : Hid (x < 32 ∨ 126 < x) := by unfold Hid; omega
            clear hp
            by_cases h6 : x < 65536
            · have h3 := Lib.hid (escI_low hx0 HNP.out h6)
              have hl := uE_len x.toNat
              clear h92
              go_wp2_with fail
              refine (in_no _ _ _ _ HNP.out).mono ?_
              rintro e w' ⟨rfl, rfl⟩
              go_wp2_with fail
              refine (uText_spec x _ hx0 (by omega)).mono ?_
              rintro e w' ⟨rfl, rfl⟩
              have hsz := toList_size (uE x.toNat)
              rw [hl] at hsz
              have HSZ := Lib.hid hsz
              clear hsz
              have HE : Hid ((⟨(uE x.toNat).toArray⟩ : ByteArray).data.toList = uE x.toNat) := by unfold Hid; simp
              generalize (⟨(uE x.toNat).toArray⟩ : ByteArray) = t at *
              rw [← h3.out] at HE
              go_wp2_with (at_builtin; refine Lib.wpList_append_own_string _ rfl _ _ 22 9 rfl w1.heap.size 5 i0 Tryd.underlying22 Tryd.underlying9 hi hz0 hz1 hz2 _ _ _ rfl hown _ rfl (by rw [HSZ.out]; unfold UpTo at hnb; unfold maxLen; omega) (by rw [HSZ.out]; unfold UpTo at hnb; omega) hb.size ?_; intro v2 w3 hown3 hgrow _; have hkb : (k : Int) < 100000001 := by unfold UpTo at HKB; omega)
              have hb4 := hb.grown hgrow hb.size (own_blockI hown)
              have hown4 : w3.ownsRow w1.heap.size 5 1 v2 (n + 6) (Lib.byteCells (putI (l.take (k + 1)))) := by
                rw [hj.out, ← HE.out, Lib.byteCells_append]
                rw [strCells_eq, HSZ.out] at hown3
                exact hown3
              have hn2 : Hid (n + 6 = (putI (l.take (k + 1))).length) := by unfold Hid; rw [hj.out, ← HE.out, List.length_append, hnl.out, ← Lib.size_eq, HSZ.out]
              clear hown hown3 hgrow hb hnl hj
              go_wp2
              go_roundw
              case rel => exact ⟨k + 1, n + 6, by omega, by go_num, hn2, hown4, hb4⟩
              case measure => simp [intOf]; omega
            · have h3 := Lib.hid (escI_high (r := x) (by omega))
              have hm0 := Int.emod_nonneg (x - 65536) (show (1024 : Int) ≠ 0 by decide)
              have hm1 := Int.emod_lt_of_pos (x - 65536) (show (0 : Int) < 1024 by decide)
              clear h92
              go_wp2_with fail
              refine (in_no _ _ _ _ HNP.out).mono ?_
              rintro e w' ⟨rfl, rfl⟩
              go_wp2_with fail
              refine (uText_spec _ _ (by omega) (by omega)).mono ?_
              rintro e w' ⟨rfl, rfl⟩
              have hl1 := uE_len (55296 + (x - 65536) / 1024).toNat
              generalize uE (55296 + (x - 65536) / 1024).toNat = t1 at *
              go_wp2_with fail
              refine (uText_spec _ _ (by omega) (by omega)).mono ?_
              rintro e w' ⟨rfl, rfl⟩
              have hl2 := uE_len (56320 + (x - 65536) % 1024).toNat
              generalize uE (56320 + (x - 65536) % 1024).toNat = t2 at *
              have hsz : ((⟨t1.toArray⟩ : ByteArray) ++ ⟨t2.toArray⟩).size = 12 := by rw [Pl.join_lists, toList_size, List.length_append, hl1, hl2]
              have HE : Hid (((⟨t1.toArray⟩ : ByteArray) ++ ⟨t2.toArray⟩).data.toList = escI x) := by unfold Hid; rw [Pl.join_lists, h3.out]
              have hs1 : (⟨t1.toArray⟩ : ByteArray).size = 6 := by rw [toList_size, hl1]
              have hs2 : (⟨t2.toArray⟩ : ByteArray).size = 6 := by rw [toList_size, hl2]
              have HSZ := Lib.hid hsz
              clear hsz h3 hl1 hl2
              generalize (⟨t1.toArray⟩ : ByteArray) = c1 at *
              generalize (⟨t2.toArray⟩ : ByteArray) = c2 at *
              go_wp2_with (at_builtin; refine Lib.wpList_append_own_string _ rfl _ _ 22 9 rfl w1.heap.size 5 i0 Tryd.underlying22 Tryd.underlying9 hi hz0 hz1 hz2 _ _ _ rfl hown (c1 ++ c2) rfl (by rw [HSZ.out]; unfold UpTo at hnb; unfold maxLen; omega) (by rw [HSZ.out]; unfold UpTo at hnb; omega) hb.size ?_; intro v2 w3 hown3 hgrow _; have hkb : (k : Int) < 100000001 := by unfold UpTo at HKB; omega)
              have hb4 := hb.grown hgrow hb.size (own_blockI hown)
              have hown4 : w3.ownsRow w1.heap.size 5 1 v2 (n + 12) (Lib.byteCells (putI (l.take (k + 1)))) := by
                rw [hj.out, ← HE.out, Lib.byteCells_append]
                rw [strCells_eq, HSZ.out] at hown3
                exact hown3
              have hn2 : Hid (n + 12 = (putI (l.take (k + 1))).length) := by unfold Hid; rw [hj.out, ← HE.out, List.length_append, hnl.out, ← Lib.size_eq, HSZ.out]
              clear hown hown3 hgrow hb hnl hj
              go_wp2
              go_roundw
              case rel => exact ⟨k + 1, n + 12, by omega, by go_num, hn2, hown4, hb4⟩
              case measure => simp [intOf]; omega
      · obtain rfl : k = l.length := by omega
        rw [List.take_length] at hown hnl
        have hcv := text_of_ownI wr w1.heap.size n _ (putI l) hown hnl.out
        have hb5 := hb1.trans (hb.mono hsz1)
        clear hown hnl
        go_wp2
        go_ret
        exact ⟨by rw [HP.out]; rfl, hb5⟩

end Go.Proofs.YtflnpkckdjmljaaDoor
