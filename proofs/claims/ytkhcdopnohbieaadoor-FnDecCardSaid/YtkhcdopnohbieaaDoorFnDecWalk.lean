/- The walk of the law FnDec. -/
import Derived.Test.YtkhcdopnohbieaaDoorProg
import Derived.Test.YtkhcdopnohbieaaDoorLib
import Derived.Test.YtkhcdopnohbieaaDoorPlain
import Derived.Test.YtkhcdopnohbieaaDoorDec
import Derived.Test.YtkhcdopnohbieaaDoorDecWalk
import Derived.Test.YtkhcdopnohbieaaDoorDraw
import Derived.Test.YtkhcdopnohbieaaDoorDrawNum
import Derived.Test.YtkhcdopnohbieaaDoorHex
import Derived.Test.YtkhcdopnohbieaaDoorReadInt
import Derived.WalkKit
import Derived.WalkLawsBesides
import Derived.WalkSmall
import Derived.BigQuiet
import Derived.Deep.QuietTactic
import Derived.Lib.QuietBelow
import Derived.Lib.LaidTab
import Derived.Lib.Hide
import Derived.IntWalk
namespace Go.Proofs.YtkhcdopnohbieaaDoor
open Go.RowKit Go.Sort
set_option linter.unusedVariables false

/-! numbers come back from their texts -/
theorem num_cons (b : Nat) (c : UInt8) (l : List UInt8) : Pl.num b (c :: l) = Pl.dig c * b ^ l.length + Pl.num b l := by
  induction l using Pl.snocInd with
  | nil => simp [Pl.num]
  | snoc l x ih =>
    rw [← List.cons_append, Pl.num_snoc, ih, Pl.num_snoc, List.length_append, List.length_cons, List.length_nil, Nat.pow_succ, Nat.add_mul, Nat.mul_assoc]
    omega
theorem dig_hexD (x : Nat) : Pl.dig (Pl.hexD x) = x % 16 := by
  have key : ∀ r : Fin 16, Pl.dig (Pl.hexTab.getD r.val 0) = r.val := by decide +kernel
  exact key ⟨x % 16, Nat.mod_lt _ (by decide)⟩
theorem hexT_ok (m d : Nat) : (Pl.hexT m d).all (Pl.okB 16) = true := by
  induction d with
  | zero => rfl
  | succ d ih =>
    rw [Pl.hexT_succ, List.all_cons, ih]
    simp [Pl.okB, dig_hexD, Nat.mod_lt]
theorem num_hexT (m d : Nat) : Pl.num 16 (Pl.hexT m d) = m % 16 ^ d := by
  induction d with
  | zero => simp [Pl.hexT, Pl.num, Nat.mod_one]
  | succ d ih =>
    rw [Pl.hexT_succ, num_cons, ih, dig_hexD, Pl.hexT_length, Nat.mod_pow_succ, Nat.mul_comm]
    omega
theorem readN_hexT (m d : Nat) (h1 : 1 ≤ d) (h2 : d ≤ 8) : Pl.readN 16 8 (Pl.hexT m d) = some (m % 16 ^ d) := by
  unfold Pl.readN
  rw [if_pos ⟨by rw [Pl.hexT_length]; exact h1, by rw [Pl.hexT_length]; exact h2, hexT_ok m d⟩, num_hexT]

theorem dig_digC (r : Nat) (h : r < 10) : Pl.dig (digC r) = r := by
  have key : ∀ r : Fin 10, Pl.dig (digC r.val) = r.val := by decide +kernel
  exact key ⟨r, h⟩
theorem decDigits_eq (u : Nat) : Lib.decDigits u = (if u < 10 then [] else Lib.decDigits (u / 10)) ++ [digC (u % 10)] := by
  rw [Lib.decDigits]
  split
  · rename_i h
    rw [Nat.mod_eq_of_lt h]; rfl
  · rfl
theorem decDigits_read (u : Nat) : Pl.num 10 (Lib.decDigits u) = u ∧ (Lib.decDigits u).all (Pl.okB 10) = true ∧ Lib.decDigits u ≠ [] := by
  induction u using Nat.strongRecOn with
  | _ u ih =>
    rw [decDigits_eq]
    have hd := dig_digC (u % 10) (Nat.mod_lt _ (by decide))
    have ho : Pl.okB 10 (digC (u % 10)) = true := by simp [Pl.okB, hd]; omega
    by_cases h : u < 10
    · rw [if_pos h]
      refine ⟨?_, by simp [ho], by simp⟩
      rw [List.nil_append]
      simp only [Pl.num, List.foldl_cons, List.foldl_nil, hd]
      omega
    · rw [if_neg h]
      obtain ⟨h1, h2, h3⟩ := ih (u / 10) (by omega)
      refine ⟨?_, by simp [h2, ho], by simp⟩
      rw [Pl.num_snoc, h1, hd]
      omega
theorem decDigits_len (u k : Nat) (hk : 1 ≤ k) (h : u < 10 ^ k) : (Lib.decDigits u).length ≤ k := by
  induction k generalizing u with
  | zero => omega
  | succ k ih =>
    rw [decDigits_eq]
    by_cases hu : u < 10
    · rw [if_pos hu]; simp
    · rw [if_neg hu]
      have hk1 : 1 ≤ k := by
        rcases Nat.eq_zero_or_pos k with h0 | h0
        · subst h0; omega
        · exact h0
      have := ih (u / 10) hk1 (by rw [Nat.div_lt_iff_lt_mul (by decide)]; rw [Nat.pow_succ] at h; exact h)
      simp
      omega
theorem readN_dec (u : Nat) : Pl.readN 10 18 (Lib.decDigits u) = if u < 1000000000000000000 then some u else none := by
  obtain ⟨h1, h2, h3⟩ := decDigits_read u
  have hpos : 1 ≤ (Lib.decDigits u).length := List.length_pos_iff.2 h3
  by_cases hu : u < 1000000000000000000
  · rw [if_pos hu]
    unfold Pl.readN
    rw [if_pos ⟨hpos, decDigits_len u 18 (by decide) hu, h2⟩, h1]
  · rw [if_neg hu]
    unfold Pl.readN
    rw [if_neg]
    rintro ⟨_, hl, _⟩
    have := Pl.num_lt 10 _ h2
    rw [h1] at this
    exact hu (Nat.lt_of_lt_of_le this (Nat.pow_le_pow_right (by decide) hl))
theorem dec_head (u : Nat) : minusB (Lib.decDigits u) = false ∧ unsign (Lib.decDigits u) = Lib.decDigits u := by
  obtain ⟨h1, h2, h3⟩ := decDigits_read u
  cases hl : Lib.decDigits u with
  | nil => exact absurd hl h3
  | cons c t =>
    rw [hl] at h2
    simp only [List.all_cons, Bool.and_eq_true] at h2
    have hc := dig_ten c h2.1
    have e1 : c ≠ 45 := by rintro rfl; have h4 := hc.2.1; revert h4; decide
    have e2 : c ≠ 43 := by rintro rfl; have h4 := hc.2.1; revert h4; decide
    exact ⟨by simp [minusB, e1], by simp [unsign, e1, e2]⟩
theorem read_itoa (n : Int) : readO (Lib.itoa n) = (decide (-999999999999999999 ≤ n) && decide (n ≤ 999999999999999999)) ∧ (-999999999999999999 ≤ n → n ≤ 999999999999999999 → readV (Lib.itoa n) = n) := by
  unfold Lib.itoa
  by_cases hn : n < 0
  · rw [if_pos hn]
    have u1 : unsign (45 :: Lib.decDigits n.natAbs) = Lib.decDigits n.natAbs := by simp [unsign]
    have m1 : minusB (45 :: Lib.decDigits n.natAbs) = true := by simp [minusB]
    unfold readO readV
    rw [u1, m1, readN_dec]
    by_cases hs : n.natAbs < 1000000000000000000
    · rw [if_pos hs]
      refine ⟨?_, fun _ _ => ?_⟩
      · have : -999999999999999999 ≤ n := by omega
        have h' : n ≤ 999999999999999999 := by omega
        simp [this, h']
      · show -(((n.natAbs : Nat)) : Int) = n; omega
    · rw [if_neg hs]
      refine ⟨?_, fun h _ => absurd h (by omega)⟩
      have : ¬ -999999999999999999 ≤ n := by omega
      simp [this]
  · rw [if_neg hn]
    obtain ⟨m1, u1⟩ := dec_head n.toNat
    unfold readO readV
    rw [u1, m1, readN_dec]
    by_cases hs : n.toNat < 1000000000000000000
    · rw [if_pos hs]
      refine ⟨?_, fun _ _ => ?_⟩
      · have : -999999999999999999 ≤ n := by omega
        have h' : n ≤ 999999999999999999 := by omega
        simp [this, h']
      · show ((n.toNat : Nat) : Int) = n; omega
    · rw [if_neg hs]
      refine ⟨?_, fun _ h => absurd h (by omega)⟩
      have : ¬ n ≤ 999999999999999999 := by omega
      simp [this]

/-! the draws -/
theorem ints_alloc (w : World) (cs : List Value) (t : Nat) (h : ∀ v ∈ cs, ∃ x : Int, v = .int .i64 x ∧ -9223372036854775808 ≤ x ∧ x ≤ 9223372036854775807) : IntsAt (w.alloc (.cells cs.toArray t)) w.heap.size cs.length := by
  intro i hi
  obtain ⟨x, hx, h1, h2⟩ := h cs[i] (List.getElem_mem hi)
  refine ⟨x, h1, h2, ?_⟩
  have h2 : (w.alloc (.cells cs.toArray t)).cell? ⟨w.heap.size, i, none⟩ = some cs[i] := by
    simp [hi]
  rw [h2, hx]

theorem int_draw (w : World) (B b : Nat) (a : Option Addr) (len cap : Nat) (hlen : len ≤ 1048576) (hC : CurAt w B b a len cap) :
    Calls Tryd.prog 26 #[.pointer (some ⟨b, 0, none⟩)] w (Drew (-9223372036854775808) 9223372036854775807 w B b a len cap) := by
  go_enter Tryd.func26, Tryd.ntmps26
  go_wp2_with fail
  refine (below_draw w B b a len cap 100000 (by omega) hC (by decide) (by decide)).mono ?_
  rintro e w1 ⟨y, hy0, hy1, rfl, hC1, hg1⟩
  clear hC
  have hlt1 := hC1.lt
  go_wp2_with fail
  refine (pickInt_draw _ B b a len cap w1.heap.size 10 10 (by omega) (hC1.alloc _) (by decide) (by decide) (by omega) (by simp) (by
    refine ints_alloc w1 _ _ ?_
    intro v hv
    simp only [List.mem_cons, List.not_mem_nil, or_false] at hv
    rcases hv with rfl | rfl | rfl | rfl | rfl | rfl | rfl | rfl | rfl | rfl <;> exact ⟨_, rfl, by omega, by omega⟩)).mono ?_
  rintro e w2 ⟨z, hz0, hz1, rfl, hC2, hg2⟩
  have hg3 := grownBy_step (grownBy_new hg1 _) hg2
  clear hC1 hg1 hg2
  go_wp2
  go_ret
  exact ⟨z, hz0, hz1, rfl, hC2, hg3⟩

def SomeInt (w : World) (e : Ending) (w' : World) : Prop := ∃ n : Int, -9223372036854775808 ≤ n ∧ n ≤ 9223372036854775807 ∧ e = .returned (.int .i64 n) ∧ Below w.heap.size w w'
theorem drawDecText (w : World) (a : Option Addr) (len cap : Nat) (hlen : len ≤ 1048576) (hB : BytesIn w a len) (hlow : ∀ x, a = some x → len ≠ 0 → x.block < w.heap.size) :
    Calls Tryd.prog 8 #[.slice a len cap] w (SomeInt w) := by
  go_enter Tryd.func8, Tryd.ntmps8
  go_wp2_with fail
  refine (new_draw w a len cap hlen hB hlow).mono ?_
  rintro e w1 ⟨rfl, hC1, hb1⟩
  clear hB hlow
  go_wp2_with fail
  refine (int_draw w1 w.heap.size w.heap.size a len cap hlen hC1).mono ?_
  rintro e w2 ⟨x, hx0, hx1, rfl, hC2, hg2⟩
  have hb2 := hb1.trans (grownBy_below hg2 (Nat.le_refl _) hb1.size)
  clear hC1 hg2 hb1 hC2
  go_wp2
  go_ret
  exact ⟨x, hx0, hx1, rfl, hb2⟩

def SomeHex (w : World) (e : Ending) (w' : World) : Prop := ∃ m d : Int, -9223372036854775808 ≤ m ∧ m ≤ 9223372036854775807 ∧ -1 ≤ d ∧ d ≤ 9 ∧ e = .returned (.tuple #[.int .i64 m, .int .i64 d]) ∧ Below w.heap.size w w'
theorem drawHexText (w : World) (a : Option Addr) (len cap : Nat) (hlen : len ≤ 1048576) (hB : BytesIn w a len) (hlow : ∀ x, a = some x → len ≠ 0 → x.block < w.heap.size) :
    Calls Tryd.prog 9 #[.slice a len cap] w (SomeHex w) := by
  go_enter Tryd.func9, Tryd.ntmps9
  go_wp2_with fail
  refine (new_draw w a len cap hlen hB hlow).mono ?_
  rintro e w1 ⟨rfl, hC1, hb1⟩
  clear hB hlow
  go_wp2_with fail
  refine (int_draw w1 w.heap.size w.heap.size a len cap hlen hC1).mono ?_
  rintro e w2 ⟨x, hx0, hx1, rfl, hC2, hg2⟩
  have hb2 := hb1.trans (grownBy_below hg2 (Nat.le_refl _) hb1.size)
  clear hC1 hg2 hb1
  have hlt2 := hC2.lt
  go_wp2_with fail
  refine (below_draw w2 w.heap.size w.heap.size a len cap 11 (by omega) hC2 (by decide) (by decide)).mono ?_
  rintro e w3 ⟨y, hy0, hy1, rfl, hC3, hg3⟩
  have hb3 := hb2.trans (grownBy_below hg3 (Nat.le_refl _) (by omega))
  clear hC2 hg3 hb2 hC3 hlt2
  go_wp2
  go_ret2
  exact ⟨x, y - 1, hx0, hx1, by omega, by omega, rfl, hb3⟩

/-- the table stands where nothing old has turned -/
theorem tab_kept {w w' : World} (h : Lib.TabIs Tryd.prog w "internal/strconv.uint64pow10" .u64 Lib.pow10Tab) (hb : Below w.heap.size w w') : Lib.TabIs Tryd.prog w' "internal/strconv.uint64pow10" .u64 Lib.pow10Tab := by
  have hg : Tryd.prog.globalNamed "internal/strconv.uint64pow10" = some 0 := by kernel_rfl
  have hc := h.cell hg 0 (by rw [Lib.pow10Tab_length]; decide)
  exact var?_below hb hg (World.block_lt_of_cell? _ _ hc) h

set_option maxRecDepth 100000 in
set_option maxHeartbeats 6400000 in
theorem fnDec_walk (a0 : Option Addr) (len0 cap0 : Nat) (w : World) (hB : BytesIn w a0 len0) (hlow : ∀ x, a0 = some x → len0 ≠ 0 → x.block < w.heap.size)
    (htab : Lib.TabIs Tryd.prog w "internal/strconv.uint64pow10" .u64 Lib.pow10Tab) :
    Calls Tryd.prog 3 #[.slice a0 len0 cap0] w fun e w' => e = .returned (.bool true) ∧ Below w.heap.size w w' := by
  have HT := Lib.hid htab
  clear htab
  by_cases hbig : len0 ≤ 1048576
  · go_enter Tryd.func3, Tryd.ntmps3
    go_wp2_with fail
    refine (big_no _ _ _ _ hbig).mono ?_
    rintro e w1 ⟨rfl, rfl⟩
    go_wp2_with fail
    refine (drawDecText w a0 len0 cap0 hbig hB hlow).mono ?_
    rintro e w2 ⟨n, hn0, hn1, rfl, hb2⟩
    have hB2 : BytesIn w2 a0 len0 := bytesIn_kept (b := 0) hB (fun x hx h0 => hb2.block _ (hlow x hx h0))
    have hlow2 : ∀ x, a0 = some x → len0 ≠ 0 → x.block < w2.heap.size := fun x hx h0 => Nat.lt_of_lt_of_le (hlow x hx h0) hb2.size
    clear hB hlow
    go_wp2_with fail
    refine (drawHexText w2 a0 len0 cap0 hbig hB2 hlow2).mono ?_
    rintro e w3 ⟨m, d, hm0, hm1, hd0, hd1, rfl, hb3⟩
    replace hb3 := hb2.trans (hb3.mono hb2.size)
    clear hb2 hB2 hlow2
    go_wp2_with fail
    refine (dec_impl n _ hn0 hn1 (tab_kept HT.out hb3)).mono ?_
    rintro e w4 ⟨rfl, hb4⟩
    replace hb4 := hb3.trans (hb4.mono hb3.size)
    clear hb3
    go_wp2_with fail
    refine (hex_impl m d _ hm1).mono ?_
    rintro e w5 ⟨rfl, hb5⟩
    replace hb5 := hb4.trans (hb5.mono hb4.size)
    clear hb4
    have k12 : Hid (∀ dd os, Calls Tryd.prog 12 #[.int .i64 n] (grow (redrawn w5 dd) os) fun e w' => e = .returned (.string ⟨(Lib.itoa n).toArray⟩) ∧ ∃ p : Regrown, w' = grow (redrawn w5 p.d) p.os) := by
      intro dd os
      exact Calls.regrown_of ((dec_spec n _ hn0 hn1).mono fun e w' ⟨he, hw⟩ => ⟨he, hw ▸ Below.refl _ _⟩)
    have k13 : Hid (∀ dd os, Calls Tryd.prog 13 #[.int .i64 m, .int .i64 d] (grow (redrawn w5 dd) os) fun e w' => e = .returned (.string ⟨(Pl.hexOf m d).toArray⟩) ∧ ∃ p : Regrown, w' = grow (redrawn w5 p.d) p.os) := by
      intro dd os
      exact Calls.regrown_of ((hex_spec m d _ hm1).mono fun e w' ⟨he, hw⟩ => ⟨he, hw ▸ Below.refl _ _⟩)
    have k14 : ∀ (h : ByteArray) (v : Int), orNeg (Pl.readN 16 8 h.data.toList) = v → Hid (∀ dd os, Calls Tryd.prog 14 #[.string h] (grow (redrawn w5 dd) os) fun e w' => e = .returned (.int .i64 v) ∧ ∃ p : Regrown, w' = grow (redrawn w5 p.d) p.os) := by
      rintro h v rfl dd os
      exact Calls.regrown_of (readHex_impl h _)
    have RI := read_itoa n
    have RO := Lib.hid RI.1
    have RV := Lib.hid RI.2
    clear RI
    have hL := itoa_len n hn0 hn1
    by_cases hc : m < 0 ∨ d < 1 ∨ 8 < d
    · have hh : Pl.hexOf m d = [] := by unfold Pl.hexOf; rw [if_pos hc]
      rw [hh] at k13 ⊢
      clear hh hc k14
      have hq : ((Lib.itoa n) == (Lib.itoa n)) = true := by simp
      go_wp2_with fail
      refine wp_region_quiet_below (by kernel_rfl) (by kernel_rfl) ?_
      repeat (go_big_quiet_step (first | exact k12.out _ _ | exact k13.out _ _))
      refine wpQuiet_nil ?_
      intro _ hw'
      obtain ⟨⟨dq, osq⟩, hw''⟩ := hw'
      subst hw''
      have hb6 := hb5.trans ((below_regrown w5 dq osq).mono hb5.size)
      generalize grow (redrawn w5 { d := dq, os := osq : Regrown }.d) { d := dq, os := osq : Regrown }.os = w6 at *
      go_wp2_with fail
      refine (readInt_impl _ _ (Nat.le_trans hL (by unfold maxLen; decide))).mono ?_
      rintro e w7 ⟨rfl, hb7⟩
      replace hb7 := hb6.trans (hb7.mono hb6.size)
      simp only [List.toList_toArray]
      rw [RO.out]
      by_cases hlo : -999999999999999999 ≤ n
      · by_cases hhi : n ≤ 999999999999999999
        · have hv := Lib.hid (RV.out hlo hhi)
          have hdd : (decide (-999999999999999999 ≤ n) && decide (n ≤ 999999999999999999)) = true := by simp [hlo, hhi]
          rw [hv.out, hdd]
          have hnn : (n == n) = true := by simp
          go_wp2
          go_ret
          exact ⟨rfl, hb7⟩
        · have hdd : (decide (-999999999999999999 ≤ n) && decide (n ≤ 999999999999999999)) = false := by simp [hhi]
          rw [hdd]
          generalize readV (Lib.itoa n) = vv
          go_wp2
          go_ret
          exact ⟨rfl, hb7⟩
      · have hdd : (decide (-999999999999999999 ≤ n) && decide (n ≤ 999999999999999999)) = false := by simp [hlo]
        rw [hdd]
        generalize readV (Lib.itoa n) = vv
        go_wp2
        go_ret
        exact ⟨rfl, hb7⟩
    · have hmm : 0 ≤ m := by omega
      have hcases : d = 1 ∨ d = 2 ∨ d = 3 ∨ d = 4 ∨ d = 5 ∨ d = 6 ∨ d = 7 ∨ d = 8 := by omega
      clear hc
      rcases hcases with rfl | rfl | rfl | rfl | rfl | rfl | rfl | rfl
      · -- 1 digits
        have hh : Pl.hexOf m 1 = Pl.hexT m.toNat 1 := by unfold Pl.hexOf; rw [if_neg (by omega)]; rfl
        obtain ⟨mm, rfl⟩ := Int.eq_ofNat_of_zero_le hmm
        rw [Int.toNat_natCast] at hh
        have hr := k14 ⟨(Pl.hexT mm 1).toArray⟩ ((mm : Int) % 16) (by
          rw [show (⟨(Pl.hexT mm 1).toArray⟩ : ByteArray).data.toList = Pl.hexT mm 1 by simp, readN_hexT mm 1 (by decide) (by decide)]
          show ((mm % 16 ^ 1 : Nat) : Int) = _
          omega)
        have hlen : (Pl.hexT mm 1).length = 1 := Pl.hexT_length _ _
        rw [hh] at k13 ⊢
        clear hh k14
        obtain ⟨hx, hhx⟩ : ∃ hx : ByteArray, hx = ⟨(Pl.hexT mm 1).toArray⟩ := ⟨_, rfl⟩
        have hsz : hx.size = 1 := by rw [hhx]; show (Pl.hexT mm 1).toArray.size = 1; simpa using hlen
        have hne0 : hx.toList ≠ [] := by rw [Lib.toList_data]; intro e; have h5 := Lib.size_eq hx; rw [e, List.length_nil] at h5; omega
        have hne1 : hx.toList.isEmpty = false := by simpa using hne0
        have hne2 : (hx.toList == []) = false := by simpa using hne0
        have hne3 : (hx.toList != []) = true := by simpa using hne0
        rw [← hhx] at k13 hr ⊢
        clear hhx hlen hne0
        go_wp2_with fail
        refine wp_region_quiet_below (by kernel_rfl) (by kernel_rfl) ?_
        repeat (go_big_quiet_step (first | exact k12.out _ _ | exact k13.out _ _ | exact hr.out _ _))
        refine wpQuiet_nil ?_
        intro _ hw'
        obtain ⟨⟨dq, osq⟩, hw''⟩ := hw'
        subst hw''
        have hb6 := hb5.trans ((below_regrown w5 dq osq).mono hb5.size)
        generalize grow (redrawn w5 { d := dq, os := osq : Regrown }.d) { d := dq, os := osq : Regrown }.os = w6 at *
        go_wp2_with fail
        refine (readInt_impl _ _ (Nat.le_trans hL (by unfold maxLen; decide))).mono ?_
        rintro e w7 ⟨rfl, hb7⟩
        replace hb7 := hb6.trans (hb7.mono hb6.size)
        simp only [List.toList_toArray]
        rw [RO.out]
        by_cases hlo : -999999999999999999 ≤ n
        · by_cases hhi : n ≤ 999999999999999999
          · have hv := Lib.hid (RV.out hlo hhi)
            have hdd : (decide (-999999999999999999 ≤ n) && decide (n ≤ 999999999999999999)) = true := by simp [hlo, hhi]
            rw [hv.out, hdd]
            have hnn : (n == n) = true := by simp
            go_wp2
            go_ret
            exact ⟨rfl, hb7⟩
          · have hdd : (decide (-999999999999999999 ≤ n) && decide (n ≤ 999999999999999999)) = false := by simp [hhi]
            rw [hdd]
            generalize readV (Lib.itoa n) = vv
            go_wp2
            go_ret
            exact ⟨rfl, hb7⟩
        · have hdd : (decide (-999999999999999999 ≤ n) && decide (n ≤ 999999999999999999)) = false := by simp [hlo]
          rw [hdd]
          generalize readV (Lib.itoa n) = vv
          go_wp2
          go_ret
          exact ⟨rfl, hb7⟩
      · -- 2 digits
        have hh : Pl.hexOf m 2 = Pl.hexT m.toNat 2 := by unfold Pl.hexOf; rw [if_neg (by omega)]; rfl
        obtain ⟨mm, rfl⟩ := Int.eq_ofNat_of_zero_le hmm
        rw [Int.toNat_natCast] at hh
        have hr := k14 ⟨(Pl.hexT mm 2).toArray⟩ ((mm : Int) % 256) (by
          rw [show (⟨(Pl.hexT mm 2).toArray⟩ : ByteArray).data.toList = Pl.hexT mm 2 by simp, readN_hexT mm 2 (by decide) (by decide)]
          show ((mm % 16 ^ 2 : Nat) : Int) = _
          omega)
        have hlen : (Pl.hexT mm 2).length = 2 := Pl.hexT_length _ _
        rw [hh] at k13 ⊢
        clear hh k14
        obtain ⟨hx, hhx⟩ : ∃ hx : ByteArray, hx = ⟨(Pl.hexT mm 2).toArray⟩ := ⟨_, rfl⟩
        have hsz : hx.size = 2 := by rw [hhx]; show (Pl.hexT mm 2).toArray.size = 2; simpa using hlen
        have hne0 : hx.toList ≠ [] := by rw [Lib.toList_data]; intro e; have h5 := Lib.size_eq hx; rw [e, List.length_nil] at h5; omega
        have hne1 : hx.toList.isEmpty = false := by simpa using hne0
        have hne2 : (hx.toList == []) = false := by simpa using hne0
        have hne3 : (hx.toList != []) = true := by simpa using hne0
        rw [← hhx] at k13 hr ⊢
        clear hhx hlen hne0
        go_wp2_with fail
        refine wp_region_quiet_below (by kernel_rfl) (by kernel_rfl) ?_
        repeat (go_big_quiet_step (first | exact k12.out _ _ | exact k13.out _ _ | exact hr.out _ _))
        refine wpQuiet_nil ?_
        intro _ hw'
        obtain ⟨⟨dq, osq⟩, hw''⟩ := hw'
        subst hw''
        have hb6 := hb5.trans ((below_regrown w5 dq osq).mono hb5.size)
        generalize grow (redrawn w5 { d := dq, os := osq : Regrown }.d) { d := dq, os := osq : Regrown }.os = w6 at *
        go_wp2_with fail
        refine (readInt_impl _ _ (Nat.le_trans hL (by unfold maxLen; decide))).mono ?_
        rintro e w7 ⟨rfl, hb7⟩
        replace hb7 := hb6.trans (hb7.mono hb6.size)
        simp only [List.toList_toArray]
        rw [RO.out]
        by_cases hlo : -999999999999999999 ≤ n
        · by_cases hhi : n ≤ 999999999999999999
          · have hv := Lib.hid (RV.out hlo hhi)
            have hdd : (decide (-999999999999999999 ≤ n) && decide (n ≤ 999999999999999999)) = true := by simp [hlo, hhi]
            rw [hv.out, hdd]
            have hnn : (n == n) = true := by simp
            go_wp2
            go_ret
            exact ⟨rfl, hb7⟩
          · have hdd : (decide (-999999999999999999 ≤ n) && decide (n ≤ 999999999999999999)) = false := by simp [hhi]
            rw [hdd]
            generalize readV (Lib.itoa n) = vv
            go_wp2
            go_ret
            exact ⟨rfl, hb7⟩
        · have hdd : (decide (-999999999999999999 ≤ n) && decide (n ≤ 999999999999999999)) = false := by simp [hlo]
          rw [hdd]
          generalize readV (Lib.itoa n) = vv
          go_wp2
          go_ret
          exact ⟨rfl, hb7⟩
      · -- 3 digits
        have hh : Pl.hexOf m 3 = Pl.hexT m.toNat 3 := by unfold Pl.hexOf; rw [if_neg (by omega)]; rfl
        obtain ⟨mm, rfl⟩ := Int.eq_ofNat_of_zero_le hmm
        rw [Int.toNat_natCast] at hh
        have hr := k14 ⟨(Pl.hexT mm 3).toArray⟩ ((mm : Int) % 4096) (by
          rw [show (⟨(Pl.hexT mm 3).toArray⟩ : ByteArray).data.toList = Pl.hexT mm 3 by simp, readN_hexT mm 3 (by decide) (by decide)]
          show ((mm % 16 ^ 3 : Nat) : Int) = _
          omega)
        have hlen : (Pl.hexT mm 3).length = 3 := Pl.hexT_length _ _
        rw [hh] at k13 ⊢
        clear hh k14
        obtain ⟨hx, hhx⟩ : ∃ hx : ByteArray, hx = ⟨(Pl.hexT mm 3).toArray⟩ := ⟨_, rfl⟩
        have hsz : hx.size = 3 := by rw [hhx]; show (Pl.hexT mm 3).toArray.size = 3; simpa using hlen
        have hne0 : hx.toList ≠ [] := by rw [Lib.toList_data]; intro e; have h5 := Lib.size_eq hx; rw [e, List.length_nil] at h5; omega
        have hne1 : hx.toList.isEmpty = false := by simpa using hne0
        have hne2 : (hx.toList == []) = false := by simpa using hne0
        have hne3 : (hx.toList != []) = true := by simpa using hne0
        rw [← hhx] at k13 hr ⊢
        clear hhx hlen hne0
        go_wp2_with fail
        refine wp_region_quiet_below (by kernel_rfl) (by kernel_rfl) ?_
        repeat (go_big_quiet_step (first | exact k12.out _ _ | exact k13.out _ _ | exact hr.out _ _))
        refine wpQuiet_nil ?_
        intro _ hw'
        obtain ⟨⟨dq, osq⟩, hw''⟩ := hw'
        subst hw''
        have hb6 := hb5.trans ((below_regrown w5 dq osq).mono hb5.size)
        generalize grow (redrawn w5 { d := dq, os := osq : Regrown }.d) { d := dq, os := osq : Regrown }.os = w6 at *
        go_wp2_with fail
        refine (readInt_impl _ _ (Nat.le_trans hL (by unfold maxLen; decide))).mono ?_
        rintro e w7 ⟨rfl, hb7⟩
        replace hb7 := hb6.trans (hb7.mono hb6.size)
        simp only [List.toList_toArray]
        rw [RO.out]
        by_cases hlo : -999999999999999999 ≤ n
        · by_cases hhi : n ≤ 999999999999999999
          · have hv := Lib.hid (RV.out hlo hhi)
            have hdd : (decide (-999999999999999999 ≤ n) && decide (n ≤ 999999999999999999)) = true := by simp [hlo, hhi]
            rw [hv.out, hdd]
            have hnn : (n == n) = true := by simp
            go_wp2
            go_ret
            exact ⟨rfl, hb7⟩
          · have hdd : (decide (-999999999999999999 ≤ n) && decide (n ≤ 999999999999999999)) = false := by simp [hhi]
            rw [hdd]
            generalize readV (Lib.itoa n) = vv
            go_wp2
            go_ret
            exact ⟨rfl, hb7⟩
        · have hdd : (decide (-999999999999999999 ≤ n) && decide (n ≤ 999999999999999999)) = false := by simp [hlo]
          rw [hdd]
          generalize readV (Lib.itoa n) = vv
          go_wp2
          go_ret
          exact ⟨rfl, hb7⟩
      · -- 4 digits
        have hh : Pl.hexOf m 4 = Pl.hexT m.toNat 4 := by unfold Pl.hexOf; rw [if_neg (by omega)]; rfl
        obtain ⟨mm, rfl⟩ := Int.eq_ofNat_of_zero_le hmm
        rw [Int.toNat_natCast] at hh
        have hr := k14 ⟨(Pl.hexT mm 4).toArray⟩ ((mm : Int) % 65536) (by
          rw [show (⟨(Pl.hexT mm 4).toArray⟩ : ByteArray).data.toList = Pl.hexT mm 4 by simp, readN_hexT mm 4 (by decide) (by decide)]
          show ((mm % 16 ^ 4 : Nat) : Int) = _
          omega)
        have hlen : (Pl.hexT mm 4).length = 4 := Pl.hexT_length _ _
        rw [hh] at k13 ⊢
        clear hh k14
        obtain ⟨hx, hhx⟩ : ∃ hx : ByteArray, hx = ⟨(Pl.hexT mm 4).toArray⟩ := ⟨_, rfl⟩
        have hsz : hx.size = 4 := by rw [hhx]; show (Pl.hexT mm 4).toArray.size = 4; simpa using hlen
        have hne0 : hx.toList ≠ [] := by rw [Lib.toList_data]; intro e; have h5 := Lib.size_eq hx; rw [e, List.length_nil] at h5; omega
        have hne1 : hx.toList.isEmpty = false := by simpa using hne0
        have hne2 : (hx.toList == []) = false := by simpa using hne0
        have hne3 : (hx.toList != []) = true := by simpa using hne0
        rw [← hhx] at k13 hr ⊢
        clear hhx hlen hne0
        go_wp2_with fail
        refine wp_region_quiet_below (by kernel_rfl) (by kernel_rfl) ?_
        repeat (go_big_quiet_step (first | exact k12.out _ _ | exact k13.out _ _ | exact hr.out _ _))
        refine wpQuiet_nil ?_
        intro _ hw'
        obtain ⟨⟨dq, osq⟩, hw''⟩ := hw'
        subst hw''
        have hb6 := hb5.trans ((below_regrown w5 dq osq).mono hb5.size)
        generalize grow (redrawn w5 { d := dq, os := osq : Regrown }.d) { d := dq, os := osq : Regrown }.os = w6 at *
        go_wp2_with fail
        refine (readInt_impl _ _ (Nat.le_trans hL (by unfold maxLen; decide))).mono ?_
        rintro e w7 ⟨rfl, hb7⟩
        replace hb7 := hb6.trans (hb7.mono hb6.size)
        simp only [List.toList_toArray]
        rw [RO.out]
        by_cases hlo : -999999999999999999 ≤ n
        · by_cases hhi : n ≤ 999999999999999999
          · have hv := Lib.hid (RV.out hlo hhi)
            have hdd : (decide (-999999999999999999 ≤ n) && decide (n ≤ 999999999999999999)) = true := by simp [hlo, hhi]
            rw [hv.out, hdd]
            have hnn : (n == n) = true := by simp
            go_wp2
            go_ret
            exact ⟨rfl, hb7⟩
          · have hdd : (decide (-999999999999999999 ≤ n) && decide (n ≤ 999999999999999999)) = false := by simp [hhi]
            rw [hdd]
            generalize readV (Lib.itoa n) = vv
            go_wp2
            go_ret
            exact ⟨rfl, hb7⟩
        · have hdd : (decide (-999999999999999999 ≤ n) && decide (n ≤ 999999999999999999)) = false := by simp [hlo]
          rw [hdd]
          generalize readV (Lib.itoa n) = vv
          go_wp2
          go_ret
          exact ⟨rfl, hb7⟩
      · -- 5 digits
        have hh : Pl.hexOf m 5 = Pl.hexT m.toNat 5 := by unfold Pl.hexOf; rw [if_neg (by omega)]; rfl
        obtain ⟨mm, rfl⟩ := Int.eq_ofNat_of_zero_le hmm
        rw [Int.toNat_natCast] at hh
        have hr := k14 ⟨(Pl.hexT mm 5).toArray⟩ ((mm : Int) % 1048576) (by
          rw [show (⟨(Pl.hexT mm 5).toArray⟩ : ByteArray).data.toList = Pl.hexT mm 5 by simp, readN_hexT mm 5 (by decide) (by decide)]
          show ((mm % 16 ^ 5 : Nat) : Int) = _
          omega)
        have hlen : (Pl.hexT mm 5).length = 5 := Pl.hexT_length _ _
        rw [hh] at k13 ⊢
        clear hh k14
        obtain ⟨hx, hhx⟩ : ∃ hx : ByteArray, hx = ⟨(Pl.hexT mm 5).toArray⟩ := ⟨_, rfl⟩
        have hsz : hx.size = 5 := by rw [hhx]; show (Pl.hexT mm 5).toArray.size = 5; simpa using hlen
        have hne0 : hx.toList ≠ [] := by rw [Lib.toList_data]; intro e; have h5 := Lib.size_eq hx; rw [e, List.length_nil] at h5; omega
        have hne1 : hx.toList.isEmpty = false := by simpa using hne0
        have hne2 : (hx.toList == []) = false := by simpa using hne0
        have hne3 : (hx.toList != []) = true := by simpa using hne0
        rw [← hhx] at k13 hr ⊢
        clear hhx hlen hne0
        go_wp2_with fail
        refine wp_region_quiet_below (by kernel_rfl) (by kernel_rfl) ?_
        repeat (go_big_quiet_step (first | exact k12.out _ _ | exact k13.out _ _ | exact hr.out _ _))
        refine wpQuiet_nil ?_
        intro _ hw'
        obtain ⟨⟨dq, osq⟩, hw''⟩ := hw'
        subst hw''
        have hb6 := hb5.trans ((below_regrown w5 dq osq).mono hb5.size)
        generalize grow (redrawn w5 { d := dq, os := osq : Regrown }.d) { d := dq, os := osq : Regrown }.os = w6 at *
        go_wp2_with fail
        refine (readInt_impl _ _ (Nat.le_trans hL (by unfold maxLen; decide))).mono ?_
        rintro e w7 ⟨rfl, hb7⟩
        replace hb7 := hb6.trans (hb7.mono hb6.size)
        simp only [List.toList_toArray]
        rw [RO.out]
        by_cases hlo : -999999999999999999 ≤ n
        · by_cases hhi : n ≤ 999999999999999999
          · have hv := Lib.hid (RV.out hlo hhi)
            have hdd : (decide (-999999999999999999 ≤ n) && decide (n ≤ 999999999999999999)) = true := by simp [hlo, hhi]
            rw [hv.out, hdd]
            have hnn : (n == n) = true := by simp
            go_wp2
            go_ret
            exact ⟨rfl, hb7⟩
          · have hdd : (decide (-999999999999999999 ≤ n) && decide (n ≤ 999999999999999999)) = false := by simp [hhi]
            rw [hdd]
            generalize readV (Lib.itoa n) = vv
            go_wp2
            go_ret
            exact ⟨rfl, hb7⟩
        · have hdd : (decide (-999999999999999999 ≤ n) && decide (n ≤ 999999999999999999)) = false := by simp [hlo]
          rw [hdd]
          generalize readV (Lib.itoa n) = vv
          go_wp2
          go_ret
          exact ⟨rfl, hb7⟩
      · -- 6 digits
        have hh : Pl.hexOf m 6 = Pl.hexT m.toNat 6 := by unfold Pl.hexOf; rw [if_neg (by omega)]; rfl
        obtain ⟨mm, rfl⟩ := Int.eq_ofNat_of_zero_le hmm
        rw [Int.toNat_natCast] at hh
        have hr := k14 ⟨(Pl.hexT mm 6).toArray⟩ ((mm : Int) % 16777216) (by
          rw [show (⟨(Pl.hexT mm 6).toArray⟩ : ByteArray).data.toList = Pl.hexT mm 6 by simp, readN_hexT mm 6 (by decide) (by decide)]
          show ((mm % 16 ^ 6 : Nat) : Int) = _
          omega)
        have hlen : (Pl.hexT mm 6).length = 6 := Pl.hexT_length _ _
        rw [hh] at k13 ⊢
        clear hh k14
        obtain ⟨hx, hhx⟩ : ∃ hx : ByteArray, hx = ⟨(Pl.hexT mm 6).toArray⟩ := ⟨_, rfl⟩
        have hsz : hx.size = 6 := by rw [hhx]; show (Pl.hexT mm 6).toArray.size = 6; simpa using hlen
        have hne0 : hx.toList ≠ [] := by rw [Lib.toList_data]; intro e; have h5 := Lib.size_eq hx; rw [e, List.length_nil] at h5; omega
        have hne1 : hx.toList.isEmpty = false := by simpa using hne0
        have hne2 : (hx.toList == []) = false := by simpa using hne0
        have hne3 : (hx.toList != []) = true := by simpa using hne0
        rw [← hhx] at k13 hr ⊢
        clear hhx hlen hne0
        go_wp2_with fail
        refine wp_region_quiet_below (by kernel_rfl) (by kernel_rfl) ?_
        repeat (go_big_quiet_step (first | exact k12.out _ _ | exact k13.out _ _ | exact hr.out _ _))
        refine wpQuiet_nil ?_
        intro _ hw'
        obtain ⟨⟨dq, osq⟩, hw''⟩ := hw'
        subst hw''
        have hb6 := hb5.trans ((below_regrown w5 dq osq).mono hb5.size)
        generalize grow (redrawn w5 { d := dq, os := osq : Regrown }.d) { d := dq, os := osq : Regrown }.os = w6 at *
        go_wp2_with fail
        refine (readInt_impl _ _ (Nat.le_trans hL (by unfold maxLen; decide))).mono ?_
        rintro e w7 ⟨rfl, hb7⟩
        replace hb7 := hb6.trans (hb7.mono hb6.size)
        simp only [List.toList_toArray]
        rw [RO.out]
        by_cases hlo : -999999999999999999 ≤ n
        · by_cases hhi : n ≤ 999999999999999999
          · have hv := Lib.hid (RV.out hlo hhi)
            have hdd : (decide (-999999999999999999 ≤ n) && decide (n ≤ 999999999999999999)) = true := by simp [hlo, hhi]
            rw [hv.out, hdd]
            have hnn : (n == n) = true := by simp
            go_wp2
            go_ret
            exact ⟨rfl, hb7⟩
          · have hdd : (decide (-999999999999999999 ≤ n) && decide (n ≤ 999999999999999999)) = false := by simp [hhi]
            rw [hdd]
            generalize readV (Lib.itoa n) = vv
            go_wp2
            go_ret
            exact ⟨rfl, hb7⟩
        · have hdd : (decide (-999999999999999999 ≤ n) && decide (n ≤ 999999999999999999)) = false := by simp [hlo]
          rw [hdd]
          generalize readV (Lib.itoa n) = vv
          go_wp2
          go_ret
          exact ⟨rfl, hb7⟩
      · -- 7 digits
        have hh : Pl.hexOf m 7 = Pl.hexT m.toNat 7 := by unfold Pl.hexOf; rw [if_neg (by omega)]; rfl
        obtain ⟨mm, rfl⟩ := Int.eq_ofNat_of_zero_le hmm
        rw [Int.toNat_natCast] at hh
        have hr := k14 ⟨(Pl.hexT mm 7).toArray⟩ ((mm : Int) % 268435456) (by
          rw [show (⟨(Pl.hexT mm 7).toArray⟩ : ByteArray).data.toList = Pl.hexT mm 7 by simp, readN_hexT mm 7 (by decide) (by decide)]
          show ((mm % 16 ^ 7 : Nat) : Int) = _
          omega)
        have hlen : (Pl.hexT mm 7).length = 7 := Pl.hexT_length _ _
        rw [hh] at k13 ⊢
        clear hh k14
        obtain ⟨hx, hhx⟩ : ∃ hx : ByteArray, hx = ⟨(Pl.hexT mm 7).toArray⟩ := ⟨_, rfl⟩
        have hsz : hx.size = 7 := by rw [hhx]; show (Pl.hexT mm 7).toArray.size = 7; simpa using hlen
        have hne0 : hx.toList ≠ [] := by rw [Lib.toList_data]; intro e; have h5 := Lib.size_eq hx; rw [e, List.length_nil] at h5; omega
        have hne1 : hx.toList.isEmpty = false := by simpa using hne0
        have hne2 : (hx.toList == []) = false := by simpa using hne0
        have hne3 : (hx.toList != []) = true := by simpa using hne0
        rw [← hhx] at k13 hr ⊢
        clear hhx hlen hne0
        go_wp2_with fail
        refine wp_region_quiet_below (by kernel_rfl) (by kernel_rfl) ?_
        repeat (go_big_quiet_step (first | exact k12.out _ _ | exact k13.out _ _ | exact hr.out _ _))
        refine wpQuiet_nil ?_
        intro _ hw'
        obtain ⟨⟨dq, osq⟩, hw''⟩ := hw'
        subst hw''
        have hb6 := hb5.trans ((below_regrown w5 dq osq).mono hb5.size)
        generalize grow (redrawn w5 { d := dq, os := osq : Regrown }.d) { d := dq, os := osq : Regrown }.os = w6 at *
        go_wp2_with fail
        refine (readInt_impl _ _ (Nat.le_trans hL (by unfold maxLen; decide))).mono ?_
        rintro e w7 ⟨rfl, hb7⟩
        replace hb7 := hb6.trans (hb7.mono hb6.size)
        simp only [List.toList_toArray]
        rw [RO.out]
        by_cases hlo : -999999999999999999 ≤ n
        · by_cases hhi : n ≤ 999999999999999999
          · have hv := Lib.hid (RV.out hlo hhi)
            have hdd : (decide (-999999999999999999 ≤ n) && decide (n ≤ 999999999999999999)) = true := by simp [hlo, hhi]
            rw [hv.out, hdd]
            have hnn : (n == n) = true := by simp
            go_wp2
            go_ret
            exact ⟨rfl, hb7⟩
          · have hdd : (decide (-999999999999999999 ≤ n) && decide (n ≤ 999999999999999999)) = false := by simp [hhi]
            rw [hdd]
            generalize readV (Lib.itoa n) = vv
            go_wp2
            go_ret
            exact ⟨rfl, hb7⟩
        · have hdd : (decide (-999999999999999999 ≤ n) && decide (n ≤ 999999999999999999)) = false := by simp [hlo]
          rw [hdd]
          generalize readV (Lib.itoa n) = vv
          go_wp2
          go_ret
          exact ⟨rfl, hb7⟩
      · -- 8 digits
        have hh : Pl.hexOf m 8 = Pl.hexT m.toNat 8 := by unfold Pl.hexOf; rw [if_neg (by omega)]; rfl
        obtain ⟨mm, rfl⟩ := Int.eq_ofNat_of_zero_le hmm
        rw [Int.toNat_natCast] at hh
        have hr := k14 ⟨(Pl.hexT mm 8).toArray⟩ ((mm : Int) % 4294967296) (by
          rw [show (⟨(Pl.hexT mm 8).toArray⟩ : ByteArray).data.toList = Pl.hexT mm 8 by simp, readN_hexT mm 8 (by decide) (by decide)]
          show ((mm % 16 ^ 8 : Nat) : Int) = _
          omega)
        have hlen : (Pl.hexT mm 8).length = 8 := Pl.hexT_length _ _
        rw [hh] at k13 ⊢
        clear hh k14
        obtain ⟨hx, hhx⟩ : ∃ hx : ByteArray, hx = ⟨(Pl.hexT mm 8).toArray⟩ := ⟨_, rfl⟩
        have hsz : hx.size = 8 := by rw [hhx]; show (Pl.hexT mm 8).toArray.size = 8; simpa using hlen
        have hne0 : hx.toList ≠ [] := by rw [Lib.toList_data]; intro e; have h5 := Lib.size_eq hx; rw [e, List.length_nil] at h5; omega
        have hne1 : hx.toList.isEmpty = false := by simpa using hne0
        have hne2 : (hx.toList == []) = false := by simpa using hne0
        have hne3 : (hx.toList != []) = true := by simpa using hne0
        rw [← hhx] at k13 hr ⊢
        clear hhx hlen hne0
        go_wp2_with fail
        refine wp_region_quiet_below (by kernel_rfl) (by kernel_rfl) ?_
        repeat (go_big_quiet_step (first | exact k12.out _ _ | exact k13.out _ _ | exact hr.out _ _))
        refine wpQuiet_nil ?_
        intro _ hw'
        obtain ⟨⟨dq, osq⟩, hw''⟩ := hw'
        subst hw''
        have hb6 := hb5.trans ((below_regrown w5 dq osq).mono hb5.size)
        generalize grow (redrawn w5 { d := dq, os := osq : Regrown }.d) { d := dq, os := osq : Regrown }.os = w6 at *
        go_wp2_with fail
        refine (readInt_impl _ _ (Nat.le_trans hL (by unfold maxLen; decide))).mono ?_
        rintro e w7 ⟨rfl, hb7⟩
        replace hb7 := hb6.trans (hb7.mono hb6.size)
        simp only [List.toList_toArray]
        rw [RO.out]
        by_cases hlo : -999999999999999999 ≤ n
        · by_cases hhi : n ≤ 999999999999999999
          · have hv := Lib.hid (RV.out hlo hhi)
            have hdd : (decide (-999999999999999999 ≤ n) && decide (n ≤ 999999999999999999)) = true := by simp [hlo, hhi]
            rw [hv.out, hdd]
            have hnn : (n == n) = true := by simp
            go_wp2
            go_ret
            exact ⟨rfl, hb7⟩
          · have hdd : (decide (-999999999999999999 ≤ n) && decide (n ≤ 999999999999999999)) = false := by simp [hhi]
            rw [hdd]
            generalize readV (Lib.itoa n) = vv
            go_wp2
            go_ret
            exact ⟨rfl, hb7⟩
        · have hdd : (decide (-999999999999999999 ≤ n) && decide (n ≤ 999999999999999999)) = false := by simp [hlo]
          rw [hdd]
          generalize readV (Lib.itoa n) = vv
          go_wp2
          go_ret
          exact ⟨rfl, hb7⟩
  · go_enter Tryd.func3, Tryd.ntmps3
    go_wp2_with fail
    refine (big_yes _ _ _ _ (by omega)).mono ?_
    rintro e w1 ⟨rfl, rfl⟩
    go_wp2
    go_ret
    exact ⟨rfl, Below.refl _ _⟩

end Go.Proofs.YtkhcdopnohbieaaDoor
