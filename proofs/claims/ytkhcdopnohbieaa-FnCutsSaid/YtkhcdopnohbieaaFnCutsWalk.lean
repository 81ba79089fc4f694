/- The walk of the law FnCuts. -/
import Derived.Test.YtkhcdopnohbieaaProg
import Derived.Test.YtkhcdopnohbieaaPlain
import Derived.Test.YtkhcdopnohbieaaDraw
import Derived.Test.YtkhcdopnohbieaaDrawNum
import Derived.Test.YtkhcdopnohbieaaCut
import Derived.Test.YtkhcdopnohbieaaTexts
import Derived.Test.YtkhcdopnohbieaaSplit
import Derived.Test.YtkhcdopnohbieaaIter
import Derived.WalkKit
import Derived.WalkLawsBesides
import Derived.Laws.IdiomStrings
import Derived.Lib.Hide
import Derived.IntWalk
namespace Go.Proofs.Ytkhcdopnohbieaa
open Go.RowKit
set_option linter.unusedVariables false

/-! parts put together -/
def sepAll (c : UInt8) (l : List ByteArray) : List UInt8 := l.flatMap (fun x => x.data.toList ++ [c])
theorem sepAll_snoc (c : UInt8) (l : List ByteArray) (x : ByteArray) : sepAll c (l ++ [x]) = sepAll c l ++ (x.data.toList ++ [c]) := by simp [sepAll]
theorem sep_cuts (s : ByteArray) (c : UInt8) (k : Nat) (hk : k ≤ s.size) : sepAll c (cutsTo s (· == c) k).1 = s.data.toList.take (cutsTo s (· == c) k).2 := by
  induction k with
  | zero => simp [cutsTo, sepAll]
  | succ k ih =>
    have hlt : k < s.size := by omega
    have hle := (cutsTo_le s (· == c) k).1
    cases hp : (· == c) s[k]
    · rw [cutsTo_miss hlt hp]; exact ih (by omega)
    · rw [cutsTo_hit hlt hp, sepAll_snoc, ih (by omega), Lib.extract_data]
      have hc : s[k] = c := by simpa using hp
      rw [Pl.take_snoc s k hlt, hc, ← List.append_assoc]
      congr 1
      have hdt : (s.data.toList.drop (cutsTo s (· == c) k).2).take (k - (cutsTo s (· == c) k).2) = (s.data.toList.take k).drop (cutsTo s (· == c) k).2 := by rw [List.drop_take]
      rw [hdt]
      have := List.take_append_drop (cutsTo s (· == c) k).2 (s.data.toList.take k)
      rw [List.take_take, Nat.min_eq_left hle] at this
      exact this
/-- what is put together behind k parts -/
def joinTo (c : UInt8) (m : List ByteArray) : Nat → List UInt8
  | 0 => []
  | k + 1 => sepAll c (m.take k) ++ (m.getD k ⟨#[]⟩).data.toList
theorem getD_at {m : List ByteArray} {k : Nat} (h : k < m.length) : m.getD k ⟨#[]⟩ = m[k] := by
  rw [List.getD_eq_getElem?_getD, List.getElem?_eq_getElem h]; rfl
theorem join_first (c : UInt8) (m : List ByteArray) (h : 0 < m.length) : joinTo c m 1 = m[0].data.toList := by
  simp only [joinTo, List.take_zero, sepAll, List.flatMap_nil, List.nil_append]
  rw [getD_at h]
theorem join_next (c : UInt8) (m : List ByteArray) (k : Nat) (h : k + 1 < m.length) : joinTo c m (k + 2) = joinTo c m (k + 1) ++ [c] ++ m[k + 1].data.toList := by
  simp only [joinTo]
  rw [getD_at h, getD_at (show k < m.length by omega), List.take_succ_eq_append_getElem (by omega), sepAll_snoc]
  simp
theorem join_all (s : ByteArray) (c : UInt8) : joinTo c (splitOf s (· == c)) (splitOf s (· == c)).length = s.data.toList := by
  unfold splitOf
  split
  · rename_i h
    have : s.data.toList = [] := by apply List.eq_nil_of_length_eq_zero; simpa using h
    rw [this]; rfl
  · unfold partsOf
    have hle := (cutsTo_le s (· == c) s.size).1
    have hs := sep_cuts s c s.size (Nat.le_refl _)
    generalize cutsTo s (· == c) s.size = q at *
    rw [List.length_append, List.length_cons, List.length_nil]
    simp only [joinTo]
    rw [List.take_left' rfl, getD_at (by simp), List.getElem_append_right (Nat.le_refl _)]
    simp only [Nat.sub_self, List.getElem_cons_zero]
    rw [hs, Lib.extract_data]
    have hx : List.take (s.size - q.2) (List.drop q.2 s.data.toList) = List.drop q.2 s.data.toList := List.take_of_length_le (by rw [List.length_drop, ← Lib.size_eq]; omega)
    rw [hx, List.take_append_drop]
theorem sepAll_len (c : UInt8) (l : List ByteArray) (h : ∀ x ∈ l, x.size ≤ 21) : (sepAll c l).length ≤ 22 * l.length := by
  induction l with
  | nil => simp [sepAll]
  | cons x l ih =>
    have h1 := ih (fun y hy => h y (List.mem_cons_of_mem _ hy))
    have h2 := h x (List.mem_cons_self)
    have h3 := Lib.size_eq x
    simp only [sepAll, List.flatMap_cons, List.length_append, List.length_cons, List.length_nil] at h1 ⊢
    omega
theorem joinTo_len (c : UInt8) (m : List ByteArray) (h : ∀ x ∈ m, x.size ≤ 21) (k : Nat) (hk : k ≤ m.length) : (joinTo c m k).length ≤ 22 * m.length := by
  cases k with
  | zero => simp [joinTo]
  | succ k =>
    simp only [joinTo, List.length_append]
    rw [getD_at (by omega)]
    have h1 := sepAll_len c (m.take k) (fun x hx => h x (List.mem_of_mem_take hx))
    have h2 := h m[k] (List.getElem_mem _)
    have h3 := Lib.size_eq m[k]
    rw [List.length_take] at h1
    omega
theorem cuts_small (s : ByteArray) (p : UInt8 → Bool) (hs : s.size ≤ 21) (k : Nat) : ∀ x ∈ (cutsTo s p k).1, x.size ≤ 21 := by
  induction k with
  | zero => intro x hx; simp [cutsTo] at hx
  | succ k ih =>
    simp only [cutsTo]
    split
    · split
      · intro x hx
        rw [List.mem_append] at hx
        rcases hx with hx | hx
        · exact ih x hx
        · simp only [List.mem_cons, List.not_mem_nil, or_false] at hx
          subst hx
          simp [ByteArray.size_extract]
          omega
      · exact ih
    · exact ih
theorem split_small (s : ByteArray) (p : UInt8 → Bool) (hs : s.size ≤ 21) : ∀ x ∈ splitOf s p, x.size ≤ 21 := by
  unfold splitOf
  split
  · intro x hx; cases hx
  · intro x hx
    unfold partsOf at hx
    rw [List.mem_append] at hx
    rcases hx with hx | hx
    · exact cuts_small s p hs _ x hx
    · simp only [List.mem_cons, List.not_mem_nil, or_false] at hx
      subst hx
      simp [ByteArray.size_extract]
      omega

theorem byte_text (W : World) (c : UInt8) : (convert 22 9 (.slice (some ⟨W.heap.size, 0, none⟩) 1 1)).run Try.prog (W.alloc (.cells #[.int .u8 (c.toNat : Int)] 5)) = .ok (.string ⟨#[c]⟩) (W.alloc (.cells #[.int .u8 (c.toNat : Int)] 5)) := by
  have h := run_convert_bytes_back (P := Try.prog) (W.alloc (.cells #[.int .u8 (c.toNat : Int)] 5)) 22 9 5 ⟨W.heap.size, 0, none⟩ 1 [c] Try.underlying22 Try.underlying5 Try.underlying9 (fun j hj => by
    have hj0 : j = 0 := by simp at hj; exact hj
    subst hj0
    have ha : (⟨W.heap.size, 0, none⟩ : Addr).add 0 = ⟨W.heap.size, 0, none⟩ := by unfold Addr.add; split <;> simp_all
    rw [ha]
    simp)
  exact h

/-! the draws -/
theorem ints_new (w : World) (cs : List Value) (t : Nat) (h : ∀ v ∈ cs, ∃ x : Int, v = .int .i64 x ∧ -9223372036854775808 ≤ x ∧ x ≤ 9223372036854775807) : IntsAt (w.alloc (.cells cs.toArray t)) w.heap.size cs.length := by
  intro i hi
  obtain ⟨x, hx, h1, h2⟩ := h cs[i] (List.getElem_mem hi)
  refine ⟨x, h1, h2, ?_⟩
  have h2 : (w.alloc (.cells cs.toArray t)).cell? ⟨w.heap.size, i, none⟩ = some cs[i] := by
    simp [hi]
  rw [h2, hx]
def SomeCut (w : World) (e : Ending) (w' : World) : Prop := ∃ (s : ByteArray) (c : UInt8), s.size ≤ 21 ∧ e = .returned (.tuple #[.string s, .int .u8 (c.toNat : Int)]) ∧ Below w.heap.size w w'
set_option maxHeartbeats 800000 in
theorem drawSplitAt (w : World) (a : Option Addr) (len cap : Nat) (hlen : len ≤ 1048576) (hB : BytesIn w a len) (hlow : ∀ x, a = some x → len ≠ 0 → x.block < w.heap.size) :
    Calls Try.prog 14 #[.slice a len cap] w (SomeCut w) := by
  go_enter Try.func14, Try.ntmps14
  go_wp2_with fail
  refine (new_draw w a len cap hlen hB hlow).mono ?_
  rintro e w1 ⟨rfl, hC1, hb1⟩
  clear hB hlow
  have hlt1 := hC1.lt
  go_wp2_with fail
  refine (pick_draw _ w.heap.size w.heap.size a len cap w1.heap.size 7 7 21 (by omega) (hC1.alloc _) (by decide) (by decide) (by omega) (by simp) (by refine texts_alloc w1 _ _ _ _ ?_; decide +kernel)).mono ?_
  rintro e w2 ⟨s, hs, rfl, hC2, hg2⟩
  have hb2 := (hb1.alloc (by omega) _).trans (grownBy_below hg2 (Nat.le_refl _) (by simp; omega))
  clear hC1 hg2 hb1 hlt1
  have hlt2 := hC2.lt
  go_wp2_with fail
  refine (pickInt_draw _ w.heap.size w.heap.size a len cap w2.heap.size 4 4 (by omega) (hC2.alloc _) (by decide) (by decide) (by omega) (by simp) (by
    refine ints_new w2 _ _ ?_
    intro v hv
    simp only [List.mem_cons, List.not_mem_nil, or_false] at hv
    rcases hv with rfl | rfl | rfl | rfl <;> exact ⟨_, rfl, by omega, by omega⟩)).mono ?_
  rintro e w3 ⟨y, hy0, hy1, rfl, hC3, hg3⟩
  have hb3 := (hb2.alloc (by omega) _).trans (grownBy_below hg3 (Nat.le_refl _) (by simp; omega))
  clear hC2 hg3 hb2 hlt2 hC3
  go_wp2
  obtain ⟨c, hc⟩ : ∃ c : UInt8, y % 256 = (c.toNat : Int) := by
    refine ⟨UInt8.ofNat (y % 256).toNat, ?_⟩
    rw [UInt8.toNat_ofNat']
    omega
  rw [hc]
  go_ret2
  exact ⟨s, c, hs, rfl, hb3⟩

def SomeTwo (w : World) (e : Ending) (w' : World) : Prop := ∃ s t : ByteArray, s.size ≤ 21 ∧ t.size ≤ 21 ∧ e = .returned (.tuple #[.string s, .string t]) ∧ Below w.heap.size w w'
set_option maxHeartbeats 800000 in
theorem drawCutAt (w : World) (a : Option Addr) (len cap : Nat) (hlen : len ≤ 1048576) (hB : BytesIn w a len) (hlow : ∀ x, a = some x → len ≠ 0 → x.block < w.heap.size) :
    Calls Try.prog 18 #[.slice a len cap] w (SomeTwo w) := by
  go_enter Try.func18, Try.ntmps18
  go_wp2_with fail
  refine (new_draw w a len cap hlen hB hlow).mono ?_
  rintro e w1 ⟨rfl, hC1, hb1⟩
  clear hB hlow
  have hlt1 := hC1.lt
  go_wp2_with fail
  refine (pick_draw _ w.heap.size w.heap.size a len cap w1.heap.size 7 7 21 (by omega) (hC1.alloc _) (by decide) (by decide) (by omega) (by simp) (by refine texts_alloc w1 _ _ _ _ ?_; decide +kernel)).mono ?_
  rintro e w2 ⟨s, hs, rfl, hC2, hg2⟩
  have hb2 := (hb1.alloc (by omega) _).trans (grownBy_below hg2 (Nat.le_refl _) (by simp; omega))
  clear hC1 hg2 hb1 hlt1
  have hlt2 := hC2.lt
  go_wp2_with fail
  refine (pick_draw _ w.heap.size w.heap.size a len cap w2.heap.size 5 5 21 (by omega) (hC2.alloc _) (by decide) (by decide) (by omega) (by simp) (by refine texts_alloc w2 _ _ _ _ ?_; decide +kernel)).mono ?_
  rintro e w3 ⟨t, ht, rfl, hC3, hg3⟩
  have hb3 := (hb2.alloc (by omega) _).trans (grownBy_below hg3 (Nat.le_refl _) (by simp; omega))
  clear hC2 hg3 hb2 hlt2 hC3
  go_wp2
  go_ret2
  exact ⟨s, t, hs, ht, rfl, hb3⟩


theorem bytesIn_below {B : Nat} {w w' : World} {a : Option Addr} {len : Nat} (h : BytesIn w a len) (hlow : ∀ x, a = some x → len ≠ 0 → x.block < B) (hb : Below B w w') : BytesIn w' a len :=
  bytesIn_kept (b := 0) h (fun x hx hl => hb.block _ (hlow x hx hl))
theorem append_list (a b : ByteArray) : (a ++ b).data.toList = a.data.toList ++ b.data.toList := by simp
theorem size_of_list {a : ByteArray} {l : List UInt8} (h : a.data.toList = l) : a.size = l.length := by rw [← h, Lib.size_eq]

set_option maxRecDepth 100000 in
set_option maxHeartbeats 3200000 in
theorem fnCuts_walk (a0 : Option Addr) (len0 cap0 : Nat) (w : World) (hB : BytesIn w a0 len0) (hlow : ∀ x, a0 = some x → len0 ≠ 0 → x.block < w.heap.size) :
    Calls Try.prog 3 #[.slice a0 len0 cap0] w fun e w' => e = .returned (.bool true) ∧ Below w.heap.size w w' := by
  by_cases hbig : len0 ≤ 1048576
  · go_enter Try.func3, Try.ntmps3
    go_wp2_with fail
    refine (big_no _ _ _ _ hbig).mono ?_
    rintro e w1 ⟨rfl, rfl⟩
    go_wp2_with fail
    refine (drawSplitAt w a0 len0 cap0 hbig hB hlow).mono ?_
    rintro e w2 ⟨s, c, hs, rfl, hb2⟩
    have HB2 := Lib.hid (And.intro hB hlow)
    clear hB hlow
    go_wp2_with fail
    refine (split_impl s c _ (by omega)).mono ?_
    rintro e w3 ⟨vg, rfl, hrg, hb3⟩
    have hlen : (splitOf s (· == c)).length ≤ 22 := by
      unfold splitOf
      split
      · simp
      · have := partsOf_len s (· == c); omega
    have SM := Lib.hid (split_small s (· == c) hs)
    have JA := Lib.hid (join_all s c)
    have SP := Lib.hid (fun w => split_spec s c w (by omega))
    generalize splitOf s (· == c) = l at *
    obtain ⟨gg, hTg, hgg⟩ := textsIs_of_owns hrg rfl hb3.size
    replace hb3 := hb2.trans (hb3.mono hb2.size)
    clear hrg hb2
    go_wp2_with fail
    refine (SP.out _).mono ?_
    rintro e w4 ⟨vh, rfl, hrh, hb4⟩
    obtain ⟨gh, hTh, hgh⟩ := textsIs_of_owns hrh rfl hb4.size
    have hTg4 := hTg.below hb4 (fun hl => hTg.lt hl)
    replace hb4 := hb3.trans (hb4.mono hb3.size)
    clear hrh hb3 hTg
    go_wp2_with fail
    refine (sameTexts_any w4 vg vh gg gh l l hTg4 hTh (by omega) (by omega)).mono ?_
    rintro e w5 ⟨rfl, n5, rfl⟩
    rw [show decide (l = l) = true by simp]
    have hTg5 : TextsIs (w4.drewN n5) vg gg l := hTg4.kept (fun _ => rfl)
    have hb5 := below_drewN hb4 n5
    clear hTh hTg4 hb4
    generalize w4.drewN n5 = w5 at *
    obtain ⟨⟨a, cap, rfl, ha⟩, cu, fu⟩ := hTg5
    have HC := Lib.hid cu
    have HA := Lib.hid ha
    have hlt : l ≠ [] → gg < w5.heap.size := fun hl => World.block_lt_of_cell? _ _ (cu 0 (List.length_pos_iff.2 hl))
    have HLT := Lib.hid hlt
    clear cu ha fu hlt
    go_wp2
    go_loopw [6, 7] (fun o i wr => ∃ (k : Nat) (j : ByteArray), k ≤ l.length ∧ i = .int .i64 k ∧ o = .string j ∧ Hid (j.data.toList = joinTo c l k) ∧ Hid (Below w5.heap.size w5 wr)) (fun _ i _ => l.length - (intOf i).toNat)
    case atStart => exact ⟨0, ⟨#[]⟩, Nat.zero_le _, rfl, rfl, rfl, Below.refl _ _⟩
    case round =>
      obtain ⟨k, j, hk, rfl, rfl, hj, hbr⟩ := hrel
      have hjs : j.size ≤ 500 := by
        rw [size_of_list hj.out]
        have := joinTo_len c l SM.out k hk
        omega
      by_cases hkl : k < l.length
      · have hne : l ≠ [] := by intro e; subst e; simp at hkl
        obtain rfl := HA.out hne
        have hcell : wr.cell? ⟨gg, k, none⟩ = some (.string l[k]) := (World.cell?_of_block (a := ⟨gg, k, none⟩) (hbr.out.block gg (HLT.out hne))).trans (HC.out k hkl)
        have hxs := SM.out l[k] (List.getElem_mem hkl)
        rcases Nat.eq_zero_or_pos k with rfl | hpos
        · have hj2 : Hid ((j ++ l[0]).data.toList = joinTo c l 1) := by
            unfold Hid
            rw [join_first c l hkl, append_list, hj.out]; rfl
          generalize l[0] = x at *
          clear hj
          go_wp2
          go_roundw
          case rel => exact ⟨1, j ++ x, by omega, rfl, rfl, hj2, hbr⟩
          case measure => simp [intOf]; omega
        · obtain ⟨k, rfl⟩ : ∃ m, k = m + 1 := ⟨k - 1, by omega⟩
          have hj2 : Hid ((j ++ ⟨#[c]⟩ ++ l[k + 1]).data.toList = joinTo c l (k + 1 + 1)) := by
            unfold Hid
            rw [join_next c l k hkl, append_list, append_list, hj.out]
          have hgt : decide ((0 : Int) < ((k + 1 : Nat) : Int)) = true := by rw [decide_eq_true_iff]; omega
          have hcv := byte_text wr c
          have hbr2 : Hid (Below w5.heap.size w5 (wr.alloc (.cells #[.int .u8 (c.toNat : Int)] 5))) := hbr.out.alloc hbr.out.size _
          have hcell2 : (wr.alloc (.cells #[.int .u8 (c.toNat : Int)] 5)).cell? ⟨gg, k + 1, none⟩ = some (.string l[k + 1]) := (World.cell?_of_block (a := ⟨gg, k + 1, none⟩) (hbr2.out.block gg (HLT.out hne))).trans (HC.out (k + 1) hkl)
          have hsz : (j ++ (⟨#[c]⟩ : ByteArray)).size = j.size + 1 := by rw [ByteArray.size_append]; rfl
          generalize l[k + 1] = x at *
          clear hj hbr hcell
          go_wp2
          go_roundw
          case rel => exact ⟨k + 1 + 1, _, by omega, by go_num, rfl, hj2, hbr2⟩
          case measure => simp [intOf]; omega
      · obtain rfl : k = l.length := by omega
        have hjj : j.data.toList = s.data.toList := by rw [hj.out, JA.out]
        obtain rfl : j = s := ByteArray.ext (Array.toList_inj.1 hjj)
        have hb6 := hb5.trans (hbr.out.mono hb5.size)
        clear hj hjj JA SM hbr HC HA HLT SP hb5
        have hB6 := bytesIn_below HB2.out.1 HB2.out.2 hb6
        have hlow6 : ∀ x, a0 = some x → len0 ≠ 0 → x.block < wr.heap.size := fun x hx hl => Nat.lt_of_lt_of_le (HB2.out.2 x hx hl) hb6.size
        have HB6 := Lib.hid (And.intro hB6 hlow6)
        clear hB6 hlow6 HB2
        go_wp2_with fail
        refine (drawCutAt wr a0 len0 cap0 hbig HB6.out.1 HB6.out.2).mono ?_
        rintro e w7 ⟨u, t, hu, ht, rfl, hb7⟩
        replace hb7 := hb6.trans (hb7.mono hb6.size)
        clear hb6 HB6
        go_wp2_with fail
        refine (cutAt_impl u t _ (by omega) (by omega)).mono ?_
        rintro e w8 ⟨rfl, n8, rfl⟩
        have hb8 := below_drewN hb7 n8
        clear hb7
        generalize w7.drewN n8 = w8 at *
        have hjeq : (j.toList == j.toList) = true := by simp
        generalize firstIn (hasB t) u = q
        unfold cutRes
        by_cases hq : q < u.size
        · rw [if_pos hq]
          have hx : (u.extract 0 q).size = q := by rw [ByteArray.size_extract]; omega
          have hy : (u.extract (q + 1) u.size).size = u.size - (q + 1) := by rw [ByteArray.size_extract]; omega
          have hxe : ((u.extract 0 q).toList == (u.extract 0 q).toList) = true := by simp
          have hye : ((u.extract (q + 1) u.size).toList == (u.extract (q + 1) u.size).toList) = true := by simp
          obtain ⟨x, hxx⟩ : ∃ x, u.extract 0 q = x := ⟨_, rfl⟩
          obtain ⟨y, hyy⟩ : ∃ y, u.extract (q + 1) u.size = y := ⟨_, rfl⟩
          have hsum : ((x.size : Int) + (y.size : Int) + 1 == (u.size : Int)) = true := by
            rw [hxx] at hx
            rw [hyy] at hy
            rw [beq_iff_eq]; omega
          rw [hxx] at hx
          rw [hyy] at hy
          subst hx
          have hxe2 : ((u.extract 0 x.size).toList == x.toList) = true := by rw [hxx]; simp
          have hye2 : ((u.extract (x.size + 1) u.size).toList == y.toList) = true := by rw [hyy]; simp
          rw [hxx, hyy]
          clear hxe hye hxx hyy
          go_wp2
          go_ret
          exact ⟨rfl, hb8⟩
        · rw [if_neg hq]
          have hueq : (u.toList == u.toList) = true := by simp
          go_wp2
          go_ret
          exact ⟨rfl, hb8⟩
  · go_enter Try.func3, Try.ntmps3
    go_wp2_with fail
    refine (big_yes _ _ _ _ (by omega)).mono ?_
    rintro e w1 ⟨rfl, rfl⟩
    go_wp2
    go_ret
    exact ⟨rfl, Below.refl _ _⟩

end Go.Proofs.Ytkhcdopnohbieaa
