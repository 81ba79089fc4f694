/- The walk of the law FnHalves. -/
import Derived.Test.YtikhanickkhnbaaProg
import Derived.Test.YtikhanickkhnbaaPlain
import Derived.Test.YtikhanickkhnbaaDraw
import Derived.Test.YtikhanickkhnbaaTexts
import Derived.Test.YtikhanickkhnbaaLines
import Derived.Test.YtikhanickkhnbaaLinesArg
import Derived.Test.YtikhanickkhnbaaLinesPure
import Derived.Test.YtikhanickkhnbaaLinesEq
import Derived.Test.YtikhanickkhnbaaSplitSpec
import Derived.Test.YtikhanickkhnbaaSplitImpl
import Derived.Test.YtikhanickkhnbaaLinesDraw
import Derived.WalkKit
import Derived.WalkLawsBesides
import Derived.OwnWalk
import Derived.Laws.AppendOwnNone
import Derived.Lib.Hide
import Derived.IntWalk
namespace Go.Proofs.Ytikhanickkhnbaa
open Go.RowKit
set_option linter.unusedVariables false

theorem bytesIn_low {B : Nat} {w w' : World} {a : Option Addr} {len : Nat} (h : BytesIn w a len) (hlow : ∀ x, a = some x → len ≠ 0 → x.block < B) (hb : Below B w w') : BytesIn w' a len :=
  bytesIn_kept (b := 0) h (fun x hx hl => hb.block _ (hlow x hx hl))

theorem addr_at (b off j : Nat) : (⟨b, off, none⟩ : Addr).add j = ⟨b, off + j, none⟩ := by unfold Addr.add; split <;> simp_all
theorem bytesIn_part {w : World} {a : Option Addr} {len : Nat} (k : Nat) (h : BytesIn w a len) : BytesIn w (a.map (fun x => x.add k)) (len - k) := by
  rcases h with h | ⟨blk, off, rfl, hc⟩
  · exact .inl (by omega)
  · refine .inr ⟨blk, off + k, ?_, fun i hi => ?_⟩
    · exact congrArg some (addr_at blk off k)
    · obtain ⟨x, h1, h2, h3⟩ := hc (k + i) (by omega)
      exact ⟨x, h1, h2, by rw [Nat.add_assoc]; exact h3⟩
theorem bytesIn_less {w : World} {a : Option Addr} {len : Nat} (k : Nat) (hk : k ≤ len) (h : BytesIn w a len) : BytesIn w a k := by
  rcases h with h | ⟨blk, off, rfl, hc⟩
  · exact .inl (by omega)
  · exact .inr ⟨blk, off, rfl, fun i hi => hc i (by omega)⟩
theorem low_part {B : Nat} {a : Option Addr} {len : Nat} (k : Nat) (h : ∀ x, a = some x → len ≠ 0 → x.block < B) : ∀ x, a.map (fun x => x.add k) = some x → len - k ≠ 0 → x.block < B := by
  intro x hx hl
  obtain ⟨y, hy, rfl⟩ := Option.map_eq_some_iff.1 hx
  have := h y hy (by omega)
  unfold Addr.add
  split <;> exact this
theorem LinesRd.news {w : World} {v : Value} {g : Nat} {l : List Ln} (h : LinesRd w v g 0 l) : ∀ j u, (lnCells l)[j]? = some u → w.cell? ((⟨g, 0, none⟩ : Addr).add j) = some u := by
  intro j u hu
  have hadd : (⟨g, 0, none⟩ : Addr).add j = ⟨g, j, none⟩ := by unfold Addr.add; split <;> simp_all
  rw [hadd]
  have hj : j < l.length * 2 := by
    have := (List.getElem?_eq_some_iff.1 hu).1
    rwa [lnCells_length] at this
  rcases (show j = j / 2 * 2 ∨ j = j / 2 * 2 + 1 by omega) with e | e
  · have h1 := lnCells_0 l (j / 2) (by omega)
    have h2 := h.c0 (j / 2) (by omega)
    rw [← e] at h1
    rw [Nat.zero_add, ← e] at h2
    rw [h2, ← h1, hu]
  · have h1 := lnCells_1 l (j / 2) (by omega)
    have h2 := h.c1 (j / 2) (by omega)
    rw [← e] at h1
    rw [Nat.zero_add, ← e] at h2
    rw [h2, ← h1, hu]
theorem news_kept {w6 w7 : World} {ad : Addr} {lb : List Ln} {gb n c : Nat} (h : LinesRd w6 (.slice (some ad) n c) gb 0 lb) (hab : lb ≠ [] → some ad = some ⟨gb, 0, none⟩) (hk : lb ≠ [] → w7.heap[gb]? = w6.heap[gb]?) :
    ∀ j u, (lnCells lb)[j]? = some u → w7.cell? (ad.add j) = some u := by
  intro j u hu
  have hne : lb ≠ [] := by intro e; subst e; simp [lnCells] at hu
  have e := hab hne
  injection e with e
  subst e
  exact (h.kept hk).news j u hu
theorem kept_lit {w6 w7 : World} {o : Obj} {g : Nat} {row : Option Nat} (hg : (w6.alloc o).grownBy w7 row) (hr : row = some w6.heap.size) (hlt : g < w6.heap.size) : w7.heap[g]? = w6.heap[g]? := by
  rw [hg.block g (by simp; omega) (by rw [hr]; intro e; injection e; omega)]
  exact Below.heap_alloc _ _ _ hlt
theorem kept_two2 {w7 w8 : World} {g B : Nat} {row : Option Nat} (hg : w7.grownBy w8 row) (hr : ∀ k, row = some k → B ≤ k) (hlt : g < B) (hB : B ≤ w7.heap.size) : w8.heap[g]? = w7.heap[g]? :=
  hg.block g (by omega) (fun e => by have := hr g e.symm; omega)
abbrev barB : ByteArray := ⟨#[124, 10]⟩
theorem data_add (a b : ByteArray) : (a ++ b).data.toList = a.data.toList ++ b.data.toList := by simp
theorem lines_halves (s t : ByteArray) : linesOf (s ++ barB ++ t) = linesOf (s ++ barB) ++ linesOf t := by
  unfold linesOf
  rw [data_add, data_add, ← List.map_append]
  congr 1
  have := split_halves s.data.toList t.data.toList []
  rw [show barB.data.toList = [124, 10] from rfl, List.append_assoc]
  exact this
theorem lines_last (s : ByteArray) : ∃ m x, linesOf (s ++ barB) = m ++ [(x, ⟨#[10]⟩)] := by
  obtain ⟨a, x, h⟩ := split_last s.data.toList []
  refine ⟨a.map toB, ⟨x.toArray⟩, ?_⟩
  unfold linesOf
  rw [data_add, show barB.data.toList = [124, 10] from rfl, h, List.map_append]
  rfl

set_option maxHeartbeats 1600000 in
theorem fnHalves_walk (a0 : Option Addr) (len0 cap0 : Nat) (w : World) (hB : BytesIn w a0 len0) (hlow : ∀ x, a0 = some x → len0 ≠ 0 → x.block < w.heap.size) :
    Calls Try.prog 4 #[.slice a0 len0 cap0] w fun e w' => e = .returned (.bool true) ∧ Below w.heap.size w w' := by
  by_cases h0 : len0 ≤ 1048576
  · have HB := Lib.hid hB
    have HLOW := Lib.hid hlow
    clear hB hlow
    go_enter Try.func4, Try.ntmps4
    go_wp2_with fail
    refine (big_no _ _ _ _ h0).mono ?_
    rintro e w1 ⟨rfl, rfl⟩
    go_wp2_with fail
    refine (drawSplitLines w a0 len0 cap0 h0 HB.out HLOW.out).mono ?_
    rintro e w2 ⟨s, hs, rfl, hb2⟩
    have q0 : (0 : Int) ≤ (len0 : Int) / 2 := by omega
    have q1 : (len0 : Int) / 2 ≤ (len0 : Int) := by omega
    have q2 : ((len0 : Int) / 2).toNat = len0 / 2 := by omega
    have HB2 := Lib.hid (bytesIn_low HB.out HLOW.out hb2)
    have HLOW2 : Hid (∀ x, a0 = some x → len0 ≠ 0 → x.block < w2.heap.size) := fun x hx hl => Nat.lt_of_lt_of_le (HLOW.out x hx hl) hb2.size
    by_cases hcap : cap0 = len0 / 2
    · go_wp2_with fail
      refine (drawSplitLines w2 _ (len0 - len0 / 2) _ (by omega) (bytesIn_less _ (by omega) HB2.out) (fun x hx hl => HLOW2.out x hx (by omega))).mono ?_
      rintro e w3 ⟨t, ht, rfl, hb3⟩
      have hb3' := hb2.trans (hb3.mono hb2.size)
      clear HB HLOW hb2 hb3
      have hs1 : (s ++ barB).size ≤ 16 := by rw [ByteArray.size_append]; have : barB.size = 2 := rfl; omega
      have hs2 : (s ++ barB ++ t).size ≤ 30 := by rw [ByteArray.size_append]; omega
      have K1 := Lib.hid (fun w => splitLines_tight (s ++ barB) w (by omega))
      have K2 := Lib.hid (fun w => splitLines_tight t w (by omega))
      have K3 := Lib.hid (fun w => splitLines_tight (s ++ barB ++ t) w (by omega))
      have hf1 := Nat.le_trans (linesOf_few (s ++ barB)) hs1
      have hf2 := Nat.le_trans (linesOf_few t) ht
      obtain ⟨m, y, hlast⟩ := lines_last s
      rw [lines_halves] at K3
      rw [hlast] at K1 K3 hf1
      generalize linesOf t = lb at *
      clear hs1 hs2 hlast
      go_wp2_with fail
      refine (K1.out _).mono ?_
      rintro e w4 ⟨aa, ga, rfl, hI4, hg4, hb4⟩
      have hb4' := hb3'.trans (hb4.mono hb3'.size)
      clear hb3' hb4
      go_wp2_with fail
      refine (K2.out _).mono ?_
      rintro e w5 ⟨ab, gb, rfl, hI5, hg5, hb5⟩
      have hb5' := hb4'.trans (hb5.mono hb4'.size)
      have hI45 := hI4.below hb5 (fun h => hI4.lt h)
      clear hb4' hb5 hI4
      go_wp2_with fail
      refine (K3.out _).mono ?_
      rintro e w6 ⟨ac, gc, rfl, hI6, hg6, hb6⟩
      have hb6' := hb5'.trans (hb6.mono hb5'.size)
      have hI46 := hI45.below hb6 (fun h => hI45.lt h)
      have hI56 := hI5.below hb6 (fun h => hI5.lt h)
      clear hb5' hb6 hI45 hI5 K1 K2 K3
      generalize hla : m ++ [(y, (⟨#[10]⟩ : ByteArray))] = la at *
      have hlen : la.length = m.length + 1 := by rw [← hla]; simp
      have hat : ∀ h : m.length < la.length, la[m.length].2 = ⟨#[10]⟩ := by subst hla; intro h; simp
      have hlan : la ≠ [] := by intro e; rw [e] at hlen; simp at hlen
      obtain ⟨aa', capa, hva, haa⟩ := hI46.form
      have haa2 := haa hlan
      simp only [Value.slice.injEq] at hva
      obtain ⟨rfl, _, rfl⟩ := hva
      subst haa2
      have hce := hI46.c1 m.length (by omega)
      rw [hat (by omega)] at hce
      have hga : ga < w6.heap.size := hI46.lt hlan
      have hgb : lb ≠ [] → gb < w6.heap.size := fun h => hI56.lt h
      obtain ⟨ab', capb, hvb, hab⟩ := hI56.form
      simp only [Value.slice.injEq] at hvb
      obtain ⟨rfl, _, rfl⟩ := hvb
      have hnl := lnCells_length la
      rw [hlen] at hnl
      have HI46 := Lib.hid hI46
      have HI56 := Lib.hid hI56
      have HI6 := Lib.hid hI6
      have HAB := Lib.hid hab
      have HNL := Lib.hid hnl
      have hlen2 := Lib.hid hlen
      rw [List.length_append] at HI6
      rw [hlen] at HI46 HI6
      simp only [Nat.zero_add] at hce
      have hlb : Hid ((lnCells lb).length = lb.length * 2) := lnCells_length lb
      rw [List.length_append, hlen]
      have hm16 : m.length + 1 ≤ 16 := by omega
      clear hI46 hI56 hI6 hab hnl hla hat haa hlan hf1
      clear hlen
      obtain ⟨i0, hi, hz0, hz1, hz2⟩ := info_parts info_line
      cases ab with
      | none =>
        have hlb0 : lb = [] := by
          rcases Classical.em (lb = []) with h | h
          · exact h
          · exact absurd (HAB.out h) (by simp)
        subst hlb0
        go_wp2_with (first
          | (at_builtin; refine wpList_append_own _ rfl _ _ 24 rfl w6.heap.size 31 i0 (.agg #[.string ByteArray.empty, .string ByteArray.empty]) 2 32 Try.underlying24 hi hz0 hz1 hz2 rfl (by decide) _ _ _ rfl (World.ownsRow_lit w6 #[] 0 (Nat.le_refl _) (Nat.zero_le _) rfl) ⟨ga, 0, none⟩ (m.length + 1) (m.length + 1) (lnCells la) rfl HNL.out ((HI46.out.kept (fun _ => Below.heap_alloc _ _ _ hga)).toLinesRd.news) (lnCells_one la) (by unfold maxLen; omega) (by omega) (by simp) ?_; intro v7 w7 hown7 hgrow7 _)
          | (at_builtin; refine wpList_append_own_none rfl _ _ 24 rfl w6.heap.size 31 i0 2 Try.underlying24 hi _ _ _ rfl hown7 rfl ?_))
        have hs8 : w6.heap.size ≤ w7.heap.size := by have h1 := hgrow7.size; simp at h1; omega
        obtain ⟨g8, hI8, hg8⟩ := linesIs_of_owns (l := la ++ ([] : List Ln)) (t := 31) (n := 0 + (m.length + 1) + 0) (by rw [List.append_nil]; simpa using hown7) (by rw [List.append_nil, hlen2.out]; omega) hs8
        have k8 : ∀ g, g < w6.heap.size → w7.heap[g]? = w6.heap[g]? := fun g h => kept_lit hgrow7 rfl h
        have hI68 := HI6.out.kept (w' := w7) (fun h => k8 _ (HI6.out.lt h))
        have hce8 : w7.cell? ⟨ga, m.length * 2 + 1, none⟩ = some (.string ⟨#[10]⟩) := (World.cell?_of_block (a := ⟨ga, m.length * 2 + 1, none⟩) (k8 _ hga)).trans hce
        have hb8 : Below w.heap.size w w7 := hb6'.trans ⟨hgrow7.os, hgrow7.tape, hgrow7.output, hs8, fun k hk => k8 k (Nat.lt_of_lt_of_le hk hb6'.size)⟩
        have hll : (la ++ ([] : List Ln)).length ≤ 100 := by rw [List.append_nil, hlen2.out]; omega
        have K := Lib.hid (sameLines_any w7 _ v7 gc 0 g8 0 (la ++ ([] : List Ln)) (la ++ ([] : List Ln)) hI68.toLinesRd hI8.toLinesRd (by omega) (by omega))
        rw [show decide (la ++ ([] : List Ln) = la ++ ([] : List Ln)) = true by simp] at K
        have p1 : (0 : Int) < ((m.length + 1 : Nat) : Int) := by omega
        clear hown7 hgrow7  hI8 hI68 HI6 HI46 HI56 hce k8 hb6' HAB hlb HNL
        refine K.out.mono ?_
        rintro e w9 ⟨rfl, n9, rfl⟩
        have hb9 := below_drewN hb8 n9
        clear K hb8
        go_wp2
        go_ret
        exact ⟨rfl, hb9⟩
      | some ad =>
        go_wp2_with (first
          | (at_builtin; refine wpList_append_own _ rfl _ _ 24 rfl w6.heap.size 31 i0 (.agg #[.string ByteArray.empty, .string ByteArray.empty]) 2 32 Try.underlying24 hi hz0 hz1 hz2 rfl (by decide) _ _ _ rfl (World.ownsRow_lit w6 #[] 0 (Nat.le_refl _) (Nat.zero_le _) rfl) ⟨ga, 0, none⟩ (m.length + 1) (m.length + 1) (lnCells la) rfl HNL.out ((HI46.out.kept (fun _ => Below.heap_alloc _ _ _ hga)).toLinesRd.news) (lnCells_one la) (by unfold maxLen; omega) (by omega) (by simp) ?_; intro v7 w7 hown7 hgrow7 _)
          | (at_builtin; refine wpList_append_own _ rfl _ _ 24 rfl w6.heap.size 31 i0 (.agg #[.string ByteArray.empty, .string ByteArray.empty]) 2 32 Try.underlying24 hi hz0 hz1 hz2 rfl (by decide) _ _ _ rfl hown7 ad lb.length lb.length (lnCells lb) rfl hlb.out (news_kept HI56.out.toLinesRd HAB.out (fun h => kept_lit hgrow7 rfl (hgb h))) (lnCells_one lb) (by unfold maxLen; omega) (by omega) (by have := hgrow7.size; simp at this; omega) ?_; intro v8 w8 hown8 hgrow8 _))
        have hs8 : w6.heap.size ≤ w8.heap.size := by have h1 := hgrow7.size; have h2 := hgrow8.size; simp at h1; omega
        obtain ⟨g8, hI8, hg8⟩ := linesIs_of_owns (l := la ++ lb) (t := 31) (n := 0 + (m.length + 1) + lb.length) (by rw [lnCells_append]; simpa using hown8) (by rw [List.length_append, hlen2.out]; omega) hs8
        have k8 : ∀ g, g < w6.heap.size → w8.heap[g]? = w6.heap[g]? := fun g h => (kept_two2 hgrow8 (own_blockL hown7) h (by have h1 := hgrow7.size; simp at h1; omega)).trans (kept_lit hgrow7 rfl h)
        have hI68 := HI6.out.kept (w' := w8) (fun h => k8 _ (HI6.out.lt h))
        have hce8 : w8.cell? ⟨ga, m.length * 2 + 1, none⟩ = some (.string ⟨#[10]⟩) := (World.cell?_of_block (a := ⟨ga, m.length * 2 + 1, none⟩) (k8 _ hga)).trans hce
        have hb8 : Below w.heap.size w w8 := hb6'.trans ⟨hgrow8.os.trans hgrow7.os, hgrow8.tape.trans hgrow7.tape, hgrow8.output.trans hgrow7.output, hs8, fun k hk => k8 k (Nat.lt_of_lt_of_le hk hb6'.size)⟩
        have hll : (la ++ lb).length ≤ 100 := by rw [List.length_append, hlen2.out]; omega
        have K := Lib.hid (sameLines_any w8 _ v8 gc 0 g8 0 (la ++ lb) (la ++ lb) hI68.toLinesRd hI8.toLinesRd (by omega) (by omega))
        rw [show decide (la ++ lb = la ++ lb) = true by simp] at K
        have p1 : (0 : Int) < ((m.length + 1 : Nat) : Int) := by omega
        clear hown7 hgrow7 hown8 hgrow8 hI8 hI68 HI6 HI46 HI56 hce k8 hb6' HAB hlb HNL
        refine K.out.mono ?_
        rintro e w9 ⟨rfl, n9, rfl⟩
        have hb9 := below_drewN hb8 n9
        clear K hb8
        go_wp2
        go_ret
        exact ⟨rfl, hb9⟩
    · go_wp2_with fail
      refine (drawSplitLines w2 _ (len0 - len0 / 2) _ (by omega) (bytesIn_part _ HB2.out) (low_part _ HLOW2.out)).mono ?_
      rintro e w3 ⟨t, ht, rfl, hb3⟩
      have hb3' := hb2.trans (hb3.mono hb2.size)
      clear HB HLOW hb2 hb3
      have hs1 : (s ++ barB).size ≤ 16 := by rw [ByteArray.size_append]; have : barB.size = 2 := rfl; omega
      have hs2 : (s ++ barB ++ t).size ≤ 30 := by rw [ByteArray.size_append]; omega
      have K1 := Lib.hid (fun w => splitLines_tight (s ++ barB) w (by omega))
      have K2 := Lib.hid (fun w => splitLines_tight t w (by omega))
      have K3 := Lib.hid (fun w => splitLines_tight (s ++ barB ++ t) w (by omega))
      have hf1 := Nat.le_trans (linesOf_few (s ++ barB)) hs1
      have hf2 := Nat.le_trans (linesOf_few t) ht
      obtain ⟨m, y, hlast⟩ := lines_last s
      rw [lines_halves] at K3
      rw [hlast] at K1 K3 hf1
      generalize linesOf t = lb at *
      clear hs1 hs2 hlast
      go_wp2_with fail
      refine (K1.out _).mono ?_
      rintro e w4 ⟨aa, ga, rfl, hI4, hg4, hb4⟩
      have hb4' := hb3'.trans (hb4.mono hb3'.size)
      clear hb3' hb4
      go_wp2_with fail
      refine (K2.out _).mono ?_
      rintro e w5 ⟨ab, gb, rfl, hI5, hg5, hb5⟩
      have hb5' := hb4'.trans (hb5.mono hb4'.size)
      have hI45 := hI4.below hb5 (fun h => hI4.lt h)
      clear hb4' hb5 hI4
      go_wp2_with fail
      refine (K3.out _).mono ?_
      rintro e w6 ⟨ac, gc, rfl, hI6, hg6, hb6⟩
      have hb6' := hb5'.trans (hb6.mono hb5'.size)
      have hI46 := hI45.below hb6 (fun h => hI45.lt h)
      have hI56 := hI5.below hb6 (fun h => hI5.lt h)
      clear hb5' hb6 hI45 hI5 K1 K2 K3
      generalize hla : m ++ [(y, (⟨#[10]⟩ : ByteArray))] = la at *
      have hlen : la.length = m.length + 1 := by rw [← hla]; simp
      have hat : ∀ h : m.length < la.length, la[m.length].2 = ⟨#[10]⟩ := by subst hla; intro h; simp
      have hlan : la ≠ [] := by intro e; rw [e] at hlen; simp at hlen
      obtain ⟨aa', capa, hva, haa⟩ := hI46.form
      have haa2 := haa hlan
      simp only [Value.slice.injEq] at hva
      obtain ⟨rfl, _, rfl⟩ := hva
      subst haa2
      have hce := hI46.c1 m.length (by omega)
      rw [hat (by omega)] at hce
      have hga : ga < w6.heap.size := hI46.lt hlan
      have hgb : lb ≠ [] → gb < w6.heap.size := fun h => hI56.lt h
      obtain ⟨ab', capb, hvb, hab⟩ := hI56.form
      simp only [Value.slice.injEq] at hvb
      obtain ⟨rfl, _, rfl⟩ := hvb
      have hnl := lnCells_length la
      rw [hlen] at hnl
      have HI46 := Lib.hid hI46
      have HI56 := Lib.hid hI56
      have HI6 := Lib.hid hI6
      have HAB := Lib.hid hab
      have HNL := Lib.hid hnl
      have hlen2 := Lib.hid hlen
      rw [List.length_append] at HI6
      rw [hlen] at HI46 HI6
      simp only [Nat.zero_add] at hce
      have hlb : Hid ((lnCells lb).length = lb.length * 2) := lnCells_length lb
      rw [List.length_append, hlen]
      have hm16 : m.length + 1 ≤ 16 := by omega
      clear hI46 hI56 hI6 hab hnl hla hat haa hlan hf1
      clear hlen
      obtain ⟨i0, hi, hz0, hz1, hz2⟩ := info_parts info_line
      cases ab with
      | none =>
        have hlb0 : lb = [] := by
          rcases Classical.em (lb = []) with h | h
          · exact h
          · exact absurd (HAB.out h) (by simp)
        subst hlb0
        go_wp2_with (first
          | (at_builtin; refine wpList_append_own _ rfl _ _ 24 rfl w6.heap.size 31 i0 (.agg #[.string ByteArray.empty, .string ByteArray.empty]) 2 32 Try.underlying24 hi hz0 hz1 hz2 rfl (by decide) _ _ _ rfl (World.ownsRow_lit w6 #[] 0 (Nat.le_refl _) (Nat.zero_le _) rfl) ⟨ga, 0, none⟩ (m.length + 1) (m.length + 1) (lnCells la) rfl HNL.out ((HI46.out.kept (fun _ => Below.heap_alloc _ _ _ hga)).toLinesRd.news) (lnCells_one la) (by unfold maxLen; omega) (by omega) (by simp) ?_; intro v7 w7 hown7 hgrow7 _)
          | (at_builtin; refine wpList_append_own_none rfl _ _ 24 rfl w6.heap.size 31 i0 2 Try.underlying24 hi _ _ _ rfl hown7 rfl ?_))
        have hs8 : w6.heap.size ≤ w7.heap.size := by have h1 := hgrow7.size; simp at h1; omega
        obtain ⟨g8, hI8, hg8⟩ := linesIs_of_owns (l := la ++ ([] : List Ln)) (t := 31) (n := 0 + (m.length + 1) + 0) (by rw [List.append_nil]; simpa using hown7) (by rw [List.append_nil, hlen2.out]; omega) hs8
        have k8 : ∀ g, g < w6.heap.size → w7.heap[g]? = w6.heap[g]? := fun g h => kept_lit hgrow7 rfl h
        have hI68 := HI6.out.kept (w' := w7) (fun h => k8 _ (HI6.out.lt h))
        have hce8 : w7.cell? ⟨ga, m.length * 2 + 1, none⟩ = some (.string ⟨#[10]⟩) := (World.cell?_of_block (a := ⟨ga, m.length * 2 + 1, none⟩) (k8 _ hga)).trans hce
        have hb8 : Below w.heap.size w w7 := hb6'.trans ⟨hgrow7.os, hgrow7.tape, hgrow7.output, hs8, fun k hk => k8 k (Nat.lt_of_lt_of_le hk hb6'.size)⟩
        have hll : (la ++ ([] : List Ln)).length ≤ 100 := by rw [List.append_nil, hlen2.out]; omega
        have K := Lib.hid (sameLines_any w7 _ v7 gc 0 g8 0 (la ++ ([] : List Ln)) (la ++ ([] : List Ln)) hI68.toLinesRd hI8.toLinesRd (by omega) (by omega))
        rw [show decide (la ++ ([] : List Ln) = la ++ ([] : List Ln)) = true by simp] at K
        have p1 : (0 : Int) < ((m.length + 1 : Nat) : Int) := by omega
        clear hown7 hgrow7  hI8 hI68 HI6 HI46 HI56 hce k8 hb6' HAB hlb HNL
        refine K.out.mono ?_
        rintro e w9 ⟨rfl, n9, rfl⟩
        have hb9 := below_drewN hb8 n9
        clear K hb8
        go_wp2
        go_ret
        exact ⟨rfl, hb9⟩
      | some ad =>
        go_wp2_with (first
          | (at_builtin; refine wpList_append_own _ rfl _ _ 24 rfl w6.heap.size 31 i0 (.agg #[.string ByteArray.empty, .string ByteArray.empty]) 2 32 Try.underlying24 hi hz0 hz1 hz2 rfl (by decide) _ _ _ rfl (World.ownsRow_lit w6 #[] 0 (Nat.le_refl _) (Nat.zero_le _) rfl) ⟨ga, 0, none⟩ (m.length + 1) (m.length + 1) (lnCells la) rfl HNL.out ((HI46.out.kept (fun _ => Below.heap_alloc _ _ _ hga)).toLinesRd.news) (lnCells_one la) (by unfold maxLen; omega) (by omega) (by simp) ?_; intro v7 w7 hown7 hgrow7 _)
          | (at_builtin; refine wpList_append_own _ rfl _ _ 24 rfl w6.heap.size 31 i0 (.agg #[.string ByteArray.empty, .string ByteArray.empty]) 2 32 Try.underlying24 hi hz0 hz1 hz2 rfl (by decide) _ _ _ rfl hown7 ad lb.length lb.length (lnCells lb) rfl hlb.out (news_kept HI56.out.toLinesRd HAB.out (fun h => kept_lit hgrow7 rfl (hgb h))) (lnCells_one lb) (by unfold maxLen; omega) (by omega) (by have := hgrow7.size; simp at this; omega) ?_; intro v8 w8 hown8 hgrow8 _))
        have hs8 : w6.heap.size ≤ w8.heap.size := by have h1 := hgrow7.size; have h2 := hgrow8.size; simp at h1; omega
        obtain ⟨g8, hI8, hg8⟩ := linesIs_of_owns (l := la ++ lb) (t := 31) (n := 0 + (m.length + 1) + lb.length) (by rw [lnCells_append]; simpa using hown8) (by rw [List.length_append, hlen2.out]; omega) hs8
        have k8 : ∀ g, g < w6.heap.size → w8.heap[g]? = w6.heap[g]? := fun g h => (kept_two2 hgrow8 (own_blockL hown7) h (by have h1 := hgrow7.size; simp at h1; omega)).trans (kept_lit hgrow7 rfl h)
        have hI68 := HI6.out.kept (w' := w8) (fun h => k8 _ (HI6.out.lt h))
        have hce8 : w8.cell? ⟨ga, m.length * 2 + 1, none⟩ = some (.string ⟨#[10]⟩) := (World.cell?_of_block (a := ⟨ga, m.length * 2 + 1, none⟩) (k8 _ hga)).trans hce
        have hb8 : Below w.heap.size w w8 := hb6'.trans ⟨hgrow8.os.trans hgrow7.os, hgrow8.tape.trans hgrow7.tape, hgrow8.output.trans hgrow7.output, hs8, fun k hk => k8 k (Nat.lt_of_lt_of_le hk hb6'.size)⟩
        have hll : (la ++ lb).length ≤ 100 := by rw [List.length_append, hlen2.out]; omega
        have K := Lib.hid (sameLines_any w8 _ v8 gc 0 g8 0 (la ++ lb) (la ++ lb) hI68.toLinesRd hI8.toLinesRd (by omega) (by omega))
        rw [show decide (la ++ lb = la ++ lb) = true by simp] at K
        have p1 : (0 : Int) < ((m.length + 1 : Nat) : Int) := by omega
        clear hown7 hgrow7 hown8 hgrow8 hI8 hI68 HI6 HI46 HI56 hce k8 hb6' HAB hlb HNL
        refine K.out.mono ?_
        rintro e w9 ⟨rfl, n9, rfl⟩
        have hb9 := below_drewN hb8 n9
        clear K hb8
        go_wp2
        go_ret
        exact ⟨rfl, hb9⟩
  · go_enter Try.func4, Try.ntmps4
    go_wp2_with fail
    refine (big_yes _ _ _ _ (by omega)).mono ?_
    rintro e w1 ⟨rfl, rfl⟩
    go_wp2
    go_ret
    exact ⟨rfl, Below.refl _ _⟩

end Go.Proofs.Ytikhanickkhnbaa
