/- The sections of records: the contracts of Sections, the model's and the program's. -/
import Derived.Test.YtdkghalcnaogfaaProg
import Derived.Test.YtdkghalcnaogfaaPlain
import Derived.Test.YtdkghalcnaogfaaTexts
import Derived.Test.YtdkghalcnaogfaaRows0
import Derived.Test.YtdkghalcnaogfaaRecRows
import Derived.Test.YtdkghalcnaogfaaRecArg
import Derived.Test.YtdkghalcnaogfaaRecEntry
import Derived.Test.YtdkghalcnaogfaaRecRaw
import Derived.Test.YtdkghalcnaogfaaRecOdd
import Derived.Test.YtdkghalcnaogfaaRecLast
import Derived.Test.YtdkghalcnaogfaaKit
import Derived.Test.YtdkghalcnaogfaaCounts
import Derived.WalkKit
import Derived.WalkLawsBesides
import Derived.OwnWalk
import Derived.Lib.AppendStr
import Derived.Laws.IdiomStrings
import Derived.Maps.Own
import Derived.Maps.OwnOps
import Derived.Maps.Views
import Derived.Maps.OwnSet
import Derived.WalkArith
import Derived.Lib.Hide
import Derived.IntWalk
namespace Go.Proofs.Ytdkghalcnaogfaa
open Go.RowKit Go.Maps Go.WideMaps
set_option linter.unusedVariables false

instance memDec (x : ByteArray) (l : List ByteArray) : Decidable (x ∈ l) :=
  decidable_of_iff (l.any (fun y => decide (y = x)) = true) (by
    rw [List.any_eq_true]
    constructor
    · rintro ⟨y, hy, h⟩
      have : y = x := by simpa using h
      rw [← this]; exact hy
    · intro h
      exact ⟨x, h, by simp⟩)
/-- one record more -/
def stepS (z : List ByteArray) (x : RecD) : List ByteArray := if x.kind = 2 ∧ x.sect ∉ z then z ++ [x.sect] else z
/-- the sections of the heads, each once -/
def sectsL (l : List RecD) : List ByteArray := l.foldl stepS []
theorem sectsL_take_succ (l : List RecD) (k : Nat) (h : k < l.length) : sectsL (l.take (k + 1)) = stepS (sectsL (l.take k)) l[k] := by
  unfold sectsL
  rw [List.take_succ_eq_append_getElem h, List.foldl_append]
  rfl
theorem stepS_len (z : List ByteArray) (x : RecD) : (stepS z x).length ≤ z.length + 1 := by
  unfold stepS
  split <;> simp
theorem foldS_len (l : List RecD) (z : List ByteArray) : (l.foldl stepS z).length ≤ z.length + l.length := by
  induction l generalizing z with
  | nil => simp
  | cons x l ih =>
    have h1 := ih (stepS z x)
    have h2 := stepS_len z x
    simp only [List.foldl_cons, List.length_cons]
    omega
theorem sectsL_len (l : List RecD) : (sectsL l).length ≤ l.length := by
  have := foldS_len l []
  simpa [sectsL] using this
theorem sectsL_fits {l : List RecD} (h : costRec l ≤ 1048576) : (sectsL l).length ≤ 100000000 := by
  have := sectsL_len l
  unfold costRec at h
  omega
theorem mem_foldS (e : ByteArray) (l : List RecD) (z : List ByteArray) : e ∈ l.foldl stepS z ↔ e ∈ z ∨ ∃ x ∈ l, x.kind = 2 ∧ x.sect = e := by
  induction l generalizing z with
  | nil => simp
  | cons x l ih =>
    rw [List.foldl_cons, ih]
    have hs : e ∈ stepS z x ↔ e ∈ z ∨ (x.kind = 2 ∧ x.sect = e) := by
      unfold stepS
      split
      · rename_i h
        rw [List.mem_append, List.mem_singleton]
        constructor
        · rintro (h1 | h1)
          · exact .inl h1
          · exact .inr ⟨h.1, h1.symm⟩
        · rintro (h1 | h1)
          · exact .inl h1
          · exact .inr h1.2.symm
      · rename_i h
        constructor
        · exact fun h1 => .inl h1
        · rintro (h1 | h1)
          · exact h1
          · apply Classical.byContradiction
            intro h2
            exact h ⟨h1.1, by rw [h1.2]; exact h2⟩
    rw [hs]
    constructor
    · rintro ((h | h) | ⟨y, hy, h⟩)
      · exact .inl h
      · exact .inr ⟨x, List.mem_cons_self, h⟩
      · exact .inr ⟨y, List.mem_cons_of_mem _ hy, h⟩
    · rintro (h | ⟨y, hy, h⟩)
      · exact .inl (.inl h)
      · rcases List.mem_cons.1 hy with rfl | hy
        · exact .inl (.inr h)
        · exact .inr ⟨y, hy, h⟩
theorem mem_sectsL (e : ByteArray) (l : List RecD) : e ∈ sectsL l ↔ ∃ x ∈ l, x.kind = 2 ∧ x.sect = e := by
  unfold sectsL
  rw [mem_foldS]
  simp
/-- how often it is a head's -/
def timesH (l : List RecD) (e : ByteArray) : Nat := (l.filter (fun x => decide (x.kind = 2 ∧ x.sect = e))).length
theorem timesH_yes (l : List RecD) (k : Nat) (h : k < l.length) (h2 : l[k].kind = 2) (e : ByteArray) : timesH (l.take (k + 1)) e = timesH (l.take k) e + (if l[k].sect = e then 1 else 0) := by
  unfold timesH
  rw [List.take_succ_eq_append_getElem h, List.filter_append, List.length_append]
  congr 1
  by_cases h3 : l[k].sect = e <;> simp [h2, h3]
theorem timesH_no (l : List RecD) (k : Nat) (h : k < l.length) (h2 : l[k].kind ≠ 2) : timesH (l.take (k + 1)) = timesH (l.take k) := by
  funext e
  unfold timesH
  rw [List.take_succ_eq_append_getElem h, List.filter_append, List.length_append]
  simp [h2]
theorem timesH_zero (l : List RecD) (e : ByteArray) : timesH l e = 0 ↔ e ∉ sectsL l := by
  rw [mem_sectsL]
  unfold timesH
  rw [List.length_eq_zero_iff, List.filter_eq_nil_iff]
  constructor
  · rintro h ⟨x, hx, h1⟩
    exact h x hx (by simpa using h1)
  · intro h x hx h1
    exact h ⟨x, hx, by simpa using h1⟩
theorem timesH_le (l : List RecD) (k : Nat) (e : ByteArray) : timesH (l.take k) e ≤ l.length := by
  unfold timesH
  have := List.length_filter_le (fun x => decide (x.kind = 2 ∧ x.sect = e)) (l.take k)
  rw [List.length_take] at this
  omega

set_option maxHeartbeats 800000 in
theorem in_any (w : World) (v : Value) (g : Nat) (l : List ByteArray) (x : ByteArray) (h : TextsIs w v g l) (hl : l.length ≤ 100000000) :
    Calls Try.prog 45 #[v, .string x] w fun e w' => e = .returned (.bool (decide (x ∈ l))) ∧ w' = w := by
  obtain ⟨a, cap, rfl, ha⟩ := h.form
  have HC := Lib.hid h
  have HA := Lib.hid ha
  clear h ha
  go_enter Try.func45, Try.ntmps45
  go_wp2
  go_loopw [5] (fun i wr => ∃ k : Nat, k ≤ l.length ∧ i = .int .i64 k ∧ wr = w ∧ Hid (x ∉ l.take k)) (fun i _ => l.length - (intOf i).toNat)
  case atStart => exact ⟨0, Nat.zero_le _, rfl, rfl, by unfold Hid; simp⟩
  case round =>
    obtain ⟨k, hk, rfl, rfl, hn⟩ := hrel
    by_cases hlt : k < l.length
    · obtain rfl := HA.out (by intro e; subst e; simp at hlt)
      have hc := HC.out.cell k hlt
      by_cases he : l[k] = x
      · have hbb := txt_same _ _ he
        have HD : Hid (decide (x ∈ l) = true) := by unfold Hid; rw [decide_eq_true_iff, ← he]; exact List.getElem_mem _
        generalize l[k] = y at *
        clear he hn
        go_wp2
        go_ret
        exact ⟨by rw [HD.out]; rfl, rfl⟩
      · have hbb := txt_differ _ _ he
        have hn2 : Hid (x ∉ l.take (k + 1)) := by
          unfold Hid
          rw [List.take_succ_eq_append_getElem hlt, List.mem_append, List.mem_singleton]
          rintro (h | h)
          · exact hn.out h
          · exact he h.symm
        generalize l[k] = y at *
        clear he hn
        go_wp2
        go_roundw
        case rel => exact ⟨k + 1, by omega, by go_num, trivial, hn2⟩
        case measure => simp [intOf]; omega
    · have HD : Hid (decide (x ∈ l) = false) := by
        unfold Hid
        rw [decide_eq_false_iff_not]
        have := hn.out
        rwa [List.take_of_length_le (by omega)] at this
      clear hn
      go_wp2
      go_ret
      exact ⟨by rw [HD.out]; rfl, rfl⟩

theorem info_stringR : (Try.prog.info? 9).map (fun i => (i.zero, i.size, i.bytes)) = some (some (.string ByteArray.empty), 1, 16) := by kernel_rfl
theorem own_stepT {B : Nat} {w wr w1 : World} {t : Nat} {v v' : Value} {l : List ByteArray} {x : ByteArray} {o : Obj} (hb : Below w.heap.size w wr) (hBw : w.heap.size ≤ B) (hown : wr.ownsRow B t 1 v l.length (l.map Value.string))
    (hown' : w1.ownsRow B t 1 v' (l.length + 1) (l.map Value.string ++ [.string x])) (hg : (wr.alloc o).grownBy w1 v.ownBlock) :
    w1.ownsRow B t 1 v' (l ++ [x]).length ((l ++ [x]).map Value.string) ∧ Below w.heap.size w w1 := by
  refine ⟨by simpa using hown', ?_⟩
  exact (hb.alloc hb.size o).grown hg (by have := hb.size; simp; omega) (fun j hj => Nat.le_trans hBw (own_blockR hown j hj))

set_option maxRecDepth 100000 in
set_option maxHeartbeats 3200000 in
theorem sections_spec (w : World) (u : Value) (g o : Nat) (l : List RecD) (hu : RowsRd recS w u g o l) (hl : costRec l ≤ 1048576) :
    Calls Try.prog 21 #[u] w (NewTexts w (sectsL l)) := by
  obtain ⟨i0, hi, hz0, hz1, hz2⟩ := info_parts info_stringR
  obtain ⟨a, cap, rfl, ha⟩ := hu.form
  have hll : l.length ≤ 1048576 := by unfold costRec at hl; omega
  have CU := Lib.hid hu
  have HA := Lib.hid ha
  clear hu ha hl
  go_enter Try.func21, Try.ntmps21
  go_wp2
  go_loopw [3, 4] (fun v i wr => ∃ (k : Nat) (z : List ByteArray), k ≤ l.length ∧ i = .int .i64 k ∧ z.length ≤ k ∧ Hid (z = sectsL (l.take k)) ∧ wr.ownsRow w.heap.size 9 1 v z.length (z.map Value.string) ∧ Below w.heap.size w wr) (fun _ i _ => l.length - (intOf i).toNat)
  case atStart => exact ⟨0, [], Nat.zero_le _, rfl, Nat.zero_le _, rfl, World.ownsRow_lit w #[] 0 (Nat.le_refl _) (Nat.zero_le _) rfl, (Below.refl _ _).alloc (Nat.le_refl _) _⟩
  case round =>
    obtain ⟨k, z, hk, rfl, hzk, hz, hown, hb⟩ := hrel
    have hsz := hb.size
    by_cases hlt : k < l.length
    · have hln : l ≠ [] := by intro e; subst e; simp at hlt
      obtain rfl := HA.out hln
      have hgl := CU.out.lt hln
      have q0 := (hb.cell (p := ⟨g, o + k * 6, none⟩) hgl).trans (rec_c0 CU.out k hlt)
      have q2 := (hb.cell (p := ⟨g, o + k * 6 + 2, none⟩) hgl).trans (rec_c2 CU.out k hlt)
      have hst := sectsL_take_succ l k hlt
      rw [← hz.out] at hst
      unfold stepS at hst
      by_cases h4 : l[k].kind = 2
      · have e4 : (l[k].kind == 2) = true := by simp [h4]
        obtain ⟨gt, hT, _⟩ := textsIs_of_owns hown rfl hb.size
        have K := Lib.hid (in_any wr _ gt z l[k].sect hT (by omega))
        by_cases hin : l[k].sect ∈ z
        · have hj : Hid (z = sectsL (l.take (k + 1))) := by unfold Hid; rw [hst, if_neg (by intro h; exact h.2 hin)]
          rw [show decide (l[k].sect ∈ z) = true by simpa using hin] at K
          generalize l[k].sect = x2 at *
          generalize l[k].kind = x0 at *
          clear h4 hz hst hin hT
          go_wp2_with fail
          refine K.out.mono ?_
          rintro e w2 ⟨rfl, rfl⟩
          clear K
          go_wp2
          go_roundw
          case rel => exact ⟨k + 1, z, by omega, by go_num, by omega, hj, hown, hb⟩
          case measure => simp [intOf]; omega
        · have hj : Hid (z ++ [l[k].sect] = sectsL (l.take (k + 1))) := by unfold Hid; rw [hst, if_pos ⟨h4, hin⟩]
          rw [show decide (l[k].sect ∈ z) = false by simpa using hin] at K
          generalize l[k].sect = x2 at *
          generalize l[k].kind = x0 at *
          clear h4 hz hst hin hT
          go_wp2_with fail
          refine K.out.mono ?_
          rintro e w2 ⟨rfl, rfl⟩
          clear K
          go_wp2_with (at_builtin; refine wpList_append_own _ rfl _ _ 33 rfl w.heap.size 9 i0 (.string ByteArray.empty) 1 16 Try.underlying33 hi hz0 hz1 hz2 rfl (by decide) _ _ _ rfl (hown.alloc _) ⟨w2.heap.size, 0, none⟩ 1 1 [.string x2] rfl rfl (cell_one_newR _ _ _) (by simp [Value.oneCell']) (by unfold maxLen; omega) (by omega) (by simp; omega) ?_; intro v' w1 hown' hgrow _)
          obtain ⟨ho2, hb2⟩ := own_stepT hb (Nat.le_refl _) hown hown' hgrow
          clear hown hown' hgrow hb q0 q2
          go_wp2
          go_roundw
          case rel => exact ⟨k + 1, z ++ [x2], by omega, by go_num, by simp; omega, hj, ho2, hb2⟩
          case measure => simp [intOf]; omega
      · have hj : Hid (z = sectsL (l.take (k + 1))) := by unfold Hid; rw [hst, if_neg (by intro h; exact h4 h.1)]
        have e4 : (l[k].kind == 2) = false := by simp [h4]
        generalize l[k].kind = x0 at *
        clear h4 hz hst
        go_wp2
        go_roundw
        case rel => exact ⟨k + 1, z, by omega, by go_num, by omega, hj, hown, hb⟩
        case measure => simp [intOf]; omega
    · obtain rfl : k = l.length := by omega
      have hz2 : Hid (z = sectsL l) := by unfold Hid; have := hz.out; rwa [List.take_length] at this
      obtain ⟨g', hI, hg'⟩ := textsIs_of_owns hown rfl hb.size
      have HI := Lib.hid hI
      clear hz hown hI
      go_wp2
      go_ret
      exact ⟨_, g', rfl, by rw [← hz2.out]; exact HI.out, hg', hb⟩

set_option maxRecDepth 100000 in
set_option maxHeartbeats 3200000 in
theorem sections_impl (w : World) (u : Value) (g o : Nat) (l : List RecD) (hu : RowsRd recS w u g o l) (hl : costRec l ≤ 1048576) :
    Calls Try.prog 20 #[u] w (NewTexts w (sectsL l)) := by
  obtain ⟨i0, hi, hz0, hz1, hz2⟩ := info_parts info_stringR
  obtain ⟨a, cap, rfl, ha⟩ := hu.form
  have hll : l.length ≤ 1048576 := by unfold costRec at hl; omega
  have HXM : Hid (∀ k (h : k < l.length), l[k].sect.size ≤ maxLen) := by
    intro k h
    have := costRec_at l k h
    unfold sizeRec at this
    unfold maxLen
    omega
  have CU := Lib.hid hu
  have HA := Lib.hid ha
  have H0 := Lib.hid (counts_start w)
  clear hu ha hl
  have hmm := @run_makeMap Try.prog
  go_enter Try.func20, Try.ntmps20
  go_wp2
  go_loopw [3, 11] (fun v i wr => ∃ (k n : Nat) (z : List ByteArray), k ≤ l.length ∧ i = .int .i64 k ∧ n ≤ k ∧ z.length ≤ k ∧ Hid (z = sectsL (l.take k)) ∧ wr.ownsRow (w.heap.size + 1) 9 1 v z.length (z.map Value.string) ∧ Hid (CountsAt wr w.heap.size n (timesH (l.take k))) ∧ w.heap.size < wr.heap.size ∧ Below w.heap.size w wr) (fun _ i _ => l.length - (intOf i).toNat)
  case atStart => exact ⟨0, 0, [], Nat.zero_le _, rfl, Nat.zero_le _, Nat.zero_le _, rfl, World.ownsRow_nil _ _ _ _, H0, by simp, (Below.refl _ _).alloc (Nat.le_refl _) _⟩
  case round =>
    obtain ⟨k, n, z, hk, rfl, hnk, hzk, hz, hown, hC, hsz1, hb⟩ := hrel
    clear H0 hmm
    have hsz := hb.size
    by_cases hlt : k < l.length
    · have hln : l ≠ [] := by intro e; subst e; simp at hlt
      obtain rfl := HA.out hln
      have hgl := CU.out.lt hln
      have q0 := (hb.cell (p := ⟨g, o + k * 6, none⟩) hgl).trans (rec_c0 CU.out k hlt)
      have q1 := (hb.cell (p := ⟨g, o + k * 6 + 1, none⟩) hgl).trans (rec_c1 CU.out k hlt)
      have q2 := (hb.cell (p := ⟨g, o + k * 6 + 2, none⟩) hgl).trans (rec_c2 CU.out k hlt)
      have q3 := (hb.cell (p := ⟨g, o + k * 6 + 3, none⟩) hgl).trans (rec_c3 CU.out k hlt)
      have q4 := (hb.cell (p := ⟨g, o + k * 6 + 4, none⟩) hgl).trans (rec_c4 CU.out k hlt)
      have q5 := (hb.cell (p := ⟨g, o + k * 6 + 5, none⟩) hgl).trans (rec_c5 CU.out k hlt)
      have K := Lib.hid (entry_any l[k])
      have hst := sectsL_take_succ l k hlt
      rw [← hz.out] at hst
      unfold stepS at hst
      by_cases h2 : l[k].kind = 2
      · have hv : entV l[k] = .iface 71 (.agg #[.string l[k].raw, .string l[k].sect]) := by
          unfold entV
          rw [if_pos h2]
        rw [hv] at K
        have hty := Lib.hid (timesH_yes l k hlt h2)
        have hzero := timesH_zero (l.take k) l[k].sect
        rw [← hz.out] at hzero
        have htl := timesH_le l k l[k].sect
        have hxm := HXM.out k hlt
        generalize l[k] = x at *
        obtain ⟨a0, a1, a2, a3, a4, a5⟩ := x
        unfold recV at K
        simp only at K hst hty hzero htl hxm h2
        have HJ1 : Hid (a2 ∉ z → z ++ [a2] = sectsL (l.take (k + 1))) := by intro hin; rw [hst, if_pos ⟨h2, hin⟩]
        have HJ2 : Hid (a2 ∈ z → z = sectsL (l.take (k + 1))) := by intro hin; rw [hst, if_neg (fun h => h.2 hin)]
        generalize hcc : timesH (l.take k) = c at *
        have HZ := Lib.hid hzero
        clear hv hz hcc h2 hst hzero
        go_wp2_with fail
        refine (K.out _).mono ?_
        rintro e w2 ⟨rfl, hb2⟩
        have hb3 := (hb.alloc hb.size _).trans (hb2.mono (by simp; omega))
        have hown2 := ownsRow_over (hown.alloc _) hb2
        have hC2 := (hC.out.alloc (.cells #[.int .i64 a0, .string a1, .string a2, .string a3, .string a4, .int .i64 a5] 36)).over hb2
        have hsz2 : w.heap.size < w2.heap.size := by have := hb2.size; simp at this; omega
        clear hb2 hown hb K q0 q1 q2 q3 q4 q5 hC hsz1 hsz
        have has := is_head (.agg #[.string a1, .string a2])
        have hb4 := hb3.alloc hb3.size (.cells #[.string a1, .string a2] 71)
        have hown4 := hown2.alloc (.cells #[.string a1, .string a2] 71)
        have hC4 := hC2.alloc (.cells #[.string a1, .string a2] 71)
        have hlk := hC4.look a2 hxm
        obtain ⟨D, hD1, hD2⟩ := hC4
        have HD2 := Lib.hid hD2
        have hkey : keyOf Try.prog 9 (.string a2) = some (.string a2.data.toList) := keyOf_string_mk Try.underlying9 hxm
        have HK := Lib.hid hkey
        clear hD2 hkey hC2 hb3 hown2
        generalize hcx : c a2 = cx at *
        have HB4 := Lib.hid hb4
        have HO4 := Lib.hid hown4
        clear hb4 hown4
        have hmu : ∀ e : ByteArray, c e + (if a2 = e then 1 else 0) = timesH (l.take (k + 1)) e := fun e => (hty.out e).symm
        have HMU := Lib.hid hmu
        clear hmu hty
        by_cases hcz : cx = 0
        · have hin : a2 ∉ z := HZ.out.1 hcz
          have hj := Lib.hid (HJ1.out hin)
          have e1 : ((((cx + 1 : Nat) : Int)) == 1) = true := by subst hcz; rfl
          clear HJ1 HJ2 HZ hin hcz
          go_wp2_with (first
            | (at_mapUpdate
               refine wpList_mapUpdate_own _ rfl _ _ _ 67 rfl 9 3 keyedS Try.underlying67 _ w.heap.size n _ rfl hD1 (by unfold maxLen; omega) _ _ _ rfl rfl HK.out _ [] (plainElem_int Try.underlying3 (WalkArith.wf_i64 (by omega))) ?_
               intro w5 hown5 hgrow5
               have hC5 : CountsAt w5 w.heap.size (n + 1) (timesH (l.take (k + 1))) := by
                 have := counts_put (c := c) (x := a2) (by rw [hcx]; exact hown5) hD1.isMap HD2.out
                 have he : (fun e => c e + if a2 = e then 1 else 0) = timesH (l.take (k + 1)) := funext HMU.out
                 rw [he] at this
                 exact this
               have hlk5 := hC5.look a2 hxm
               have hcx5 : timesH (l.take (k + 1)) a2 = cx + 1 := by rw [← HMU.out, hcx, if_pos rfl]
               rw [hcx5] at hlk5
               have HC5 := Lib.hid hC5
               have hb5 : Below w.heap.size w w5 := HB4.out.grown hgrow5 (by simp; omega) (fun j hj => by cases hj; exact Nat.le_refl _)
               have ho5 := HO4.out.kept hgrow5 (.inr (by intro e; have := own_blockR HO4.out _ e; omega))
               have hp1 : w5.cell? ⟨w2.heap.size, 1, none⟩ = some (.string a2) := by
                 have hbk := hgrow5.block w2.heap.size (by simp) (by intro e; injection e with e; omega)
                 rw [World.cell?_of_block (a := ⟨w2.heap.size, 1, none⟩) hbk]
                 simp
               have hsz5 : w.heap.size < w5.heap.size := by have := hgrow5.size; simp at this; omega
               clear hD1 HD2 hown5 hgrow5 HB4 HO4 hlk HMU hC5 hcx5
              )
            | (at_builtin; refine wpList_append_own _ rfl _ _ 33 rfl (w.heap.size + 1) 9 i0 (.string ByteArray.empty) 1 16 Try.underlying33 hi hz0 hz1 hz2 rfl (by decide) _ _ _ rfl (ho5.alloc _) ⟨w5.heap.size, 0, none⟩ 1 1 [.string a2] rfl rfl (cell_one_newR _ _ _) (by simp [Value.oneCell']) (by unfold maxLen; omega) (by omega) (by simp; omega) ?_; intro v' w6 hown' hgrow _)
            | go_in)
          obtain ⟨ho6, hb6⟩ := own_stepT hb5 (by omega) ho5 hown' hgrow
          have hC6 := Lib.hid ((HC5.out.alloc (.cells #[.string a2] 9)).kept hgrow (by intro e; have := own_blockR ho5 _ e.symm; omega))
          have hsz6 : w.heap.size < w6.heap.size := by have := hgrow.size; simp at this; omega
          clear ho5 hown' hgrow hb5 HC5 hlk5 hp1
          go_wp2
          go_roundw
          case rel => exact ⟨k + 1, n + 1, z ++ [a2], by omega, by go_num, by omega, by simp; omega, hj, ho6, hC6, hsz6, hb6⟩
          case measure => simp [intOf]; omega
        · have hin : a2 ∈ z := Classical.byContradiction (fun h => hcz (HZ.out.2 h))
          have hj := Lib.hid (HJ2.out hin)
          have e1 : ((((cx + 1 : Nat) : Int)) == 1) = false := by rw [beq_eq_false_iff_ne]; omega
          clear HJ1 HJ2 HZ hin
          go_wp2_with (first
            | (at_mapUpdate
               refine wpList_mapUpdate_own _ rfl _ _ _ 67 rfl 9 3 keyedS Try.underlying67 _ w.heap.size n _ rfl hD1 (by unfold maxLen; omega) _ _ _ rfl rfl HK.out _ [] (plainElem_int Try.underlying3 (WalkArith.wf_i64 (by omega))) ?_
               intro w5 hown5 hgrow5
               have hC5 : CountsAt w5 w.heap.size (n + 1) (timesH (l.take (k + 1))) := by
                 have := counts_put (c := c) (x := a2) (by rw [hcx]; exact hown5) hD1.isMap HD2.out
                 have he : (fun e => c e + if a2 = e then 1 else 0) = timesH (l.take (k + 1)) := funext HMU.out
                 rw [he] at this
                 exact this
               have hlk5 := hC5.look a2 hxm
               have hcx5 : timesH (l.take (k + 1)) a2 = cx + 1 := by rw [← HMU.out, hcx, if_pos rfl]
               rw [hcx5] at hlk5
               have HC5 := Lib.hid hC5
               have hb5 : Below w.heap.size w w5 := HB4.out.grown hgrow5 (by simp; omega) (fun j hj => by cases hj; exact Nat.le_refl _)
               have ho5 := HO4.out.kept hgrow5 (.inr (by intro e; have := own_blockR HO4.out _ e; omega))
               have hp1 : w5.cell? ⟨w2.heap.size, 1, none⟩ = some (.string a2) := by
                 have hbk := hgrow5.block w2.heap.size (by simp) (by intro e; injection e with e; omega)
                 rw [World.cell?_of_block (a := ⟨w2.heap.size, 1, none⟩) hbk]
                 simp
               have hsz5 : w.heap.size < w5.heap.size := by have := hgrow5.size; simp at this; omega
               clear hD1 HD2 hown5 hgrow5 HB4 HO4 hlk HMU hC5 hcx5
              )
            | go_in)
          go_roundw
          case rel => exact ⟨k + 1, n + 1, z, by omega, by go_num, by omega, by omega, hj, ho5, HC5, hsz5, hb5⟩
          case measure => simp [intOf]; omega
      · have hj : Hid (z = sectsL (l.take (k + 1))) := by unfold Hid; rw [hst, if_neg (by intro h; exact h2 h.1)]
        have hC1 : Hid (CountsAt wr w.heap.size n (timesH (l.take (k + 1)))) := by unfold Hid; rw [timesH_no l k hlt h2]; exact hC.out
        have has := assert_head l[k] h2
        generalize entV l[k] = ev at *
        generalize l[k] = x at *
        obtain ⟨a0, a1, a2, a3, a4, a5⟩ := x
        unfold recV at K
        simp only at K
        clear h2 hz hst hC
        go_wp2_with fail
        refine (K.out _).mono ?_
        rintro e w2 ⟨rfl, hb2⟩
        have hb3 := (hb.alloc hb.size _).trans (hb2.mono (by simp; omega))
        have hown2 := ownsRow_over (hown.alloc _) hb2
        have hC2 := Lib.hid ((hC1.out.alloc (.cells #[.int .i64 a0, .string a1, .string a2, .string a3, .string a4, .int .i64 a5] 36)).over hb2)
        have hsz2 : w.heap.size < w2.heap.size := by have := hb2.size; simp at this; omega
        clear hb2 hown hb K q0 q1 q2 q3 q4 q5 hC1
        go_wp2
        go_roundw
        case rel => exact ⟨k + 1, n, z, by omega, by go_num, by omega, by omega, hj, hown2, hC2, hsz2, hb3⟩
        case measure => simp [intOf]; omega
    · obtain rfl : k = l.length := by omega
      have hz2 : Hid (z = sectsL l) := by unfold Hid; have := hz.out; rwa [List.take_length] at this
      obtain ⟨g', hI, hg'⟩ := textsIs_of_owns hown rfl (by omega)
      have HI := Lib.hid hI
      clear hz hown hI
      go_wp2
      go_ret
      exact ⟨_, g', rfl, by rw [← hz2.out]; exact HI.out, by omega, hb⟩

end Go.Proofs.Ytdkghalcnaogfaa
