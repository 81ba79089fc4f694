/- The lines of a text; the contract of the model's SplitLines. -/
import Derived.Test.YtkhkpjnpjgnckaaGreatDoorProg
import Derived.Test.YtkhkpjnpjgnckaaGreatDoorPlain
import Derived.Test.YtkhkpjnpjgnckaaGreatDoorTexts
import Derived.Test.YtkhkpjnpjgnckaaGreatDoorLines
import Derived.WalkKit
import Derived.WalkLawsBesides
import Derived.OwnWalk
import Derived.Maps.AppendAt
import Derived.Deep.RegionHeld3
import Derived.Deep.AppendLies
import Derived.Lib.Hide
import Derived.IntWalk
namespace Go.Proofs.YtkhkpjnpjgnckaaGreatDoor
open Go.RowKit
set_option linter.unusedVariables false

def toB (x : List UInt8 × List UInt8) : Ln := (⟨x.1.toArray⟩, ⟨x.2.toArray⟩)
def ofB (x : Ln) : List UInt8 × List UInt8 := (x.1.data.toList, x.2.data.toList)
theorem toB_ofB (x : Ln) : toB (ofB x) = x := by simp [toB, ofB]
theorem ofB_toB (x : List UInt8 × List UInt8) : ofB (toB x) = x := by simp [toB, ofB]
def linesOf (s : ByteArray) : List Ln := (splitL s.data.toList []).map toB
theorem linesOf_few (s : ByteArray) : (linesOf s).length ≤ s.size := by
  unfold linesOf
  rw [List.length_map]
  have := split_few s.data.toList []
  rw [← Lib.size_eq] at this
  simpa using this

theorem cell_two_new (w : World) (x y : Value) (t : TypeId) : ∀ j u, [x, y][j]? = some u → (w.alloc (.cells #[x, y] t)).cell? ((⟨w.heap.size, 0, none⟩ : Addr).add j) = some u := by
  intro j u hu
  have hadd : (⟨w.heap.size, 0, none⟩ : Addr).add j = ⟨w.heap.size, j, none⟩ := by unfold Addr.add; split <;> simp_all
  rw [hadd]
  match j, hu with
  | 0, hu => simp at hu; subst hu; simp
  | 1, hu => simp at hu; subst hu; simp

theorem own_blockL {w : World} {base e size n : Nat} {v : Value} {xs : List Value} (h : w.ownsRow base e size v n xs) : ∀ k, v.ownBlock = some k → base ≤ k := by
  intro k hk
  rcases h.2 with ⟨rfl, _⟩ | ⟨g, cap, cur, rfl, hb, _⟩
  · cases hk
  · cases hk; exact hb
theorem own_stepL {w wr w1 : World} {t : Nat} {v v' : Value} {l : List Ln} {x : Ln} {o : Obj} (hb : Below w.heap.size w wr) (hown : wr.ownsRow w.heap.size t 2 v l.length (lnCells l))
    (hown' : w1.ownsRow w.heap.size t 2 v' (l.length + 1) (lnCells l ++ [.string x.1, .string x.2])) (hg : (wr.alloc o).grownBy w1 v.ownBlock) :
    w1.ownsRow w.heap.size t 2 v' (l ++ [x]).length (lnCells (l ++ [x])) ∧ Below w.heap.size w w1 := by
  refine ⟨by rw [lnCells_append, List.length_append]; exact hown', ?_⟩
  exact (hb.alloc hb.size o).grown hg (by have := hb.size; simp; omega) (own_blockL hown)

/-- what is left of a text behind k bytes, where ff have gone into whole lines -/
def restL (s : ByteArray) (k ff : Nat) : List Ln := (splitL (s.data.toList.drop k) ((s.data.toList.take k).drop ff)).map toB
theorem restL_start (s : ByteArray) : restL s 0 0 = linesOf s := by simp [restL, linesOf]
theorem drop_here (s : ByteArray) (k : Nat) (h : k < s.size) : s.data.toList.drop k = s[k] :: s.data.toList.drop (k + 1) := by
  rw [List.drop_eq_getElem_cons (by simpa using h)]; rfl
theorem take_drop_extract (s : ByteArray) (k ff : Nat) : (⟨((s.data.toList.take k).drop ff).toArray⟩ : ByteArray) = s.extract ff k := by
  apply ByteArray.ext
  apply Array.toList_inj.1
  rw [Lib.extract_data]
  rw [List.drop_take]
theorem extract_here (s : ByteArray) (k : Nat) (h : k < s.size) : s.extract k (k + 1) = ⟨#[s[k]]⟩ := by
  apply ByteArray.ext
  apply Array.toList_inj.1
  rw [Lib.extract_data, drop_here s k h, show k + 1 - k = 1 from by omega]
  simp
theorem extract_two (s : ByteArray) (k : Nat) (h : k + 1 < s.size) : s.extract k (k + 2) = ⟨#[s[k], s[k + 1]]⟩ := by
  apply ByteArray.ext
  apply Array.toList_inj.1
  rw [Lib.extract_data, drop_here s k (by omega), drop_here s (k + 1) h, show k + 2 - k = 2 from by omega]
  simp
theorem restL_two (s : ByteArray) (k ff : Nat) (h : k + 1 < s.size) (h1 : s[k] = 13) (h2 : s[k + 1] = 10) : restL s k ff = (s.extract ff k, s.extract k (k + 2)) :: restL s (k + 2) (k + 2) := by
  unfold restL
  rw [drop_here s k (by omega), drop_here s (k + 1) h, h1, h2, splitL_two, List.map_cons, extract_two s k h, h1, h2]
  have : (s.data.toList.take (k + 2)).drop (k + 2) = [] := List.drop_of_length_le (by simp; omega)
  rw [this]
  simp only [toB, take_drop_extract]
theorem restL_cr (s : ByteArray) (k ff : Nat) (h : k < s.size) (h1 : s[k] = 13) (h2 : ∀ h : k + 1 < s.size, s[k + 1] ≠ 10) : restL s k ff = (s.extract ff k, s.extract k (k + 1)) :: restL s (k + 1) (k + 1) := by
  unfold restL
  rw [drop_here s k h, h1, splitL_cr, List.map_cons, extract_here s k h, h1]
  · have : (s.data.toList.take (k + 1)).drop (k + 1) = [] := List.drop_of_length_le (by simp; omega)
    rw [this]
    simp only [toB, take_drop_extract]
  · by_cases h3 : k + 1 < s.size
    · rw [drop_here s (k + 1) h3]
      simpa using h2 h3
    · rw [List.drop_of_length_le (by simp; omega)]
      simp
theorem restL_lf (s : ByteArray) (k ff : Nat) (h : k < s.size) (h1 : s[k] = 10) : restL s k ff = (s.extract ff k, s.extract k (k + 1)) :: restL s (k + 1) (k + 1) := by
  unfold restL
  rw [drop_here s k h, h1, splitL_lf, List.map_cons, extract_here s k h, h1]
  have : (s.data.toList.take (k + 1)).drop (k + 1) = [] := List.drop_of_length_le (by simp; omega)
  rw [this]
  simp only [toB, take_drop_extract]
theorem restL_on (s : ByteArray) (k ff : Nat) (h : k < s.size) (hf : ff ≤ k) (h1 : s[k] ≠ 13) (h2 : s[k] ≠ 10) : restL s k ff = restL s (k + 1) ff := by
  unfold restL
  rw [drop_here s k h, splitL_on _ _ _ h1 h2, Pl.take_snoc s k h, List.drop_append_of_le_length (by simp; omega)]
theorem restL_end (s : ByteArray) (ff : Nat) (hf : ff ≤ s.size) : restL s s.size ff = if ff < s.size then [(s.extract ff s.size, ⟨#[]⟩)] else [] := by
  unfold restL
  rw [List.drop_of_length_le (by simp), splitL_nil, Pl.take_all]
  by_cases h : ff < s.size
  · rw [if_pos h, if_neg (by intro e; have := congrArg List.length e; simp at this; omega)]
    simp only [List.map_cons, List.map_nil, toB]
    rw [← take_drop_extract s s.size ff, Pl.take_all]
  · rw [if_neg h, if_pos (List.drop_of_length_le (by simp; omega))]
    rfl

/-- a list of lines that the call itself made -/
def OwnLines (w : World) (l : List Ln) (e : Ending) (w' : World) : Prop := ∃ v, e = .returned v ∧ w'.ownsRow w.heap.size 75 2 v l.length (lnCells l) ∧ Below w.heap.size w w'

set_option maxRecDepth 100000 in
set_option maxHeartbeats 1600000 in
theorem splitLines_spec (s : ByteArray) (w : World) (hs : s.size ≤ 1048576) :
    Calls Tryz.prog 59 #[.string s] w (OwnLines w (linesOf s)) := by
  obtain ⟨i0, hi, hz0, hz1, hz2⟩ := info_parts info_line
  have H0 := Lib.hid (restL_start s)
  go_enter Tryz.func59, Tryz.ntmps59
  go_wp2
  go_loopw [3, 4, 5] (fun v f i wr => ∃ (k ff : Nat) (l : List Ln), k ≤ s.size ∧ i = .int .i64 k ∧ f = .int .i64 ff ∧ ff ≤ k ∧ l.length ≤ k ∧ Hid (linesOf s = l ++ restL s k ff) ∧ wr.ownsRow w.heap.size 75 2 v l.length (lnCells l) ∧ Below w.heap.size w wr) (fun _ _ i _ => s.size - (intOf i).toNat)
  case atStart => exact ⟨0, 0, [], Nat.zero_le _, rfl, rfl, Nat.le_refl _, Nat.le_refl _, by unfold Hid; rw [H0.out]; rfl, World.ownsRow_lit w #[] 0 (Nat.le_refl _) (Nat.zero_le _) rfl, (Below.refl _ _).alloc (Nat.le_refl _) _⟩
  case round =>
    obtain ⟨k, ff, l, hk, rfl, rfl, hff, hll, hcut, hown, hb⟩ := hrel
    have hsz := hb.size
    by_cases hlt : k < s.size
    · have q1 : (ff : Int) ≤ (k : Int) := by omega
      have q2 : (k : Int) ≤ (s.size : Int) := by omega
      by_cases h13 : s[k] = 13
      · have b13 : ((s[k].toNat : Int) == 13) = true := by rw [h13]; rfl
        by_cases h10 : ∃ h : k + 1 < s.size, s[k + 1] = 10
        · obtain ⟨hk1, h10⟩ := h10
          have b10 : ((s[k + 1].toNat : Int) == 10) = true := by rw [h10]; rfl
          have hcut2 : Hid (linesOf s = (l ++ [(s.extract ff k, s.extract k (k + 2))]) ++ restL s (k + 2) (k + 2)) := by
            unfold Hid
            rw [hcut.out, restL_two s k ff hk1 h13 h10]
            simp
          have q3 : (k : Int) ≤ (k : Int) + 2 := by omega
          have q5 : ((k : Int) + 2).toNat = k + 2 := by omega
          have q4 : (k : Int) + 2 ≤ (s.size : Int) := by omega
          have hwrp : IntKind.i64.wrap ((k : Int) + 2) = (k : Int) + 2 := by rw [IntKind.wrap_i64]; omega
          clear hcut h13 h10
          go_wp2_with fail
          generalize hx1 : s.extract ff k = x1 at *
          generalize hx2 : s.extract k (k + 2) = x2 at *
          go_region_held3 (fun w' => True) (trivial) ((refine step_append_lies _ (by rfl) _ _ _ (by rfl) w.heap.size 75 i0 _ 2 32 Tryz.underlying54 hi hz0 hz1 hz2 rfl (by omega) _ _ _ (by rfl) ((hown.alloc _).drew) ⟨wr.heap.size, 0, none⟩ 1 1 [.string x1, .string x2] (by rfl) (by rfl) (World.news_of_block (cs := #[.string x1, .string x2]) (t := 75) (fr := (0, 0)) (heap_alloc_new wr _)) (by simp [Value.oneCell']) (by omega) (by unfold maxLen; omega) (by omega) (by simp; omega) (wr.heap.size + 1) (by simp) ?_; intro gg cap w2 hown' hgrow hat hlt2))
          clear hx1 hx2
          obtain ⟨ho2, hb2⟩ := own_stepL (x := (x1, x2)) hb hown hown' ⟨hgrow.os, hgrow.tape, hgrow.output, hgrow.size, hgrow.block⟩
          clear hown hown' hgrow hb
          go_wp2
          go_roundw
          case rel => exact ⟨k + 2, k + 2, l ++ [(x1, x2)], by omega, by go_num, by go_num, Nat.le_refl _, by simp; omega, hcut2, ho2, hb2⟩
          case measure => simp [intOf]; omega
        · have hcut2 : Hid (linesOf s = (l ++ [(s.extract ff k, s.extract k (k + 1))]) ++ restL s (k + 1) (k + 1)) := by
            unfold Hid
            rw [hcut.out, restL_cr s k ff hlt h13 (fun h e => h10 ⟨h, e⟩)]
            simp
          by_cases hk1 : k + 1 < s.size
          · have b10 : ((s[k + 1].toNat : Int) == 10) = false := by
              rw [beq_eq_false_iff_ne]; intro e; exact h10 ⟨hk1, UInt8.toNat_inj.1 (Int.ofNat_inj.1 e)⟩
            have q3 : (k : Int) ≤ (k : Int) + 1 := by omega
            have q4 : (k : Int) + 1 ≤ (s.size : Int) := by omega
            have hwrp : IntKind.i64.wrap ((k : Int) + 1) = (k : Int) + 1 := by rw [IntKind.wrap_i64]; omega
            clear hcut h13 h10
            go_wp2_with fail
            generalize hx1 : s.extract ff k = x1 at *
            generalize hx2 : s.extract k (k + 1) = x2 at *
            go_region_held3 (fun w' => True) (trivial) ((refine step_append_lies _ (by rfl) _ _ _ (by rfl) w.heap.size 75 i0 _ 2 32 Tryz.underlying54 hi hz0 hz1 hz2 rfl (by omega) _ _ _ (by rfl) ((hown.alloc _).drew) ⟨wr.heap.size, 0, none⟩ 1 1 [.string x1, .string x2] (by rfl) (by rfl) (World.news_of_block (cs := #[.string x1, .string x2]) (t := 75) (fr := (0, 0)) (heap_alloc_new wr _)) (by simp [Value.oneCell']) (by omega) (by unfold maxLen; omega) (by omega) (by simp; omega) (wr.heap.size + 1) (by simp) ?_; intro gg cap w2 hown' hgrow hat hlt2))
            clear hx1 hx2
            obtain ⟨ho2, hb2⟩ := own_stepL (x := (x1, x2)) hb hown hown' ⟨hgrow.os, hgrow.tape, hgrow.output, hgrow.size, hgrow.block⟩
            clear hown hown' hgrow hb
            go_wp2
            go_roundw
            case rel => exact ⟨k + 1, k + 1, l ++ [(x1, x2)], by omega, by go_num, by go_num, Nat.le_refl _, by simp; omega, hcut2, ho2, hb2⟩
            case measure => simp [intOf]; omega
          · have bk : decide ((k : Int) + 1 < (s.size : Int)) = false := by simp; omega
            have q3 : (k : Int) ≤ (k : Int) + 1 := by omega
            have q4 : (k : Int) + 1 ≤ (s.size : Int) := by omega
            have hwrp : IntKind.i64.wrap ((k : Int) + 1) = (k : Int) + 1 := by rw [IntKind.wrap_i64]; omega
            clear hcut h13 h10
            go_wp2_with fail
            generalize hx1 : s.extract ff k = x1 at *
            generalize hx2 : s.extract k (k + 1) = x2 at *
            go_region_held3 (fun w' => True) (trivial) ((refine step_append_lies _ (by rfl) _ _ _ (by rfl) w.heap.size 75 i0 _ 2 32 Tryz.underlying54 hi hz0 hz1 hz2 rfl (by omega) _ _ _ (by rfl) ((hown.alloc _).drew) ⟨wr.heap.size, 0, none⟩ 1 1 [.string x1, .string x2] (by rfl) (by rfl) (World.news_of_block (cs := #[.string x1, .string x2]) (t := 75) (fr := (0, 0)) (heap_alloc_new wr _)) (by simp [Value.oneCell']) (by omega) (by unfold maxLen; omega) (by omega) (by simp; omega) (wr.heap.size + 1) (by simp) ?_; intro gg cap w2 hown' hgrow hat hlt2))
            clear hx1 hx2
            obtain ⟨ho2, hb2⟩ := own_stepL (x := (x1, x2)) hb hown hown' ⟨hgrow.os, hgrow.tape, hgrow.output, hgrow.size, hgrow.block⟩
            clear hown hown' hgrow hb
            go_wp2
            go_roundw
            case rel => exact ⟨k + 1, k + 1, l ++ [(x1, x2)], by omega, by go_num, by go_num, Nat.le_refl _, by simp; omega, hcut2, ho2, hb2⟩
            case measure => simp [intOf]; omega
      · have b13 : ((s[k].toNat : Int) == 13) = false := by
          rw [beq_eq_false_iff_ne]; intro e; exact h13 (UInt8.toNat_inj.1 (Int.ofNat_inj.1 e))
        by_cases h10 : s[k] = 10
        · have b10 : ((s[k].toNat : Int) == 10) = true := by rw [h10]; rfl
          have hcut2 : Hid (linesOf s = (l ++ [(s.extract ff k, s.extract k (k + 1))]) ++ restL s (k + 1) (k + 1)) := by
            unfold Hid
            rw [hcut.out, restL_lf s k ff hlt h10]
            simp
          have q3 : (k : Int) ≤ (k : Int) + 1 := by omega
          have q4 : (k : Int) + 1 ≤ (s.size : Int) := by omega
          have hwrp : IntKind.i64.wrap ((k : Int) + 1) = (k : Int) + 1 := by rw [IntKind.wrap_i64]; omega
          clear hcut h13 h10
          go_wp2_with fail
          generalize hx1 : s.extract ff k = x1 at *
          generalize hx2 : s.extract k (k + 1) = x2 at *
          go_region_held3 (fun w' => True) (trivial) ((refine step_append_lies _ (by rfl) _ _ _ (by rfl) w.heap.size 75 i0 _ 2 32 Tryz.underlying54 hi hz0 hz1 hz2 rfl (by omega) _ _ _ (by rfl) ((hown.alloc _).drew) ⟨wr.heap.size, 0, none⟩ 1 1 [.string x1, .string x2] (by rfl) (by rfl) (World.news_of_block (cs := #[.string x1, .string x2]) (t := 75) (fr := (0, 0)) (heap_alloc_new wr _)) (by simp [Value.oneCell']) (by omega) (by unfold maxLen; omega) (by omega) (by simp; omega) (wr.heap.size + 1) (by simp) ?_; intro gg cap w2 hown' hgrow hat hlt2))
          clear hx1 hx2
          obtain ⟨ho2, hb2⟩ := own_stepL (x := (x1, x2)) hb hown hown' ⟨hgrow.os, hgrow.tape, hgrow.output, hgrow.size, hgrow.block⟩
          clear hown hown' hgrow hb
          go_wp2
          go_roundw
          case rel => exact ⟨k + 1, k + 1, l ++ [(x1, x2)], by omega, by go_num, by go_num, Nat.le_refl _, by simp; omega, hcut2, ho2, hb2⟩
          case measure => simp [intOf]; omega
        · have b10 : ((s[k].toNat : Int) == 10) = false := by
            rw [beq_eq_false_iff_ne]; intro e; exact h10 (UInt8.toNat_inj.1 (Int.ofNat_inj.1 e))
          have hcut2 : Hid (linesOf s = l ++ restL s (k + 1) ff) := by
            unfold Hid
            rw [hcut.out, restL_on s k ff hlt hff h13 h10]
          clear hcut h13 h10
          go_wp2
          go_roundw
          case rel => exact ⟨k + 1, ff, l, by omega, by go_num, rfl, by omega, by omega, hcut2, hown, hb⟩
          case measure => simp [intOf]; omega
    · obtain rfl : k = s.size := by omega
      have hfin := hcut.out
      rw [restL_end s ff hff] at hfin
      by_cases hf2 : ff < s.size
      · rw [if_pos hf2] at hfin
        have HF := Lib.hid hfin
        have q1 : (ff : Int) ≤ (s.size : Int) := by omega
        clear hcut hfin
        generalize hx1 : s.extract ff s.size = x1 at *
        go_wp2_with (at_builtin; refine wpList_append_own _ rfl _ _ 54 rfl w.heap.size 75 i0 (.agg #[.string ByteArray.empty, .string ByteArray.empty]) 2 32 Tryz.underlying54 hi hz0 hz1 hz2 rfl (by decide) _ _ _ rfl (hown.alloc _) ⟨wr.heap.size, 0, none⟩ 1 1 [.string x1, .string ⟨#[]⟩] rfl rfl (cell_two_new _ _ _ _) (by simp [Value.oneCell']) (by unfold maxLen; omega) (by omega) (by simp; omega) ?_; intro v' w2 hown' hgrow _)
        obtain ⟨ho2, hb2⟩ := own_stepL (x := (x1, ⟨#[]⟩)) hb hown hown' hgrow
        clear hown hown' hgrow hb
        go_wp2
        go_ret
        exact ⟨v', rfl, by rw [HF.out]; exact ho2, hb2⟩
      · rw [if_neg hf2, List.append_nil] at hfin
        have HF := Lib.hid hfin
        clear hcut hfin
        go_wp2
        go_ret
        exact ⟨_, rfl, by rw [HF.out]; exact hown, hb⟩

end Go.Proofs.YtkhkpjnpjgnckaaGreatDoor
