/- The contract of the program's SplitLines. -/
import Derived.Test.YtkhkpjnpjgnckaaGreatDoorProg
import Derived.Test.YtkhkpjnpjgnckaaGreatDoorPlain
import Derived.Test.YtkhkpjnpjgnckaaGreatDoorTexts
import Derived.Test.YtkhkpjnpjgnckaaGreatDoorCut
import Derived.Test.YtkhkpjnpjgnckaaGreatDoorLines
import Derived.Test.YtkhkpjnpjgnckaaGreatDoorSplitSpec
import Derived.Test.YtkhkpjnpjgnckaaGreatDoorBuild
import Derived.WalkKit
import Derived.WalkLawsBesides
import Derived.OwnWalk
import Derived.Maps.AppendAt
import Derived.Deep.AppendLies
import Derived.Lib.Hide
import Derived.IntWalk
namespace Go.Proofs.YtkhkpjnpjgnckaaGreatDoor
open Go.RowKit
set_option linter.unusedVariables false

/-! the first line of a text -/
abbrev crlfB : ByteArray := ⟨#[13, 10]⟩
def leadB (s : ByteArray) : ByteArray := if Lib.hasPrefix s.data.toList [13, 10] then crlfB else s.extract 0 (min s.size 1)
def endAt (s : ByteArray) : Nat := firstIn (hasB crlfB) s
def firstL (s : ByteArray) : Ln := (s.extract 0 (endAt s), leadB (s.extract (endAt s) s.size))

theorem crlf_has (c : UInt8) : hasB crlfB c = (c == 13 || c == 10) := by
  unfold hasB
  rw [show crlfB.data.toList = [13, 10] from rfl]
  by_cases h : c = 13 <;> by_cases h2 : c = 10 <;> simp [List.contains_cons, h, h2]
theorem endAt_le (s : ByteArray) : endAt s ≤ s.size := by
  unfold endAt firstIn
  have := List.findIdx_le_length (xs := s.data.toList) (p := hasB crlfB)
  simpa using this
theorem splitL_run (p t cur : List UInt8) (h : ∀ c ∈ p, c ≠ 13 ∧ c ≠ 10) : splitL (p ++ t) cur = splitL t (cur ++ p) := by
  induction p generalizing cur with
  | nil => simp
  | cons c p ih =>
    have hc := h c (List.mem_cons_self)
    rw [List.cons_append, splitL_on c _ _ hc.1 hc.2, ih _ (fun d hd => h d (List.mem_cons_of_mem _ hd))]
    simp
theorem before_end (s : ByteArray) : ∀ c ∈ s.data.toList.take (endAt s), c ≠ 13 ∧ c ≠ 10 := by
  intro c hc
  obtain ⟨j, hj, rfl⟩ := List.getElem_of_mem hc
  rw [List.length_take] at hj
  rw [List.getElem_take]
  have := List.not_of_lt_findIdx (xs := s.data.toList) (p := hasB crlfB) (i := j) (show j < endAt s by omega)
  rw [crlf_has] at this
  simp at this
  exact this
theorem at_end (s : ByteArray) (h : endAt s < s.size) : s[endAt s] = 13 ∨ s[endAt s] = 10 := by
  have h2 : endAt s < s.data.toList.length := by simpa using h
  have := List.findIdx_getElem (xs := s.data.toList) (p := hasB crlfB) (w := h2)
  rw [crlf_has] at this
  simp at this
  exact this
theorem data_extract_all (s : ByteArray) (k : Nat) : (s.extract k s.size).data.toList = s.data.toList.drop k := by
  rw [Lib.extract_data]
  exact List.take_of_length_le (by rw [List.length_drop, ← Lib.size_eq]; exact Nat.le_refl _)
theorem extract_zero (s : ByteArray) (k : Nat) (hk : k ≤ s.size) : (s.extract 0 k).data.toList = s.data.toList.take k := by
  rw [Lib.extract_data]; simp
theorem size_extract0 (s : ByteArray) (k : Nat) (hk : k ≤ s.size) : (s.extract 0 k).size = k := by
  rw [ByteArray.size_extract]; omega
def cutL (s : ByteArray) (k : Nat) : Ln := (s.extract 0 k, leadB (s.extract k s.size))
theorem lead_cases (s : ByteArray) (k : Nat) (hk : k < s.size) : (leadB (s.extract k s.size) = crlfB ∧ s[k] = 13 ∧ ∃ h : k + 1 < s.size, s[k + 1] = 10) ∨ (leadB (s.extract k s.size) = s.extract k (k + 1) ∧ ¬ (s[k] = 13 ∧ ∃ h : k + 1 < s.size, s[k + 1] = 10)) := by
  have hdr : (s.extract k s.size).data.toList = s[k] :: s.data.toList.drop (k + 1) := by rw [data_extract_all, drop_here s k hk]
  have hsz : (s.extract k s.size).size = s.size - k := by rw [ByteArray.size_extract]; omega
  have hone : (s.extract k s.size).extract 0 (min (s.extract k s.size).size 1) = s.extract k (k + 1) := by
    rw [hsz, show min (s.size - k) 1 = 1 from by omega, extract_here s k hk]
    apply ByteArray.ext; apply Array.toList_inj.1
    rw [extract_zero _ _ (by omega), hdr]
    rfl
  by_cases h1 : s[k] = 13 ∧ ∃ h : k + 1 < s.size, s[k + 1] = 10
  · obtain ⟨e, h3, h4⟩ := h1
    refine .inl ⟨?_, e, h3, h4⟩
    unfold leadB
    rw [if_pos]
    rw [hdr, e, drop_here s _ h3, h4]
    rfl
  · refine .inr ⟨?_, h1⟩
    unfold leadB
    rw [if_neg]
    · exact hone
    · rw [hdr]
      by_cases h3 : k + 1 < s.size
      · rw [drop_here s _ h3]
        simp only [Lib.hasPrefix, List.isPrefixOf, Bool.and_true, Bool.and_eq_true, beq_iff_eq]
        intro ⟨e1, e2⟩
        exact h1 ⟨e1.symm, h3, e2.symm⟩
      · rw [List.drop_of_length_le (by simp; omega)]
        simp [Lib.hasPrefix, List.isPrefixOf]
theorem cut_line (s : ByteArray) (k : Nat) (h : s.size ≠ 0) (hle : k ≤ s.size) (hbef : ∀ c ∈ s.data.toList.take k, c ≠ 13 ∧ c ≠ 10) (hat : ∀ h : k < s.size, s[k] = 13 ∨ s[k] = 10) :
    1 ≤ (cutL s k).1.size + (cutL s k).2.size ∧ (cutL s k).1.size + (cutL s k).2.size ≤ s.size ∧ linesOf s = cutL s k :: linesOf (s.extract ((cutL s k).1.size + (cutL s k).2.size) s.size) := by
  have hs1 : (cutL s k).1.size = k := size_extract0 s _ hle
  have hl : linesOf s = (splitL (s.data.toList.drop k) (s.data.toList.take k)).map toB := by
    have := splitL_run (s.data.toList.take k) (s.data.toList.drop k) [] hbef
    rw [List.take_append_drop, List.nil_append] at this
    unfold linesOf
    rw [this]
  have hx : (⟨(s.data.toList.take k).toArray⟩ : ByteArray) = s.extract 0 k := by
    apply ByteArray.ext; apply Array.toList_inj.1
    rw [extract_zero s _ hle]
  have fin : ∀ (e : ByteArray) (n : Nat), (cutL s k).2 = e → e.size = n → splitL (s.data.toList.drop k) (s.data.toList.take k) = (s.data.toList.take k, e.data.toList) :: splitL (s.data.toList.drop (k + n)) [] → linesOf s = cutL s k :: linesOf (s.extract (k + n) s.size) := by
    intro e n h1 h2 h3
    rw [hl, h3, List.map_cons]
    congr 1
    · rw [show cutL s k = ((cutL s k).1, (cutL s k).2) from rfl, h1]
      show (_, _) = (_, _)
      rw [hx]
      rfl
    · unfold linesOf
      rw [data_extract_all]
  rw [hs1]
  by_cases hlt : k < s.size
  · have hd := drop_here s k hlt
    rcases lead_cases s k hlt with ⟨h5, e, h3, h4⟩ | ⟨h5, hno⟩
    · have h6 : (cutL s k).2 = crlfB := h5
      have h7 : (cutL s k).2.size = 2 := by rw [h6]; rfl
      rw [h7]
      refine ⟨by omega, by omega, fin crlfB 2 h6 rfl ?_⟩
      rw [hd, e, drop_here s _ h3, h4, splitL_two]
    · have h6 : (cutL s k).2 = ⟨#[s[k]]⟩ := by rw [← extract_here s k hlt]; exact h5
      have h7 : (cutL s k).2.size = 1 := by rw [h6]; rfl
      rw [h7]
      refine ⟨by omega, by omega, fin ⟨#[s[k]]⟩ 1 h6 rfl ?_⟩
      rw [hd]
      rcases hat hlt with e | e
      · rw [e, splitL_cr]
        by_cases h3 : k + 1 < s.size
        · rw [drop_here s _ h3]
          simp only [List.getElem?_cons_zero, ne_eq, Option.some.injEq]
          exact fun e2 => hno ⟨e, h3, e2⟩
        · rw [List.drop_of_length_le (by simp; omega)]
          simp
      · rw [e, splitL_lf]
  · have he : k = s.size := by omega
    subst he
    have hn : (s.extract s.size s.size).data.toList = [] := by rw [data_extract_all]; exact List.drop_of_length_le (by simp)
    have h5 : (cutL s s.size).2 = ⟨#[]⟩ := by
      unfold cutL leadB
      simp only
      rw [if_neg (by rw [hn]; simp [Lib.hasPrefix, List.isPrefixOf])]
      apply ByteArray.ext; apply Array.toList_inj.1
      rw [Lib.extract_data, hn]
      simp
    have h7 : (cutL s s.size).2.size = 0 := by rw [h5]; rfl
    rw [h7]
    refine ⟨by omega, by omega, ?_⟩
    have hne : s.data.toList ≠ [] := by intro e; apply h; rw [Lib.size_eq, e]; rfl
    have hr : linesOf (s.extract (s.size + 0) s.size) = [] := by
      unfold linesOf
      rw [Nat.add_zero, hn, splitL_nil]
      rfl
    rw [hr, hl, List.drop_of_length_le (by simp), splitL_nil, if_neg (by rw [Pl.take_all]; exact hne), show cutL s s.size = ((cutL s s.size).1, (cutL s s.size).2) from rfl, h5]
    simp only [List.map_cons, List.map_nil, toB]
    rw [hx]
    rfl
/-- the first line, and the lines of what follows -/
theorem first_line (s : ByteArray) (h : s.size ≠ 0) : 1 ≤ (firstL s).1.size + (firstL s).2.size ∧ (firstL s).1.size + (firstL s).2.size ≤ s.size ∧
    linesOf s = firstL s :: linesOf (s.extract ((firstL s).1.size + (firstL s).2.size) s.size) :=
  cut_line s (endAt s) h (endAt_le s) (before_end s) (at_end s)

theorem leading_end (s : ByteArray) (w : World) (hs : s.size ≤ maxLen) :
    Calls Tryz.prog 80 #[.string s] w fun e w' => e = .returned (.string (leadB s)) ∧ w' = w := by
  unfold maxLen at hs
  cases hp : Lib.hasPrefix s.data.toList [13, 10]
  · have H : Hid (leadB s = s.extract 0 (min s.size 1)) := by unfold Hid leadB; rw [hp]; rfl
    have HP := Lib.hid hp
    clear hp
    by_cases hz : 1 ≤ s.size
    · rw [show min s.size 1 = 1 from by omega] at H
      have q : min (s.size : Int) 1 = 1 := by omega
      have q2 : (1 : Int) ≤ (s.size : Int) := by omega
      go_enter Tryz.func80, Tryz.ntmps80
      go_wp2_with fail
      refine (hasPrefix_lib s crlfB w).mono ?_
      rintro e w' ⟨rfl, rfl⟩
      rw [show crlfB.data.toList = [13, 10] from rfl, HP.out]
      go_wp2
      go_ret
      exact ⟨by rw [H.out]; rfl, rfl⟩
    · have h0 : s.size = 0 := by omega
      rw [show min s.size 1 = 0 from by omega] at H
      have q : min (s.size : Int) 1 = 0 := by omega
      go_enter Tryz.func80, Tryz.ntmps80
      go_wp2_with fail
      refine (hasPrefix_lib s crlfB w).mono ?_
      rintro e w' ⟨rfl, rfl⟩
      rw [show crlfB.data.toList = [13, 10] from rfl, HP.out]
      go_wp2
      go_ret
      exact ⟨by rw [H.out]; rfl, rfl⟩
  · have H : Hid (leadB s = crlfB) := by unfold Hid leadB; rw [hp]; rfl
    have HP := Lib.hid hp
    clear hp
    go_enter Tryz.func80, Tryz.ntmps80
    go_wp2_with fail
    refine (hasPrefix_lib s crlfB w).mono ?_
    rintro e w' ⟨rfl, rfl⟩
    rw [show crlfB.data.toList = [13, 10] from rfl, HP.out]
    go_wp2
    go_ret
    exact ⟨by rw [H.out]; rfl, rfl⟩


theorem extract_whole (s : ByteArray) : s.extract 0 s.size = s := by
  apply ByteArray.ext; apply Array.toList_inj.1
  rw [extract_zero s _ (Nat.le_refl _)]
  exact List.take_of_length_le (by simp)

theorem line_result (w : World) (g : Nat) (x : Ln) (fn : Func) (p : Tmp) (tmps : Array Value) (h : fn.results = #[.cell p 75]) (hp : tmps.getD p undef = .pointer (some ⟨g, 0, none⟩)) (hg : w.heap[g]? = some (.cells #[.string x.1, .string x.2] 75 (0, 0))) :
    (results fn tmps).run Tryz.prog w = .ok (lnV x) w :=
  results_cell_row h _ _ g 75 #[.string x.1, .string x.2] (0, 0) _ hp hg Tryz.underlying75 rfl (by kernel_rfl)

theorem set_two (W : World) (g : Nat) (a b x y : Value) (t : TypeId) (h : W.heap[g]? = some (.cells #[x, y] t (0, 0))) :
    ((W.setCell ⟨g, 0, none⟩ a).setCell ⟨g, 1, none⟩ b).heap[g]? = some (.cells #[a, b] t (0, 0)) := by
  obtain ⟨hl, he⟩ := Array.getElem?_eq_some_iff.1 h
  simp [World.setCell, h, hl, Array.getElem_modify, he]
theorem cutRes_text (s : ByteArray) (k : Nat) (hk : k ≤ s.size) : ∃ x3 o, cutRes s k = .tuple #[.string (s.extract 0 k), .string x3, .bool o] := by
  unfold cutRes
  by_cases h : k < s.size
  · rw [if_pos h]; exact ⟨_, _, rfl⟩
  · obtain rfl : k = s.size := by omega
    rw [if_neg h, extract_whole]; exact ⟨_, _, rfl⟩

set_option maxHeartbeats 800000 in
theorem firstLine_any (s : ByteArray) (w : World) (hs : s.size ≤ 1048576) :
    Calls Tryz.prog 54 #[.string s] w fun e w' => e = .returned (lnV (firstL s)) ∧ Below w.heap.size w w' := by
  have hle := endAt_le s
  have hf : Hid (firstL s = (s.extract 0 (endAt s), leadB (s.extract (endAt s) s.size))) := rfl
  have K := Lib.hid (fun w => cutAt_impl s crlfB w hs (by decide))
  have hK : firstIn (hasB crlfB) s = endAt s := rfl
  rw [hK] at K
  clear hK
  generalize endAt s = k at *
  have L := Lib.hid (fun w => leading_end (s.extract k s.size) w (by rw [ByteArray.size_extract]; unfold maxLen; omega))
  have q2 : (k : Int) ≤ (s.size : Int) := by omega
  obtain ⟨x3, o, hc⟩ := cutRes_text s k hle
  rw [hc] at K
  clear hc
  have hsz := size_extract0 s k hle
  generalize s.extract 0 k = x1 at *
  subst hsz
  generalize leadB (s.extract x1.size s.size) = x2 at *
  go_enter Tryz.func54, Tryz.ntmps54
  go_wp2_with fail
  refine (K.out _).mono ?_
  rintro e w1 ⟨rfl, n, rfl⟩
  go_wp2_with fail
  refine (L.out _).mono ?_
  rintro e w2 ⟨rfl, rfl⟩
  have hb := below_drewN ((Below.refl w.heap.size w).alloc (Nat.le_refl _) (.cells #[.string ⟨#[]⟩, .string ⟨#[]⟩] 75)) n
  have hg : ((w.alloc (.cells #[.string ⟨#[]⟩, .string ⟨#[]⟩] 75)).drewN n).heap[w.heap.size]? = some (.cells #[.string ⟨#[]⟩, .string ⟨#[]⟩] 75 (0, 0)) := heap_alloc_new _ _
  have HB := Lib.hid hb
  have HG := Lib.hid hg
  clear hb hg
  go_wp2
  (try simp only [Exit.inBlock, Exit.then])
  refine bodyPost_ret (v := lnV (x1, x2)) ?_ rfl ⟨by rw [hf.out], ?_⟩
  · exact line_result _ w.heap.size (x1, x2) _ _ _ rfl rfl (set_two _ _ _ _ _ _ _ HG.out)
  · exact (HB.out.setCell (p := ⟨w.heap.size, 0, none⟩) (Nat.le_refl _) _).setCell (p := ⟨w.heap.size, 1, none⟩) (Nat.le_refl _) _

/-- a nil list, or one at the head of its row, cut to its length -/
theorem lines_cut {w : World} {base n : Nat} {v : Value} {l : List Ln} {t : Nat} (h : w.ownsRow base t 2 v n (lnCells l)) (hn : n = l.length) (hB : base ≤ w.heap.size) : ∃ (a : Option Addr) (cap g : Nat), v = .slice a l.length cap ∧ l.length ≤ cap ∧ cap ≤ maxLen ∧ (a = none → cap = 0) ∧ LinesIs w (.slice a l.length l.length) g 0 l ∧ base ≤ g := by
  obtain ⟨g, hI, hg⟩ := linesIs_of_owns h hn hB
  obtain ⟨a, cap, hv, ha⟩ := hI.form
  refine ⟨a, cap, g, hv, ?_, ?_, ?_, ⟨⟨⟨a, _, rfl, ha⟩, hI.c0, hI.c1⟩, hI.free⟩, hg⟩
  all_goals
    subst hv
    rcases h.2 with ⟨hv, h0⟩ | ⟨g', cap', cur, hv, hb, hg', hnc, hcm, hcs, htake⟩
    · injection hv with h1 h2 h3
      subst h1 h3
      first | omega | (intro _; rfl) | (unfold maxLen; omega)
    · injection hv with h1 h2 h3
      subst h3
      first | omega | (intro h; rw [h1] at h; cases h)

/-- a list of lines of the call's own, without spare room -/
def TightLines (w : World) (l : List Ln) (e : Ending) (w' : World) : Prop := ∃ a g, e = .returned (.slice a l.length l.length) ∧ LinesIs w' (.slice a l.length l.length) g 0 l ∧ w.heap.size ≤ g ∧ Below w.heap.size w w'
theorem kept_two {w1 w2 : World} {base e size n t : Nat} {v : Value} {xs : List Value} {a b : Value} {o : Obj} (h : w1.ownsRow base e size v n xs) (hg : ((w1.alloc (.cells #[a, b] t)).alloc o).grownBy w2 v.ownBlock) :
    w2.cell? ⟨w1.heap.size, 0, none⟩ = some a ∧ w2.cell? ⟨w1.heap.size, 1, none⟩ = some b := by
  have hne : some w1.heap.size ≠ v.ownBlock := fun e => by have := (h.lt _ e.symm).2; omega
  exact ⟨by rw [hg.cell_far ⟨w1.heap.size, 0, none⟩ (by simp; omega) hne]; simp, by rw [hg.cell_far ⟨w1.heap.size, 1, none⟩ (by simp; omega) hne]; simp⟩
theorem ownsRow_below {w w' : World} {base e size n : Nat} {v : Value} {xs : List Value} (h : w.ownsRow base e size v n xs) (hb : Below w.heap.size w w') : w'.ownsRow base e size v n xs :=
  h.kept (grown_below (row := none) hb) (by cases hv : v.ownBlock <;> simp)

set_option maxRecDepth 100000 in
set_option maxHeartbeats 1600000 in
theorem splitLines_tight (s : ByteArray) (w : World) (hs : s.size ≤ 1048576) :
    Calls Tryz.prog 33 #[.string s] w (TightLines w (linesOf s)) := by
  obtain ⟨i0, hi, hz0, hz1, hz2⟩ := info_parts info_line
  go_enter Tryz.func33, Tryz.ntmps33
  go_wp2
  go_loopw [0, 3] (fun sv v wr => ∃ (t : ByteArray) (l : List Ln), sv = .string t ∧ l.length + t.size ≤ s.size ∧ Hid (linesOf s = l ++ linesOf t) ∧ wr.ownsRow w.heap.size 75 2 v l.length (lnCells l) ∧ Below w.heap.size w wr) (fun sv _ _ => (match sv with | .string t => t.size | _ => 0))
  case atStart => exact ⟨s, [], rfl, by simp, by unfold Hid; simp, World.ownsRow_nil _ _ _ _, Below.refl _ _⟩
  case round =>
    obtain ⟨t, l, rfl, hll, hcut, hown, hb⟩ := hrel
    have hsz := hb.size
    by_cases hz : t.size = 0
    · have ht : t = ⟨#[]⟩ := by
        apply ByteArray.ext; apply Array.toList_inj.1
        apply List.eq_nil_of_length_eq_zero
        rw [← Lib.size_eq]; exact hz
      subst ht
      have hfin : Hid (linesOf s = l) := by
        unfold Hid
        rw [hcut.out]
        have : linesOf ⟨#[]⟩ = [] := rfl
        rw [this, List.append_nil]
      obtain ⟨a, cap, g, rfl, h1, h2, h3, hI, hg⟩ := lines_cut hown rfl hsz
      have HI := Lib.hid hI
      have H3 := Lib.hid h3
      clear hcut hI hown h3 hz
      go_wp2
      go_ret
      exact ⟨a, g, by rw [hfin.out]; rfl, by rw [hfin.out]; exact HI.out, hg, hb⟩
    · obtain ⟨f1, f2, f3⟩ := first_line t hz
      have e1 : t.toList.isEmpty = false := by
        rw [Lib.toList_data]
        cases h : t.data.toList with
        | nil => exfalso; have h3 := Lib.size_eq t; rw [h, List.length_nil] at h3; omega
        | cons c u => rfl
      have e2 : (t.toList == []) = false := by
        rw [Lib.toList_data]
        cases h : t.data.toList with
        | nil => exfalso; have h3 := Lib.size_eq t; rw [h, List.length_nil] at h3; omega
        | cons c u => rfl
      have K := Lib.hid (fun w => firstLine_any t w (by omega))
      have F3 := Lib.hid f3
      clear f3
      generalize firstL t = x at *
      obtain ⟨x1, x2⟩ := x
      simp only at f1 f2 F3
      unfold lnV at K
      simp only at K
      have hcut2 : Hid (linesOf s = (l ++ [(x1, x2)]) ++ linesOf (t.extract (x1.size + x2.size) t.size)) := by
        unfold Hid
        rw [hcut.out, F3.out]
        simp
      have hsz2 : (t.extract (x1.size + x2.size) t.size).size = t.size - (x1.size + x2.size) := by rw [ByteArray.size_extract]; omega
      have HS2 := Lib.hid hsz2
      clear hcut F3 hsz2
      go_wp2_with fail
      refine (K.out _).mono ?_
      rintro e w1 ⟨rfl, hb1⟩
      have hown1 := ownsRow_below hown hb1
      have hb1' := hb.trans (hb1.mono hb.size)
      have hsz1 := hb1'.size
      have q1 : (x1.size : Int) + (x2.size : Int) ≤ (t.size : Int) := by omega
      have q2 : ((x1.size : Int) + (x2.size : Int)).toNat = x1.size + x2.size := by omega
      clear hown hb hb1 hsz
      go_wp2_with (at_builtin; refine wpList_append_own _ rfl _ _ 54 rfl w.heap.size 75 i0 (.agg #[.string ByteArray.empty, .string ByteArray.empty]) 2 32 Tryz.underlying54 hi hz0 hz1 hz2 rfl (by decide) _ _ _ rfl ((hown1.alloc _).alloc _) ⟨w1.heap.size + 1, 0, none⟩ 1 1 [.string x1, .string x2] rfl rfl (World.news_of_block (cs := #[.string x1, .string x2]) (t := 75) (fr := (0, 0)) (heap_alloc2_new w1 _ _)) (by simp [Value.oneCell']) (by unfold maxLen; omega) (by omega) (by simp; omega) ?_; intro v' w2 hown' hgrow _; obtain ⟨c0, c1⟩ := kept_two hown1 hgrow)
      obtain ⟨ho2, hb2⟩ := own_stepL (x := (x1, x2)) (hb1'.alloc hsz1 _) (hown1.alloc _) hown' hgrow
      clear hown1 hown' hgrow hb1' K c0 c1
      go_roundw
      case rel => exact ⟨_, l ++ [(x1, x2)], rfl, by rw [HS2.out]; simp; omega, hcut2, ho2, hb2⟩
      case measure => simp only; rw [HS2.out]; omega


theorem splitLines_impl (s : ByteArray) (w : World) (hs : s.size ≤ 1048576) :
    Calls Tryz.prog 33 #[.string s] w (NewLines w (linesOf s)) :=
  (splitLines_tight s w hs).mono (fun e w' ⟨a, g, he, h1, h2, h3⟩ => ⟨_, g, he, h1, h2, h3⟩)

end Go.Proofs.YtkhkpjnpjgnckaaGreatDoor
