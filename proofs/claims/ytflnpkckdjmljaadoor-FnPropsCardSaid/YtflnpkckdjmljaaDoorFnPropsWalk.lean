/- The contract of l01Bent: some text. -/
import Derived.Test.YtflnpkckdjmljaaDoorProg
import Derived.Test.YtflnpkckdjmljaaDoorPlain
import Derived.Test.YtflnpkckdjmljaaDoorDraw
import Derived.Test.YtflnpkckdjmljaaDoorDrawNum
import Derived.WalkKit
import Derived.WalkLawsBesides
import Derived.BigQuiet
import Derived.Deep.QuietTactic
import Derived.Deep.RegionWith
import Derived.Lib.Hide
import Derived.IntWalk
import Derived.Test.YtflnpkckdjmljaaDoorRecRows
import Derived.Test.YtflnpkckdjmljaaDoorRecArg
import Derived.Test.YtflnpkckdjmljaaDoorRecRaw
import Derived.Test.YtflnpkckdjmljaaDoorRecNum
import Derived.Test.YtflnpkckdjmljaaDoorLines
import Derived.Test.YtflnpkckdjmljaaDoorSplitSpec
import Derived.Test.YtflnpkckdjmljaaDoorJoin
import Derived.Test.YtflnpkckdjmljaaDoorPropRecs
import Derived.Laws.IdiomStrings
import Derived.Test.YtflnpkckdjmljaaDoorRows0
import Derived.Test.YtflnpkckdjmljaaDoorPropSpec
import Derived.Test.YtflnpkckdjmljaaDoorPropCut
import Derived.Test.YtflnpkckdjmljaaDoorPropOne
import Derived.Test.YtflnpkckdjmljaaDoorPropsCore
import Derived.Test.YtflnpkckdjmljaaDoorPropsImpl
import Derived.Test.YtflnpkckdjmljaaDoorPropsSpec
import Derived.Lib.QuietBelow
namespace Go.Proofs.YtflnpkckdjmljaaDoor
open Go.RowKit
set_option linter.unusedVariables false

def DrewBT (m : Nat) (w : World) (B b : Nat) (a : Option Addr) (len cap : Nat) (e : Ending) (w' : World) : Prop :=
  ∃ s : ByteArray, s.size ≤ m ∧ e = .returned (.string s) ∧ CurAt w' B b a len cap ∧ w.grownBy w' (some b)

set_option maxHeartbeats 1600000 in
theorem bent_draw (w : World) (B b : Nat) (a : Option Addr) (len cap : Nat) (s : ByteArray) (hlen : len ≤ 1048576) (hs : s.size ≤ 1048576) (hC : CurAt w B b a len cap) :
    Calls Tryd.prog 27 #[.pointer (some ⟨b, 0, none⟩), .string s] w (DrewBT (s.size + 2) w B b a len cap) := by
  go_enter Tryd.func27, Tryd.ntmps27
  go_wp2_with fail
  refine (below_draw w B b a len cap _ (by omega) hC (by omega) (by omega)).mono ?_
  rintro e w1 ⟨x, hx0, hx1, rfl, hC1, hg1⟩
  obtain ⟨i, rfl⟩ := Int.eq_ofNat_of_zero_le hx0
  have hi : i ≤ s.size := by omega
  clear hx0 hx1 hC
  go_wp2_with fail
  refine (below_draw w1 B b a len cap 10 (by omega) hC1 (by decide) (by decide)).mono ?_
  rintro e w2 ⟨y, hy0, hy1, rfl, hC2, hg2⟩
  replace hg2 := grownBy_step hg1 hg2
  clear hC1 hg1
  have hlt2 := hC2.lt
  by_cases y0 : y = 0
  · have hb0 : (y == 0) = true := by rw [y0]; rfl
    clear y0
    go_wp2
    go_ret
    exact ⟨_, by simp; omega, rfl, hC2, hg2⟩
  · have hb0 : (y == 0) = false := beq_eq_false_iff_ne.2 y0
    by_cases y1 : y = 1
    · have hb1 : (y == 1) = true := by rw [y1]; rfl
      clear y0 y1
      go_wp2_with fail
      go_region_with (go_at_call 26; refine (pick_draw _ B b a len cap w2.heap.size 12 12 1 (by omega) (hC2.alloc _).drew (by decide) (by decide) (by omega) (by simp) (texts_drew (by refine texts_alloc w2 _ _ _ _ ?_; decide +kernel))).mono ?_; rintro e w3 ⟨t, ht, rfl, hC3, hg3⟩)
      go_wp2
      go_ret
      refine ⟨_, ?_, rfl, hC3, grownBy_step (grownBy_new hg2 _) (grownBy_step (grownBy_drewN (World.grownBy.refl _ _) 1) hg3)⟩
      simp [ByteArray.size_append, ByteArray.size_extract]
      omega
    · have hb1 : (y == 1) = false := beq_eq_false_iff_ne.2 y1
      by_cases y2 : y = 2
      · have hb2 : (y == 2) = true := by rw [y2]; rfl
        clear y0 y1 y2
        by_cases hil : i < s.size
        · have hsum : (i : Int) + 1 ≤ (s.size : Int) := by omega
          have hsum0 : 0 ≤ (i : Int) + 1 := by omega
          have hwr : IntKind.i64.wrap ((i : Int) + 1) = (i : Int) + 1 := IntWalk.i64_in _ (by omega)
          have htn : ((i : Int) + 1).toNat = i + 1 := by omega
          go_wp2_with fail
          go_region_with (go_at_call 26; refine (pick_draw _ B b a len cap w2.heap.size 6 6 1 (by omega) (hC2.alloc _).drew (by decide) (by decide) (by omega) (by simp) (texts_drew (by refine texts_alloc w2 _ _ _ _ ?_; decide +kernel))).mono ?_; rintro e w3 ⟨t, ht, rfl, hC3, hg3⟩)
          go_wp2
          go_ret
          refine ⟨_, ?_, rfl, hC3, grownBy_step (grownBy_new hg2 _) (grownBy_step (grownBy_drewN (World.grownBy.refl _ _) 1) hg3)⟩
          simp [ByteArray.size_append, ByteArray.size_extract]
          omega
        · go_wp2
          go_ret
          exact ⟨s, by omega, rfl, hC2, hg2⟩
      · have hb2 : (y == 2) = false := beq_eq_false_iff_ne.2 y2
        clear y0 y1 y2
        go_wp2
        go_ret
        exact ⟨s, by omega, rfl, hC2, hg2⟩

end Go.Proofs.YtflnpkckdjmljaaDoor

/- Records of lines are numbered by their bytes. -/
namespace Go.Proofs.YtflnpkckdjmljaaDoor
open Go.RowKit
set_option linter.unusedVariables false

/-- a line with its end, ahead of what follows -/
def LineTo (x : List UInt8 × List UInt8) (t : List UInt8) : Prop :=
  (∀ c ∈ x.1, c ≠ 13 ∧ c ≠ 10) ∧ (x.2 = [10] ∨ x.2 = [13, 10] ∨ (x.2 = [13] ∧ t[0]? ≠ some 10) ∨ (x.2 = [] ∧ t = [] ∧ x.1 ≠ []))
theorem splitL_runN (p t cur : List UInt8) (h : ∀ c ∈ p, c ≠ 13 ∧ c ≠ 10) : splitL (p ++ t) cur = splitL t (cur ++ p) := by
  induction p generalizing cur with
  | nil => simp
  | cons c p ih =>
    have hc := h c (by simp)
    rw [List.cons_append, splitL_on c _ _ hc.1 hc.2, ih _ (fun d hd => h d (by simp [hd]))]
    simp
theorem split_line {x : List UInt8 × List UInt8} {t : List UInt8} (h : LineTo x t) : splitL (x.1 ++ x.2 ++ t) [] = x :: splitL t [] := by
  obtain ⟨a, e⟩ := x
  obtain ⟨h1, h2⟩ := h
  simp only at h1 h2 ⊢
  rw [List.append_assoc, splitL_runN a _ [] h1, List.nil_append]
  rcases h2 with rfl | rfl | ⟨rfl, h3⟩ | ⟨rfl, rfl, h3⟩
  · exact splitL_lf t a
  · exact splitL_two t a
  · exact splitL_cr t a h3
  · simp only [List.append_nil]
    rw [splitL_nil, if_neg h3]
    rfl
theorem split_first : ∀ (l cur : List UInt8), (∀ c ∈ cur, c ≠ 13 ∧ c ≠ 10) → l ≠ [] ∨ cur ≠ [] → ∃ x rest, splitL l cur = x :: splitL rest [] ∧ cur ++ l = x.1 ++ x.2 ++ rest ∧ LineTo x rest := by
  refine splitInd (P := fun l cur => (∀ c ∈ cur, c ≠ 13 ∧ c ≠ 10) → l ≠ [] ∨ cur ≠ [] → ∃ x rest, splitL l cur = x :: splitL rest [] ∧ cur ++ l = x.1 ++ x.2 ++ rest ∧ LineTo x rest) ?_ ?_ ?_ ?_ ?_
  · intro cur hc hn
    have hn2 : cur ≠ [] := hn.resolve_left (by simp)
    exact ⟨(cur, []), [], by rw [splitL_nil, if_neg hn2]; rfl, by simp, hc, .inr (.inr (.inr ⟨rfl, rfl, hn2⟩))⟩
  · intro t cur ih hc hn
    exact ⟨(cur, [13, 10]), t, splitL_two t cur, by simp, hc, .inr (.inl rfl)⟩
  · intro t cur ht ih hc hn
    exact ⟨(cur, [13]), t, splitL_cr t cur ht, by simp, hc, .inr (.inr (.inl ⟨rfl, ht⟩))⟩
  · intro t cur ih hc hn
    exact ⟨(cur, [10]), t, splitL_lf t cur, by simp, hc, .inl rfl⟩
  · intro c t cur h1 h2 ih hc hn
    obtain ⟨x, rest, e1, e2, e3⟩ := ih (by
      intro d hd
      rcases List.mem_append.1 hd with hd | hd
      · exact hc d hd
      · simp at hd
        subst hd
        exact ⟨h1, h2⟩) (.inr (by simp))
    exact ⟨x, rest, by rw [splitL_on c t cur h1 h2, e1], by rw [← e2]; simp, e3⟩
theorem split_drop : ∀ (n : Nat) (s : List UInt8), ∃ s2, (splitL s []).drop n = splitL s2 [] := by
  intro n
  induction n with
  | zero => intro s; exact ⟨s, by simp⟩
  | succ n ih =>
    intro s
    by_cases hs : s = []
    · subst hs
      exact ⟨[], by simp [splitL_nil]⟩
    · obtain ⟨x, rest, e1, _, _⟩ := split_first s [] (by simp) (.inl hs)
      obtain ⟨s2, h2⟩ := ih rest
      exact ⟨s2, by rw [e1, List.drop_succ_cons, h2]⟩
theorem split_take : ∀ (n : Nat) (s : List UInt8), splitL (joinL ((splitL s []).take n)) [] = (splitL s []).take n := by
  intro n
  induction n with
  | zero => intro s; simp [joinL, splitL_nil]
  | succ n ih =>
    intro s
    by_cases hs : s = []
    · subst hs
      simp [splitL_nil, joinL]
    · obtain ⟨x, rest, e1, _, h1, h2⟩ := split_first s [] (by simp) (.inl hs)
      rw [e1, List.take_succ_cons, joinL_cons, split_line, ih rest]
      refine ⟨h1, ?_⟩
      have hp : ∃ u, rest = joinL ((splitL rest []).take n) ++ u := by
        refine ⟨joinL ((splitL rest []).drop n), ?_⟩
        rw [← joinL_append, List.take_append_drop, join_split]
        rfl
      obtain ⟨u, hu⟩ := hp
      rcases h2 with h | h | ⟨h, h3⟩ | ⟨h, h3, h4⟩
      · exact .inl h
      · exact .inr (.inl h)
      · refine .inr (.inr (.inl ⟨h, ?_⟩))
        intro e
        apply h3
        rw [hu, List.getElem?_append_left]
        · exact e
        · exact (List.getElem?_eq_some_iff.1 e).1
      · refine .inr (.inr (.inr ⟨h, ?_, h4⟩))
        subst h3
        simp [splitL_nil, joinL]
/-- some lines of a text put together have those lines -/
theorem lines_some (s : ByteArray) (k c : Nat) : linesOf (rawP (linesOf s) k c) = ((linesOf s).drop k).take c := by
  obtain ⟨s2, h2⟩ := split_drop k s.data.toList
  have e : ((linesOf s).drop k).take c = ((splitL s2 []).take c).map toB := by
    unfold linesOf
    rw [← List.map_drop, h2, ← List.map_take]
  unfold rawP
  rw [e]
  show (splitL (joinB (((splitL s2 []).take c).map toB)) []).map toB = _
  rw [joinB_is, List.map_map, show (ofB ∘ toB) = id from funext ofB_toB, List.map_id, split_take]
/-- the lines of records are told by their bytes -/
def Lined : Nat → List RecD → Prop
  | _, [] => True
  | n, x :: m => x.line = (n : Int) ∧ Lined (n + (linesOf x.raw).length) m
theorem lined_props (s : ByteArray) : ∀ k, Lined (k + 1) (recsP (linesOf s) k) := by
  refine recsP_ind (l := linesOf s) ?_ ?_
  · intro k hk
    rw [recsP_end _ k hk]
    trivial
  · intro k hk ih
    have hs := oneAt_le (linesOf s) k hk
    rw [recsP_step _ k hk]
    refine ⟨by unfold putP; simp, ?_⟩
    have : (linesOf (putP (linesOf s) k (oneAt (linesOf s) k hk).2 (oneAt (linesOf s) k hk).1).raw).length = (oneAt (linesOf s) k hk).2 := by
      show (linesOf (rawP (linesOf s) k (oneAt (linesOf s) k hk).2)).length = _
      rw [lines_some, List.length_take, List.length_drop]
      omega
    rw [this, show k + 1 + (oneAt (linesOf s) k hk).2 = k + (oneAt (linesOf s) k hk).2 + 1 by omega]
    exact ih
def linesIn (m : List RecD) : Nat := (m.map (fun x => (linesOf x.raw).length)).sum
theorem lined_at : ∀ (m : List RecD) (n : Nat), Lined n m → ∀ j (h : j < m.length), m[j].line = ((n + linesIn (m.take j) : Nat) : Int) := by
  intro m
  induction m with
  | nil => intro n _ j h; simp at h
  | cons x m ih =>
    intro n hl j h
    cases j with
    | zero => simp [linesIn]; exact hl.1
    | succ j =>
      have := ih _ hl.2 j (by simpa using h)
      rw [List.getElem_cons_succ, this, List.take_succ_cons]
      simp only [linesIn, List.map_cons, List.sum_cons]
      omega
theorem lined_num {m : List RecD} (h : Lined 1 m) : numL m = m := by
  apply List.ext_getElem
  · exact numL_length m
  · intro j h1 h2
    rw [numL_at m j h2]
    have e := lined_at m 1 h j h2
    have e2 : lineAt m j = 1 + linesIn (m.take j) := by unfold lineAt linesIn; rw [List.map_take, List.map_take, List.map_map]; rfl
    rw [e2, ← e]
theorem lined_app : ∀ (a b : List RecD) (n : Nat), Lined n (a ++ b) ↔ Lined n a ∧ Lined (n + linesIn a) b := by
  intro a
  induction a with
  | nil => intro b n; simp [Lined, linesIn]
  | cons x a ih =>
    intro b n
    simp only [List.cons_append, Lined, ih, linesIn, List.map_cons, List.sum_cons, and_assoc, Nat.add_assoc]
theorem lined_lim {m : List RecD} {n : Nat} (h : Lined n m) : Lined n (limG m) := by
  unfold limG
  split
  · exact h
  · next hm =>
    have hl : 199 < m.length := by omega
    have h2 : Lined n (m.take 199 ++ m.drop 199) := by rw [List.take_append_drop]; exact h
    rw [lined_app] at h2 ⊢
    refine ⟨h2.1, ?_, trivial⟩
    have h3 := h2.2
    rw [List.drop_eq_getElem_cons hl] at h3
    have e : m.getD 199 noRec = m[199] := by rw [List.getD, List.getElem?_eq_getElem hl]; rfl
    show (m.getD 199 noRec).line = _
    rw [e]
    exact h3.1
/-- numbered anew they are as they were -/
theorem num_props (s : ByteArray) : numL (limG (recsP (linesOf s) 0)) = limG (recsP (linesOf s) 0) := lined_num (lined_lim (lined_props s 0))
theorem raw_props (s : ByteArray) : rawB (limG (recsP (linesOf s) 0)) = s.data.toList := by
  rw [limG_raw, recsP_raw, List.drop_zero, joinB_is]
  unfold linesOf
  rw [List.map_map, show (ofB ∘ toB) = id from funext ofB_toB, List.map_id, join_split]
  rfl

end Go.Proofs.YtflnpkckdjmljaaDoor

/- The draw of a file of properties: bounds alone. -/
set_option maxRecDepth 100000
namespace Go.Proofs.YtflnpkckdjmljaaDoor
open Go.RowKit
set_option linter.unusedVariables false

set_option maxHeartbeats 1600000 in
theorem file7_draw (w : World) (B b : Nat) (a : Option Addr) (len cap : Nat) (hlen : len ≤ 9223372036854775807) (hC : CurAt w B b a len cap) :
    Calls Tryd.prog 24 #[.pointer (some ⟨b, 0, none⟩)] w (DrewS 120 w B b a len cap) := by
  go_enter Tryd.func24, Tryd.ntmps24
  go_wp2_with fail
  refine (below_draw w B b a len cap 8 hlen hC (by decide) (by decide)).mono ?_
  rintro e w1 ⟨x, hx0, hx1, rfl, hC1, hg1⟩
  obtain ⟨n, rfl⟩ := Int.eq_ofNat_of_zero_le hx0
  clear hC
  go_wp2
  go_loopw [3, 5] (fun s q wr => ∃ (k : Nat) (t : ByteArray), k ≤ n ∧ q = .int .i64 k ∧ s = .string t ∧ t.size ≤ 16 * k ∧ Hid (CurAt wr B b a len cap) ∧ Hid (w.grownBy wr (some b))) (fun _ q _ => n - (intOf q).toNat)
  case atStart => exact ⟨0, ⟨#[]⟩, Nat.zero_le _, rfl, rfl, Nat.le_refl _, hC1, hg1⟩
  case round =>
    obtain ⟨k, t, hk, rfl, rfl, ht, hC, hg⟩ := hrel
    clear hC1 hg1
    by_cases hkn : k < n
    · have hltr := hC.out.lt
      have K := Lib.hid (pick_draw (wr.alloc (.cells #[.string ⟨#[97, 61, 49]⟩, .string ⟨#[97, 32, 61, 32, 49]⟩, .string ⟨#[98, 58, 50]⟩, .string ⟨#[107, 101, 121, 32, 118, 97, 108, 117, 101]⟩, .string ⟨#[32, 32, 35, 32, 110, 111, 116, 101]⟩, .string ⟨#[33, 32, 110, 111, 116, 101]⟩, .string ⟨#[]⟩, .string ⟨#[32, 12]⟩, .string ⟨#[97, 92, 32, 98, 32, 61, 32, 99]⟩, .string ⟨#[97, 92, 61, 98, 61, 99]⟩, .string ⟨#[108, 111, 110, 103, 32, 61, 32, 111, 110, 101, 92]⟩, .string ⟨#[32, 32, 116, 119, 111]⟩, .string ⟨#[92, 117, 48, 48, 52, 49, 61, 92, 117, 48, 48, 101, 57]⟩, .string ⟨#[98, 97, 100, 61, 92, 117, 49, 50]⟩, .string ⟨#[112, 61, 92, 117, 100, 56, 51, 100, 92, 117, 100, 101, 48, 48]⟩, .string ⟨#[61, 120]⟩, .string ⟨#[120, 61, 92, 92]⟩, .string ⟨#[121, 32, 61, 32, 92]⟩, .string ⟨#[116, 97, 98, 9, 116]⟩, .string ⟨#[99, 61, 97, 92, 113, 98]⟩, .string ⟨#[255, 61, 254]⟩] 9)) B b a len cap wr.heap.size 21 21 14 hlen (hC.out.alloc _) (by decide) (by decide) (by omega) (by simp) (by refine texts_alloc wr _ _ _ _ ?_; decide +kernel))
      go_wp2_with fail
      refine K.out.mono ?_
      rintro e w3 ⟨y, hy, rfl, hC3, hg3⟩
      have hg4 : Hid (w.grownBy w3 (some b)) := grownBy_step (grownBy_new hg.out _) hg3
      clear K hg hg3 hC
      have hlt3 := hC3.lt
      have K := Lib.hid (pick_draw (w3.alloc (.cells #[.string ⟨#[10]⟩, .string ⟨#[10]⟩, .string ⟨#[13, 10]⟩, .string ⟨#[13]⟩] 9)) B b a len cap w3.heap.size 4 4 2 hlen (hC3.alloc _) (by decide) (by decide) (by omega) (by simp) (by refine texts_alloc w3 _ _ _ _ ?_; decide +kernel))
      go_wp2_with fail
      refine K.out.mono ?_
      rintro e w5 ⟨z, hz, rfl, hC5, hg5⟩
      have hg6 : Hid (w.grownBy w5 (some b)) := grownBy_step (grownBy_new hg4.out _) hg5
      have HC5 := Lib.hid hC5
      clear K hg4 hg5 hC3 hC5
      go_wp2
      go_roundw
      case rel => exact ⟨k + 1, t ++ y ++ z, by omega, by go_num, rfl, by rw [ByteArray.size_append, ByteArray.size_append]; omega, HC5, hg6⟩
      case measure => simp [intOf]; omega
    · obtain rfl : k = n := by omega
      go_wp2_with fail
      refine (once_draw wr B b a len cap 3 hlen hC.out (by decide) (by decide)).mono ?_
      rintro e w2 ⟨x, rfl, hC2, hg2⟩
      have hg3 : Hid (w.grownBy w2 (some b)) := grownBy_step hg.out hg2
      clear hC hg hg2
      have hlt2 := hC2.lt
      cases x
      · go_wp2
        go_ret
        exact ⟨t, by omega, rfl, hC2, hg3.out⟩
      · have K := Lib.hid (pick_draw (w2.alloc (.cells #[.string ⟨#[108, 97, 115, 116, 61, 49]⟩, .string ⟨#[108, 97, 115, 116, 61, 92]⟩, .string ⟨#[35]⟩] 9)) B b a len cap w2.heap.size 3 3 6 hlen (hC2.alloc _) (by decide) (by decide) (by omega) (by simp) (by refine texts_alloc w2 _ _ _ _ ?_; decide +kernel))
        go_wp2_with fail
        refine K.out.mono ?_
        rintro e w3 ⟨y, hy, rfl, hC3, hg4⟩
        have hg5 := grownBy_step (grownBy_new hg3.out _) hg4
        clear K hg3 hg4 hC2
        go_wp2
        go_ret
        exact ⟨t ++ y, by rw [ByteArray.size_append]; omega, rfl, hC3, hg5⟩

set_option maxHeartbeats 1600000 in
theorem drawParseProps (w : World) (a : Option Addr) (len cap : Nat) (hlen : len ≤ 1048576) (hB : BytesIn w a len) (hlow : ∀ x, a = some x → len ≠ 0 → x.block < w.heap.size) :
    Calls Tryd.prog 9 #[.slice a len cap] w (SomeText 1000 w) := by
  go_enter Tryd.func9, Tryd.ntmps9
  go_wp2_with fail
  refine (new_draw w a len cap hlen hB hlow).mono ?_
  rintro e w1 ⟨rfl, hC1, hb1⟩
  clear hB hlow
  go_wp2_with fail
  refine (file7_draw w1 w.heap.size w.heap.size a len cap (by omega) hC1).mono ?_
  rintro e w2 ⟨s, hs, rfl, hC2, hg2⟩
  have hb2 := hb1.trans (grownBy_below hg2 (Nat.le_refl _) hb1.size)
  clear hC1 hg2 hb1
  go_wp2_with fail
  refine (below_draw w2 w.heap.size w.heap.size a len cap 16 (by omega) hC2 (by decide) (by decide)).mono ?_
  rintro e w3 ⟨x, hx0, hx1, rfl, hC3, hg3⟩
  have hb3 := hb2.trans (grownBy_below hg3 (Nat.le_refl _) hb2.size)
  clear hC2 hg3 hb2
  by_cases e0 : x = 0
  · subst e0
    go_wp2_with fail
    refine (below_draw w3 w.heap.size w.heap.size a len cap 6 (by omega) hC3 (by decide) (by decide)).mono ?_
    rintro e w4 ⟨y, hy0, hy1, rfl, hC4, hg4⟩
    have hb4 := hb3.trans (grownBy_below hg4 (Nat.le_refl _) hb3.size)
    obtain ⟨n, hn⟩ : ∃ n : Nat, (197 : Int) + y = (n : Int) := ⟨(197 + y).toNat, by omega⟩
    have hn2 : n ≤ 202 := by omega
    have hnw : IntKind.i64.wrap (197 + y) = (n : Int) := by rw [hn]; exact IntWalk.i64_in _ (by omega)
    have HC4 := Lib.hid hC4
    have HB4 := Lib.hid hb4
    clear hC3 hg4 hb3 hC4 hb4
    go_wp2
    go_loopw [4, 6] (fun s q wr => ∃ (k : Nat) (t : ByteArray), k ≤ n ∧ q = .int .i64 k ∧ s = .string t ∧ t.size ≤ 4 * k ∧ Hid (CurAt wr w.heap.size w.heap.size a len cap) ∧ Hid (Below w.heap.size w wr)) (fun _ q _ => n - (intOf q).toNat)
    case atStart => exact ⟨0, ⟨#[]⟩, Nat.zero_le _, rfl, rfl, Nat.le_refl _, HC4, HB4⟩
    case round =>
      obtain ⟨k, t, hk, rfl, rfl, ht, hC, hb⟩ := hrel
      clear HC4 HB4 hx1 hx0 hy0 hy1 hn hnw
      by_cases hkn : k < n
      · have hltr := hC.out.lt
        have K := Lib.hid (pick_draw (wr.alloc (.cells #[.string ⟨#[97, 61, 49, 10]⟩, .string ⟨#[10]⟩] 9)) w.heap.size w.heap.size a len cap wr.heap.size 2 2 4 (by omega) (hC.out.alloc _) (by decide) (by decide) (by omega) (by simp) (by refine texts_alloc wr _ _ _ _ ?_; decide +kernel))
        go_wp2_with fail
        refine K.out.mono ?_
        rintro e w3 ⟨y, hy, rfl, hC3, hg3⟩
        have hb4 : Hid (Below w.heap.size w w3) := hb.out.trans (grownBy_below (grownBy_step (World.grownBy_alloc wr _ _) hg3) (Nat.le_refl _) hb.out.size)
        have HC3 := Lib.hid hC3
        clear K hb hg3 hC hC3
        go_wp2
        go_roundw
        case rel => exact ⟨k + 1, t ++ y, by omega, by go_num, rfl, by rw [ByteArray.size_append]; omega, HC3, hb4⟩
        case measure => simp [intOf]; omega
      · obtain rfl : k = n := by omega
        go_wp2
        go_ret
        exact ⟨t, by omega, rfl, hb.out⟩
  · by_cases e1 : x = 1 ∨ x = 2
    · rcases e1 with rfl | rfl
      · go_wp2_with fail
        refine (bent_draw w3 w.heap.size w.heap.size a len cap s hlen (by omega) hC3).mono ?_
        rintro e w4 ⟨t, ht, rfl, hC4, hg4⟩
        have hb4 := hb3.trans (grownBy_below hg4 (Nat.le_refl _) hb3.size)
        clear hC3 hg4 hb3
        go_wp2
        go_ret
        exact ⟨t, by omega, rfl, hb4⟩
      · go_wp2_with fail
        refine (bent_draw w3 w.heap.size w.heap.size a len cap s hlen (by omega) hC3).mono ?_
        rintro e w4 ⟨t, ht, rfl, hC4, hg4⟩
        have hb4 := hb3.trans (grownBy_below hg4 (Nat.le_refl _) hb3.size)
        clear hC3 hg4 hb3
        go_wp2
        go_ret
        exact ⟨t, by omega, rfl, hb4⟩
    · have f0 : (x == 0) = false := by rw [beq_eq_false_iff_ne]; exact e0
      have f1 : (x == 1) = false := by rw [beq_eq_false_iff_ne]; omega
      have f2 : (x == 2) = false := by rw [beq_eq_false_iff_ne]; omega
      clear hx0 hx1
      go_wp2
      go_ret
      exact ⟨s, by omega, rfl, hb3⟩

end Go.Proofs.YtflnpkckdjmljaaDoor

/- What the records of a file of properties are, and how large. -/
namespace Go.Proofs.YtflnpkckdjmljaaDoor
open Go.RowKit
set_option linter.unusedVariables false

/-- what a record of a file of properties may be -/
def OkP (C : Nat) (x : RecD) : Prop := (x.kind = 0 ∨ x.kind = 1 ∨ x.kind = 3 ∨ x.kind = 4) ∧ x.sect = ⟨#[]⟩ ∧ (x.kind ≠ 3 → x.key = ⟨#[]⟩ ∧ x.value = ⟨#[]⟩) ∧ x.key.size ≤ C ∧ x.value.size ≤ C
theorem okP_kind (C : Nat) (k : Int) (h : k = 0 ∨ k = 1 ∨ k = 4) : OkP C (kindP k) := by
  refine ⟨?_, rfl, fun _ => ⟨rfl, rfl⟩, Nat.zero_le _, Nat.zero_le _⟩
  rcases h with rfl | rfl | rfl
  · exact .inl rfl
  · exact .inr (.inl rfl)
  · exact .inr (.inr (.inr rfl))
theorem okP_pair {C : Nat} (t : ByteArray) (h : t.size ≤ C) : OkP C (pairP t) := by
  unfold pairP
  split
  · have h1 := propT_size (cutP t).1
    have h2 := propT_size (cutP t).2
    have h3 := cutP_size t
    generalize propT (cutP t).1 = p at *
    generalize propT (cutP t).2 = q at *
    exact ⟨.inr (.inr (.inl rfl)), rfl, fun h => absurd rfl h, Nat.le_trans h1 (Nat.le_trans h3.1 h), Nat.le_trans h2 (Nat.le_trans h3.2 h)⟩
  · exact okP_kind C 4 (.inr (.inr rfl))
theorem okP_one (l : List Ln) (k : Nat) (hk : k < l.length) : OkP (costL l) (oneAt l k hk).1 := by
  have h1 : costL (l[k] :: l.drop (k + 1)) ≤ costL l := by
    rw [← List.drop_eq_getElem_cons hk]; exact costL_dropP l k
  have h2 : costL (l[k] :: l.drop (k + 1)) = 1 + (l[k].1.size + l[k].2.size) + costL (l.drop (k + 1)) := by
    simp only [costL, List.length_cons, List.map_cons, List.sum_cons]; omega
  have h3 := joinP_size (l.drop (k + 1)) (leadP l[k].1) 1
  have h4 := leadP_size l[k].1
  unfold oneAt oneP
  generalize joinP (leadP l[k].1) (l.drop (k + 1)) 1 = J at *
  have hJ := okP_pair (C := costL l) J.1 (by omega)
  generalize pairP J.1 = P at *
  split
  · split
    · exact okP_kind _ 1 (.inr (.inl rfl))
    · exact hJ
  · exact okP_kind _ 0 (.inl rfl)
theorem okP_recs (l : List Ln) : ∀ k, ∀ x ∈ recsP l k, OkP (costL l) x := by
  refine recsP_ind (l := l) ?_ ?_
  · intro k hk
    rw [recsP_end l k hk]
    intro x hx
    cases hx
  · intro k hk ih
    rw [recsP_step l k hk]
    intro x hx
    rcases List.mem_cons.1 hx with rfl | hx
    · obtain ⟨h1, h2, h3, h4, h5⟩ := okP_one l k hk
      exact ⟨h1, rfl, h3, h4, h5⟩
    · exact ih x hx
theorem okP_lim {C : Nat} {m : List RecD} (h : ∀ x ∈ m, OkP C x) : ∀ x ∈ limG m, OkP C x := by
  intro x hx
  unfold limG at hx
  split at hx
  · exact h x hx
  · next h2 =>
    rcases List.mem_append.1 hx with hx | hx
    · exact h x (List.mem_of_mem_take hx)
    · rw [List.mem_singleton] at hx
      subst hx
      refine ⟨.inr (.inr (.inr rfl)), ?_, fun _ => ⟨rfl, rfl⟩, Nat.zero_le _, Nat.zero_le _⟩
      have h3 : 198 < m.length := by omega
      show (m.getD 198 noRec).sect = _
      rw [List.getD, List.getElem?_eq_getElem h3]
      exact (h _ (List.getElem_mem h3)).2.1
theorem okP_props (s : ByteArray) : ∀ x ∈ propsL s, OkP (2 * s.size) x := by
  unfold propsL
  split
  · intro x hx
    obtain ⟨h1, h2, h3, h4, h5⟩ := okP_lim (okP_recs (linesOf s) 0) x hx
    have := linesOf_costP s
    exact ⟨h1, h2, h3, by omega, by omega⟩
  · intro x hx
    cases hx
theorem okP_cost {C : Nat} : ∀ {m : List RecD}, (∀ x ∈ m, OkP C x) → costRec m ≤ m.length + (rawB m).length + m.length * (2 * C)
  | [], _ => by simp [costRec]
  | x :: m, h => by
    have ih := okP_cost (m := m) (fun y hy => h y (List.mem_cons_of_mem _ hy))
    obtain ⟨_, h2, _, h4, h5⟩ := h x (List.mem_cons_self ..)
    have h6 : sizeRec x ≤ x.raw.size + 2 * C := by unfold sizeRec; rw [h2]; show x.raw.size + 0 + x.key.size + x.value.size ≤ _; omega
    have h7 : (rawB (x :: m)).length = x.raw.size + (rawB m).length := by
      show (x.raw.data.toList ++ rawB m).length = _
      rw [List.length_append, ← Lib.size_eq]
    have h8 : costRec (x :: m) = 1 + sizeRec x + costRec m := by
      simp only [costRec, List.length_cons, List.map_cons, List.sum_cons]; omega
    rw [h8, h7, List.length_cons, Nat.succ_mul]
    omega
theorem props_raw (s : ByteArray) (h : s.size ≤ 6000) : rawB (propsL s) = s.data.toList := by
  unfold propsL
  rw [if_pos h, limG_raw, recsP_raw, List.drop_zero, linesOf_join]
theorem props_cost (s : ByteArray) (h : s.size ≤ 1000) : costRec (propsL s) ≤ 1048576 := by
  have h1 := okP_cost (okP_props s)
  have h2 := propsL_len s
  have h3 : (rawB (propsL s)).length = s.size := by rw [props_raw s (by omega), ← Lib.size_eq]
  have h4 : (propsL s).length * (2 * (2 * s.size)) ≤ 200 * 4000 := Nat.mul_le_mul h2 (by omega)
  omega

end Go.Proofs.YtflnpkckdjmljaaDoor

/- The walk of FnProps. -/
set_option maxRecDepth 100000
namespace Go.Proofs.YtflnpkckdjmljaaDoor
open Go.RowKit Go.Sort
set_option linter.unusedVariables false

set_option maxHeartbeats 1600000 in
theorem whole_yes (w : World) (v : Value) (g o : Nat) (r : List RecD) (s : ByteArray) (hI : RowsRd recS w v g o r) (hc : costRec r ≤ 1048576) (hraw : (⟨(rawB r).toArray⟩ : ByteArray) = s) (hnum : numL r = r) (hlen : r.length ≤ 200) :
    Calls Tryd.prog 13 #[v, .string s] w fun e w' => e = .returned (.bool true) ∧ Below w.heap.size w w' := by
  have KR := Lib.hid (fun (W : World) (h : RowsRd recS W v g o r) => rawOf_impl W v g o r h hc)
  have KN := Lib.hid (fun (W : World) (h : RowsRd recS W v g o r) => numbered_impl W v g o r h hc)
  rw [hraw] at KR
  rw [hnum] at KN
  obtain ⟨a, cap, rfl, _⟩ := hI.form
  have hl2 : (r.length : Int) ≤ 200 := by omega
  clear hraw hnum hc
  go_enter Tryd.func13, Tryd.ntmps13
  go_wp2_with fail
  refine (KR.out w hI).mono ?_
  rintro e w1 ⟨rfl, hb1⟩
  have hI1 := hI.over hb1
  clear hI KR
  go_wp2_with fail
  refine (KN.out w1 hI1).mono ?_
  rintro e w2 ⟨v2, g2, rfl, hI2, hg2, hb2⟩
  have hI3 := hI1.over hb2
  have hb3 := hb1.trans (hb2.mono hb1.size)
  clear hI1 KN hb1 hb2
  go_wp2_with fail
  refine (same_recs w2 v2 _ g2 0 g o r hI2.toRowsRd hI3 (by omega)).mono ?_
  rintro e w4 ⟨rfl, hb4⟩
  have hb5 := hb3.trans (hb4.mono hb3.size)
  clear hI2 hI3 hb3 hb4
  go_wp2
  go_ret
  exact ⟨rfl, hb5⟩

theorem none_two : (!((⟨#[]⟩ : ByteArray) ++ ⟨#[]⟩).toList.isEmpty) = false := by decide +kernel
set_option maxHeartbeats 6400000 in
theorem fnProps_walk (a0 : Option Addr) (len0 cap0 : Nat) (w : World) (hB : BytesIn w a0 len0) (hlow : ∀ x, a0 = some x → len0 ≠ 0 → x.block < w.heap.size) :
    Calls Tryd.prog 3 #[.slice a0 len0 cap0] w fun e w' => e = .returned (.bool true) ∧ Below w.heap.size w w' := by
  by_cases h0 : len0 ≤ 1048576
  · go_enter Tryd.func3, Tryd.ntmps3
    go_wp2_with fail
    refine (big_no w a0 len0 cap0 h0).mono ?_
    rintro e w1 ⟨rfl, rfl⟩
    go_wp2_with fail
    refine (drawParseProps _ a0 len0 cap0 h0 hB hlow).mono ?_
    rintro e w1 ⟨s, hs, rfl, hb1⟩
    have HOK := Lib.hid (okP_props s)
    have HC := Lib.hid (props_cost s hs)
    have HRW : Hid ((⟨(rawB (propsL s)).toArray⟩ : ByteArray) = s) := by unfold Hid; rw [props_raw s (by omega)]
    have HNUM : Hid (numL (propsL s) = propsL s) := by unfold Hid propsL; rw [if_pos (by omega)]; exact num_props s
    have HLEN := Lib.hid (propsL_len s)
    have KI := Lib.hid (fun W => parseProps_any s W (by omega))
    have KS := Lib.hid (fun W => parseProps_spec s W (by omega))
    generalize propsL s = r at *
    clear hB hlow
    go_wp2_with fail
    refine (KI.out w1).mono ?_
    rintro e w2 ⟨v, g, rfl, hI, hg, hb2⟩
    obtain ⟨o, ho⟩ : ∃ o : Nat, 0 = o := ⟨0, rfl⟩
    have hI2 : RowsRd recS w2 v g o r := by rw [← ho]; exact hI.toRowsRd
    have hb3 := hb1.trans (hb2.mono hb1.size)
    clear hI hb1 hb2 KI hg
    go_wp2_with fail
    refine (KS.out w2).mono ?_
    rintro e w3 ⟨v3, g3, rfl, hI3, hg3, hb4⟩
    have hI4 := hI2.over hb4
    have hb5 := hb3.trans (hb4.mono hb3.size)
    clear hI2 hb3 hb4 KS hg3
    go_wp2_with fail
    refine (same_recs w3 v v3 g o g3 0 r hI4 hI3.toRowsRd (by have := HLEN.out; omega)).mono ?_
    rintro e w4 ⟨rfl, hb6⟩
    have hI5 := hI4.over hb6
    have hb7 := hb5.trans (hb6.mono hb5.size)
    clear hI4 hI3 hb5 hb6 ho
    obtain ⟨a, cap, rfl, ha⟩ := hI5.form
    have HA := Lib.hid ha
    have HI5 := Lib.hid hI5
    have HB7 := Lib.hid hb7
    clear ha hI5 hb7
    go_wp2
    go_loopw [5] (fun i wr => ∃ k : Nat, k ≤ r.length ∧ i = .int .i64 k ∧ Hid (RowsRd recS wr (.slice a r.length cap) g o r) ∧ Hid (Below w.heap.size w wr)) (fun i _ => r.length - (intOf i).toNat)
    case atStart => exact ⟨0, Nat.zero_le _, rfl, HI5, HB7⟩
    case round =>
      obtain ⟨k, hk, rfl, hI, hb⟩ := hrel
      clear HI5 HB7
      by_cases hlt : k < r.length
      · have hln : r ≠ [] := by intro e; subst e; simp at hlt
        obtain rfl := HA.out hln
        have q0 := rec_c0 hI.out k hlt
        have q2 := rec_c2 hI.out k hlt
        have q3 := rec_c3 hI.out k hlt
        have q4 := rec_c4 hI.out k hlt
        obtain ⟨o1, o2, o3, o4, o5⟩ := HOK.out _ (List.getElem_mem hlt)
        have hll := HLEN.out
        generalize r[k] = x at *
        obtain ⟨x0, x1, x2, x3, x4, x5⟩ := x
        simp only at q0 q2 q3 q4 o1 o2 o3 o4 o5
        subst o2
        clear o4 o5
        have y0 := cell_regrown q0
        have y2 := cell_regrown q2
        have y3 := cell_regrown q3
        have y4 := cell_regrown q4
        rcases o1 with rfl | rfl | rfl | rfl
        · obtain ⟨rfl, rfl⟩ := o3 (by decide)
          clear o3
          have hkv := none_two
          have HI := Lib.hid hI
          have HB := Lib.hid hb
          clear hI hb
          go_wp2_with fail
          refine wp_region_quiet_below (by kernel_rfl) (by kernel_rfl) ?_
          repeat (go_big_quiet_step (fail))
          refine wpQuiet_nil ?_
          intro _ hw'
          obtain ⟨⟨dq, osq⟩, hw''⟩ := hw'
          subst hw''
          have hbq := below_regrown wr dq osq
          have HI2 := Lib.hid (HI.out.out.over hbq)
          have HB2 := Lib.hid (HB.out.out.trans (hbq.mono HB.out.out.size))
          clear y0 y2 y3 y4 q0 q2 q3 q4 hbq HI HB
          generalize grow (redrawn wr dq) osq = w6 at *
          go_wp2
          go_roundw
          case rel => exact ⟨k + 1, by omega, by go_num, HI2, HB2⟩
          case measure => simp [intOf]; omega
        · obtain ⟨rfl, rfl⟩ := o3 (by decide)
          clear o3
          have hkv := none_two
          have HI := Lib.hid hI
          have HB := Lib.hid hb
          clear hI hb
          go_wp2_with fail
          refine wp_region_quiet_below (by kernel_rfl) (by kernel_rfl) ?_
          repeat (go_big_quiet_step (fail))
          refine wpQuiet_nil ?_
          intro _ hw'
          obtain ⟨⟨dq, osq⟩, hw''⟩ := hw'
          subst hw''
          have hbq := below_regrown wr dq osq
          have HI2 := Lib.hid (HI.out.out.over hbq)
          have HB2 := Lib.hid (HB.out.out.trans (hbq.mono HB.out.out.size))
          clear y0 y2 y3 y4 q0 q2 q3 q4 hbq HI HB
          generalize grow (redrawn wr dq) osq = w6 at *
          go_wp2
          go_roundw
          case rel => exact ⟨k + 1, by omega, by go_num, HI2, HB2⟩
          case measure => simp [intOf]; omega
        · clear o3
          have HI := Lib.hid hI
          have HB := Lib.hid hb
          clear hI hb
          go_wp2_with fail
          refine wp_region_quiet_below (by kernel_rfl) (by kernel_rfl) ?_
          repeat (go_big_quiet_step (fail))
          refine wpQuiet_nil ?_
          intro _ hw'
          obtain ⟨⟨dq, osq⟩, hw''⟩ := hw'
          subst hw''
          have hbq := below_regrown wr dq osq
          have HI2 := Lib.hid (HI.out.out.over hbq)
          have HB2 := Lib.hid (HB.out.out.trans (hbq.mono HB.out.out.size))
          clear y0 y2 y3 y4 q0 q2 q3 q4 hbq HI HB
          generalize grow (redrawn wr dq) osq = w6 at *
          go_wp2
          go_roundw
          case rel => exact ⟨k + 1, by omega, by go_num, HI2, HB2⟩
          case measure => simp [intOf]; omega
        · obtain ⟨rfl, rfl⟩ := o3 (by decide)
          clear o3
          have hkv := none_two
          have HI := Lib.hid hI
          have HB := Lib.hid hb
          clear hI hb
          go_wp2_with fail
          refine wp_region_quiet_below (by kernel_rfl) (by kernel_rfl) ?_
          repeat (go_big_quiet_step (fail))
          refine wpQuiet_nil ?_
          intro _ hw'
          obtain ⟨⟨dq, osq⟩, hw''⟩ := hw'
          subst hw''
          have hbq := below_regrown wr dq osq
          have HI2 := Lib.hid (HI.out.out.over hbq)
          have HB2 := Lib.hid (HB.out.out.trans (hbq.mono HB.out.out.size))
          clear y0 y2 y3 y4 q0 q2 q3 q4 hbq HI HB
          generalize grow (redrawn wr dq) osq = w6 at *
          go_wp2
          go_roundw
          case rel => exact ⟨k + 1, by omega, by go_num, HI2, HB2⟩
          case measure => simp [intOf]; omega
      · obtain rfl : k = r.length := by omega
        have hle : ¬ (r.length : Int) < (r.length : Int) := by omega
        go_wp2_with fail
        refine (whole_yes wr _ g o r s hI.out HC.out HRW.out HNUM.out HLEN.out).mono ?_
        rintro e w6 ⟨rfl, hb6⟩
        have hb8 := hb.out.trans (hb6.mono hb.out.size)
        clear hI hb hb6
        go_wp2
        go_ret
        exact ⟨rfl, hb8⟩
  · go_enter Tryd.func3, Tryd.ntmps3
    go_wp2_with fail
    refine (big_yes w a0 len0 cap0 (by omega)).mono ?_
    rintro e w1 ⟨rfl, rfl⟩
    go_wp2
    go_ret
    exact ⟨rfl, Below.refl _ _⟩

end Go.Proofs.YtflnpkckdjmljaaDoor
