/- The last pair of a key: the contracts of LastOf, the model's and the program's. -/
import Derived.Test.YtdkghalcnaogfaaProg
import Derived.Test.YtdkghalcnaogfaaPlain
import Derived.Test.YtdkghalcnaogfaaRows0
import Derived.Test.YtdkghalcnaogfaaRecRows
import Derived.Test.YtdkghalcnaogfaaRecArg
import Derived.Test.YtdkghalcnaogfaaRecEntry
import Derived.WalkKit
import Derived.WalkLawsBesides
import Derived.Laws.IdiomStrings
import Derived.Lib.Hide
import Derived.IntWalk
namespace Go.Proofs.Ytdkghalcnaogfaa
open Go.RowKit
set_option linter.unusedVariables false

/-- a pair of that section and key -/
def pairOf (s k : ByteArray) (x : RecD) : Bool := decide (x.kind = 3 ∧ x.sect = s ∧ x.key = k)
/-- the last of the first n that is one -/
def lastTo (l : List RecD) (s k : ByteArray) : Nat → Int
  | 0 => -1
  | n + 1 => match l[n]? with
    | some x => if pairOf s k x then (n : Int) else lastTo l s k n
    | none => lastTo l s k n
def lastOf (l : List RecD) (s k : ByteArray) : Int := lastTo l s k l.length
theorem lastTo_yes (l : List RecD) (s k : ByteArray) (n : Nat) (h : n < l.length) (hp : pairOf s k l[n] = true) : lastTo l s k (n + 1) = n := by
  simp only [lastTo]
  rw [List.getElem?_eq_getElem h]
  simp [hp]
theorem lastTo_no (l : List RecD) (s k : ByteArray) (n : Nat) (h : n < l.length) (hp : pairOf s k l[n] = false) : lastTo l s k (n + 1) = lastTo l s k n := by
  simp only [lastTo]
  rw [List.getElem?_eq_getElem h]
  simp [hp]
theorem lastTo_ge (l : List RecD) (s k : ByteArray) (n : Nat) : -1 ≤ lastTo l s k n ∧ lastTo l s k n < n := by
  induction n with
  | zero => exact ⟨Int.le_refl _, by simp [lastTo]⟩
  | succ n ih =>
    simp only [lastTo]
    split
    · split <;> omega
    · omega
/-- behind it there is none -/
theorem lastTo_none (l : List RecD) (s k : ByteArray) (n : Nat) (hn : n ≤ l.length) (i : Nat) (hi : i < n) (hlt : lastTo l s k n < (i : Int)) : pairOf s k (l[i]'(by omega)) = false := by
  induction n with
  | zero => omega
  | succ n ih =>
    have hl : n < l.length := by omega
    by_cases hp : pairOf s k l[n] = true
    · rw [lastTo_yes l s k n hl hp] at hlt
      omega
    · rw [Bool.not_eq_true] at hp
      rw [lastTo_no l s k n hl hp] at hlt
      by_cases e : i = n
      · subst e; exact hp
      · exact ih (by omega) (by omega) hlt

theorem txt_same (a b : ByteArray) (h : a = b) : (a.toList == b.toList) = true := by rw [txt_beqRec]; simp [h]
theorem txt_differ (a b : ByteArray) (h : a ≠ b) : (a.toList == b.toList) = false := by rw [txt_beqRec]; simp [h]

set_option maxRecDepth 100000 in
set_option maxHeartbeats 3200000 in
theorem lastOf_spec (w : World) (u : Value) (g o : Nat) (l : List RecD) (hu : RowsRd recS w u g o l) (hl : costRec l ≤ 1048576) (s k : ByteArray) (hs : s.size ≤ 1048576) (hk : k.size ≤ 1048576) :
    Calls Try.prog 18 #[u, .string s, .string k] w fun e w' => e = .returned (.int .i64 (lastOf l s k)) ∧ Below w.heap.size w w' := by
  obtain ⟨a, cap, rfl, ha⟩ := hu.form
  have hll : l.length ≤ 1048576 := by unfold costRec at hl; omega
  have CU := Lib.hid hu
  have HA := Lib.hid ha
  clear hu ha hs hk hl
  go_enter Try.func18, Try.ntmps18
  go_wp2
  go_loopw [7] (fun i wr => ∃ (n : Nat), n ≤ l.length ∧ i = .int .i64 ((n : Int) - 1) ∧ Hid (lastOf l s k = lastTo l s k n) ∧ Below w.heap.size w wr) (fun i _ => (intOf i + 1).toNat)
  case atStart => exact ⟨l.length, Nat.le_refl _, by go_num, rfl, Below.refl _ _⟩
  case round =>
    obtain ⟨n, hn, rfl, hz, hb⟩ := hrel
    cases n with
    | zero =>
      have hz2 : Hid (lastOf l s k = -1) := by unfold Hid; rw [hz.out]; rfl
      clear hz
      go_wp2
      go_ret
      exact ⟨by rw [hz2.out]; rfl, hb⟩
    | succ n =>
      have hlt : n < l.length := by omega
      have hln : l ≠ [] := by intro e; subst e; simp at hlt
      obtain rfl := HA.out hln
      have hgl := CU.out.lt hln
      have e1 : ((n + 1 : Nat) : Int) - 1 = (n : Int) := by omega
      rw [e1]
      have q0 := (hb.cell (p := ⟨g, o + n * 6, none⟩) hgl).trans (rec_c0 CU.out n hlt)
      have q2 := (hb.cell (p := ⟨g, o + n * 6 + 2, none⟩) hgl).trans (rec_c2 CU.out n hlt)
      have q3 := (hb.cell (p := ⟨g, o + n * 6 + 3, none⟩) hgl).trans (rec_c3 CU.out n hlt)
      by_cases h3 : l[n].kind = 3
      · have e3 : (l[n].kind == 3) = true := by simp [h3]
        by_cases h4 : l[n].sect = s
        · have e4 := txt_same _ _ h4
          by_cases h5 : l[n].key = k
          · have e5 := txt_same _ _ h5
            have hz2 : Hid (lastOf l s k = n) := by unfold Hid; rw [hz.out, lastTo_yes l s k n hlt (by unfold pairOf; simp [h3, h4, h5])]
            generalize l[n].kind = x0 at *
            generalize l[n].sect = x2 at *
            generalize l[n].key = x3 at *
            clear hz h3 h4 h5
            go_wp2
            go_ret
            exact ⟨by rw [hz2.out]; rfl, hb⟩
          · have e5 := txt_differ _ _ h5
            have hz2 : Hid (lastOf l s k = lastTo l s k n) := by unfold Hid; rw [hz.out, lastTo_no l s k n hlt (by unfold pairOf; simp [h5])]
            generalize l[n].kind = x0 at *
            generalize l[n].sect = x2 at *
            generalize l[n].key = x3 at *
            clear hz h3 h4 h5
            go_wp2
            go_roundw
            case rel => exact ⟨n, by omega, by go_num, hz2, hb⟩
            case measure => simp [intOf]
        · have e4 := txt_differ _ _ h4
          have hz2 : Hid (lastOf l s k = lastTo l s k n) := by unfold Hid; rw [hz.out, lastTo_no l s k n hlt (by unfold pairOf; simp [h4])]
          generalize l[n].kind = x0 at *
          generalize l[n].sect = x2 at *
          generalize l[n].key = x3 at *
          clear hz h3 h4
          go_wp2
          go_roundw
          case rel => exact ⟨n, by omega, by go_num, hz2, hb⟩
          case measure => simp [intOf]
      · have e3 : (l[n].kind == 3) = false := by simp [h3]
        have hz2 : Hid (lastOf l s k = lastTo l s k n) := by unfold Hid; rw [hz.out, lastTo_no l s k n hlt (by unfold pairOf; simp [h3])]
        generalize l[n].kind = x0 at *
        generalize l[n].sect = x2 at *
        generalize l[n].key = x3 at *
        clear hz h3
        go_wp2
        go_roundw
        case rel => exact ⟨n, by omega, by go_num, hz2, hb⟩
        case measure => simp [intOf]

set_option maxHeartbeats 800000 in
theorem isPairOf_any (x : RecD) (s k : ByteArray) (w : World) :
    Calls Try.prog 44 #[entV x, .string s, .string k] w fun e w' => e = .returned (.bool (pairOf s k x)) ∧ Below w.heap.size w w' := by
  by_cases h3 : x.kind = 3
  · have hv : entV x = .iface 84 (.agg #[.string x.raw, .string x.sect, .string x.key]) := by
      unfold entV
      rw [if_neg (by omega), if_pos h3]
    rw [hv]
    have hp : pairOf s k x = decide (x.sect = s ∧ x.key = k) := by unfold pairOf; simp [h3]
    rw [hp]
    clear hp hv h3
    have has := is_pair (.agg #[.string x.raw, .string x.sect, .string x.key])
    generalize x.raw = a1 at *
    generalize x.sect = a2 at *
    generalize x.key = a3 at *
    have hb := (Below.refl w.heap.size w).alloc (Nat.le_refl _) (.cells #[.string a1, .string a2, .string a3] 84)
    by_cases h4 : a2 = s
    · have e4 := txt_same _ _ h4
      by_cases h5 : a3 = k
      · have e5 := txt_same _ _ h5
        have HD : Hid (decide (a2 = s ∧ a3 = k) = true) := by unfold Hid; simp [h4, h5]
        clear h4 h5
        go_enter Try.func44, Try.ntmps44
        go_wp2
        go_ret
        exact ⟨by rw [HD.out]; rfl, hb⟩
      · have e5 := txt_differ _ _ h5
        have HD : Hid (decide (a2 = s ∧ a3 = k) = false) := by unfold Hid; simp [h5]
        clear h4 h5
        go_enter Try.func44, Try.ntmps44
        go_wp2
        go_ret
        exact ⟨by rw [HD.out]; rfl, hb⟩
    · have e4 := txt_differ _ _ h4
      have HD : Hid (decide (a2 = s ∧ a3 = k) = false) := by unfold Hid; simp [h4]
      clear h4
      go_enter Try.func44, Try.ntmps44
      go_wp2
      go_ret
      exact ⟨by rw [HD.out]; rfl, hb⟩
  · have hp : pairOf s k x = false := by unfold pairOf; simp [h3]
    rw [hp]
    have has := assert_pair x h3
    clear hp h3
    generalize entV x = ev at *
    go_enter Try.func44, Try.ntmps44
    go_wp2
    go_ret
    exact ⟨rfl, Below.refl _ _⟩

set_option maxRecDepth 100000 in
set_option maxHeartbeats 3200000 in
theorem lastOf_impl (w : World) (u : Value) (g o : Nat) (l : List RecD) (hu : RowsRd recS w u g o l) (hl : costRec l ≤ 1048576) (s k : ByteArray) (hs : s.size ≤ 1048576) (hk : k.size ≤ 1048576) :
    Calls Try.prog 17 #[u, .string s, .string k] w fun e w' => e = .returned (.int .i64 (lastOf l s k)) ∧ Below w.heap.size w w' := by
  obtain ⟨a, cap, rfl, ha⟩ := hu.form
  have hll : l.length ≤ 1048576 := by unfold costRec at hl; omega
  have CU := Lib.hid hu
  have HA := Lib.hid ha
  clear hu ha hs hk hl
  go_enter Try.func17, Try.ntmps17
  go_wp2
  go_loopw [7] (fun i wr => ∃ (n : Nat), n ≤ l.length ∧ i = .int .i64 ((n : Int) - 1) ∧ Hid (lastOf l s k = lastTo l s k n) ∧ Below w.heap.size w wr) (fun i _ => (intOf i + 1).toNat)
  case atStart => exact ⟨l.length, Nat.le_refl _, by go_num, rfl, Below.refl _ _⟩
  case round =>
    obtain ⟨n, hn, rfl, hz, hb⟩ := hrel
    cases n with
    | zero =>
      have hz2 : Hid (lastOf l s k = -1) := by unfold Hid; rw [hz.out]; rfl
      clear hz
      go_wp2
      go_ret
      exact ⟨by rw [hz2.out]; rfl, hb⟩
    | succ n =>
      have hlt : n < l.length := by omega
      have hln : l ≠ [] := by intro e; subst e; simp at hlt
      obtain rfl := HA.out hln
      have hgl := CU.out.lt hln
      have e1 : ((n + 1 : Nat) : Int) - 1 = (n : Int) := by omega
      rw [e1]
      have q0 := (hb.cell (p := ⟨g, o + n * 6, none⟩) hgl).trans (rec_c0 CU.out n hlt)
      have q1 := (hb.cell (p := ⟨g, o + n * 6 + 1, none⟩) hgl).trans (rec_c1 CU.out n hlt)
      have q2 := (hb.cell (p := ⟨g, o + n * 6 + 2, none⟩) hgl).trans (rec_c2 CU.out n hlt)
      have q3 := (hb.cell (p := ⟨g, o + n * 6 + 3, none⟩) hgl).trans (rec_c3 CU.out n hlt)
      have q4 := (hb.cell (p := ⟨g, o + n * 6 + 4, none⟩) hgl).trans (rec_c4 CU.out n hlt)
      have q5 := (hb.cell (p := ⟨g, o + n * 6 + 5, none⟩) hgl).trans (rec_c5 CU.out n hlt)
      have K := Lib.hid (entry_any l[n])
      have K2 := Lib.hid (isPairOf_any l[n] s k)
      by_cases hp : pairOf s k l[n] = true
      · have hz2 : Hid (lastOf l s k = n) := by unfold Hid; rw [hz.out, lastTo_yes l s k n hlt hp]
        rw [hp] at K2
        generalize entV l[n] = ev at *
        generalize l[n] = x at *
        obtain ⟨a0, a1, a2, a3, a4, a5⟩ := x
        unfold recV at K
        simp only at K
        clear hz hp
        go_wp2_with fail
        refine (K.out _).mono ?_
        rintro e w2 ⟨rfl, hb2⟩
        have hb3 := hb.trans (hb2.mono hb.size)
        clear hb hb2 K q0 q1 q2 q3 q4 q5
        go_wp2_with fail
        refine (K2.out _).mono ?_
        rintro e w3 ⟨rfl, hb4⟩
        have hb5 := hb3.trans (hb4.mono hb3.size)
        clear hb3 hb4 K2
        go_wp2
        go_ret
        exact ⟨by rw [hz2.out]; rfl, hb5⟩
      · rw [Bool.not_eq_true] at hp
        have hz2 : Hid (lastOf l s k = lastTo l s k n) := by unfold Hid; rw [hz.out, lastTo_no l s k n hlt hp]
        rw [hp] at K2
        generalize entV l[n] = ev at *
        generalize l[n] = x at *
        obtain ⟨a0, a1, a2, a3, a4, a5⟩ := x
        unfold recV at K
        simp only at K
        clear hz hp
        go_wp2_with fail
        refine (K.out _).mono ?_
        rintro e w2 ⟨rfl, hb2⟩
        have hb3 := hb.trans (hb2.mono hb.size)
        clear hb hb2 K q0 q1 q2 q3 q4 q5
        go_wp2_with fail
        refine (K2.out _).mono ?_
        rintro e w3 ⟨rfl, hb4⟩
        have hb5 := hb3.trans (hb4.mono hb3.size)
        clear hb3 hb4 K2
        go_wp2
        go_roundw
        case rel => exact ⟨n, by omega, by go_num, hz2, hb5⟩
        case measure => simp [intOf]

end Go.Proofs.Ytdkghalcnaogfaa
