/- The walk of the law FnEscapes. -/
import Derived.Test.YtffglpbjbocdiaaDoorProg
import Derived.Test.YtffglpbjbocdiaaDoorPlain
import Derived.Test.YtffglpbjbocdiaaDoorDraw
import Derived.Test.YtffglpbjbocdiaaDoorRunePure
import Derived.Test.YtffglpbjbocdiaaDoorRuneText
import Derived.Test.YtffglpbjbocdiaaDoorInts
import Derived.Test.YtffglpbjbocdiaaDoorTextOf
import Derived.Test.YtffglpbjbocdiaaDoorValid
import Derived.Test.YtffglpbjbocdiaaDoorSigns
import Derived.Test.YtffglpbjbocdiaaDoorPutEsc
import Derived.Test.YtffglpbjbocdiaaDoorGetPure
import Derived.Test.YtffglpbjbocdiaaDoorGetSpec
import Derived.Test.YtffglpbjbocdiaaDoorGetImpl
import Derived.Test.YtffglpbjbocdiaaDoorSignDraw
import Derived.Test.YtffglpbjbocdiaaDoorFnSignsWalk
import Derived.WalkKit
import Derived.WalkLawsBesides
import Derived.Lib.Hide
import Derived.IntWalk
namespace Go.Proofs.YtffglpbjbocdiaaDoor
open Go.RowKit
set_option linter.unusedVariables false

theorem getR_len : ∀ (n : Nat) (l t : List UInt8), l.length = n → getR l = some t → t.length ≤ l.length := by
  intro n
  induction n using Nat.strongRecOn with
  | _ n ih =>
    intro l t hn h
    cases l with
    | nil =>
      rw [getR_nil] at h
      cases h
      exact Nat.le_refl _
    | cons c l =>
      rw [List.length_cons] at hn
      by_cases hc : c = 92
      · subst hc
        by_cases h1 : l[0]? = some 92
        · cases l with
          | nil => simp at h1
          | cons d l =>
            simp only [List.getElem?_cons_zero, Option.some.injEq] at h1
            subst h1
            rw [getR_two] at h
            obtain ⟨t2, h2, rfl⟩ := Option.map_eq_some_iff.1 h
            rw [List.length_cons] at hn
            have := ih l.length (by omega) l t2 rfl h2
            rw [List.length_cons, List.length_cons, List.length_cons]
            omega
        · have h0 : ((92 : UInt8) :: l)[0]? = some 92 := rfl
          have h1' : ((92 : UInt8) :: l)[1]? ≠ some 92 := by rw [List.getElem?_cons_succ]; exact h1
          cases he : escapeE (92 :: l) with
          | none => rw [getR_bad h0 h1' he] at h; cases h
          | some q =>
            obtain ⟨r, k⟩ := q
            rw [getR_escape h0 h1' he] at h
            obtain ⟨t2, h2, rfl⟩ := Option.map_eq_some_iff.1 h
            have hp := escape_pos he
            have hl := escape_len he
            have hdl : ((92 :: l).drop k).length = l.length + 1 - k := by rw [List.length_drop, List.length_cons]
            have := ih _ (by omega) _ t2 rfl h2
            rw [List.length_append, List.length_cons] at *
            omega
      · rw [getR_on c l hc] at h
        obtain ⟨t2, h2, rfl⟩ := Option.map_eq_some_iff.1 h
        have := ih l.length (by omega) l t2 rfl h2
        rw [List.length_cons, List.length_cons]
        omega
theorem getL_len {l t : List UInt8} (h : getL l = some t) : t.length ≤ l.length := by
  unfold getL at h
  split at h
  · exact getR_len _ l t rfl h
  · cases h
theorem putT_plain (l : List UInt8) : ∀ c ∈ putT l, 32 ≤ c.toNat ∧ c.toNat ≤ 126 := by
  unfold putT signsI
  rw [putI_of]
  exact put_plain _
theorem putT_bad {l : List UInt8} (h : signsO l = false) : putT l = [] := by
  unfold putT
  rw [(signs_bad (by unfold signsO at h; exact Option.not_isSome_iff_eq_none.1 (by rw [h]; decide))).1]
  rfl
theorem getRes_put {l : List UInt8} (h : signsO l = true) : getRes (putT l) = .tuple #[.string ⟨l.toArray⟩, .bool true] := by
  unfold signsO at h
  obtain ⟨list, hl⟩ := Option.isSome_iff_exists.1 h
  unfold getRes putT
  rw [(signs_good hl).1, putI_of, getL_put l list hl]

set_option maxRecDepth 100000 in
set_option maxHeartbeats 6400000 in
theorem fnEscapes_walk (a0 : Option Addr) (len0 cap0 : Nat) (w : World) (hB : BytesIn w a0 len0) (hlow : ∀ x, a0 = some x → len0 ≠ 0 → x.block < w.heap.size) (hT : TabsV w) :
    Calls Tryd.prog 4 #[.slice a0 len0 cap0] w fun e w' => e = .returned (.bool true) ∧ Below w.heap.size w w' := by
  have HT := Lib.hid hT
  clear hT
  by_cases h0 : len0 ≤ 1048576
  · have HB := Lib.hid hB
    have HLOW := Lib.hid hlow
    clear hB hlow
    go_enter Tryd.func4, Tryd.ntmps4
    go_wp2_with fail
    refine (big_no _ _ _ _ h0).mono ?_
    rintro e w1 ⟨rfl, rfl⟩
    go_wp2_with fail
    refine (drawPutEscapes w a0 len0 cap0 h0 HB.out HLOW.out).mono ?_
    rintro e w2 ⟨s, hs21, rfl, hb2⟩
    have K1 := Lib.hid (put_impl s (by omega))
    have K2 := Lib.hid (put_spec s (by omega))
    have hsz := toList_size (putT s.data.toList)
    have hlen := putT_len s.data.toList
    rw [← Lib.size_eq] at hlen
    have hplain := putT_plain s.data.toList
    have hres : Hid (signsO s.data.toList = true → getRes (putT s.data.toList) = .tuple #[.string s, .bool true]) := fun h => getRes_put h
    have hnone : Hid (signsO s.data.toList = false → putT s.data.toList = []) := fun h => putT_bad h
    have K8 := Lib.hid (signs_spec s (by omega))
    unfold SignsAre at K8
    generalize signsI s.data.toList = ls at *
    generalize signsO s.data.toList = os at *
    generalize putT s.data.toList = pt at *
    generalize hes : (⟨pt.toArray⟩ : ByteArray) = es at *
    have hd : es.data.toList = pt := by rw [← hes]
    have K9 := Lib.hid (get_impl es (by omega))
    rw [hd] at K9
    have hpl : Hid (∀ k (h : k < es.size), 32 ≤ (es[k].toNat : Int) ∧ (es[k].toNat : Int) ≤ 126) := by
      intro k h
      have hm : es[k] ∈ pt := by
        rw [← hd]
        show es.data[k] ∈ es.data.toList
        exact Array.mem_toList_iff.2 (Array.getElem_mem _)
      have := hplain _ hm
      omega
    have hnone2 : Hid (os = false → es.toList = []) := by
      intro h
      rw [Lib.toList_data, hd]
      exact hnone.out h
    have hee : (!(es.toList == es.toList)) = false := by simp
    have hes9 : Hid (es.size ≤ 1000000) := by unfold Hid; omega
    clear hplain hlen hsz hes hnone
    go_wp2_with fail
    refine (K1.out _ (tabs_over HT.out hb2)).mono ?_
    rintro e w3 ⟨rfl, hb3⟩
    have hb3' := hb2.trans (hb3.mono hb2.size)
    clear hb2 hb3 K1
    go_wp2_with fail
    refine (K2.out _).mono ?_
    rintro e w4 ⟨rfl, hb4⟩
    have hb4' := hb3'.trans (hb4.mono hb3'.size)
    clear hb3' hb4 K2
    go_wp2_with fail
    refine (drawGetEscapes w4 a0 len0 cap0 h0 (bytesIn_under HB.out HLOW.out hb4') (fun x hx hl => Nat.lt_of_lt_of_le (HLOW.out x hx hl) hb4'.size)).mono ?_
    rintro e w5 ⟨x, hx, rfl, hb5⟩
    have hb5' := hb4'.trans (hb5.mono hb4'.size)
    clear hb4' hb5 HB HLOW hee
    have K3 := Lib.hid (get_impl x (by omega))
    have K4 := Lib.hid (get_spec x (by omega))
    cases hg : getL x.data.toList with
    | none =>
      have hgr : getRes x.data.toList = .tuple #[.string ⟨#[]⟩, .bool false] := by unfold getRes; rw [hg]
      rw [hgr] at K3 K4
      clear hg hgr
      go_wp2_with fail
      refine (K3.out _ (tabs_over HT.out hb5')).mono ?_
      rintro e w6 ⟨rfl, hb6⟩
      have hb6' := hb5'.trans (hb6.mono hb5'.size)
      clear hb5' hb6 K3
      go_wp2_with fail
      refine (K4.out _).mono ?_
      rintro e w7 ⟨rfl, hb7⟩
      have hb7' := hb6'.trans (hb7.mono hb6'.size)
      clear hb6' hb7 K4
      go_wp2
      go_loop [10] (fun i => ∃ k : Nat, k ≤ es.size ∧ i = .int .i64 k) (fun i => es.size - (intOf i).toNat)
      case atStart => exact ⟨0, Nat.zero_le _, rfl⟩
      case round =>
        obtain ⟨k, hk, rfl⟩ := hrel
        by_cases hlt : k < es.size
        · obtain ⟨c0, c1⟩ := hpl.out k hlt
          have hlt2 : (k : Int) < (es.size : Int) := by omega
          have hes8 : (es.size : Int) ≤ 1000000 := by have := hes9.out; omega
          have hd1 : decide ((es[k].toNat : Int) < 32) = false := decide_eq_false (by omega)
          have hd2 : decide ((es[k].toNat : Int) > 126) = false := decide_eq_false (by omega)
          go_wp2
          go_round
          case rel => exact ⟨k + 1, by omega, by go_num⟩
          case measure => simp [intOf]; omega
        · have hlt2 : ¬ (k : Int) < (es.size : Int) := by omega
          go_wp2_with fail
          refine (K8.out _).mono ?_
          rintro e w8 ⟨v8, g8, rfl, hI8, hg8, hb8⟩
          have hb8' := hb7'.trans (hb8.mono hb7'.size)
          clear hI8 hg8 hb8 hb7' K8
          go_wp2_with fail
          refine (K9.out _ (tabs_over HT.out hb8')).mono ?_
          rintro e w9 ⟨rfl, hb9⟩
          have hb9' := hb8'.trans (hb9.mono hb8'.size)
          clear hb8' hb9 K9
          cases os
          · have hbe := hnone2.out rfl
            have hbe1 : es.toList.isEmpty = true := by rw [hbe]; rfl
            have hbe2 : (es.toList == []) = true := by rw [hbe]; rfl
            obtain ⟨yy, bb, hr⟩ : ∃ yy bb, getRes pt = .tuple #[.string yy, .bool bb] := by
              unfold getRes
              split
              · exact ⟨_, _, rfl⟩
              · exact ⟨_, _, rfl⟩
            rw [hr]
            clear hbe hr hnone2 hres
            go_wp2
            go_ret
            exact ⟨rfl, hb9'⟩
          · rw [hres.out rfl]
            have hss : (s.toList == s.toList) = true := by simp
            clear hnone2 hres
            go_wp2
            go_ret
            exact ⟨rfl, hb9'⟩
    | some t =>
      have hgr : getRes x.data.toList = .tuple #[.string ⟨t.toArray⟩, .bool true] := by unfold getRes; rw [hg]
      have htl := getL_len hg
      rw [← Lib.size_eq] at htl
      rw [hgr] at K3 K4
      have hts := toList_size t
      have K5 := Lib.hid (put_impl ⟨t.toArray⟩ (by omega))
      have K6 := Lib.hid (put_spec ⟨t.toArray⟩ (by omega))
      clear hg hgr htl hts
      generalize (⟨t.toArray⟩ : ByteArray) = y at *
      generalize (⟨(putT y.data.toList).toArray⟩ : ByteArray) = py at *
      go_wp2_with fail
      refine (K3.out _ (tabs_over HT.out hb5')).mono ?_
      rintro e w6 ⟨rfl, hb6⟩
      have hb6' := hb5'.trans (hb6.mono hb5'.size)
      clear hb5' hb6 K3
      go_wp2_with fail
      refine (K4.out _).mono ?_
      rintro e w7 ⟨rfl, hb7⟩
      have hb7a := hb6'.trans (hb7.mono hb6'.size)
      clear hb6' hb7 K4
      go_wp2_with fail
      refine (K5.out _ (tabs_over HT.out hb7a)).mono ?_
      rintro e w7 ⟨rfl, hb7⟩
      have hb7b := hb7a.trans (hb7.mono hb7a.size)
      clear hb7a hb7
      by_cases hpy : py.toList = []
      · have hp1 : (py.toList == []) = true := by rw [hpy]; rfl
        have hp2 : py.toList.isEmpty = true := by rw [hpy]; rfl
        have hp3 : (!(py.toList == [])) = false := by rw [hpy]; rfl
        have hp4 : (!py.toList.isEmpty) = false := by rw [hpy]; rfl
        have hb7' := hb7b
        clear hb7b hpy K5 K6
        go_wp2
        go_loop [10] (fun i => ∃ k : Nat, k ≤ es.size ∧ i = .int .i64 k) (fun i => es.size - (intOf i).toNat)
        case atStart => exact ⟨0, Nat.zero_le _, rfl⟩
        case round =>
          obtain ⟨k, hk, rfl⟩ := hrel
          by_cases hlt : k < es.size
          · obtain ⟨c0, c1⟩ := hpl.out k hlt
            have hlt2 : (k : Int) < (es.size : Int) := by omega
            have hes8 : (es.size : Int) ≤ 1000000 := by have := hes9.out; omega
            have hd1 : decide ((es[k].toNat : Int) < 32) = false := decide_eq_false (by omega)
            have hd2 : decide ((es[k].toNat : Int) > 126) = false := decide_eq_false (by omega)
            go_wp2
            go_round
            case rel => exact ⟨k + 1, by omega, by go_num⟩
            case measure => simp [intOf]; omega
          · have hlt2 : ¬ (k : Int) < (es.size : Int) := by omega
            go_wp2_with fail
            refine (K8.out _).mono ?_
            rintro e w8 ⟨v8, g8, rfl, hI8, hg8, hb8⟩
            have hb8' := hb7'.trans (hb8.mono hb7'.size)
            clear hI8 hg8 hb8 hb7' K8
            go_wp2_with fail
            refine (K9.out _ (tabs_over HT.out hb8')).mono ?_
            rintro e w9 ⟨rfl, hb9⟩
            have hb9' := hb8'.trans (hb9.mono hb8'.size)
            clear hb8' hb9 K9
            cases os
            · have hbe := hnone2.out rfl
              have hbe1 : es.toList.isEmpty = true := by rw [hbe]; rfl
              have hbe2 : (es.toList == []) = true := by rw [hbe]; rfl
              obtain ⟨yy, bb, hr⟩ : ∃ yy bb, getRes pt = .tuple #[.string yy, .bool bb] := by
                unfold getRes
                split
                · exact ⟨_, _, rfl⟩
                · exact ⟨_, _, rfl⟩
              rw [hr]
              clear hbe hr hnone2 hres
              go_wp2
              go_ret
              exact ⟨rfl, hb9'⟩
            · rw [hres.out rfl]
              have hss : (s.toList == s.toList) = true := by simp
              clear hnone2 hres
              go_wp2
              go_ret
              exact ⟨rfl, hb9'⟩
      · have hp2 : py.toList.isEmpty = false := List.isEmpty_eq_false_iff.2 hpy
        have hp1 : (py.toList == []) = false := beq_eq_false_iff_ne.2 hpy
        have hp3 : (!(py.toList == [])) = true := by rw [hp1]; rfl
        have hp4 : (!py.toList.isEmpty) = true := by rw [hp2]; rfl
        have hpp : (!(py.toList == py.toList)) = false := by simp
        clear hpy
        go_wp2_with fail
        refine (K6.out _).mono ?_
        rintro e w7 ⟨rfl, hb7⟩
        have hb7c := hb7b.trans (hb7.mono hb7b.size)
        clear hb7b hb7
        go_wp2_with fail
        refine (K5.out _ (tabs_over HT.out hb7c)).mono ?_
        rintro e w7 ⟨rfl, hb7⟩
        have hb7' := hb7c.trans (hb7.mono hb7c.size)
        clear hb7c hb7 K5 K6
        go_wp2
        go_loop [10] (fun i => ∃ k : Nat, k ≤ es.size ∧ i = .int .i64 k) (fun i => es.size - (intOf i).toNat)
        case atStart => exact ⟨0, Nat.zero_le _, rfl⟩
        case round =>
          obtain ⟨k, hk, rfl⟩ := hrel
          by_cases hlt : k < es.size
          · obtain ⟨c0, c1⟩ := hpl.out k hlt
            have hlt2 : (k : Int) < (es.size : Int) := by omega
            have hes8 : (es.size : Int) ≤ 1000000 := by have := hes9.out; omega
            have hd1 : decide ((es[k].toNat : Int) < 32) = false := decide_eq_false (by omega)
            have hd2 : decide ((es[k].toNat : Int) > 126) = false := decide_eq_false (by omega)
            go_wp2
            go_round
            case rel => exact ⟨k + 1, by omega, by go_num⟩
            case measure => simp [intOf]; omega
          · have hlt2 : ¬ (k : Int) < (es.size : Int) := by omega
            go_wp2_with fail
            refine (K8.out _).mono ?_
            rintro e w8 ⟨v8, g8, rfl, hI8, hg8, hb8⟩
            have hb8' := hb7'.trans (hb8.mono hb7'.size)
            clear hI8 hg8 hb8 hb7' K8
            go_wp2_with fail
            refine (K9.out _ (tabs_over HT.out hb8')).mono ?_
            rintro e w9 ⟨rfl, hb9⟩
            have hb9' := hb8'.trans (hb9.mono hb8'.size)
            clear hb8' hb9 K9
            cases os
            · have hbe := hnone2.out rfl
              have hbe1 : es.toList.isEmpty = true := by rw [hbe]; rfl
              have hbe2 : (es.toList == []) = true := by rw [hbe]; rfl
              obtain ⟨yy, bb, hr⟩ : ∃ yy bb, getRes pt = .tuple #[.string yy, .bool bb] := by
                unfold getRes
                split
                · exact ⟨_, _, rfl⟩
                · exact ⟨_, _, rfl⟩
              rw [hr]
              clear hbe hr hnone2 hres
              go_wp2
              go_ret
              exact ⟨rfl, hb9'⟩
            · rw [hres.out rfl]
              have hss : (s.toList == s.toList) = true := by simp
              clear hnone2 hres
              go_wp2
              go_ret
              exact ⟨rfl, hb9'⟩
  · go_enter Tryd.func4, Tryd.ntmps4
    go_wp2_with fail
    refine (big_yes _ _ _ _ (by omega)).mono ?_
    rintro e w1 ⟨rfl, rfl⟩
    go_wp2
    go_ret
    exact ⟨rfl, Below.refl _ _⟩

end Go.Proofs.YtffglpbjbocdiaaDoor
