/- Escapes read: the contract of the program's GetEscapes. -/
import Derived.Test.YtffglpbjbocdiaaDoorProg
import Derived.Test.YtffglpbjbocdiaaDoorPlain
import Derived.Test.YtffglpbjbocdiaaDoorIndex
import Derived.Test.YtffglpbjbocdiaaDoorCut
import Derived.Test.YtffglpbjbocdiaaDoorRunePure
import Derived.Test.YtffglpbjbocdiaaDoorRuneText
import Derived.Test.YtffglpbjbocdiaaDoorNextSpec
import Derived.Test.YtffglpbjbocdiaaDoorBuild
import Derived.Test.YtffglpbjbocdiaaDoorTextOf
import Derived.Test.YtffglpbjbocdiaaDoorValid
import Derived.Test.YtffglpbjbocdiaaDoorPutEsc
import Derived.Test.YtffglpbjbocdiaaDoorGetPure
import Derived.Test.YtffglpbjbocdiaaDoorCutEsc
import Derived.Test.YtffglpbjbocdiaaDoorScopeMany
import Derived.WalkKit
import Derived.WalkMore
import Derived.WalkLawsBesides
import Derived.Lib.Hide
import Derived.IntWalk
namespace Go.Proofs.YtffglpbjbocdiaaDoor
open Go.RowKit
set_option linter.unusedVariables false

theorem getAt_plain {all : List UInt8} {k : Nat} {acc : List UInt8} (h : GetAt all k acc) : ∀ m, (∀ c ∈ (all.drop k).take m, c ≠ 92) → m ≤ (all.drop k).length → GetAt all (k + m) (acc ++ (all.drop k).take m) := by
  intro m
  induction m with
  | zero => intro _ _; simpa using h
  | succ m ih =>
    intro hc hm
    have hm2 : m < (all.drop k).length := by omega
    have h1 := ih (fun c hcm => hc c (List.take_subset_take_left _ (Nat.le_succ m) hcm)) (by omega)
    have e : all.drop (k + m) = (all.drop k)[m] :: all.drop (k + m + 1) := by
      rw [← List.drop_drop, List.drop_eq_getElem_cons hm2, List.drop_drop]
      rfl
    have h2 := getAt_on h1 e (hc _ (by rw [List.take_succ_eq_append_getElem hm2]; simp))
    rw [List.take_succ_eq_append_getElem hm2, ← List.append_assoc]
    exact h2
def bsl (s : ByteArray) : Nat := firstIn (hasB ⟨#[92]⟩) s
theorem hasB_92 (c : UInt8) : hasB ⟨#[92]⟩ c = (c == 92) := by
  unfold hasB
  show [92].contains c = _
  rw [List.contains_cons]
  show (c == 92 || false) = _
  rw [Bool.or_false]
theorem bsl_le (s : ByteArray) : bsl s ≤ s.size := by
  unfold bsl firstIn
  rw [Lib.size_eq]
  exact List.findIdx_le_length
theorem bsl_none (s : ByteArray) : ∀ c ∈ s.data.toList.take (bsl s), c ≠ 92 := by
  intro c hc e
  subst e
  obtain ⟨j, hj, hj2⟩ := List.getElem_of_mem hc
  rw [List.length_take] at hj
  rw [List.getElem_take] at hj2
  have := List.not_of_lt_findIdx (p := hasB ⟨#[92]⟩) (xs := s.data.toList) (i := j) (by unfold bsl firstIn at hj; omega)
  rw [hj2, hasB_92] at this
  simp at this
theorem bsl_at (s : ByteArray) (h : bsl s < s.size) : (s.data.toList.drop (bsl s))[0]? = some 92 := by
  have h2 : bsl s < s.data.toList.length := by rw [← Lib.size_eq]; exact h
  have := List.findIdx_getElem (p := hasB ⟨#[92]⟩) (xs := s.data.toList) (w := by unfold bsl firstIn at h2; exact h2)
  rw [hasB_92] at this
  have e : s.data.toList[bsl s] = 92 := eq_of_beq this
  rw [List.getElem?_drop, Nat.add_zero, List.getElem?_eq_getElem h2, e]

theorem kind_first {a : Nat} (h : 55296 ≤ a ∧ a ≤ 56319) : kindI a = 2 := by
  unfold kindI
  rw [if_neg (by omega), sgn_false (r := (a : Int)) (by omega), if_neg (by decide), if_pos (by omega)]
theorem kind_second {a : Nat} (h : 56320 ≤ a ∧ a ≤ 57343) : kindI a = 3 := by
  unfold kindI
  rw [if_neg (by omega), sgn_false (r := (a : Int)) (by omega), if_neg (by decide), if_neg (by omega)]
theorem kind_one {a : Nat} (h1 : a < 65536) (h : ¬ (55296 ≤ a ∧ a ≤ 56319)) (h2 : ¬ (56320 ≤ a ∧ a ≤ 57343)) : kindI a = 1 ∧ sgn (a : Int) = true := by
  have hs := sgn_true (r := (a : Int)) (by omega) (by omega)
  unfold kindI
  rw [if_neg (by omega), if_pos hs]
  exact ⟨rfl, hs⟩

def strLen : Value → Nat
  | .string s => s.size
  | _ => 0
/-- what every pass lowers -/
def gMu (l : Nat) (a : Act) (_ : World) : Nat := if l = 0 then 0 else 1 + strLen (a.tmps.getD 0 undef)
/-- how far it is at the label of plain text -/
structure InText (all : ByteArray) (w w' : World) (st : ByteArray) : Prop where
  pos : ∃ (k : Nat) (acc : List UInt8), k ≤ all.size ∧ acc.length ≤ k ∧ st.data.toList = all.data.toList.drop k ∧ GetAt all.data.toList k acc ∧ BuiltF w.heap.size w.heap.size acc w'
  ok : (signsL all.data.toList).isSome = true
  below : Below w.heap.size w w'
  more : w.heap.size < w'.heap.size
/-- how far it is at the label of a pair's second half -/
structure InPair (all : ByteArray) (w w' : World) (st : ByteArray) (f : Int) : Prop where
  pos : ∃ (k n : Nat) (acc : List UInt8), k + 6 ≤ all.size ∧ acc.length ≤ k ∧ st.data.toList = all.data.toList.drop (k + 6) ∧ GetAt all.data.toList k acc ∧ BuiltF w.heap.size w.heap.size acc w' ∧ f = n ∧
    (55296 ≤ n ∧ n ≤ 56319) ∧ fourE (all.data.toList.drop k) = some n ∧ (all.data.toList.drop k)[0]? = some 92 ∧ (all.data.toList.drop k)[1]? ≠ some 92
  ok : (signsL all.data.toList).isSome = true
  below : Below w.heap.size w w'
  more : w.heap.size < w'.heap.size

/-- what holds at each label -/
def GJ (all : ByteArray) (w : World) : Nat → Act → World → Prop
  | 0, a, w' => ∃ (st : ByteArray) (u1 u5 u6 u7 u8 u9 u10 u11 u12 u13 u14 u15 u16 u17 u18 u19 u20 u21 u22 u23 u24 u25 u26 u27 u28 u29 u30 u31 u32 u33 u34 u35 u36 u37 u38 u39 u40 u41 u42 u43 u44 u45 u46 u47 u48 u49 u50 u51 u52 u53 u54 : Value), a = { tmps := #[.string st, u1, .string ⟨#[]⟩, .bool false, .pointer (some ⟨w.heap.size, 0, none⟩), u5, u6, u7, u8, u9, u10, u11, u12, u13, u14, u15, u16, u17, u18, u19, u20, u21, u22, u23, u24, u25, u26, u27, u28, u29, u30, u31, u32, u33, u34, u35, u36, u37, u38, u39, u40, u41, u42, u43, u44, u45, u46, u47, u48, u49, u50, u51, u52, u53, u54], defers := [] } ∧ getRes all.data.toList = .tuple #[.string ⟨#[]⟩, .bool false] ∧ Below w.heap.size w w'
  | 1, a, w' => ∃ (st : ByteArray) (u1 u5 u6 u7 u8 u9 u10 u11 u12 u13 u14 u15 u16 u17 u18 u19 u20 u21 u22 u23 u24 u25 u26 u27 u28 u29 u30 u31 u32 u33 u34 u35 u36 u37 u38 u39 u40 u41 u42 u43 u44 u45 u46 u47 u48 u49 u50 u51 u52 u53 u54 : Value), a = { tmps := #[.string st, u1, .string ⟨#[]⟩, .bool false, .pointer (some ⟨w.heap.size, 0, none⟩), u5, u6, u7, u8, u9, u10, u11, u12, u13, u14, u15, u16, u17, u18, u19, u20, u21, u22, u23, u24, u25, u26, u27, u28, u29, u30, u31, u32, u33, u34, u35, u36, u37, u38, u39, u40, u41, u42, u43, u44, u45, u46, u47, u48, u49, u50, u51, u52, u53, u54], defers := [] } ∧ InText all w w' st
  | 2, a, w' => ∃ (st : ByteArray) (f : Int) (u1 u5 u6 u8 u9 u10 u11 u12 u13 u14 u15 u16 u17 u18 u19 u20 u21 u22 u23 u24 u25 u26 u27 u28 u29 u30 u31 u32 u33 u34 u35 u36 u37 u38 u39 u40 u41 u42 u43 u44 u45 u46 u47 u48 u49 u50 u51 u52 u53 u54 : Value), a = { tmps := #[.string st, u1, .string ⟨#[]⟩, .bool false, .pointer (some ⟨w.heap.size, 0, none⟩), u5, u6, .int .i64 f, u8, u9, u10, u11, u12, u13, u14, u15, u16, u17, u18, u19, u20, u21, u22, u23, u24, u25, u26, u27, u28, u29, u30, u31, u32, u33, u34, u35, u36, u37, u38, u39, u40, u41, u42, u43, u44, u45, u46, u47, u48, u49, u50, u51, u52, u53, u54], defers := [] } ∧ InPair all w w' st f
  | _, _, _ => False

set_option maxRecDepth 100000 in
set_option maxHeartbeats 4000000 in
theorem get_impl (s : ByteArray) (hs : (s.size : Int) ≤ 1048576) (w : World) (hT : TabsV w) :
    Calls Tryd.prog 21 #[.string s] w fun e w' => e = .returned (getRes s.data.toList) ∧ Below w.heap.size w w' := by
  have HT := Lib.hid hT
  have h0 : BuiltF w.heap.size w.heap.size [] (w.alloc (.cells #[.pointer none, .slice none 0 0] 46)) := Lib.IsBuilderF.of (Lib.fresh_isBuilder 46 5 w)
  have H0 := Lib.hid h0
  clear h0 hT
  go_enter Tryd.func21, Tryd.ntmps21
  go_wp2
  refine wp_scope_many (GJ s w) gMu ?_ ?_
  · have hb0 : Below w.heap.size w (w.alloc (.cells #[.pointer none, .slice none 0 0] 46)) := (Below.refl _ _).alloc (Nat.le_refl _) _
    have hmore0 : w.heap.size < (w.alloc (.cells #[.pointer none, .slice none 0 0] 46)).heap.size := by simp
    go_wp2_with fail
    refine (valid_lib s _ (by omega) (tabs_over HT.out hb0)).mono ?_
    rintro e W0 ⟨rfl, hb1⟩
    have HB0 := Lib.hid (built_over H0.out hb1)
    have hbw := hb0.trans (hb1.mono hb0.size)
    have hmw : w.heap.size < W0.heap.size := by have := hb1.size; omega
    clear H0 hb0 hmore0 hb1
    cases ho : (signsL s.data.toList).isSome
    · have h3 := Lib.hid (getRes_wrong ho)
      clear ho
      go_wp2
      go_step3
      exact ⟨s, _, _, _, _, _, _, _, _, _, _, _, _, _, _, _, _, _, _, _, _, _, _, _, _, _, _, _, _, _, _, _, _, _, _, _, _, _, _, _, _, _, _, _, _, _, _, _, _, _, _, _, rfl, h3.out, hbw⟩
    · have HO := Lib.hid ho
      clear ho
      have hIT : InText s w W0 s := ⟨⟨0, [], Nat.zero_le _, Nat.le_refl _, rfl, getAt_zero _, HB0.out⟩, HO.out, hbw, hmw⟩
      clear HB0 hbw hmw
      go_wp2
      go_step3
      generalize hv : Value.string s = vs
      obtain ⟨st, rfl, hsts⟩ : ∃ st, vs = Value.string st ∧ st = s := ⟨s, hv.symm, rfl⟩
      have hIT2 : InText s w W0 st := by rw [hsts]; exact hIT
      clear hIT hv hsts
      have hIT := hIT2
      clear hIT2
      obtain ⟨⟨k, acc, hk, hak, hst, hat, hB⟩, ok, hb, hmore⟩ := hIT
      have OK := Lib.hid ok
      have hszs : Hid (st.size + k = s.size) := by
        unfold Hid
        have h1 := congrArg List.length hst
        rw [List.length_drop, ← Lib.size_eq, ← Lib.size_eq] at h1
        omega
      have hm := bsl_le st
      have KC := Lib.hid (cutAt_impl st ⟨#[92]⟩ W0 (by have := hszs.out; omega) (by decide))
      have hbn := Lib.hid (bsl_none st)
      have HST := Lib.hid hst
      have HAT := Lib.hid hat
      have HB := Lib.hid hB
      have hstz : (st.size : Int) ≤ 1048576 := by have := hszs.out; omega
      clear hst hat hB ok
      by_cases hmz : bsl st < st.size
      · have HC : Hid (cutRes st (firstIn (hasB ⟨#[92]⟩) st) = .tuple #[.string (st.extract 0 (bsl st)), .string (st.extract (bsl st + 1) st.size), .bool true]) := by
          unfold Hid cutRes; exact if_pos hmz
        have h92 := Lib.hid (bsl_at st hmz)
        obtain ⟨p, hp⟩ : ∃ p, st.extract 0 (bsl st) = p := ⟨_, rfl⟩
        have hpl : p.data.toList = st.data.toList.take (bsl st) := by rw [← hp, extract_toList]; rfl
        have hps : p.size = bsl st := by rw [Lib.size_eq, hpl, List.length_take, ← Lib.size_eq]; omega
        rw [hp] at HC
        have HPL := Lib.hid hpl
        have HPS := Lib.hid hps
        have hp1 : (p.size : Int) ≤ (st.size : Int) := by omega
        have hl2 : Hid ((st.extract p.size st.size).data.toList = s.data.toList.drop (k + bsl st)) := by
          unfold Hid; rw [extract_rest, hps, HST.out, List.drop_drop]
        have hat2 : Hid (GetAt s.data.toList (k + bsl st) (acc ++ p.data.toList)) := by
          unfold Hid
          rw [hpl, HST.out]
          refine getAt_plain HAT.out _ (by rw [← HST.out]; exact hbn.out) (by rw [← HST.out, ← Lib.size_eq]; exact hm)
        have h0at : Hid ((s.data.toList.drop (k + bsl st))[0]? = some 92) := by
          unfold Hid; rw [← List.drop_drop, ← HST.out]; exact h92.out
        have hsz2 : Hid ((st.extract p.size st.size).size + bsl st = st.size) := by
          unfold Hid; rw [Lib.size_eq, extract_rest, List.length_drop, ← Lib.size_eq, hps]; omega
        have hne : (st.extract p.size st.size).toList ≠ [] := by
          rw [Lib.toList_data, extract_rest, hps]
          intro e
          have := congrArg List.length e
          rw [List.length_drop, ← Lib.size_eq] at this
          simp at this
          omega
        have hne1 : (st.extract p.size st.size).toList.isEmpty = false := by simpa using hne
        have hne2 : ((st.extract p.size st.size).toList == []) = false := by simpa using hne
        have hap : Hid (acc.length + p.size ≤ k + bsl st) := by unfold Hid; omega
        clear hp hpl hps hne
        go_wp2_with fail
        refine KC.out.mono ?_
        rintro e w1 ⟨rfl, n1, rfl⟩
        rw [HC.out]
        have hbd : Below W0.heap.size W0 (W0.drewN n1) := drewQ n1
        have HB1 := Lib.hid (built_over HB.out hbd)
        have hb1 := hb.trans (hbd.mono hb.size)
        have hmore1 : w.heap.size < (W0.drewN n1).heap.size := by have := hbd.size; omega
        generalize W0.drewN n1 = w1 at *
        clear hbd HB hb
        go_wp2_with fail
        refine (built_write w.heap.size w.heap.size acc p _ HB1.out (by have := hszs.out; omega) (by omega)).mono ?_
        rintro e w2 ⟨rfl, hB2, hb2, hk2⟩
        have hb3 := hb1.trans hb2
        have hmore2 : w.heap.size < w2.heap.size := by have := hb2.size; omega
        have HB2 := Lib.hid hB2
        clear hB2 hk2 hb2 hb1 HB1
        go_wp2_with fail
        refine (cutEscape_impl _ (by have := hsz2.out; omega) _).mono ?_
        rintro e w3 ⟨u, kd, rest, rfl, hcut, hb4⟩
        rw [hl2.out] at hcut
        have HB3 := Lib.hid (built_over HB2.out hb4)
        have hb5 := hb3.trans (hb4.mono hb3.size)
        have hmore3 : w.heap.size < w3.heap.size := by have := hb4.size; omega
        have hBl : Hid ((acc ++ p.data.toList).length ≤ k + bsl st) := by unfold Hid; rw [List.length_append, ← Lib.size_eq]; exact hap.out
        have hLs := Lib.hid (Lib.size_eq s)
        clear HB2 hb4 hb3
        rcases hcut with ⟨t, ht, rfl, rfl, hrest⟩ | ⟨hn, hf, rfl⟩ | ⟨hn, a, hf, rfl, rfl, hrest⟩
        · have hrl : rest.data.toList = s.data.toList.drop (k + bsl st + 2) := by rw [hrest, ← List.drop_drop, ht]; rfl
          have hrs : Hid (rest.size + 2 + bsl st = st.size ∧ k + bsl st + 2 ≤ s.size) := by
            unfold Hid
            have h1 := congrArg List.length hrl
            have h2 := congrArg List.length ht
            rw [List.length_drop, ← Lib.size_eq, ← Lib.size_eq] at h1
            rw [List.length_drop, ← Lib.size_eq] at h2
            simp only [List.length_cons] at h2
            have := hszs.out
            omega
          have hat3 := Lib.hid (getAt_two hat2.out ht)
          have HRL := Lib.hid hrl
          have hs92 : Hid (signT 92 = [92]) := rfl
          clear ht hrest hrl
          go_wp2_with fail
          refine (signText_impl 92 _).mono ?_
          rintro e w4 ⟨rfl, rfl⟩
          rw [hs92.out]
          go_wp2_with fail
          refine (built_write w.heap.size w.heap.size (acc ++ p.data.toList) ⟨([92]).toArray⟩ _ HB3.out (by rw [toList_size]; have := hBl.out; have := (show ([92] : List UInt8).length = 1 from rfl); have := hszs.out; omega) (by omega)).mono ?_
          rintro e w4 ⟨rfl, hB4, hb6, _⟩
          have HB4 := Lib.hid hB4
          have hb7 := hb5.trans hb6
          have hmore4 : w.heap.size < w4.heap.size := by have := hb6.size; omega
          clear hB4 hb6 hb5 HB3
          go_wp2
          go_step3
          first
            | exact ⟨rest, _, _, _, _, _, _, _, _, _, _, _, _, _, _, _, _, _, _, _, _, _, _, _, _, _, _, _, _, _, _, _, _, _, _, _, _, _, _, _, _, _, _, _, _, _, _, _, _, _, _, _, rfl, ⟨⟨k + bsl st + 2, acc ++ p.data.toList ++ [92], hrs.out.2, by rw [List.length_append]; have := hBl.out; have h92l : ([92] : List UInt8).length = 1 := rfl; omega, HRL.out, hat3.out, HB4.out⟩, OK.out, hb7, hmore4⟩⟩
            | exact ⟨⟨rest, _, _, _, _, _, _, _, _, _, _, _, _, _, _, _, _, _, _, _, _, _, _, _, _, _, _, _, _, _, _, _, _, _, _, _, _, _, _, _, _, _, _, _, _, _, _, _, _, _, _, _, rfl, ⟨⟨k + bsl st + 2, acc ++ p.data.toList ++ [92], hrs.out.2, by rw [List.length_append]; have := hBl.out; have h92l : ([92] : List UInt8).length = 1 := rfl; omega, HRL.out, hat3.out, HB4.out⟩, OK.out, hb7, hmore4⟩⟩, by have h9 := hrs.out; rw [HGM.out]; simp [gMu, strLen]; omega⟩
        · have h3 := Lib.hid (getRes_bad OK.out (getAt_bad hat2.out h0at.out (fun e => hn ⟨h0at.out, e⟩) (escape_none_four hf)))
          clear hn hf
          go_wp2
          go_step3
          first
            | exact ⟨rest, _, _, _, _, _, _, _, _, _, _, _, _, _, _, _, _, _, _, _, _, _, _, _, _, _, _, _, _, _, _, _, _, _, _, _, _, _, _, _, _, _, _, _, _, _, _, _, _, _, _, _, rfl, h3.out, hb5⟩
            | exact ⟨⟨rest, _, _, _, _, _, _, _, _, _, _, _, _, _, _, _, _, _, _, _, _, _, _, _, _, _, _, _, _, _, _, _, _, _, _, _, _, _, _, _, _, _, _, _, _, _, _, _, _, _, _, _, rfl, h3.out, hb5⟩, by rw [HGM.out]; simp [gMu]; omega⟩
        · have ha := four_lt hf
          have hn1 : Hid ((s.data.toList.drop (k + bsl st))[1]? ≠ some 92) := fun e => hn ⟨h0at.out, e⟩
          have h6 := four_len hf
          have hrl : rest.data.toList = s.data.toList.drop (k + bsl st + 6) := by rw [hrest, List.drop_drop]
          have hrs : Hid (rest.size + 6 + bsl st = st.size ∧ k + bsl st + 6 ≤ s.size) := by
            unfold Hid
            have h1 := congrArg List.length hrl
            rw [List.length_drop, ← Lib.size_eq, ← Lib.size_eq] at h1
            rw [List.length_drop, ← Lib.size_eq] at h6
            have := hszs.out
            omega
          have HRL := Lib.hid hrl
          have HF := Lib.hid hf
          clear hn hrest hrl hf h6
          by_cases g2 : 56320 ≤ a ∧ a ≤ 57343
          · have h3 := Lib.hid (getRes_bad OK.out (getAt_bad hat2.out h0at.out hn1.out (escape_second HF.out g2)))
            rw [kind_second g2]
            clear g2 ha
            generalize (a : Int) = az at *
            go_wp2
            go_step3
            first
              | exact ⟨rest, _, _, _, _, _, _, _, _, _, _, _, _, _, _, _, _, _, _, _, _, _, _, _, _, _, _, _, _, _, _, _, _, _, _, _, _, _, _, _, _, _, _, _, _, _, _, _, _, _, _, _, rfl, h3.out, hb5⟩
              | exact ⟨⟨rest, _, _, _, _, _, _, _, _, _, _, _, _, _, _, _, _, _, _, _, _, _, _, _, _, _, _, _, _, _, _, _, _, _, _, _, _, _, _, _, _, _, _, _, _, _, _, _, _, _, _, _, rfl, h3.out, hb5⟩, by rw [HGM.out]; simp [gMu]; omega⟩
          · by_cases g1 : 55296 ≤ a ∧ a ≤ 56319
            · rw [kind_first g1]
              have hIP : InPair s w w3 rest (a : Int) := ⟨⟨k + bsl st, a, acc ++ p.data.toList, hrs.out.2, hBl.out, HRL.out, hat2.out, HB3.out, rfl, g1, HF.out, h0at.out, hn1.out⟩, OK.out, hb5, hmore3⟩
              have HIP := Lib.hid hIP
              clear hIP g1 g2 ha HF
              generalize (a : Int) = az at *
              go_wp2
              go_step3
              first
                | exact ⟨rest, az, _, _, _, _, _, _, _, _, _, _, _, _, _, _, _, _, _, _, _, _, _, _, _, _, _, _, _, _, _, _, _, _, _, _, _, _, _, _, _, _, _, _, _, _, _, _, _, _, _, _, rfl, HIP.out⟩
                | exact ⟨⟨rest, az, _, _, _, _, _, _, _, _, _, _, _, _, _, _, _, _, _, _, _, _, _, _, _, _, _, _, _, _, _, _, _, _, _, _, _, _, _, _, _, _, _, _, _, _, _, _, _, _, _, _, rfl, HIP.out⟩, by have h9 := hrs.out; rw [HGM.out]; simp [gMu, strLen]; omega⟩
            · obtain ⟨hk1, hsg⟩ := kind_one ha g1 g2
              rw [hk1]
              have hat3 := Lib.hid (getAt_escape hat2.out h0at.out hn1.out (escape_one HF.out g2 g1))
              have hsT := Lib.hid (signT_good hsg)
              have hp4 := Lib.hid (signB_pos a)
              clear hk1 hsg g1 g2 ha HF
              generalize signB a = tx at *
              generalize (a : Int) = az at *
              go_wp2_with fail
              refine (signText_impl az _).mono ?_
              rintro e w4 ⟨rfl, rfl⟩
              rw [hsT.out]
              go_wp2_with fail
              refine (built_write w.heap.size w.heap.size (acc ++ p.data.toList) ⟨(tx).toArray⟩ _ HB3.out (by rw [toList_size]; have := hBl.out; have := hp4.out.2; have := hszs.out; omega) (by omega)).mono ?_
              rintro e w4 ⟨rfl, hB4, hb6, _⟩
              have HB4 := Lib.hid hB4
              have hb7 := hb5.trans hb6
              have hmore4 : w.heap.size < w4.heap.size := by have := hb6.size; omega
              clear hB4 hb6 hb5 HB3
              go_wp2
              go_step3
              first
                | exact ⟨rest, _, _, _, _, _, _, _, _, _, _, _, _, _, _, _, _, _, _, _, _, _, _, _, _, _, _, _, _, _, _, _, _, _, _, _, _, _, _, _, _, _, _, _, _, _, _, _, _, _, _, _, rfl, ⟨⟨k + bsl st + 6, acc ++ p.data.toList ++ tx, hrs.out.2, by rw [List.length_append]; have := hBl.out; have := hp4.out.2; omega, HRL.out, hat3.out, HB4.out⟩, OK.out, hb7, hmore4⟩⟩
                | exact ⟨⟨rest, _, _, _, _, _, _, _, _, _, _, _, _, _, _, _, _, _, _, _, _, _, _, _, _, _, _, _, _, _, _, _, _, _, _, _, _, _, _, _, _, _, _, _, _, _, _, _, _, _, _, _, rfl, ⟨⟨k + bsl st + 6, acc ++ p.data.toList ++ tx, hrs.out.2, by rw [List.length_append]; have := hBl.out; have := hp4.out.2; omega, HRL.out, hat3.out, HB4.out⟩, OK.out, hb7, hmore4⟩⟩, by have h9 := hrs.out; rw [HGM.out]; simp [gMu, strLen]; omega⟩
      · have hms : bsl st = st.size := by omega
        have HC : Hid (cutRes st (firstIn (hasB ⟨#[92]⟩) st) = .tuple #[.string st, .string ⟨#[]⟩, .bool false]) := by
          unfold Hid cutRes; exact if_neg hmz
        have hall : st.data.toList.take (bsl st) = st.data.toList := by rw [hms]; exact Pl.take_all st
        have hat2 : Hid (GetAt s.data.toList (k + st.size) (acc ++ st.data.toList)) := by
          unfold Hid
          have := getAt_plain HAT.out (bsl st) (by rw [← HST.out]; exact hbn.out) (by rw [← HST.out, ← Lib.size_eq]; exact hm)
          rw [← HST.out, hall, hms] at this
          exact this
        have h3 := Lib.hid (getRes_good OK.out (getAt_end hat2.out (by rw [← Lib.size_eq]; have := hszs.out; omega)))
        have hne : (st.extract st.size st.size).toList = [] := by
          rw [Lib.toList_data, extract_rest, List.drop_of_length_le]
          rw [← Lib.size_eq]
          exact Nat.le_refl _
        have hne1 : (st.extract st.size st.size).toList.isEmpty = true := by rw [hne]; rfl
        have hne2 : ((st.extract st.size st.size).toList == []) = true := by rw [hne]; rfl
        clear hne hms hall hmz hm
        go_wp2_with fail
        refine KC.out.mono ?_
        rintro e w1 ⟨rfl, n1, rfl⟩
        rw [HC.out]
        have hbd : Below W0.heap.size W0 (W0.drewN n1) := drewQ n1
        have HB1 := Lib.hid (built_over HB.out hbd)
        have hb1 := hb.trans (hbd.mono hb.size)
        have hmore1 : w.heap.size < (W0.drewN n1).heap.size := by have := hbd.size; omega
        generalize W0.drewN n1 = w1 at *
        clear hbd HB hb
        go_wp2_with fail
        refine (built_write w.heap.size w.heap.size acc st _ HB1.out (by have := hszs.out; omega) (by omega)).mono ?_
        rintro e w2 ⟨rfl, hB2, hb2, hk2⟩
        have hb3 := hb1.trans hb2
        have hmore2 : w.heap.size < w2.heap.size := by have := hb2.size; omega
        have HB2 := Lib.hid hB2
        clear hB2 hk2 hb2 hb1 HB1
        go_wp2_with fail
        refine (built_string w.heap.size w.heap.size (acc ++ st.data.toList) _ HB2.out (by omega)).mono ?_
        rintro e w3 ⟨rfl, _, hb4, _⟩
        have hb5 := hb3.trans hb4
        clear hb4 hb3 HB2
        go_wp2
        simp only [Exit.jumps]
        go_ret2
        exact ⟨by rw [h3.out]; rfl, hb5⟩
  · intro l a' W0 hJ
    match l, hJ with
    | 0, hJ =>
      obtain ⟨st, u1, u5, u6, u7, u8, u9, u10, u11, u12, u13, u14, u15, u16, u17, u18, u19, u20, u21, u22, u23, u24, u25, u26, u27, u28, u29, u30, u31, u32, u33, u34, u35, u36, u37, u38, u39, u40, u41, u42, u43, u44, u45, u46, u47, u48, u49, u50, u51, u52, u53, u54, rfl, h3, hb5⟩ := hJ
      refine ⟨_, rfl, ?_⟩
      have H3 := Lib.hid h3
      clear h3
      go_wp2
      simp only [Exit.jumps]
      go_ret2
      exact ⟨by rw [H3.out]; rfl, hb5⟩
    | 1, hJ =>
      obtain ⟨st, u1, u5, u6, u7, u8, u9, u10, u11, u12, u13, u14, u15, u16, u17, u18, u19, u20, u21, u22, u23, u24, u25, u26, u27, u28, u29, u30, u31, u32, u33, u34, u35, u36, u37, u38, u39, u40, u41, u42, u43, u44, u45, u46, u47, u48, u49, u50, u51, u52, u53, u54, rfl, hIT⟩ := hJ
      refine ⟨_, rfl, ?_⟩
      generalize hgm : gMu 1 _ W0 = gm
      have HGM : Hid (gm = 1 + st.size) := hgm.symm
      clear hgm
      obtain ⟨⟨k, acc, hk, hak, hst, hat, hB⟩, ok, hb, hmore⟩ := hIT
      have OK := Lib.hid ok
      have hszs : Hid (st.size + k = s.size) := by
        unfold Hid
        have h1 := congrArg List.length hst
        rw [List.length_drop, ← Lib.size_eq, ← Lib.size_eq] at h1
        omega
      have hm := bsl_le st
      have KC := Lib.hid (cutAt_impl st ⟨#[92]⟩ W0 (by have := hszs.out; omega) (by decide))
      have hbn := Lib.hid (bsl_none st)
      have HST := Lib.hid hst
      have HAT := Lib.hid hat
      have HB := Lib.hid hB
      have hstz : (st.size : Int) ≤ 1048576 := by have := hszs.out; omega
      clear hst hat hB ok
      by_cases hmz : bsl st < st.size
      · have HC : Hid (cutRes st (firstIn (hasB ⟨#[92]⟩) st) = .tuple #[.string (st.extract 0 (bsl st)), .string (st.extract (bsl st + 1) st.size), .bool true]) := by
          unfold Hid cutRes; exact if_pos hmz
        have h92 := Lib.hid (bsl_at st hmz)
        obtain ⟨p, hp⟩ : ∃ p, st.extract 0 (bsl st) = p := ⟨_, rfl⟩
        have hpl : p.data.toList = st.data.toList.take (bsl st) := by rw [← hp, extract_toList]; rfl
        have hps : p.size = bsl st := by rw [Lib.size_eq, hpl, List.length_take, ← Lib.size_eq]; omega
        rw [hp] at HC
        have HPL := Lib.hid hpl
        have HPS := Lib.hid hps
        have hp1 : (p.size : Int) ≤ (st.size : Int) := by omega
        have hl2 : Hid ((st.extract p.size st.size).data.toList = s.data.toList.drop (k + bsl st)) := by
          unfold Hid; rw [extract_rest, hps, HST.out, List.drop_drop]
        have hat2 : Hid (GetAt s.data.toList (k + bsl st) (acc ++ p.data.toList)) := by
          unfold Hid
          rw [hpl, HST.out]
          refine getAt_plain HAT.out _ (by rw [← HST.out]; exact hbn.out) (by rw [← HST.out, ← Lib.size_eq]; exact hm)
        have h0at : Hid ((s.data.toList.drop (k + bsl st))[0]? = some 92) := by
          unfold Hid; rw [← List.drop_drop, ← HST.out]; exact h92.out
        have hsz2 : Hid ((st.extract p.size st.size).size + bsl st = st.size) := by
          unfold Hid; rw [Lib.size_eq, extract_rest, List.length_drop, ← Lib.size_eq, hps]; omega
        have hne : (st.extract p.size st.size).toList ≠ [] := by
          rw [Lib.toList_data, extract_rest, hps]
          intro e
          have := congrArg List.length e
          rw [List.length_drop, ← Lib.size_eq] at this
          simp at this
          omega
        have hne1 : (st.extract p.size st.size).toList.isEmpty = false := by simpa using hne
        have hne2 : ((st.extract p.size st.size).toList == []) = false := by simpa using hne
        have hap : Hid (acc.length + p.size ≤ k + bsl st) := by unfold Hid; omega
        clear hp hpl hps hne
        go_wp2_with fail
        refine KC.out.mono ?_
        rintro e w1 ⟨rfl, n1, rfl⟩
        rw [HC.out]
        have hbd : Below W0.heap.size W0 (W0.drewN n1) := drewQ n1
        have HB1 := Lib.hid (built_over HB.out hbd)
        have hb1 := hb.trans (hbd.mono hb.size)
        have hmore1 : w.heap.size < (W0.drewN n1).heap.size := by have := hbd.size; omega
        generalize W0.drewN n1 = w1 at *
        clear hbd HB hb
        go_wp2_with fail
        refine (built_write w.heap.size w.heap.size acc p _ HB1.out (by have := hszs.out; omega) (by omega)).mono ?_
        rintro e w2 ⟨rfl, hB2, hb2, hk2⟩
        have hb3 := hb1.trans hb2
        have hmore2 : w.heap.size < w2.heap.size := by have := hb2.size; omega
        have HB2 := Lib.hid hB2
        clear hB2 hk2 hb2 hb1 HB1
        go_wp2_with fail
        refine (cutEscape_impl _ (by have := hsz2.out; omega) _).mono ?_
        rintro e w3 ⟨u, kd, rest, rfl, hcut, hb4⟩
        rw [hl2.out] at hcut
        have HB3 := Lib.hid (built_over HB2.out hb4)
        have hb5 := hb3.trans (hb4.mono hb3.size)
        have hmore3 : w.heap.size < w3.heap.size := by have := hb4.size; omega
        have hBl : Hid ((acc ++ p.data.toList).length ≤ k + bsl st) := by unfold Hid; rw [List.length_append, ← Lib.size_eq]; exact hap.out
        have hLs := Lib.hid (Lib.size_eq s)
        clear HB2 hb4 hb3
        rcases hcut with ⟨t, ht, rfl, rfl, hrest⟩ | ⟨hn, hf, rfl⟩ | ⟨hn, a, hf, rfl, rfl, hrest⟩
        · have hrl : rest.data.toList = s.data.toList.drop (k + bsl st + 2) := by rw [hrest, ← List.drop_drop, ht]; rfl
          have hrs : Hid (rest.size + 2 + bsl st = st.size ∧ k + bsl st + 2 ≤ s.size) := by
            unfold Hid
            have h1 := congrArg List.length hrl
            have h2 := congrArg List.length ht
            rw [List.length_drop, ← Lib.size_eq, ← Lib.size_eq] at h1
            rw [List.length_drop, ← Lib.size_eq] at h2
            simp only [List.length_cons] at h2
            have := hszs.out
            omega
          have hat3 := Lib.hid (getAt_two hat2.out ht)
          have HRL := Lib.hid hrl
          have hs92 : Hid (signT 92 = [92]) := rfl
          clear ht hrest hrl
          go_wp2_with fail
          refine (signText_impl 92 _).mono ?_
          rintro e w4 ⟨rfl, rfl⟩
          rw [hs92.out]
          go_wp2_with fail
          refine (built_write w.heap.size w.heap.size (acc ++ p.data.toList) ⟨([92]).toArray⟩ _ HB3.out (by rw [toList_size]; have := hBl.out; have := (show ([92] : List UInt8).length = 1 from rfl); have := hszs.out; omega) (by omega)).mono ?_
          rintro e w4 ⟨rfl, hB4, hb6, _⟩
          have HB4 := Lib.hid hB4
          have hb7 := hb5.trans hb6
          have hmore4 : w.heap.size < w4.heap.size := by have := hb6.size; omega
          clear hB4 hb6 hb5 HB3
          go_wp2
          go_step3
          first
            | exact ⟨rest, _, _, _, _, _, _, _, _, _, _, _, _, _, _, _, _, _, _, _, _, _, _, _, _, _, _, _, _, _, _, _, _, _, _, _, _, _, _, _, _, _, _, _, _, _, _, _, _, _, _, _, rfl, ⟨⟨k + bsl st + 2, acc ++ p.data.toList ++ [92], hrs.out.2, by rw [List.length_append]; have := hBl.out; have h92l : ([92] : List UInt8).length = 1 := rfl; omega, HRL.out, hat3.out, HB4.out⟩, OK.out, hb7, hmore4⟩⟩
            | exact ⟨⟨rest, _, _, _, _, _, _, _, _, _, _, _, _, _, _, _, _, _, _, _, _, _, _, _, _, _, _, _, _, _, _, _, _, _, _, _, _, _, _, _, _, _, _, _, _, _, _, _, _, _, _, _, rfl, ⟨⟨k + bsl st + 2, acc ++ p.data.toList ++ [92], hrs.out.2, by rw [List.length_append]; have := hBl.out; have h92l : ([92] : List UInt8).length = 1 := rfl; omega, HRL.out, hat3.out, HB4.out⟩, OK.out, hb7, hmore4⟩⟩, by have h9 := hrs.out; rw [HGM.out]; simp [gMu, strLen]; omega⟩
        · have h3 := Lib.hid (getRes_bad OK.out (getAt_bad hat2.out h0at.out (fun e => hn ⟨h0at.out, e⟩) (escape_none_four hf)))
          clear hn hf
          go_wp2
          go_step3
          first
            | exact ⟨rest, _, _, _, _, _, _, _, _, _, _, _, _, _, _, _, _, _, _, _, _, _, _, _, _, _, _, _, _, _, _, _, _, _, _, _, _, _, _, _, _, _, _, _, _, _, _, _, _, _, _, _, rfl, h3.out, hb5⟩
            | exact ⟨⟨rest, _, _, _, _, _, _, _, _, _, _, _, _, _, _, _, _, _, _, _, _, _, _, _, _, _, _, _, _, _, _, _, _, _, _, _, _, _, _, _, _, _, _, _, _, _, _, _, _, _, _, _, rfl, h3.out, hb5⟩, by rw [HGM.out]; simp [gMu]; omega⟩
        · have ha := four_lt hf
          have hn1 : Hid ((s.data.toList.drop (k + bsl st))[1]? ≠ some 92) := fun e => hn ⟨h0at.out, e⟩
          have h6 := four_len hf
          have hrl : rest.data.toList = s.data.toList.drop (k + bsl st + 6) := by rw [hrest, List.drop_drop]
          have hrs : Hid (rest.size + 6 + bsl st = st.size ∧ k + bsl st + 6 ≤ s.size) := by
            unfold Hid
            have h1 := congrArg List.length hrl
            rw [List.length_drop, ← Lib.size_eq, ← Lib.size_eq] at h1
            rw [List.length_drop, ← Lib.size_eq] at h6
            have := hszs.out
            omega
          have HRL := Lib.hid hrl
          have HF := Lib.hid hf
          clear hn hrest hrl hf h6
          by_cases g2 : 56320 ≤ a ∧ a ≤ 57343
          · have h3 := Lib.hid (getRes_bad OK.out (getAt_bad hat2.out h0at.out hn1.out (escape_second HF.out g2)))
            rw [kind_second g2]
            clear g2 ha
            generalize (a : Int) = az at *
            go_wp2
            go_step3
            first
              | exact ⟨rest, _, _, _, _, _, _, _, _, _, _, _, _, _, _, _, _, _, _, _, _, _, _, _, _, _, _, _, _, _, _, _, _, _, _, _, _, _, _, _, _, _, _, _, _, _, _, _, _, _, _, _, rfl, h3.out, hb5⟩
              | exact ⟨⟨rest, _, _, _, _, _, _, _, _, _, _, _, _, _, _, _, _, _, _, _, _, _, _, _, _, _, _, _, _, _, _, _, _, _, _, _, _, _, _, _, _, _, _, _, _, _, _, _, _, _, _, _, rfl, h3.out, hb5⟩, by rw [HGM.out]; simp [gMu]; omega⟩
          · by_cases g1 : 55296 ≤ a ∧ a ≤ 56319
            · rw [kind_first g1]
              have hIP : InPair s w w3 rest (a : Int) := ⟨⟨k + bsl st, a, acc ++ p.data.toList, hrs.out.2, hBl.out, HRL.out, hat2.out, HB3.out, rfl, g1, HF.out, h0at.out, hn1.out⟩, OK.out, hb5, hmore3⟩
              have HIP := Lib.hid hIP
              clear hIP g1 g2 ha HF
              generalize (a : Int) = az at *
              go_wp2
              go_step3
              first
                | exact ⟨rest, az, _, _, _, _, _, _, _, _, _, _, _, _, _, _, _, _, _, _, _, _, _, _, _, _, _, _, _, _, _, _, _, _, _, _, _, _, _, _, _, _, _, _, _, _, _, _, _, _, _, _, rfl, HIP.out⟩
                | exact ⟨⟨rest, az, _, _, _, _, _, _, _, _, _, _, _, _, _, _, _, _, _, _, _, _, _, _, _, _, _, _, _, _, _, _, _, _, _, _, _, _, _, _, _, _, _, _, _, _, _, _, _, _, _, _, rfl, HIP.out⟩, by have h9 := hrs.out; rw [HGM.out]; simp [gMu, strLen]; omega⟩
            · obtain ⟨hk1, hsg⟩ := kind_one ha g1 g2
              rw [hk1]
              have hat3 := Lib.hid (getAt_escape hat2.out h0at.out hn1.out (escape_one HF.out g2 g1))
              have hsT := Lib.hid (signT_good hsg)
              have hp4 := Lib.hid (signB_pos a)
              clear hk1 hsg g1 g2 ha HF
              generalize signB a = tx at *
              generalize (a : Int) = az at *
              go_wp2_with fail
              refine (signText_impl az _).mono ?_
              rintro e w4 ⟨rfl, rfl⟩
              rw [hsT.out]
              go_wp2_with fail
              refine (built_write w.heap.size w.heap.size (acc ++ p.data.toList) ⟨(tx).toArray⟩ _ HB3.out (by rw [toList_size]; have := hBl.out; have := hp4.out.2; have := hszs.out; omega) (by omega)).mono ?_
              rintro e w4 ⟨rfl, hB4, hb6, _⟩
              have HB4 := Lib.hid hB4
              have hb7 := hb5.trans hb6
              have hmore4 : w.heap.size < w4.heap.size := by have := hb6.size; omega
              clear hB4 hb6 hb5 HB3
              go_wp2
              go_step3
              first
                | exact ⟨rest, _, _, _, _, _, _, _, _, _, _, _, _, _, _, _, _, _, _, _, _, _, _, _, _, _, _, _, _, _, _, _, _, _, _, _, _, _, _, _, _, _, _, _, _, _, _, _, _, _, _, _, rfl, ⟨⟨k + bsl st + 6, acc ++ p.data.toList ++ tx, hrs.out.2, by rw [List.length_append]; have := hBl.out; have := hp4.out.2; omega, HRL.out, hat3.out, HB4.out⟩, OK.out, hb7, hmore4⟩⟩
                | exact ⟨⟨rest, _, _, _, _, _, _, _, _, _, _, _, _, _, _, _, _, _, _, _, _, _, _, _, _, _, _, _, _, _, _, _, _, _, _, _, _, _, _, _, _, _, _, _, _, _, _, _, _, _, _, _, rfl, ⟨⟨k + bsl st + 6, acc ++ p.data.toList ++ tx, hrs.out.2, by rw [List.length_append]; have := hBl.out; have := hp4.out.2; omega, HRL.out, hat3.out, HB4.out⟩, OK.out, hb7, hmore4⟩⟩, by have h9 := hrs.out; rw [HGM.out]; simp [gMu, strLen]; omega⟩
      · have hms : bsl st = st.size := by omega
        have HC : Hid (cutRes st (firstIn (hasB ⟨#[92]⟩) st) = .tuple #[.string st, .string ⟨#[]⟩, .bool false]) := by
          unfold Hid cutRes; exact if_neg hmz
        have hall : st.data.toList.take (bsl st) = st.data.toList := by rw [hms]; exact Pl.take_all st
        have hat2 : Hid (GetAt s.data.toList (k + st.size) (acc ++ st.data.toList)) := by
          unfold Hid
          have := getAt_plain HAT.out (bsl st) (by rw [← HST.out]; exact hbn.out) (by rw [← HST.out, ← Lib.size_eq]; exact hm)
          rw [← HST.out, hall, hms] at this
          exact this
        have h3 := Lib.hid (getRes_good OK.out (getAt_end hat2.out (by rw [← Lib.size_eq]; have := hszs.out; omega)))
        have hne : (st.extract st.size st.size).toList = [] := by
          rw [Lib.toList_data, extract_rest, List.drop_of_length_le]
          rw [← Lib.size_eq]
          exact Nat.le_refl _
        have hne1 : (st.extract st.size st.size).toList.isEmpty = true := by rw [hne]; rfl
        have hne2 : ((st.extract st.size st.size).toList == []) = true := by rw [hne]; rfl
        clear hne hms hall hmz hm
        go_wp2_with fail
        refine KC.out.mono ?_
        rintro e w1 ⟨rfl, n1, rfl⟩
        rw [HC.out]
        have hbd : Below W0.heap.size W0 (W0.drewN n1) := drewQ n1
        have HB1 := Lib.hid (built_over HB.out hbd)
        have hb1 := hb.trans (hbd.mono hb.size)
        have hmore1 : w.heap.size < (W0.drewN n1).heap.size := by have := hbd.size; omega
        generalize W0.drewN n1 = w1 at *
        clear hbd HB hb
        go_wp2_with fail
        refine (built_write w.heap.size w.heap.size acc st _ HB1.out (by have := hszs.out; omega) (by omega)).mono ?_
        rintro e w2 ⟨rfl, hB2, hb2, hk2⟩
        have hb3 := hb1.trans hb2
        have hmore2 : w.heap.size < w2.heap.size := by have := hb2.size; omega
        have HB2 := Lib.hid hB2
        clear hB2 hk2 hb2 hb1 HB1
        go_wp2_with fail
        refine (built_string w.heap.size w.heap.size (acc ++ st.data.toList) _ HB2.out (by omega)).mono ?_
        rintro e w3 ⟨rfl, _, hb4, _⟩
        have hb5 := hb3.trans hb4
        clear hb4 hb3 HB2
        go_wp2
        simp only [Exit.jumps]
        go_ret2
        exact ⟨by rw [h3.out]; rfl, hb5⟩
    | 2, hJ =>
      obtain ⟨st, f, u1, u5, u6, u8, u9, u10, u11, u12, u13, u14, u15, u16, u17, u18, u19, u20, u21, u22, u23, u24, u25, u26, u27, u28, u29, u30, u31, u32, u33, u34, u35, u36, u37, u38, u39, u40, u41, u42, u43, u44, u45, u46, u47, u48, u49, u50, u51, u52, u53, u54, rfl, hIP⟩ := hJ
      refine ⟨_, rfl, ?_⟩
      generalize hgm : gMu 2 _ W0 = gm
      have HGM : Hid (gm = 1 + st.size) := hgm.symm
      clear hgm
      obtain ⟨⟨k, n, acc, hk, hak, hst, hat, hB, hfn, hnn, hf, h0, h1⟩, ok, hb, hmore⟩ := hIP
      have hszs : Hid (st.size + k + 6 = s.size) := by
        unfold Hid
        have h1 := congrArg List.length hst
        rw [List.length_drop, ← Lib.size_eq, ← Lib.size_eq] at h1
        omega
      have OK := Lib.hid ok
      have HB := Lib.hid hB
      have hd : (s.data.toList.drop k).drop 6 = s.data.toList.drop (k + 6) := by rw [List.drop_drop]
      have hBad : Hid (escapeE (s.data.toList.drop k) = none → getRes s.data.toList = .tuple #[.string ⟨#[]⟩, .bool false]) := fun he => getRes_bad ok (getAt_bad hat h0 h1 he)
      have hGood : Hid (∀ b : Nat, 56320 ≤ b ∧ b ≤ 57343 → fourE (s.data.toList.drop (k + 6)) = some b → GetAt s.data.toList (k + 12) (acc ++ signB (65536 + 1024 * (n - 55296) + (b - 56320))) ∧ isSign (65536 + 1024 * (n - 55296) + (b - 56320)) = true) := fun b hb hf2 => by
        have he := escape_two hf hnn (by rw [hd]; exact hf2) hb
        exact ⟨getAt_escape hat h0 h1 he, escape_sign he⟩
      have hN1 : Hid (fourE (s.data.toList.drop (k + 6)) = none → escapeE (s.data.toList.drop k) = none) := fun h => escape_first_none hf hnn (by rw [hd]; exact h)
      have hN2 : Hid (∀ b : Nat, ¬ (56320 ≤ b ∧ b ≤ 57343) → fourE (s.data.toList.drop (k + 6)) = some b → escapeE (s.data.toList.drop k) = none) := fun b hb h => escape_first_bad hf hnn (by rw [hd]; exact h) hb
      have HST := Lib.hid hst
      have hstz : (st.size : Int) ≤ 1048576 := by have := hszs.out; omega
      have HFN := Lib.hid hfn
      have HNN := Lib.hid hnn
      have hf0 : 55296 ≤ f := by omega
      have hf1 : f ≤ 56319 := by omega
      clear hst hat hB hf h0 h1 ok hd hfn hnn
      go_wp2_with fail
      refine (cutEscape_impl st hstz _).mono ?_
      rintro e w3 ⟨u, kd, rest, rfl, hcut, hb4⟩
      rw [HST.out] at hcut
      have HB3 := Lib.hid (built_over HB.out hb4)
      have hb5 := hb.trans (hb4.mono hb.size)
      have hmore3 : w.heap.size < w3.heap.size := by have := hb4.size; omega
      clear HB hb4 hb
      rcases hcut with ⟨t, ht, rfl, rfl, hrest⟩ | ⟨hn, hf, rfl⟩ | ⟨hn, b, hf, rfl, rfl, hrest⟩
      · have h3 := Lib.hid (hBad.out (hN1.out (by rw [ht]; exact four_not _ (by rintro ⟨_, h⟩; simp at h))))
        clear ht hrest hBad hGood hN1 hN2
        go_wp2
        go_step3
        go_wp2
        simp only [Exit.jumps]
        go_ret2
        exact ⟨by rw [h3.out]; rfl, hb5⟩
      · have h3 := Lib.hid (hBad.out (hN1.out hf))
        clear hn hf hBad hGood hN1 hN2
        go_wp2
        go_step3
        go_wp2
        simp only [Exit.jumps]
        go_ret2
        exact ⟨by rw [h3.out]; rfl, hb5⟩
      · have hb2 := four_lt hf
        have h6 := four_len hf
        have hrl : rest.data.toList = s.data.toList.drop (k + 12) := by rw [hrest, List.drop_drop]
        have hrs : Hid (rest.size + 6 = st.size ∧ k + 12 ≤ s.size) := by
          unfold Hid
          have h1 := congrArg List.length hrl
          rw [List.length_drop, ← Lib.size_eq, ← Lib.size_eq] at h1
          rw [List.length_drop, ← Lib.size_eq] at h6
          have := hszs.out
          omega
        have HRL := Lib.hid hrl
        have HF := Lib.hid hf
        clear hn hrest hrl hf h6
        by_cases g2 : 56320 ≤ b ∧ b ≤ 57343
        · rw [kind_second g2]
          obtain ⟨hat3, hsg⟩ := hGood.out b g2 HF.out
          have HAT3 := Lib.hid hat3
          have hv : Hid (65536 + 1024 * (f - 55296) + ((b : Int) - 56320) = ((65536 + 1024 * (n - 55296) + (b - 56320) : Nat) : Int)) := by have := HFN.out; have := HNN.out; unfold Hid; omega
          have hsT : Hid (signT (65536 + 1024 * (f - 55296) + ((b : Int) - 56320)) = signB (65536 + 1024 * (n - 55296) + (b - 56320))) := by unfold Hid; rw [hv.out]; exact signT_good (by rw [sgn_nat]; exact hsg)
          have hp4 := Lib.hid (signB_pos (65536 + 1024 * (n - 55296) + (b - 56320)))
          have hb3 : 56320 ≤ (b : Int) := by omega
          have hb33 : (b : Int) ≤ 57343 := by omega
          clear hat3 hsg g2 hb2 HF hBad hGood hN1 hN2 hv
          generalize signB (65536 + 1024 * (n - 55296) + (b - 56320)) = tx at *
          generalize (b : Int) = bz at *
          go_wp2_with fail
          refine (pair_impl f bz _ hf0 hf1 hb3 hb33).mono ?_
          rintro e w4 ⟨rfl, rfl⟩
          generalize 65536 + 1024 * (f - 55296) + (bz - 56320) = vz at *
          go_wp2_with fail
          refine (signText_impl vz _).mono ?_
          rintro e w4 ⟨rfl, rfl⟩
          rw [hsT.out]
          go_wp2_with fail
          refine (built_write w.heap.size w.heap.size acc ⟨tx.toArray⟩ _ HB3.out (by rw [toList_size]; have := hp4.out.2; have := hszs.out; omega) (by omega)).mono ?_
          rintro e w4 ⟨rfl, hB4, hb6, _⟩
          have HB4 := Lib.hid hB4
          have hb7 := hb5.trans hb6
          have hmore4 : w.heap.size < w4.heap.size := by have := hb6.size; omega
          clear hB4 hb6 hb5 HB3
          go_wp2
          go_step3
          first
            | exact ⟨rest, _, _, _, _, _, _, _, _, _, _, _, _, _, _, _, _, _, _, _, _, _, _, _, _, _, _, _, _, _, _, _, _, _, _, _, _, _, _, _, _, _, _, _, _, _, _, _, _, _, _, _, rfl, ⟨⟨k + 12, acc ++ tx, hrs.out.2, by rw [List.length_append]; have := hp4.out.2; omega, HRL.out, HAT3.out, HB4.out⟩, OK.out, hb7, hmore4⟩⟩
            | exact ⟨⟨rest, _, _, _, _, _, _, _, _, _, _, _, _, _, _, _, _, _, _, _, _, _, _, _, _, _, _, _, _, _, _, _, _, _, _, _, _, _, _, _, _, _, _, _, _, _, _, _, _, _, _, _, rfl, ⟨⟨k + 12, acc ++ tx, hrs.out.2, by rw [List.length_append]; have := hp4.out.2; omega, HRL.out, HAT3.out, HB4.out⟩, OK.out, hb7, hmore4⟩⟩, by have h9 := hrs.out; rw [HGM.out]; simp [gMu, strLen]; omega⟩
        · have h3 := Lib.hid (hBad.out (hN2.out b g2 HF.out))
          by_cases g1 : 55296 ≤ b ∧ b ≤ 56319
          · rw [kind_first g1]
            clear g1 g2 hb2 HF hBad hGood hN1 hN2
            generalize (b : Int) = bz at *
            go_wp2
            go_step3
            go_wp2
            simp only [Exit.jumps]
            go_ret2
            exact ⟨by rw [h3.out]; rfl, hb5⟩
          · rw [(kind_one hb2 g1 g2).1]
            clear g1 g2 hb2 HF hBad hGood hN1 hN2
            generalize (b : Int) = bz at *
            go_wp2
            go_step3
            go_wp2
            simp only [Exit.jumps]
            go_ret2
            exact ⟨by rw [h3.out]; rfl, hb5⟩

end Go.Proofs.YtffglpbjbocdiaaDoor
