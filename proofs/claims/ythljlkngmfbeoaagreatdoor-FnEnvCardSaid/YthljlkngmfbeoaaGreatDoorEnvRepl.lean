/- Environment files: strings.ReplaceAll of one byte 36 by two, at this program; the program's Plain. -/
import Derived.Shelf.Strings.Builder2
import Derived.Lib.Bytealg
import Derived.Test.YthljlkngmfbeoaaGreatDoorProg
import Derived.Test.YthljlkngmfbeoaaGreatDoorPlain
import Derived.Test.YthljlkngmfbeoaaGreatDoorCut
import Derived.Test.YthljlkngmfbeoaaGreatDoorBuild
import Derived.Test.YthljlkngmfbeoaaGreatDoorEnvLay
import Derived.Test.YthljlkngmfbeoaaGreatDoorJoinNL
import Derived.Test.YthljlkngmfbeoaaGreatDoorEnvOne
import Derived.WalkKit
import Derived.WalkLawsBesides
import Derived.BigQuiet
import Derived.Deep.QuietTactic
import Derived.Lib.Hide
import Derived.IntWalk
import Derived.Outline
set_option maxRecDepth 100000
namespace Go.Proofs.YthljlkngmfbeoaaGreatDoor
open Go.RowKit Go.Shelf
set_option linter.unusedVariables false

abbrev dollB : ByteArray := ⟨#[36]⟩
abbrev doll2B : ByteArray := ⟨#[36, 36]⟩
theorem plainL_no (l : List UInt8) (h : ∀ c ∈ l, c ≠ 36) : plainL l = l := by
  induction l with
  | nil => rfl
  | cons c l ih =>
    have h1 := ih (fun d hd => h d (List.mem_cons_of_mem _ hd))
    have h2 := h c (List.mem_cons_self ..)
    show plainC c ++ plainL l = _
    rw [h1]
    unfold plainC
    rw [if_neg h2]
    rfl
theorem plainL_app (a b : List UInt8) : plainL (a ++ b) = plainL a ++ plainL b := by simp [plainL]
/-- where a byte is first -/
theorem index_some (l : List UInt8) (c : UInt8) (h : 0 < l.count c) : ∃ j : Nat, Lib.indexByte l c = (j : Int) ∧ j < l.length ∧ (∀ x ∈ l.take j, x ≠ c) ∧ l.drop j = c :: l.drop (j + 1) := by
  induction l with
  | nil => simp at h
  | cons b l ih =>
    unfold Lib.indexByte
    by_cases hb : b = c
    · subst hb
      exact ⟨0, by simp, by simp, by simp, by simp⟩
    · have hb2 : (b == c) = false := by simpa using hb
      rw [List.count_cons_of_ne (by simpa using hb)] at h
      obtain ⟨j, h1, h2, h3, h4⟩ := ih h
      rw [if_neg (by simp [hb2]), if_neg (by rw [h1]; intro e; have := beq_iff_eq.1 e; omega), h1]
      refine ⟨j + 1, by omega, by simp; omega, ?_, by simpa using h4⟩
      intro x hx
      rw [List.take_succ_cons] at hx
      rcases List.mem_cons.1 hx with rfl | hx
      · exact hb
      · exact h3 x hx
theorem index_lite (s : ByteArray) (c : Int) (w : World) :
    Calls Tryz.prog 70 #[.string s, .int .u8 c] w fun e w' => e = .returned (.int .i64 (Lib.indexByte s.data.toList c.toNat.toUInt8)) ∧ w' = w := Any.stringslite_IndexByte (ρ := lays137_ren) { lays137 with } s c w
set_option maxHeartbeats 1600000 in
theorem index_doll (s : ByteArray) (w : World) :
    Calls Tryz.prog 111 #[.string s, .string dollB] w fun e w' => e = .returned (.int .i64 (Lib.indexByte s.data.toList 36)) ∧ w' = w := by
  have KL := Lib.hid (fun w => index_lite s 36 w)
  generalize hx : Lib.indexByte s.data.toList (36 : Int).toNat.toUInt8 = x at KL
  have HX : Hid (Lib.indexByte s.data.toList 36 = x) := hx
  clear hx
  go_enter Tryz.func111, Tryz.ntmps111
  go_wp2_with fail
  have KI : Calls Tryz.prog 115 #[.string s, .string dollB] w fun e w' => e = .returned (.int .i64 x) ∧ w' = w := by
    by_cases q : s.toList = [36]
    · have q2 : (([36] : List UInt8) == s.toList) = true := by rw [q]; rfl
      have HX0 : Hid (x = 0) := by
        unfold Hid
        rw [← HX.out, ← Lib.toList_data, q]
        rfl
      clear q
      go_enter Tryz.func115, Tryz.ntmps115
      go_wp2
      go_ret
      exact ⟨by rw [HX0.out]; rfl, rfl⟩
    · have q2 : (([36] : List UInt8) == s.toList) = false := by rw [beq_eq_false_iff_ne]; exact fun e => q e.symm
      clear q
      go_enter Tryz.func115, Tryz.ntmps115
      go_wp2_with fail
      refine (KL.out _).mono ?_
      rintro e w2 ⟨rfl, rfl⟩
      go_wp2
      go_ret
      exact ⟨rfl, rfl⟩
  refine KI.mono ?_
  rintro e w2 ⟨rfl, rfl⟩
  go_wp2
  go_ret
  exact ⟨by rw [HX.out]; rfl, rfl⟩
set_option maxHeartbeats 1600000 in
theorem count_doll (s : ByteArray) (w : World) :
    Calls Tryz.prog 109 #[.string s, .string dollB] w fun e w' => e = .returned (.int .i64 (s.data.toList.count 36 : Nat)) ∧ w' = w := by
  go_enter Tryz.func109, Tryz.ntmps109
  go_wp2
  rw [run_callFunc_extern Tryz.func113 (by kernel_rfl) (by kernel_rfl) (by kernel_rfl) (e := Extern.BytealgCount.count) (by kernel_rfl), Lib.run_countString]
  simp only [Result.andThen]
  rw [Oper.upon_value]
  go_wp2
  go_ret
  exact ⟨rfl, rfl⟩

theorem drop_nextR {l : List UInt8} {st j : Nat} (h : (l.drop st).drop j = 36 :: (l.drop st).drop (j + 1)) (hno : ∀ x ∈ (l.drop st).take j, x ≠ 36) :
    plainL (l.take (st + j + 1)) = plainL (l.take st) ++ (l.drop st).take j ++ [36, 36] ∧ (l.drop st).count 36 = (l.drop (st + j + 1)).count 36 + 1 := by
  have e1 : l.take (st + j + 1) = l.take st ++ (l.drop st).take j ++ [36] := by
    have : (l.drop st).take (j + 1) = (l.drop st).take j ++ [36] := by
      rw [List.take_add, h]
      rfl
    rw [Nat.add_assoc, List.take_add, this, List.append_assoc]
  have e2 : l.drop st = (l.drop st).take j ++ 36 :: l.drop (st + j + 1) := by
    conv => lhs; rw [← List.take_append_drop j (l.drop st), h]
    rw [List.drop_drop, Nat.add_assoc]
  constructor
  · rw [e1, plainL_app, plainL_app, plainL_no _ hno]
    rfl
  · rw [e2]
    have h0 : ((l.drop st).take j).count 36 = 0 := by
      rw [List.count_eq_zero]
      intro hm
      exact hno _ hm rfl
    simp only [List.count_append, List.count_cons_self, h0]
    have e3 : ((l.drop st).take j ++ 36 :: l.drop (st + j + 1)) = l.drop st := e2.symm
    omega
theorem two_ne : (dollB.toList == doll2B.toList) = false := by decide +kernel
set_option maxHeartbeats 1600000 in
theorem replace_doll (s : ByteArray) (w : World) (hs : (s.size : Int) ≤ 10000000) :
    Calls Tryz.prog 104 #[.string s, .string dollB, .string doll2B, .int .i64 (-1)] w fun e w' => e = .returned (.string (plainT s)) ∧ Below w.heap.size w w' := by
  have KC := Lib.hid (fun w => count_doll s w)
  have HV : Hid (plainT s = ⟨(plainL s.data.toList).toArray⟩) := rfl
  have HSZ := Lib.hid (Lib.size_eq s)
  obtain ⟨cn, hcn⟩ : ∃ cn, s.data.toList.count 36 = cn := ⟨_, rfl⟩
  have hcl : cn ≤ s.size := by rw [← hcn, Lib.size_eq]; exact List.count_le_length
  rw [hcn] at KC
  have tn := two_ne
  by_cases h0 : cn = 0
  · have HF : Hid (plainT s = s) := by
      unfold Hid
      rw [HV.out, plainL_no]
      intro c hc e
      subst e
      have := List.count_pos_iff.2 hc
      omega
    have hcz : ((cn : Int) == 0) = true := by rw [beq_iff_eq]; omega
    clear HV HSZ hcn
    go_enter Tryz.func104, Tryz.ntmps104
    go_wp2_with fail
    refine (KC.out _).mono ?_
    rintro e w1 ⟨rfl, rfl⟩
    go_wp2
    go_ret
    exact ⟨by rw [HF.out]; rfl, Below.refl _ _⟩
  · have hcz : ((cn : Int) == 0) = false := by rw [beq_eq_false_iff_ne]; omega
    have HCN := Lib.hid hcn
    generalize plainT s = r at *
    clear hcn
    go_enter Tryz.func104, Tryz.ntmps104
    go_wp2_with fail
    refine (KC.out _).mono ?_
    rintro e w1 ⟨rfl, rfl⟩
    clear KC
    have KG0 := (grow_new w1.heap.size (s.size + cn) (w1.alloc (.cells #[.pointer none, .slice none 0 0] 80)) (heap_alloc_new _ _) (by omega) (by omega))
    rw [show ((s.size + cn : Nat) : Int) = (s.size : Int) + (cn : Int) by omega] at KG0
    have KG := Lib.hid KG0
    clear KG0
    go_wp2_with fail
    with_reducible refine KG.out.mono ?_
    rintro e w2 ⟨rfl, hB2, hb2⟩
    clear KG
    have hb2' : Below w1.heap.size w1 w2 := ((Below.refl w1.heap.size w1).alloc (Nat.le_refl _) _).trans hb2
    have HB2 : Hid (BuiltF w1.heap.size w1.heap.size (plainL (s.data.toList.take 0)) w2) := hB2
    have HC0 : Hid ((s.data.toList.drop 0).count 36 = cn - 0) := HCN.out
    clear hB2 hb2 hcz
    go_wp2_with fail
    go_loopw [11, 12, 53] (fun st _ i wr => ∃ (k p : Nat), k ≤ cn ∧ p ≤ s.size ∧ st = .int .i64 p ∧ i = .int .i64 k ∧ Hid ((s.data.toList.drop p).count 36 = cn - k) ∧ Hid (BuiltF w1.heap.size w1.heap.size (plainL (s.data.toList.take p)) wr) ∧ Below w1.heap.size w1 wr) (fun _ _ i _ => cn - (intOf i).toNat)
    case atStart => exact ⟨0, 0, Nat.zero_le _, Nat.zero_le _, rfl, rfl, HC0, HB2, hb2'⟩
    case round =>
      obtain ⟨k, p, hk, hp, rfl, rfl, hC, hB, hb⟩ := hrel
      clear HC0 HB2 hb2'
      have hpz : (p : Int) ≤ (s.size : Int) := by omega
      have hsz := hb.size
      have hpl : (plainL (s.data.toList.take p)).length ≤ 20000000 := by
        have := plainL_len (s.data.toList.take p)
        rw [List.length_take] at this
        omega
      have hdr : (s.extract p s.size).data.toList = s.data.toList.drop p := by
        rw [Lib.extract_data]
        exact List.take_of_length_le (by rw [List.length_drop, ← Lib.size_eq]; exact Nat.le_refl _)
      by_cases hlt : k < cn
      · have hkz : (k : Int) < (cn : Int) := by omega
        obtain ⟨j, j1, j2, j3, j4⟩ := index_some (s.data.toList.drop p) 36 (by rw [hC.out]; omega)
        rw [List.length_drop, ← Lib.size_eq] at j2
        obtain ⟨n1, n2⟩ := drop_nextR j4 j3
        have KI := Lib.hid (fun w => index_doll (s.extract p s.size) w)
        rw [hdr, j1] at KI
        have hex : (s.extract p (p + j)).data.toList = (s.data.toList.drop p).take j := by
          rw [Lib.extract_data, show p + j - p = j by omega]
        have HC2 : Hid ((s.data.toList.drop (p + j + 1)).count 36 = cn - (k + 1)) := by
          unfold Hid
          have := hC.out
          omega
        have HN1 := Lib.hid n1
        have HEX := Lib.hid hex
        have hex2 : (s.extract p (p + j)).size ≤ s.size := by rw [ByteArray.size_extract]; omega
        have hjz : (p : Int) + (j : Int) ≤ (s.size : Int) := by omega
        have hjz1 : (p : Int) ≤ (p : Int) + (j : Int) := by omega
        have hjz2 : (p : Int) + (j : Int) + 1 ≤ (s.size : Int) := by omega
        have htn : ((p : Int) + (j : Int)).toNat = p + j := by omega
        have KW := Lib.hid (fun (W : World) (h : BuiltF w1.heap.size w1.heap.size (plainL (s.data.toList.take p)) W) (hz : w1.heap.size ≤ W.heap.size) => built_write w1.heap.size w1.heap.size _ (s.extract p (p + j)) W h (by omega) hz)
        clear j1 j3 j4 n1 n2 hC hdr hex
        go_wp2_with fail
        refine (KI.out _).mono ?_
        rintro e w3 ⟨rfl, rfl⟩
        clear KI
        go_wp2_with fail
        refine (KW.out _ hB.out hsz).mono ?_
        rintro e w4 ⟨rfl, hB4, hb4, _⟩
        have HB4 := Lib.hid hB4
        have hb4' := hb.trans hb4
        have hs4 := hb4'.size
        clear hB4 hb4 hb hB KW
        go_wp2_with fail
        refine (built_write w1.heap.size w1.heap.size _ doll2B _ HB4.out (by rw [List.length_append, ← Lib.size_eq, show doll2B.size = 2 from rfl]; omega) hs4).mono ?_
        rintro e w5 ⟨rfl, hB5, hb5, _⟩
        have HB5 : Hid (BuiltF w1.heap.size w1.heap.size (plainL (s.data.toList.take (p + j + 1))) w5) := by
          unfold Hid
          rw [HN1.out, ← HEX.out]
          exact hB5
        have hb5' := hb4'.trans hb5
        clear hB5 hb5 hb4' HB4 HN1 HEX
        go_wp2
        go_roundw
        case rel => exact ⟨k + 1, p + j + 1, by omega, by omega, by go_num, by go_num, HC2, HB5, hb5'⟩
        case measure => simp [intOf]; omega
      · obtain rfl : k = cn := by omega
        have hkz : ¬ (k : Int) < (k : Int) := by omega
        have HF : Hid (r = ⟨(plainL (s.data.toList.take p) ++ (s.extract p s.size).data.toList).toArray⟩) := by
          unfold Hid
          rw [HV.out, hdr]
          congr 2
          conv => lhs; rw [← List.take_append_drop p s.data.toList]
          rw [plainL_app]
          congr 1
          apply plainL_no
          intro c hc e
          subst e
          have := List.count_pos_iff.2 hc
          have := hC.out
          omega
        have hex2 : (s.extract p s.size).size ≤ s.size := by rw [ByteArray.size_extract]; omega
        clear hC hdr HV HSZ
        go_wp2_with fail
        refine (built_write w1.heap.size w1.heap.size _ (s.extract p s.size) _ hB.out (by omega) hsz).mono ?_
        rintro e w4 ⟨rfl, hB4, hb4, _⟩
        have HB4 := Lib.hid hB4
        have hb4' := hb.trans hb4
        have hs4 := hb4'.size
        clear hB4 hb4 hb hB
        go_wp2_with fail
        refine (built_string w1.heap.size w1.heap.size _ _ HB4.out hs4).mono ?_
        rintro e w5 ⟨rfl, hB5, hb5, _⟩
        have hb5' := hb4'.trans hb5
        clear hB5 hb5 hb4' HB4
        go_wp2
        go_ret
        exact ⟨by rw [HF.out, Lib.extract_data]; rfl, hb5'⟩
set_option maxHeartbeats 1600000 in
theorem plain_impl (s : ByteArray) (w : World) (hs : (s.size : Int) ≤ 10000000) :
    Calls Tryz.prog 80 #[.string s] w fun e w' => e = .returned (.string (plainT s)) ∧ Below w.heap.size w w' := by
  have KR := Lib.hid (fun w => replace_doll s w hs)
  generalize plainT s = r at *
  have KA : Hid (∀ w, Calls Tryz.prog 97 #[.string s, .string dollB, .string doll2B] w fun e w' => e = .returned (.string r) ∧ Below w.heap.size w w') := by
    intro w
    go_enter Tryz.func97, Tryz.ntmps97
    go_wp2_with fail
    refine (KR.out _).mono ?_
    rintro e w2 ⟨rfl, hb⟩
    go_wp2
    go_ret
    exact ⟨rfl, hb⟩
  go_enter Tryz.func80, Tryz.ntmps80
  go_wp2_with fail
  refine (KA.out _).mono ?_
  rintro e w2 ⟨rfl, hb⟩
  go_wp2
  go_ret
  exact ⟨rfl, hb⟩

end Go.Proofs.YthljlkngmfbeoaaGreatDoor
