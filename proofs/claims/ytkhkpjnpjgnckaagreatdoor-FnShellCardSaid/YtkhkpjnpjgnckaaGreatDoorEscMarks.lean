/- Escapes put, as lists. -/
import Derived.Test.YtkhkpjnpjgnckaaGreatDoorProg
import Derived.Test.YtkhkpjnpjgnckaaGreatDoorPlain
import Derived.Test.YtkhkpjnpjgnckaaGreatDoorCut
import Derived.Test.YtkhkpjnpjgnckaaGreatDoorBuild
import Derived.WalkKit
import Derived.WalkLawsBesides
import Derived.BigQuiet
import Derived.Deep.QuietTactic
import Derived.Deep.RegionHeld3
import Derived.Lib.QuietBelow
import Derived.Laws.IdiomStrings
import Derived.Lib.Hide
import Derived.IntWalk
set_option maxRecDepth 100000
namespace Go.Proofs.YtkhkpjnpjgnckaaGreatDoor
open Go.RowKit
set_option linter.unusedVariables false

/-- the escapes of a byte -/
def escC (n : ByteArray) (c : UInt8) : List UInt8 := if c = 10 then [92, 110] else if c = 9 then [92, 116] else if c = 13 then [92, 114] else if (c == 92 || c == 34 || hasB n c) = true then [92, c] else [c]
def escL (n : ByteArray) (l : List UInt8) : List UInt8 := l.flatMap (escC n)
theorem escC_len (n : ByteArray) (c : UInt8) : (escC n c).length ≤ 2 := by
  unfold escC
  repeat' split
  all_goals simp
theorem escL_len (n : ByteArray) (l : List UInt8) : (escL n l).length ≤ 2 * l.length := by
  induction l with
  | nil => simp [escL]
  | cons c l ih =>
    have := escC_len n c
    simp only [escL, List.flatMap_cons, List.length_append, List.length_cons] at ih ⊢
    omega
theorem escL_succ (n : ByteArray) (s : ByteArray) (k : Nat) (h : k < s.size) : escL n (s.data.toList.take (k + 1)) = escL n (s.data.toList.take k) ++ escC n s[k] := by
  rw [Pl.take_snoc s k h]
  simp [escL]


end Go.Proofs.YtkhkpjnpjgnckaaGreatDoor

/- Escapes put: what the program's Escape and EnvEscape have in common, at given marks. -/
set_option maxRecDepth 100000
namespace Go.Proofs.YtkhkpjnpjgnckaaGreatDoor
open Go.RowKit Go.Sort Go.Shelf
set_option linter.unusedVariables false

theorem one_text {x : ByteArray} {c : UInt8} (h : x = ⟨[c].toArray⟩) (b : UInt8) : (x.toList == [b]) = (c == b) := by
  subst h
  rw [Lib.toList_data]
  simp
def lays217_ren : Go.Shelf.Ren := ⟨fun | 217 => 131 | 266 => 163 | n => n, fun | 9 => 9 | 5 => 5 | 3 => 3 | n => n, fun | n => n⟩
theorem lays217 : Go.Proofs.Lays.n217 Tryz.prog lays217_ren := {
  mixed := by kernel_rfl
  f217 := Tryz.func131.trans (congrArg some (by kernel_rfl))
  f266 := Tryz.func163.trans (congrArg some (by kernel_rfl))
  t3 := Tryz.underlying3
  a3 := Tryz.isAgg3
  z3 := Tryz.sizeOf3
  v3 := Tryz.zeroValue3
  t5 := Tryz.underlying5
  a5 := Tryz.isAgg5
  z5 := Tryz.sizeOf5
  v5 := Tryz.zeroValue5
  t9 := Tryz.underlying9
  a9 := Tryz.isAgg9
  z9 := Tryz.sizeOf9
  v9 := Tryz.zeroValue9 }
theorem index_lite1 (s : ByteArray) (c : Int) (w : World) :
    Calls Tryz.prog 131 #[.string s, .int .u8 c] w fun e w' => e = .returned (.int .i64 (Lib.indexByte s.data.toList c.toNat.toUInt8)) ∧ w' = w := Any.stringslite_IndexByte lays217 s c w
set_option maxHeartbeats 1600000 in
theorem index_one (s x : ByteArray) (c : UInt8) (hx : x = ⟨[c].toArray⟩) (w : World) :
    Calls Tryz.prog 108 #[.string s, .string x] w fun e w' => e = .returned (.int .i64 (Lib.indexByte s.data.toList c)) ∧ w' = w := by
  have KL := Lib.hid (fun w => index_lite1 s (c.toNat : Int) w)
  have hc : ((c.toNat : Int)).toNat.toUInt8 = c := by simp
  rw [hc] at KL
  have hxs : x.size = 1 := by rw [hx]; rfl
  have hxl : x.toList = [c] := by rw [hx, Lib.toList_data]
  have hxb : x[0]'(by omega) = c := by subst hx; rfl
  have HX0 : Hid (x.toList = s.toList → Lib.indexByte s.data.toList c = 0) := by
    intro e
    rw [← Lib.toList_data, ← e, hxl]
    simp [Lib.indexByte]
  generalize Lib.indexByte s.data.toList c = r at *
  clear hx hxl hc
  go_enter Tryz.func108, Tryz.ntmps108
  go_wp2_with fail
  have KI : Calls Tryz.prog 149 #[.string s, .string x] w fun e w' => e = .returned (.int .i64 r) ∧ w' = w := by
    by_cases q : x.toList = s.toList
    · have q2 : (x.toList == s.toList) = true := by rw [q]; simp
      have HR := Lib.hid (HX0.out q)
      clear q HX0
      go_enter Tryz.func149, Tryz.ntmps149
      go_wp2
      go_ret
      exact ⟨by rw [HR.out]; rfl, rfl⟩
    · have q2 : (x.toList == s.toList) = false := by rw [beq_eq_false_iff_ne]; exact q
      clear q HX0
      go_enter Tryz.func149, Tryz.ntmps149
      go_wp2_with fail
      refine (KL.out _).mono ?_
      rintro e w2 ⟨rfl, rfl⟩
      go_wp2
      go_ret
      exact ⟨rfl, rfl⟩
  refine KI.mono ?_
  rintro e w2 ⟨rfl, rfl⟩
  go_wp2
  go_ret
  exact ⟨rfl, rfl⟩
set_option maxHeartbeats 1600000 in
theorem contains_one (s x : ByteArray) (c : UInt8) (hx : x = ⟨[c].toArray⟩) (w : World) :
    Calls Tryz.prog 105 #[.string s, .string x] w fun e w' => e = .returned (.bool (hasB s c)) ∧ w' = w := by
  have KI := Lib.hid (fun w => index_one s x c hx w)
  have h := indexByte_has s.data.toList c
  generalize Lib.indexByte s.data.toList c = r at *
  have H : Hid (decide (0 ≤ r) = hasB s c) := h.2
  clear h hx
  go_enter Tryz.func105, Tryz.ntmps105
  go_wp2_with fail
  refine (KI.out _).mono ?_
  rintro e w' ⟨rfl, rfl⟩
  clear KI
  go_wp2
  all_goals
    go_ret
    exact ⟨by rw [← H.out]; first | rfl | simp_all, rfl⟩

set_option maxHeartbeats 1600000 in
theorem escapeOf_impl (n : ByteArray) (c : UInt8) (x : ByteArray) (w : World) (hx : x = ⟨[c].toArray⟩) :
    Calls Tryz.prog 74 #[.string x, .string n] w fun e w' => e = .returned (.string ⟨(escC n c).toArray⟩) ∧ w' = w := by
  have KN := Lib.hid (fun w => contains_one n x c hx w)
  have HC : Hid (escC n c = (if c = 10 then [92, 110] else if c = 9 then [92, 116] else if c = 13 then [92, 114] else if (c == 92 || c == 34 || hasB n c) = true then [92, c] else [c])) := rfl
  have t10 := one_text hx 10
  have t9 := one_text hx 9
  have t13 := one_text hx 13
  have t92 := one_text hx 92
  have t34 := one_text hx 34
  have H2 : Hid ((⟨#[92]⟩ : ByteArray) ++ x = ⟨[92, c].toArray⟩) := by rw [hx]; exact Pl.join_lists [92] [c]
  have H1 := Lib.hid hx
  have hxs : x.size = 1 := by rw [hx]; rfl
  generalize escC n c = m at *
  generalize hasB n c = hv at *
  clear hx
  by_cases q1 : c = 10
  · have HR : Hid (m = [92, 110]) := by unfold Hid; rw [HC.out, if_pos q1]
    have s1 : (c == 10) = true := by simpa using q1
    rw [s1] at t10
    clear HC q1 s1 t9 t13 t92 t34 KN H2 H1
    go_enter Tryz.func74, Tryz.ntmps74
    go_wp2
    go_ret
    exact ⟨by rw [HR.out]; rfl, rfl⟩
  · have s1 : (c == 10) = false := by simpa using q1
    rw [s1] at t10
    by_cases q2 : c = 9
    · have HR : Hid (m = [92, 116]) := by unfold Hid; rw [HC.out, if_neg q1, if_pos q2]
      have s2 : (c == 9) = true := by simpa using q2
      rw [s2] at t9
      clear HC q1 s1 q2 s2 t13 t92 t34 KN H2 H1
      go_enter Tryz.func74, Tryz.ntmps74
      go_wp2
      go_ret
      exact ⟨by rw [HR.out]; rfl, rfl⟩
    · have s2 : (c == 9) = false := by simpa using q2
      rw [s2] at t9
      by_cases q3 : c = 13
      · have HR : Hid (m = [92, 114]) := by unfold Hid; rw [HC.out, if_neg q1, if_neg q2, if_pos q3]
        have s3 : (c == 13) = true := by simpa using q3
        rw [s3] at t13
        clear HC q1 s1 q2 s2 q3 s3 t92 t34 KN H2 H1
        go_enter Tryz.func74, Tryz.ntmps74
        go_wp2
        go_ret
        exact ⟨by rw [HR.out]; rfl, rfl⟩
      · have s3 : (c == 13) = false := by simpa using q3
        rw [s3] at t13
        have HC2 : Hid (m = if (c == 92 || c == 34 || hv) = true then [92, c] else [c]) := by unfold Hid; rw [HC.out, if_neg q1, if_neg q2, if_neg q3]
        clear HC q1 s1 q2 s2 q3 s3
        cases q4 : (c == 92)
        · rw [q4] at t92 HC2
          cases q5 : (c == 34)
          · rw [q5] at t34 HC2
            clear q4 q5
            cases hv
            · have HR : Hid (m = [c]) := HC2.out
              clear HC2
              go_enter Tryz.func74, Tryz.ntmps74
              go_wp2_with fail
              refine (KN.out _).mono ?_
              rintro e w1 ⟨rfl, rfl⟩
              clear KN
              go_wp2
              go_ret
              exact ⟨by rw [HR.out, ← H1.out]; rfl, rfl⟩
            · have HR : Hid (m = [92, c]) := HC2.out
              clear HC2
              go_enter Tryz.func74, Tryz.ntmps74
              go_wp2_with fail
              refine (KN.out _).mono ?_
              rintro e w1 ⟨rfl, rfl⟩
              clear KN
              go_wp2
              go_ret
              exact ⟨by rw [HR.out, ← H2.out]; rfl, rfl⟩
          · rw [q5] at t34 HC2
            have HR : Hid (m = [92, c]) := HC2.out
            clear HC2 q4 q5 KN
            go_enter Tryz.func74, Tryz.ntmps74
            go_wp2
            go_ret
            exact ⟨by rw [HR.out, ← H2.out]; rfl, rfl⟩
        · rw [q4] at t92 HC2
          have HR : Hid (m = [92, c]) := HC2.out
          clear HC2 q4 KN
          go_enter Tryz.func74, Tryz.ntmps74
          go_wp2
          go_ret
          exact ⟨by rw [HR.out, ← H2.out]; rfl, rfl⟩

theorem one_at (s : ByteArray) (k : Nat) (h : k < s.size) : s.extract k (k + 1) = ⟨[s[k]].toArray⟩ := by
  apply ByteArray.ext
  apply Array.toList_inj.1
  rw [Lib.extract_eq]
  have hl : k < s.data.toList.length := by rw [← Lib.size_eq]; exact h
  show ((s.data.toList.drop k).take (k + 1 - k)) = [s[k]]
  rw [List.drop_eq_getElem_cons hl, show k + 1 - k = 1 by omega, List.take_succ_cons, List.take_zero]
  rfl
theorem builtAtM_over {T e B b : Nat} {p : Value} {bs : List Value} {w w' : World} (h : Lib.BuilderAtF T e B b p bs w) (hb : Below w.heap.size w w') : Lib.BuilderAtF T e B b p bs w' := by
  obtain ⟨hB, v, hbk, hown, hne⟩ := h
  refine ⟨hB, v, (hb.block b (Array.getElem?_eq_some_iff.1 hbk).1).trans hbk, ⟨hown.1, ?_⟩, hne⟩
  rcases hown.2 with h2 | ⟨g, cap, cur, fz, hv, hg0, hg, h5, h6, h7, h8, h9⟩
  · exact .inl h2
  · exact .inr ⟨g, cap, cur, fz, hv, hg0, (hb.block g (Array.getElem?_eq_some_iff.1 hg).1).trans hg, h5, h6, h7, h8, h9⟩
theorem builtM_over {B b : Nat} {l : List UInt8} {w w' : World} (h : BuiltF B b l w) (hb : Below w.heap.size w w') : BuiltF B b l w' := by
  rcases h with h | h
  · exact .inl (builtAtM_over h hb)
  · exact .inr (builtAtM_over h hb)

set_option maxHeartbeats 1600000 in
theorem escapeMarks_impl (n s : ByteArray) (w : World) (hs : s.size ≤ 1048576) :
    Calls Tryz.prog 43 #[.string s, .string n] w fun e w' => e = .returned (.string ⟨(escL n s.data.toList).toArray⟩) ∧ Below w.heap.size w w' := by
  have HE := Lib.hid (fun k h => escL_succ n s k h)
  have HL := Lib.hid (fun k => escL_len n (s.data.toList.take k))
  have KE := Lib.hid (fun (k : Nat) (h : k < s.size) w => escapeOf_impl n s[k] (s.extract k (k + 1)) w (one_at s k h))
  have h0 : BuiltF w.heap.size w.heap.size [] (w.alloc (.cells #[.pointer none, .slice none 0 0] 95)) := Lib.IsBuilderF.of (Lib.fresh_isBuilder 95 5 w)
  have H0 := Lib.hid h0
  have hb0 := (Below.refl w.heap.size w).alloc (Nat.le_refl _) (.cells #[.pointer none, .slice none 0 0] 95)
  clear h0
  have HSL := Lib.hid (Lib.size_eq s)
  generalize hr : (⟨(escL n s.data.toList).toArray⟩ : ByteArray) = r
  have HR := Lib.hid hr
  clear hr
  have hs9 : (s.size : Int) ≤ 1048576 := by omega
  go_enter Tryz.func43, Tryz.ntmps43
  go_wp2
  go_loopw [9] (fun i wr => ∃ (k : Nat) (l : List UInt8), k ≤ s.size ∧ i = .int .i64 k ∧ Hid (l = escL n (s.data.toList.take k)) ∧ Hid (BuiltF w.heap.size w.heap.size l wr) ∧ w.heap.size < wr.heap.size ∧ Below w.heap.size w wr) (fun i _ => s.size - (intOf i).toNat)
  case atStart => exact ⟨0, [], Nat.zero_le _, rfl, rfl, H0, by simp, hb0⟩
  case round =>
    obtain ⟨k, l, hk, rfl, hat, hB, hsz, hb⟩ := hrel
    clear H0 hb0
    by_cases hlt : k < s.size
    · have HA : Hid (l ++ escC n s[k] = escL n (s.data.toList.take (k + 1))) := by unfold Hid; rw [HE.out k hlt, hat.out]
      have hll : l.length ≤ 2 * s.size := by
        have h1 := HL.out k
        have h2 : (s.data.toList.take k).length ≤ s.size := by rw [List.length_take, HSL.out]; omega
        rw [← hat.out] at h1
        omega
      have hml := escC_len n s[k]
      have KE1 := Lib.hid (KE.out k hlt)
      clear HE HL KE hat HR
      generalize escC n s[k] = m at *
      have hk1 : (k : Int) + 1 ≤ (s.size : Int) := by omega
      have hk2 : ((k : Int) + 1).toNat = k + 1 := by omega
      have hk3 : (k : Int) ≤ (k : Int) + 1 := by omega
      have hk4 : IntKind.i64.wrap ((k : Int) + 1) = (k : Int) + 1 := IntWalk.i64_in _ (by omega)
      have hk5 : (k : Int) < (s.size : Int) := by omega
      have hmz : (⟨m.toArray⟩ : ByteArray).size ≤ 2 := by rw [Lib.size_eq]; simpa using hml
      go_wp2_with fail
      refine (KE1.out _).mono ?_
      rintro e V1 ⟨rfl, rfl⟩
      go_wp2_with fail
      refine (built_write w.heap.size w.heap.size l ⟨m.toArray⟩ _ hB.out (by omega) (by omega)).mono ?_
      rintro e V2 ⟨rfl, hB2, hv2, _⟩
      have HB2 := Lib.hid hB2
      have hs2 := Nat.lt_of_lt_of_le hsz hv2.size
      have hbv2 := hb.trans hv2
      clear KE1 hB hB2
      go_wp2
      go_roundw
      case rel => exact ⟨k + 1, l ++ m, by omega, by go_num, HA, HB2, hs2, hbv2⟩
      case measure => simp [intOf]; omega
    · obtain rfl : k = s.size := by omega
      have HF : Hid (r = ⟨l.toArray⟩) := by unfold Hid; rw [← HR.out, hat.out, HSL.out, List.take_length]
      clear HE HL KE hat HR
      go_wp2_with fail
      refine (built_string w.heap.size w.heap.size l _ hB.out (by omega)).mono ?_
      rintro e w2 ⟨rfl, _, hb2, _⟩
      have hbF := hb.trans hb2
      go_wp2
      go_ret
      exact ⟨by rw [HF.out]; rfl, hbF⟩

end Go.Proofs.YtkhkpjnpjgnckaaGreatDoor
