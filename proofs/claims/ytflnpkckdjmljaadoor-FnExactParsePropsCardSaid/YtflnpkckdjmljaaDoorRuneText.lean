/- Contracts of the functions that ask for a code point and write its bytes. -/
import Derived.Test.YtflnpkckdjmljaaDoorProg
import Derived.Test.YtflnpkckdjmljaaDoorPlain
import Derived.Test.YtflnpkckdjmljaaDoorHex
import Derived.Test.YtflnpkckdjmljaaDoorRunePure
import Derived.Test.YtflnpkckdjmljaaDoorDecodePure
import Derived.WalkKit
import Derived.WalkLawsBesides
import Derived.Lib.Hide
import Derived.IntWalk
import Derived.Laws.IdiomStrings
namespace Go.Proofs.YtflnpkckdjmljaaDoor
open Go.RowKit
set_option linter.unusedVariables false

/-- whether a number is a sign -/
def sgn (r : Int) : Bool := decide (0 ≤ r) && isSign r.toNat
theorem sgn_nat (r : Nat) : sgn (r : Int) = isSign r := by simp [sgn]
theorem sgn_true {r : Int} (h : 0 ≤ r ∧ r ≤ 1114111) (h2 : r < 55296 ∨ 57343 < r) : sgn r = true := by
  unfold sgn
  rw [decide_eq_true h.1, (isSign_iff _).2 (by omega)]
  rfl
theorem sgn_false {r : Int} (h : r < 0 ∨ 1114111 < r ∨ (55296 ≤ r ∧ r ≤ 57343)) : sgn r = false := by
  unfold sgn
  by_cases h0 : 0 ≤ r
  · have : ¬ isSign r.toNat = true := by rw [isSign_iff]; omega
    simp at this
    simp [this]
  · simp [h0]
theorem sgn_iff (r : Int) : sgn r = true ↔ (0 ≤ r ∧ r ≤ 1114111) ∧ (r < 55296 ∨ 57343 < r) := by
  constructor
  · intro h
    refine Decidable.byContradiction fun hn => ?_
    rw [sgn_false (by omega)] at h
    cases h
  · rintro ⟨h1, h2⟩
    exact sgn_true h1 h2

set_option maxHeartbeats 400000 in
theorem sign_spec (r : Int) (w : World) :
    Calls Tryd.prog 97 #[.int .i64 r] w fun e w' => e = .returned (.bool (sgn r)) ∧ w = w' := by
  by_cases h1 : 0 ≤ r ∧ r ≤ 1114111
  · by_cases h2 : 55296 ≤ r ∧ r ≤ 57343
    · have h3 := Lib.hid (sgn_false (r := r) (by omega))
      have H1 := Lib.hid h1
      have H2 := Lib.hid h2
      clear h1 h2
      go_enter Tryd.func97, Tryd.ntmps97
      go_wp2_with fail
      refine (in_yes _ _ _ _ H1.out.1 H1.out.2).mono ?_
      rintro e w' ⟨rfl, rfl⟩
      go_wp2_with fail
      refine (in_yes _ _ _ _ H2.out.1 H2.out.2).mono ?_
      rintro e w' ⟨rfl, rfl⟩
      go_wp2
      go_ret
      exact ⟨by rw [h3.out]; rfl, rfl⟩
    · have h3 := Lib.hid (sgn_true (r := r) h1 (by omega))
      have H1 := Lib.hid h1
      have H2 : Hid (r < 55296 ∨ 57343 < r) := by unfold Hid; omega
      clear h1 h2
      go_enter Tryd.func97, Tryd.ntmps97
      go_wp2_with fail
      refine (in_yes _ _ _ _ H1.out.1 H1.out.2).mono ?_
      rintro e w' ⟨rfl, rfl⟩
      go_wp2_with fail
      refine (in_no _ _ _ _ H2.out).mono ?_
      rintro e w' ⟨rfl, rfl⟩
      go_wp2
      go_ret
      exact ⟨by rw [h3.out]; rfl, rfl⟩
  · have h3 := Lib.hid (sgn_false (r := r) (by omega))
    have H1 : Hid (r < 0 ∨ 1114111 < r) := by unfold Hid; omega
    clear h1
    go_enter Tryd.func97, Tryd.ntmps97
    go_wp2_with fail
    refine (in_no _ _ _ _ H1.out).mono ?_
    rintro e w' ⟨rfl, rfl⟩
    go_wp2
    go_ret
    exact ⟨by rw [h3.out]; rfl, rfl⟩

theorem sign_impl (r : Int) (w : World) :
    Calls Tryd.prog 99 #[.int .i64 r] w fun e w' => e = .returned (.bool (sgn r)) ∧ w = w' := by
  have key : (r < 0) ∨ (0 ≤ r ∧ r < 55296) ∨ (55296 ≤ r ∧ r < 57344) ∨ (57344 ≤ r ∧ r ≤ 1114111) ∨ (1114111 < r) := by omega
  rcases key with h | ⟨ha, hb⟩ | ⟨ha, hb⟩ | ⟨ha, hb⟩ | h
  · have h3 := Lib.hid (sgn_false (r := r) (by omega))
    go_enter Tryd.func99, Tryd.ntmps99
    go_wp2
    go_ret
    exact ⟨by rw [h3.out]; rfl, rfl⟩
  · have h3 := Lib.hid (sgn_true (r := r) (by omega) (by omega))
    go_enter Tryd.func99, Tryd.ntmps99
    go_wp2
    go_ret
    exact ⟨by rw [h3.out]; rfl, rfl⟩
  · have h3 := Lib.hid (sgn_false (r := r) (by omega))
    go_enter Tryd.func99, Tryd.ntmps99
    go_wp2
    go_ret
    exact ⟨by rw [h3.out]; show Ending.returned (.bool (decide (r < 55296) || decide (57344 ≤ r))) = _; rw [decide_eq_false (by omega), decide_eq_false (by omega)]; rfl, rfl⟩
  · have h3 := Lib.hid (sgn_true (r := r) (by omega) (by omega))
    go_enter Tryd.func99, Tryd.ntmps99
    go_wp2
    go_ret
    exact ⟨by rw [h3.out]; rfl, rfl⟩
  · have h3 := Lib.hid (sgn_false (r := r) (by omega))
    have h4 : decide (r ≤ 1114111) = false := decide_eq_false (by omega)
    go_enter Tryd.func99, Tryd.ntmps99
    go_wp2
    go_ret
    exact ⟨by rw [h3.out]; rfl, rfl⟩

/-- bytes that were just laid, as a text -/
theorem new_text (W : World) (l : List UInt8) (cs : Array Value) (h : cs = (l.map (fun b => Value.int .u8 (b.toNat : Int))).toArray) (n : Nat) (hn : n = l.length) :
    (convert 22 9 (.slice (some ⟨W.heap.size, 0, none⟩) n n)).run Tryd.prog (W.alloc (.cells cs 5)) = .ok (.string ⟨l.toArray⟩) (W.alloc (.cells cs 5)) := by
  subst hn
  refine run_convert_bytes_back (P := Tryd.prog) (W.alloc (.cells cs 5)) 22 9 5 ⟨W.heap.size, 0, none⟩ l.length l Tryd.underlying22 Tryd.underlying5 Tryd.underlying9 (fun j hj => ?_)
  have ha : (⟨W.heap.size, 0, none⟩ : Addr).add j = ⟨W.heap.size, j, none⟩ := by unfold Addr.add; split <;> simp_all
  rw [ha, Lib.cell_of_heap (heap_alloc_new _ _), h]
  simp [hj]

theorem signT_bad {r : Int} (h : sgn r = false) : signT r = [] := by
  unfold signT
  rw [if_neg]
  intro hh
  unfold sgn at h
  rw [hh.2, decide_eq_true hh.1] at h
  cases h
theorem signT_good {r : Nat} (h : sgn (r : Int) = true) : signT r = signB r := by
  unfold signT
  rw [if_pos ⟨by omega, by rw [Int.toNat_natCast, ← sgn_nat]; exact h⟩, Int.toNat_natCast]

set_option maxRecDepth 100000 in
set_option maxHeartbeats 800000 in
theorem signText_spec (r : Int) (w : World) :
    Calls Tryd.prog 77 #[.int .i64 r] w fun e w' => e = .returned (.string ⟨(signT r).toArray⟩) ∧ Below w.heap.size w w' := by
  cases hs : sgn r
  · have h3 := Lib.hid (signT_bad hs)
    have HS := Lib.hid hs
    clear hs
    go_enter Tryd.func77, Tryd.ntmps77
    go_wp2_with fail
    refine (sign_spec _ _).mono ?_
    rintro e w' ⟨rfl, rfl⟩
    rw [HS.out]
    go_wp2
    go_ret
    exact ⟨by rw [h3.out]; rfl, Below.refl _ _⟩
  · have hb := (sgn_iff r).1 hs
    have HS := Lib.hid hs
    have hr0 : 0 ≤ r := by omega
    have hr1 : r ≤ 1114111 := by omega
    clear hs hb
    by_cases h1 : r < 128
    · obtain ⟨b0, h4, hcv⟩ : ∃ b0 : UInt8, Hid (signT r = [b0]) ∧ (convert 22 9 (.slice (some ⟨w.heap.size, 0, none⟩) 1 1)).run Tryd.prog (w.alloc (.cells #[.int .u8 r] 5)) = .ok (.string ⟨#[b0]⟩) (w.alloc (.cells #[.int .u8 r] 5)) := by
        obtain ⟨m, rfl⟩ := Int.eq_ofNat_of_zero_le hr0
        refine ⟨u8 (m), ?_, ?_⟩
        · unfold Hid; rw [signT_good HS.out]; unfold signB; rw [if_pos (by omega)]
        · exact new_text w [u8 (m)] _ (by simp only [List.map_cons, List.map_nil]; rw [u8_nat (m) (by omega)]) 1 rfl
      have hb2 : Below w.heap.size w (w.alloc (.cells #[.int .u8 r] 5)) := (Below.refl _ _).alloc (Nat.le_refl _) _
      go_enter Tryd.func77, Tryd.ntmps77
      go_wp2_with fail
      refine (sign_spec _ _).mono ?_
      rintro e w' ⟨rfl, rfl⟩
      rw [HS.out]
      go_wp2
      go_ret
      exact ⟨by rw [h4.out]; rfl, hb2⟩
    · by_cases h2 : r < 2048
      · obtain ⟨b0, b1, h4, hcv⟩ : ∃ b0 b1 : UInt8, Hid (signT r = [b0, b1]) ∧ (convert 22 9 (.slice (some ⟨w.heap.size, 0, none⟩) 2 2)).run Tryd.prog (w.alloc (.cells #[.int .u8 (192 + r / 64), .int .u8 (128 + r % 64)] 5)) = .ok (.string ⟨#[b0, b1]⟩) (w.alloc (.cells #[.int .u8 (192 + r / 64), .int .u8 (128 + r % 64)] 5)) := by
          obtain ⟨m, rfl⟩ := Int.eq_ofNat_of_zero_le hr0
          refine ⟨u8 (192 + m / 64), u8 (128 + m % 64), ?_, ?_⟩
          · unfold Hid; rw [signT_good HS.out]; unfold signB; rw [if_neg (by omega), if_pos (by omega)]
          · exact new_text w [u8 (192 + m / 64), u8 (128 + m % 64)] _ (by simp only [List.map_cons, List.map_nil]; rw [u8_nat (192 + m / 64) (by omega), u8_nat (128 + m % 64) (by omega)]; simp) 2 rfl
        have hb2 : Below w.heap.size w (w.alloc (.cells #[.int .u8 (192 + r / 64), .int .u8 (128 + r % 64)] 5)) := (Below.refl _ _).alloc (Nat.le_refl _) _
        go_enter Tryd.func77, Tryd.ntmps77
        go_wp2_with fail
        refine (sign_spec _ _).mono ?_
        rintro e w' ⟨rfl, rfl⟩
        rw [HS.out]
        go_wp2
        go_ret
        exact ⟨by rw [h4.out]; rfl, hb2⟩
      · by_cases h5 : r < 65536
        · obtain ⟨b0, b1, b2, h4, hcv⟩ : ∃ b0 b1 b2 : UInt8, Hid (signT r = [b0, b1, b2]) ∧ (convert 22 9 (.slice (some ⟨w.heap.size, 0, none⟩) 3 3)).run Tryd.prog (w.alloc (.cells #[.int .u8 (224 + r / 4096), .int .u8 (128 + r / 64 % 64), .int .u8 (128 + r % 64)] 5)) = .ok (.string ⟨#[b0, b1, b2]⟩) (w.alloc (.cells #[.int .u8 (224 + r / 4096), .int .u8 (128 + r / 64 % 64), .int .u8 (128 + r % 64)] 5)) := by
            obtain ⟨m, rfl⟩ := Int.eq_ofNat_of_zero_le hr0
            refine ⟨u8 (224 + m / 4096), u8 (128 + m / 64 % 64), u8 (128 + m % 64), ?_, ?_⟩
            · unfold Hid; rw [signT_good HS.out]; unfold signB; rw [if_neg (by omega), if_neg (by omega), if_pos (by omega)]
            · exact new_text w [u8 (224 + m / 4096), u8 (128 + m / 64 % 64), u8 (128 + m % 64)] _ (by simp only [List.map_cons, List.map_nil]; rw [u8_nat (224 + m / 4096) (by omega), u8_nat (128 + m / 64 % 64) (by omega), u8_nat (128 + m % 64) (by omega)]; simp) 3 rfl
          have hb2 : Below w.heap.size w (w.alloc (.cells #[.int .u8 (224 + r / 4096), .int .u8 (128 + r / 64 % 64), .int .u8 (128 + r % 64)] 5)) := (Below.refl _ _).alloc (Nat.le_refl _) _
          go_enter Tryd.func77, Tryd.ntmps77
          go_wp2_with fail
          refine (sign_spec _ _).mono ?_
          rintro e w' ⟨rfl, rfl⟩
          rw [HS.out]
          go_wp2
          go_ret
          exact ⟨by rw [h4.out]; rfl, hb2⟩
        · obtain ⟨b0, b1, b2, b3, h4, hcv⟩ : ∃ b0 b1 b2 b3 : UInt8, Hid (signT r = [b0, b1, b2, b3]) ∧ (convert 22 9 (.slice (some ⟨w.heap.size, 0, none⟩) 4 4)).run Tryd.prog (w.alloc (.cells #[.int .u8 (240 + r / 262144), .int .u8 (128 + r / 4096 % 64), .int .u8 (128 + r / 64 % 64), .int .u8 (128 + r % 64)] 5)) = .ok (.string ⟨#[b0, b1, b2, b3]⟩) (w.alloc (.cells #[.int .u8 (240 + r / 262144), .int .u8 (128 + r / 4096 % 64), .int .u8 (128 + r / 64 % 64), .int .u8 (128 + r % 64)] 5)) := by
            obtain ⟨m, rfl⟩ := Int.eq_ofNat_of_zero_le hr0
            refine ⟨u8 (240 + m / 262144), u8 (128 + m / 4096 % 64), u8 (128 + m / 64 % 64), u8 (128 + m % 64), ?_, ?_⟩
            · unfold Hid; rw [signT_good HS.out]; unfold signB; rw [if_neg (by omega), if_neg (by omega), if_neg (by omega)]
            · exact new_text w [u8 (240 + m / 262144), u8 (128 + m / 4096 % 64), u8 (128 + m / 64 % 64), u8 (128 + m % 64)] _ (by simp only [List.map_cons, List.map_nil]; rw [u8_nat (240 + m / 262144) (by omega), u8_nat (128 + m / 4096 % 64) (by omega), u8_nat (128 + m / 64 % 64) (by omega), u8_nat (128 + m % 64) (by omega)]; simp) 4 rfl
          have hb2 : Below w.heap.size w (w.alloc (.cells #[.int .u8 (240 + r / 262144), .int .u8 (128 + r / 4096 % 64), .int .u8 (128 + r / 64 % 64), .int .u8 (128 + r % 64)] 5)) := (Below.refl _ _).alloc (Nat.le_refl _) _
          go_enter Tryd.func77, Tryd.ntmps77
          go_wp2_with fail
          refine (sign_spec _ _).mono ?_
          rintro e w' ⟨rfl, rfl⟩
          rw [HS.out]
          go_wp2
          go_ret
          exact ⟨by rw [h4.out]; rfl, hb2⟩

theorem encode_text (m : Nat) (h : sgn (m : Int) = true) : Utf8.encode (m : Int) = ⟨(signB m).toArray⟩ := by
  have hb := (sgn_iff _).1 h
  have hv : Utf8.valid (m : Int) = true := by
    unfold Utf8.valid
    simp only [Bool.or_eq_true, Bool.and_eq_true, decide_eq_true_eq]
    omega
  unfold Utf8.encode
  simp only [hv, if_true, Int.toNat_natCast]
  unfold signB
  by_cases h1 : m < 128
  · rw [if_pos h1, if_pos h1]; rfl
  · rw [if_neg h1, if_neg h1]
    by_cases h2 : m < 2048
    · rw [if_pos h2, if_pos h2]; rfl
    · rw [if_neg h2, if_neg h2]
      by_cases h3 : m < 65536
      · rw [if_pos h3, if_pos h3]; rfl
      · rw [if_neg h3, if_neg h3]; rfl
theorem run_rune_text (W : World) (m : Nat) (h : sgn (m : Int) = true) : (convert 21 9 (.int .i32 (m : Int))).run Tryd.prog W = .ok (.string ⟨(signB m).toArray⟩) W := by
  rw [run_convert_int_string W 21 9 .i32 (m : Int) (by rw [Tryd.underlying21]; rfl) Tryd.underlying9, encode_text m h]
set_option maxHeartbeats 800000 in
theorem signText_impl (r : Int) (w : World) :
    Calls Tryd.prog 81 #[.int .i64 r] w fun e w' => e = .returned (.string ⟨(signT r).toArray⟩) ∧ w = w' := by
  cases hs : sgn r
  · have h3 := Lib.hid (signT_bad hs)
    have HS := Lib.hid hs
    clear hs
    go_enter Tryd.func81, Tryd.ntmps81
    go_wp2_with fail
    refine (sign_impl _ _).mono ?_
    rintro e w' ⟨rfl, rfl⟩
    rw [HS.out]
    go_wp2
    go_ret
    exact ⟨by rw [h3.out]; rfl, rfl⟩
  · have hb := (sgn_iff r).1 hs
    obtain ⟨m, rfl⟩ := Int.eq_ofNat_of_zero_le (show 0 ≤ r by omega)
    have h3 := Lib.hid (signT_good hs)
    have HS := Lib.hid hs
    have hcv := run_rune_text w m hs
    have hm : (m : Int) ≤ 1114111 := by omega
    clear hs hb
    go_enter Tryd.func81, Tryd.ntmps81
    go_wp2_with fail
    refine (sign_impl _ _).mono ?_
    rintro e w' ⟨rfl, rfl⟩
    rw [HS.out]
    go_wp2
    go_ret
    exact ⟨by rw [h3.out]; rfl, rfl⟩

end Go.Proofs.YtflnpkckdjmljaaDoor
