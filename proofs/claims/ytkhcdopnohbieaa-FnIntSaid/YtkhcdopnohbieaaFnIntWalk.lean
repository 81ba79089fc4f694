/- The walk of the law FnInt. -/
import Derived.Test.YtkhcdopnohbieaaProg
import Derived.Test.YtkhcdopnohbieaaPlain
import Derived.Test.YtkhcdopnohbieaaDraw
import Derived.Test.YtkhcdopnohbieaaDrawNum
import Derived.Test.YtkhcdopnohbieaaReadInt
import Derived.WalkKit
import Derived.WalkLawsBesides
import Derived.Lib.Hide
import Derived.IntWalk
namespace Go.Proofs.Ytkhcdopnohbieaa
open Go.RowKit
set_option linter.unusedVariables false

/-! a text of digits, with a sign or a nought ahead -/
theorem num_nought (l : List UInt8) : Pl.num 10 (48 :: l) = Pl.num 10 l := by
  have h : Pl.dig 48 = 0 := by decide
  simp [Pl.num, h]
theorem readN_nought (l : List UInt8) (n : Nat) (h : Pl.readN 10 18 l = some n) (hl : l.length ≤ 17) : Pl.readN 10 18 (48 :: l) = some n := by
  unfold Pl.readN at h ⊢
  split at h
  · rename_i hc
    rw [if_pos ⟨by simp, by simp; omega, by simp [hc.2.2, Pl.okB]; decide⟩, num_nought]
    exact h
  · cases h
theorem join_one (a : List UInt8) (s : ByteArray) : ((⟨a.toArray⟩ : ByteArray) ++ s).data.toList = a ++ s.data.toList := by
  simp

/-- what is read of such texts -/
theorem read_signed (s : ByteArray) (ho : readO s.data.toList = true) (hl : s.size ≤ 16) (h0 : 0 < s.size) (h1 : s[0] ≠ 45) (h2 : s[0] ≠ 43) :
    readO ((⟨#[43, 48]⟩ : ByteArray) ++ s).data.toList = true ∧ readO ((⟨#[45]⟩ : ByteArray) ++ s).data.toList = true ∧
    readV ((⟨#[43, 48]⟩ : ByteArray) ++ s).data.toList = readV s.data.toList ∧ readV ((⟨#[45]⟩ : ByteArray) ++ s).data.toList = -readV s.data.toList ∧ 0 ≤ readV s.data.toList ∧ readV s.data.toList ≤ 1000000000000000000 := by
  obtain ⟨c, t, hct⟩ : ∃ c t, s.data.toList = c :: t := by
    cases h : s.data.toList with
    | nil => exfalso; have h3 := Lib.size_eq s; rw [h, List.length_nil] at h3; omega
    | cons c t => exact ⟨c, t, rfl⟩
  have hc0 : s[0] = c := by
    have : s[0] = s.data.toList[0]'(by simpa using h0) := rfl
    rw [this]
    simp only [hct]
    rfl
  rw [hc0] at h1 h2
  have hlen : (c :: t).length ≤ 16 := by rw [← hct]; simpa using hl
  have hu : unsign (c :: t) = c :: t := by simp [unsign, h1, h2]
  have hm : minusB (c :: t) = false := by simp [minusB, h1]
  have e1 : ((⟨#[43, 48]⟩ : ByteArray) ++ s).data.toList = 43 :: 48 :: c :: t := by rw [show (⟨#[43, 48]⟩ : ByteArray) = ⟨([43, 48] : List UInt8).toArray⟩ from rfl, join_one, hct]; rfl
  have e2 : ((⟨#[45]⟩ : ByteArray) ++ s).data.toList = 45 :: c :: t := by rw [show (⟨#[45]⟩ : ByteArray) = ⟨([45] : List UInt8).toArray⟩ from rfl, join_one, hct]; rfl
  have u1 : unsign (43 :: 48 :: c :: t) = 48 :: c :: t := by simp [unsign]
  have u2 : unsign (45 :: c :: t) = c :: t := by simp [unsign]
  have m1 : minusB (43 :: 48 :: c :: t) = false := by simp [minusB]
  have m2 : minusB (45 :: c :: t) = true := by simp [minusB]
  rw [e1, e2]
  unfold readO readV at *
  rw [hct] at ho ⊢
  rw [hu] at ho ⊢
  rw [u1, u2, m1, m2, hm]
  cases hr : Pl.readN 10 18 (c :: t) with
  | none => rw [hr] at ho; cases ho
  | some n =>
    rw [readN_nought (c :: t) n hr (by omega)]
    have hb := readN_le (c :: t)
    rw [hr] at hb
    have hb' : n < 1000000000000000000 := hb
    refine ⟨rfl, rfl, rfl, rfl, ?_, ?_⟩
    · show (0 : Int) ≤ ((n : Nat) : Int); omega
    · show ((n : Nat) : Int) ≤ _; omega

set_option maxHeartbeats 800000 in
theorem fnInt_walk (a0 : Option Addr) (len0 cap0 : Nat) (w : World) (hB : BytesIn w a0 len0) (hlow : ∀ x, a0 = some x → len0 ≠ 0 → x.block < w.heap.size) :
    Calls Try.prog 5 #[.slice a0 len0 cap0] w fun e w' => e = .returned (.bool true) ∧ Below w.heap.size w w' := by
  by_cases hbig : len0 ≤ 1048576
  · go_enter Try.func5, Try.ntmps5
    go_wp2_with fail
    refine (big_no _ _ _ _ hbig).mono ?_
    rintro e w1 ⟨rfl, rfl⟩
    go_wp2_with fail
    refine (drawReadInt w a0 len0 cap0 hbig hB hlow).mono ?_
    rintro e w2 ⟨s, hs, rfl, hb2⟩
    clear hB hlow
    go_wp2_with fail
    refine (readInt_impl s _ (by unfold maxLen; omega)).mono ?_
    rintro e w3 ⟨rfl, hb3⟩
    replace hb3 := hb2.trans (hb3.mono hb2.size)
    clear hb2
    go_wp2_with fail
    refine (readInt_spec s _ (by unfold maxLen; omega)).mono ?_
    rintro e w4 ⟨rfl, rfl⟩
    have hv : (readV s.data.toList != readV s.data.toList) = false := by simp
    have ho : (readO s.data.toList != readO s.data.toList) = false := by simp
    cases hok : readO s.data.toList
    · have hok2 : (false != false) = false := rfl
      clear ho
      generalize readV s.data.toList = v at *
      go_wp2
      go_ret
      exact ⟨rfl, hb3⟩
    · have hok2 : (true != true) = false := rfl
      clear ho
      by_cases hsz : (16 : Int) < s.size
      · clear hok
        generalize readV s.data.toList = v at *
        go_wp2
        go_ret
        exact ⟨rfl, hb3⟩
      · have hpos : 0 < s.size := by
          rcases Nat.eq_zero_or_pos s.size with h | h
          · exfalso
            have h1 : s.data.toList = [] := by apply List.eq_nil_of_length_eq_zero; simpa using h
            rw [h1] at hok
            cases hok
          · exact h
        by_cases hm : s[0] = 45
        · have hb1 : ((s[0].toNat : Int) == 45) = true := by rw [hm]; rfl
          clear hok hm
          generalize readV s.data.toList = v at *
          go_wp2
          go_ret
          exact ⟨rfl, hb3⟩
        · have hb1 : ((s[0].toNat : Int) == 45) = false := by
            rw [beq_eq_false_iff_ne]; intro e; apply hm; apply UInt8.toNat_inj.1; exact Int.ofNat_inj.1 e
          by_cases hp : s[0] = 43
          · have hb2 : ((s[0].toNat : Int) == 43) = true := by rw [hp]; rfl
            clear hok hp hm
            generalize readV s.data.toList = v at *
            go_wp2
            go_ret
            exact ⟨rfl, hb3⟩
          · have hb2 : ((s[0].toNat : Int) == 43) = false := by
              rw [beq_eq_false_iff_ne]; intro e; apply hp; apply UInt8.toNat_inj.1; exact Int.ofNat_inj.1 e
            obtain ⟨r1, r2, r3, r4, r5, r6⟩ := read_signed s hok (by omega) hpos hm hp
            have R1 := Lib.hid r1
            have R2 := Lib.hid r2
            have R3 := Lib.hid r3
            have R4 := Lib.hid r4
            clear hok hp hm r1 r2 r3 r4
            generalize hvv : readV s.data.toList = v at *
            have HVV := Lib.hid hvv
            clear hvv
            go_wp2_with fail
            refine (readInt_impl _ _ (by rw [ByteArray.size_append, show (⟨#[43, 48]⟩ : ByteArray).size = 2 from rfl]; unfold maxLen; omega)).mono ?_
            rintro e w5 ⟨rfl, hb5⟩
            replace hb5 := hb3.trans (hb5.mono hb3.size)
            rw [R1.out, R3.out]
            go_wp2_with fail
            refine (readInt_impl _ _ (by rw [ByteArray.size_append, show (⟨#[45]⟩ : ByteArray).size = 1 from rfl]; unfold maxLen; omega)).mono ?_
            rintro e w6 ⟨rfl, hb6⟩
            replace hb6 := hb5.trans (hb6.mono hb5.size)
            rw [R2.out, R4.out]
            have hq1 : (v == v) = true := by simp
            have hq2 : (-v == -v) = true := by simp
            go_wp2
            go_ret
            exact ⟨rfl, hb6⟩
  · go_enter Try.func5, Try.ntmps5
    go_wp2_with fail
    refine (big_yes _ _ _ _ (by omega)).mono ?_
    rintro e w1 ⟨rfl, rfl⟩
    go_wp2
    go_ret
    exact ⟨rfl, Below.refl _ _⟩

end Go.Proofs.Ytkhcdopnohbieaa
