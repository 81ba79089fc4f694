/- The walk of the law FnHex. -/
import Derived.Test.YtkhcdopnohbieaaProg
import Derived.Test.YtkhcdopnohbieaaPlain
import Derived.Test.YtkhcdopnohbieaaDraw
import Derived.Test.YtkhcdopnohbieaaDrawNum
import Derived.Test.YtkhcdopnohbieaaBent
import Derived.Test.YtkhcdopnohbieaaHex
import Derived.Test.YtkhcdopnohbieaaReadInt
import Derived.WalkKit
import Derived.WalkLawsBesides
import Derived.BigQuiet
import Derived.Deep.QuietTactic
import Derived.Deep.RegionWith
import Derived.Lib.QuietBelow
import Derived.Laws.IdiomStrings
import Derived.Lib.Hide
import Derived.IntWalk
namespace Go.Proofs.Ytkhcdopnohbieaa
open Go.RowKit Go.Sort
set_option linter.unusedVariables false

/-! small letters -/
def low1 (c : UInt8) : UInt8 := if 65 ≤ c.toNat ∧ c.toNat ≤ 70 then c + 32 else c
theorem low1_nat (c : UInt8) (h : 65 ≤ c.toNat ∧ c.toNat ≤ 70) : (low1 c).toNat = c.toNat + 32 := by
  unfold low1
  rw [if_pos h, UInt8.toNat_add]
  have : (32 : UInt8).toNat = 32 := rfl
  omega
theorem low1_same (c : UInt8) (h : ¬ (65 ≤ c.toNat ∧ c.toNat ≤ 70)) : low1 c = c := by unfold low1; rw [if_neg h]
theorem dig_low (c : UInt8) : Pl.dig (low1 c) = Pl.dig c := by
  by_cases h : 65 ≤ c.toNat ∧ c.toNat ≤ 70
  · have h1 := low1_nat c h
    unfold Pl.dig
    rw [if_neg (by omega), if_pos (by omega), if_neg (by omega), if_neg (by omega), if_pos (by omega)]
    omega
  · rw [low1_same c h]
theorem num_low (l : List UInt8) : Pl.num 16 (l.map low1) = Pl.num 16 l := by
  induction l using Pl.snocInd with
  | nil => rfl
  | snoc l c ih => rw [List.map_append, List.map_cons, List.map_nil, Pl.num_snoc, Pl.num_snoc, ih, dig_low]
theorem readN_low (l : List UInt8) : Pl.readN 16 8 (l.map low1) = Pl.readN 16 8 l := by
  unfold Pl.readN
  have e : (l.map low1).all (Pl.okB 16) = l.all (Pl.okB 16) := by
    rw [List.all_map]
    congr 1
    funext c
    simp [Pl.okB, dig_low]
  rw [List.length_map, e, num_low]
theorem hexT_snoc (n x d : Nat) (hx : x < 16) : Pl.hexT (n * 16 + x) (d + 1) = Pl.hexT n d ++ [Pl.hexD x] := by
  induction d with
  | zero =>
    simp only [Pl.hexT, Nat.pow_zero, Nat.div_one, List.nil_append]
    unfold Pl.hexD
    rw [show (n * 16 + x) % 16 = x % 16 by omega]
  | succ d ih =>
    rw [Pl.hexT_succ, ih, Pl.hexT_succ]
    have e : (n * 16 + x) / 16 ^ (d + 1) = n / 16 ^ d := by
      rw [Nat.pow_succ, Nat.mul_comm (16 ^ d) 16, ← Nat.div_div_eq_div_mul]
      rw [show (n * 16 + x) / 16 = n by omega]
    rw [e]
    rfl
theorem hexD_dig (c : UInt8) (h : Pl.okB 16 c = true) : Pl.hexD (Pl.dig c) = low1 c := by
  have key : ∀ c : Fin 256, Pl.okB 16 (UInt8.ofNat c.val) = true → Pl.hexD (Pl.dig (UInt8.ofNat c.val)) = low1 (UInt8.ofNat c.val) := by decide +kernel
  have := key ⟨c.toNat, c.toNat_lt⟩
  simp only [UInt8.ofNat_toNat] at this
  exact this h
theorem hexT_num (l : List UInt8) (h : l.all (Pl.okB 16) = true) : Pl.hexT (Pl.num 16 l) l.length = l.map low1 := by
  induction l using Pl.snocInd with
  | nil => rfl
  | snoc l c ih =>
    simp only [List.all_append, List.all_cons, List.all_nil, Bool.and_true, Bool.and_eq_true] at h
    have hd : Pl.dig c < 16 := by simpa [Pl.okB] using h.2
    rw [Pl.num_snoc, List.length_append, List.length_cons, List.length_nil, hexT_snoc _ _ _ hd, ih h.1, hexD_dig c h.2]
    simp
theorem hexOf_read (l : List UInt8) (n : Nat) (h : Pl.readN 16 8 l = some n) : Pl.hexOf (n : Int) (l.length : Int) = l.map low1 := by
  unfold Pl.readN at h
  split at h
  · rename_i hc
    cases h
    unfold Pl.hexOf
    rw [if_neg (by omega), Int.toNat_natCast, Int.toNat_natCast]
    exact hexT_num l hc.2.2
  · cases h

/-- the first k bytes made small, the others as they are -/
def mixAt (s : ByteArray) (k j : Nat) : UInt8 := if j < k then low1 (s.data.toList.getD j 0) else s.data.toList.getD j 0
/-- the bytes of a row that the call itself made, open to be written -/
def BytesAt (w : World) (b n : Nat) (f : Nat → UInt8) : Prop := ∀ j, j < n → w.cell? ⟨b, j, none⟩ = some (.int .u8 ((f j).toNat : Int)) ∧ w.frozen? ⟨b, j, none⟩ = false
theorem bytesAt_kept {w w' : World} {b n : Nat} {f : Nat → UInt8} (h : BytesAt w b n f) (hk : w'.heap[b]? = w.heap[b]?) : BytesAt w' b n f :=
  fun j hj => ⟨(World.cell?_of_block (a := ⟨b, j, none⟩) hk).trans (h j hj).1, (World.frozen?_of_block (a := ⟨b, j, none⟩) hk).trans (h j hj).2⟩
theorem bytesAt_set {w : World} {b n k : Nat} {f : Nat → UInt8} (h : BytesAt w b n f) (hk : k < n) (c : UInt8) : BytesAt (w.setCell ⟨b, k, none⟩ (.int .u8 (c.toNat : Int))) b n (fun j => if j = k then c else f j) := by
  intro j hj
  refine ⟨?_, by rw [World.frozen?_setCell]; exact (h j hj).2⟩
  by_cases e : j = k
  · subst e
    rw [World.cell?_setCell_same _ _ _ (h j hj).1]
    simp
  · rw [World.cell?_setCell_other _ _ _ _ (by intro h2; apply e; cases h2; rfl), (h j hj).1]
    simp [e]
theorem mix_step (s : ByteArray) (k : Nat) (hk : k < s.size) : (fun j => if j = k then low1 s[k] else mixAt s k j) = mixAt s (k + 1) := by
  funext j
  have e : s.data.toList.getD k 0 = s[k] := by
    rw [List.getD_eq_getElem?_getD, List.getElem?_eq_getElem (by simpa using hk)]
    rfl
  unfold mixAt
  by_cases h : j = k
  · subst h
    rw [if_pos rfl, if_pos (by omega), e]
  · simp only [h, if_false]
    by_cases h2 : j < k
    · rw [if_pos h2, if_pos (by omega)]
    · rw [if_neg h2, if_neg (by omega)]
theorem mix_at (s : ByteArray) (k : Nat) (hk : k < s.size) : mixAt s k k = s[k] := by
  unfold mixAt
  rw [if_neg (by omega), List.getD_eq_getElem?_getD, List.getElem?_eq_getElem (by simpa using hk)]
  rfl
theorem low_back {w : World} {b cap : Nat} {s : ByteArray} (h : BytesAt w b s.size (mixAt s s.size)) :
    (convert 22 9 (.slice (some ⟨b, 0, none⟩) s.size cap)).run Try.prog w = .ok (.string ⟨(s.data.toList.map low1).toArray⟩) w := by
  have hl : (s.data.toList.map low1).length = s.size := by simp
  have hc := run_convert_bytes_back (P := Try.prog) w 22 9 5 ⟨b, 0, none⟩ cap (s.data.toList.map low1) Try.underlying22 Try.underlying5 Try.underlying9 (fun j hj => by
    have hj' : j < s.size := by omega
    have ha : (⟨b, 0, none⟩ : Addr).add j = ⟨b, j, none⟩ := by unfold Addr.add; split <;> simp_all
    rw [ha, (h j hj').1]
    have e : mixAt s s.size j = (s.data.toList.map low1)[j] := by
      unfold mixAt
      rw [if_pos hj', List.getElem_map, List.getD_eq_getElem?_getD, List.getElem?_eq_getElem (by simpa using hj')]
      rfl
    rw [e])
  rw [hl] at hc
  exact hc
theorem row_laid (w : World) (s : ByteArray) (cap e : Nat) : BytesAt (w.alloc (.cells (bytesRow s cap) e ((bytesRow s cap).size, (bytesRow s cap).size + 1))) w.heap.size s.size (mixAt s 0) := by
  intro j hj
  have hsz : j < (bytesRow s cap).size := by unfold bytesRow; simp; omega
  have hcell : (bytesRow s cap)[j]? = some (.int .u8 ((mixAt s 0 j).toNat : Int)) := by
    unfold bytesRow mixAt
    rw [Array.getElem?_append_left (by simpa using hj)]
    simp [List.getD_eq_getElem?_getD, hj]
  refine ⟨?_, ?_⟩
  · rw [World.cell?_alloc_mark]; exact hcell
  · rw [World.frozen?_alloc_mark]; simp; omega

set_option maxHeartbeats 1600000 in
theorem fnHex_walk (a0 : Option Addr) (len0 cap0 : Nat) (w : World) (hB : BytesIn w a0 len0) (hlow : ∀ x, a0 = some x → len0 ≠ 0 → x.block < w.heap.size) :
    Calls Try.prog 4 #[.slice a0 len0 cap0] w fun e w' => e = .returned (.bool true) ∧ Below w.heap.size w w' := by
  by_cases hbig : len0 ≤ 1048576
  · go_enter Try.func4, Try.ntmps4
    go_wp2_with fail
    refine (big_no _ _ _ _ hbig).mono ?_
    rintro e w1 ⟨rfl, rfl⟩
    go_wp2_with fail
    refine (drawReadHex w a0 len0 cap0 hbig hB hlow).mono ?_
    rintro e w2 ⟨s, hs, rfl, hb2⟩
    clear hB hlow
    go_wp2_with fail
    refine (readHex_impl s _).mono ?_
    rintro e w3 ⟨rfl, hb3⟩
    replace hb3 := hb2.trans (hb3.mono hb2.size)
    clear hb2
    have hcv := run_bytes_of_string (P := Try.prog) w3 9 22 5 s Try.underlying9 Try.underlying22 Try.underlying5
    have hrow := row_laid w3.drew s (grownCap w3 s.size 0 5) 5
    have hb4 := (hb3.drew).alloc (by have := hb3.size; simpa using this) (.cells (bytesRow s (grownCap w3 s.size 0 5)) 5 ((bytesRow s (grownCap w3 s.size 0 5)).size, (bytesRow s (grownCap w3 s.size 0 5)).size + 1))
    have hsz3 := hb3.size
    have hsz4 : w3.heap.size < (w3.drew.alloc (.cells (bytesRow s (grownCap w3 s.size 0 5)) 5 ((bytesRow s (grownCap w3 s.size 0 5)).size, (bytesRow s (grownCap w3 s.size 0 5)).size + 1))).heap.size := by simp
    clear hb3
    generalize w3.drew.alloc (.cells (bytesRow s (grownCap w3 s.size 0 5)) 5 ((bytesRow s (grownCap w3 s.size 0 5)).size, (bytesRow s (grownCap w3 s.size 0 5)).size + 1)) = w4 at *
    generalize grownCap w3 s.size 0 5 = cap at *
    simp only [World.size_drew] at hrow
    have HROW := Lib.hid hrow
    clear hrow
    go_wp2
    clear hcv
    go_loopw [6] (fun i wr => ∃ k : Nat, k ≤ s.size ∧ i = .int .i64 k ∧ Hid (BytesAt wr w3.heap.size s.size (mixAt s k)) ∧ Below w.heap.size w wr ∧ w3.heap.size < wr.heap.size) (fun i _ => s.size - (intOf i).toNat)
    case atStart => exact ⟨0, Nat.zero_le _, rfl, HROW, hb4, hsz4⟩
    case round =>
      obtain ⟨k, hk, rfl, hrow, hb, hsz⟩ := hrel
      by_cases hlt : k < s.size
      · obtain ⟨hcell, hfro⟩ := hrow.out k hlt
        rw [mix_at s k hlt] at hcell
        have hcb : s[k].toNat < 256 := s[k].toNat_lt
        by_cases hup : 65 ≤ s[k].toNat ∧ s[k].toNat ≤ 70
        · have hset := bytesAt_set hrow.out hlt (low1 s[k])
          rw [mix_step s k hlt] at hset
          rw [low1_nat _ hup] at hset
          have HSET := Lib.hid hset
          have hbn := hb.setCell (p := ⟨w3.heap.size, k, none⟩) hsz3 (.int .u8 ((s[k].toNat + 32 : Nat) : Int))
          have hwr : (((s[k].toNat + 32 : Nat)) : Int) = (s[k].toNat : Int) + 32 := by omega
          rw [hwr] at HSET hbn
          obtain ⟨hu1, hu2⟩ := hup
          clear hset hwr hrow
          go_wp2
          go_roundw
          case rel => exact ⟨k + 1, by omega, by go_num, HSET, hbn, by simpa using hsz⟩
          case measure => simp [intOf]; omega
        · have hset : Hid (BytesAt wr w3.heap.size s.size (mixAt s (k + 1))) := by
            unfold Hid
            rw [← mix_step s k hlt, low1_same _ hup]
            intro j hj
            by_cases e : j = k
            · subst e
              simp only [if_true]
              exact ⟨hcell, hfro⟩
            · simp only [e, if_false]
              exact hrow.out j hj
          clear hrow
          rcases (show s[k].toNat < 65 ∨ 70 < s[k].toNat by omega) with hu | hu
          · clear hup
            go_wp2
            go_roundw
            case rel => exact ⟨k + 1, by omega, by go_num, hset, hb, hsz⟩
            case measure => simp [intOf]; omega
          · have hu2 : 65 ≤ s[k].toNat := by omega
            clear hup
            go_wp2
            go_roundw
            case rel => exact ⟨k + 1, by omega, by go_num, hset, hb, hsz⟩
            case measure => simp [intOf]; omega
      · obtain rfl : k = s.size := by omega
        have hll : (⟨(s.data.toList.map low1).toArray⟩ : ByteArray).data.toList = s.data.toList.map low1 := by simp
        have K22 : ∀ (v : Int), orNeg (Pl.readN 16 8 s.data.toList) = v → Hid (∀ d os, Calls Try.prog 22 #[.string s] (grow (redrawn wr d) os) fun e w' => e = .returned (.int .i64 v) ∧ ∃ p : Regrown, w' = grow (redrawn wr p.d) p.os) := by
          rintro v rfl d os
          exact Calls.regrown_of ((readHex_spec s _).mono fun e w' ⟨he, hw⟩ => ⟨he, hw ▸ Below.refl _ _⟩)
        have K21 : ∀ (v : Int), orNeg (Pl.readN 16 8 s.data.toList) = v → Hid (∀ d os, Calls Try.prog 21 #[.string ⟨(s.data.toList.map low1).toArray⟩] (grow (redrawn wr d) os) fun e w' => e = .returned (.int .i64 v) ∧ ∃ p : Regrown, w' = grow (redrawn wr p.d) p.os) := by
          rintro v rfl d os
          have h := readHex_impl ⟨(s.data.toList.map low1).toArray⟩ (grow (redrawn wr d) os)
          rw [hll, readN_low] at h
          exact Calls.regrown_of h
        have hcv : ∀ d os, (convert 22 9 (.slice (some ⟨w3.heap.size, 0, none⟩) s.size cap)).run Try.prog (grow (redrawn wr d) os) = .ok (.string ⟨(s.data.toList.map low1).toArray⟩) (grow (redrawn wr d) os) := fun d os =>
          low_back (bytesAt_kept hrow.out ((below_regrown wr d os).block _ hsz))
        clear hll hlt hk
        cases hr : Pl.readN 16 8 s.data.toList with
        | none =>
          have k22 := K22 (-1) (by rw [hr]; rfl)
          have k21 := K21 (-1) (by rw [hr]; rfl)
          clear hr K22 K21 hrow
          go_wp2_with fail
          rw [show orNeg none = -1 from rfl]
          refine wp_region_quiet_below (by kernel_rfl) (by kernel_rfl) ?_
          repeat (go_big_quiet_step (first | exact k22.out _ _ | exact k21.out _ _))
          refine wpQuiet_nil ?_
          intro _ hw'
          obtain ⟨⟨dq, osq⟩, hw''⟩ := hw'
          subst hw''
          go_wp2
          go_ret
          exact ⟨rfl, hb.trans ((below_regrown wr dq osq).mono hb.size)⟩
        | some n =>
          have hhx := hexOf_read s.data.toList n hr
          have hsl : s.data.toList.length = s.size := by simp
          rw [hsl] at hhx
          have hnb : n < 4294967296 := by have := readN16_le s.data.toList; rw [hr] at this; exact this
          have k22 := K22 n (by rw [hr]; rfl)
          have k21 := K21 n (by rw [hr]; rfl)
          have k23 : Hid (∀ d os, Calls Try.prog 23 #[.int .i64 (n : Int), .int .i64 (s.size : Int)] (grow (redrawn wr d) os) fun e w' => e = .returned (.string ⟨(s.data.toList.map low1).toArray⟩) ∧ ∃ p : Regrown, w' = grow (redrawn wr p.d) p.os) := by
            intro d os
            have h := hex_impl (n : Int) (s.size : Int) (grow (redrawn wr d) os) (by omega)
            rw [hhx] at h
            exact Calls.regrown_of h
          have hn0 : decide ((n : Int) < 0) = false := by simp
          clear hr K22 K21 hrow hhx hsl
          go_wp2_with fail
          rw [show orNeg (some n) = (n : Int) from rfl]
          refine wp_region_quiet_below (by kernel_rfl) (by kernel_rfl) ?_
          repeat (go_big_quiet_step (first | exact k22.out _ _ | exact k21.out _ _ | exact k23.out _ _))
          refine wpQuiet_nil ?_
          intro _ hw'
          obtain ⟨⟨dq, osq⟩, hw''⟩ := hw'
          subst hw''
          go_wp2
          go_ret
          exact ⟨rfl, hb.trans ((below_regrown wr dq osq).mono hb.size)⟩
  · go_enter Try.func4, Try.ntmps4
    go_wp2_with fail
    refine (big_yes _ _ _ _ (by omega)).mono ?_
    rintro e w1 ⟨rfl, rfl⟩
    go_wp2
    go_ret
    exact ⟨rfl, Below.refl _ _⟩

end Go.Proofs.Ytkhcdopnohbieaa
