/- Settings for a shell: the program's EnvEscape. -/
import Derived.Test.YtkhkpjnpjgnckaaGreatDoorProg
import Derived.Test.YtkhkpjnpjgnckaaGreatDoorPlain
import Derived.Test.YtkhkpjnpjgnckaaGreatDoorCut
import Derived.Test.YtkhkpjnpjgnckaaGreatDoorEscMarks
import Derived.Test.YtkhkpjnpjgnckaaGreatDoorEnvEscPure
import Derived.WalkKit
import Derived.WalkLawsBesides
import Derived.Laws.IdiomStrings
import Derived.Lib.Hide
import Derived.IntWalk
import Derived.Test.YtkhkpjnpjgnckaaGreatDoorRows0
import Derived.Test.YtkhkpjnpjgnckaaGreatDoorRecRows
import Derived.Test.YtkhkpjnpjgnckaaGreatDoorRecArg
import Derived.Test.YtkhkpjnpjgnckaaGreatDoorRecRaw
import Derived.Test.YtkhkpjnpjgnckaaGreatDoorRecEq
import Derived.Test.YtkhkpjnpjgnckaaGreatDoorEnvOne
import Derived.Test.YtkhkpjnpjgnckaaGreatDoorEnvRecs
import Derived.Test.YtkhkpjnpjgnckaaGreatDoorEnvRepl
import Derived.Test.YtkhkpjnpjgnckaaGreatDoorEnvBig
import Derived.Test.YtkhkpjnpjgnckaaGreatDoorEnvPutLine
import Derived.Test.YtkhkpjnpjgnckaaGreatDoorEnvPutSpec
import Derived.OwnWalk
import Derived.BigQuiet
import Derived.Deep.QuietTactic
import Derived.Deep.RegionHeld3
import Derived.Lib.QuietBelow
import Derived.Outline
set_option maxRecDepth 100000
namespace Go.Proofs.YtkhkpjnpjgnckaaGreatDoor
open Go.RowKit Go.Sort
set_option linter.unusedVariables false

theorem escC_shell (c : UInt8) : escC ⟨#[36]⟩ c = escVC c := by
  unfold escC escVC
  have e : (c == 92 || c == 34 || hasB ⟨#[36]⟩ c) = true ↔ (c = 92 ∨ c = 34 ∨ c = 36) := by
    have h : hasB ⟨#[36]⟩ c = (c == 36) := by
      show ([36] : List UInt8).contains c = (c == 36)
      rw [List.contains_cons]
      exact Bool.or_false _
    rw [h]
    simp only [Bool.or_eq_true, beq_iff_eq]
    constructor
    · rintro ((h | h) | h)
      · exact .inl h
      · exact .inr (.inl h)
      · exact .inr (.inr h)
    · rintro (h | h | h)
      · exact .inl (.inl h)
      · exact .inl (.inr h)
      · exact .inr h
  simp only [e]
theorem escL_shell (l : List UInt8) : escL ⟨#[36]⟩ l = escVL l := by
  unfold escL escVL
  congr 1
  funext c
  exact escC_shell c
set_option maxHeartbeats 1600000 in
theorem envEscape_impl2 (s : ByteArray) (w : World) (hs : s.size ≤ 1048576) :
    Calls Tryz.prog 17 #[.string s] w fun e w' => e = .returned (.string (escVT s)) ∧ Below w.heap.size w w' := by
  have KM := Lib.hid (fun w => escapeMarks_impl ⟨#[36]⟩ s w hs)
  have HV : (⟨(escL ⟨#[36]⟩ s.data.toList).toArray⟩ : ByteArray) = escVT s := by rw [escL_shell]; rfl
  rw [HV] at KM
  generalize escVT s = r at *
  clear HV
  go_enter Tryz.func17, Tryz.ntmps17
  go_wp2_with fail
  refine (KM.out _).mono ?_
  rintro e w1 ⟨rfl, hb1⟩
  clear KM
  go_wp2
  go_ret
  exact ⟨rfl, hb1⟩

end Go.Proofs.YtkhkpjnpjgnckaaGreatDoor

/- Settings for a shell: the program's EnvPair. -/
set_option maxRecDepth 100000
namespace Go.Proofs.YtkhkpjnpjgnckaaGreatDoor
open Go.RowKit Go.Sort
set_option linter.unusedVariables false

/-- the forms that are tried -/
def formE (v : ByteArray) : Nat → ByteArray
  | 0 => v
  | 1 => ⟨#[39]⟩ ++ v ++ ⟨#[39]⟩
  | _ => ⟨#[34]⟩ ++ escVT v ++ ⟨#[34]⟩
theorem form_cand (key v : ByteArray) (k : Nat) : key ++ ⟨#[61]⟩ ++ formE v k = candE key v k := by
  match k with
  | 0 => rfl
  | 1 =>
    show key ++ ⟨#[61]⟩ ++ (⟨#[39]⟩ ++ v ++ ⟨#[39]⟩) = key ++ ⟨#[61, 39]⟩ ++ v ++ ⟨#[39]⟩
    have e : (⟨#[61, 39]⟩ : ByteArray) = ⟨#[61]⟩ ++ ⟨#[39]⟩ := rfl
    rw [e]
    simp only [ByteArray.append_assoc]
  | k + 2 =>
    show key ++ ⟨#[61]⟩ ++ (⟨#[34]⟩ ++ escVT v ++ ⟨#[34]⟩) = key ++ ⟨#[61, 34]⟩ ++ escVT v ++ ⟨#[34]⟩
    have e : (⟨#[61, 34]⟩ : ByteArray) = ⟨#[61]⟩ ++ ⟨#[34]⟩ := rfl
    rw [e]
    simp only [ByteArray.append_assoc]
theorem form_cell {w : World} {g : Nat} {v : ByteArray} (h : TryAt w g (formE v 0) (formE v 1) (formE v 2)) (k : Nat) (hk : k < 3) : w.cell? ⟨g, k, none⟩ = some (.string (formE v k)) := by
  unfold TryAt at h
  rw [Lib.cell_of_heap h]
  match k, hk with
  | 0, _ => rfl
  | 1, _ => rfl
  | 2, _ => rfl

/-- records that a call has made, in a list whose address is told -/
def GotE (W : World) (m : List RecD) (e : Ending) (w' : World) : Prop := ∃ a cap g, e = .returned (.slice a m.length cap) ∧ RowsRd recS w' (.slice a m.length cap) g 0 m ∧ W.heap.size ≤ g ∧ Below W.heap.size W w'
theorem gotE {W0 W : World} {m : List RecD} {e : Ending} {w' : World} (h0 : Below W0.heap.size W0 W) (h : NewRows recS W m e w') : GotE W0 m e w' := by
  obtain ⟨v, g, rfl, hR, hg, hb⟩ := h
  obtain ⟨a, cap, rfl, ha⟩ := hR.form
  exact ⟨a, cap, g, rfl, hR.toRowsRd, Nat.le_trans h0.size hg, h0.trans (hb.mono h0.size)⟩
theorem one_rowE {w : World} {g : Nat} {x : RecD} (h : RecIn w g x) : RowsRd recS w (.slice (some ⟨g, 0, none⟩) 1 1) g 0 [x] := by
  refine ⟨⟨some ⟨g, 0, none⟩, 1, rfl, fun _ => rfl⟩, ?_⟩
  intro i hi j u hu
  simp only [List.length_cons, List.length_nil] at hi
  obtain rfl : i = 0 := by omega
  obtain ⟨q0, q1, q2, q3, q4, q5⟩ := h.cells
  match j, hu with
  | 0, hu => simpa [recS, recCs] using q0.trans hu
  | 1, hu => simpa [recS, recCs] using q1.trans hu
  | 2, hu => simpa [recS, recCs] using q2.trans hu
  | 3, hu => simpa [recS, recCs] using q3.trans hu
  | 4, hu => simpa [recS, recCs] using q4.trans hu
  | 5, hu => simpa [recS, recCs] using q5.trans hu
  | j + 6, hu => simp [recS, recCs] at hu
set_option maxHeartbeats 1600000 in
theorem firstLine_impl (key v : ByteArray) (g : Nat) (w : World) (hk : key.size ≤ 1048576) (hv : v.size ≤ 1048576) (hT : TryAt w g (formE v 0) (formE v 1) (formE v 2)) (hg : g < w.heap.size) :
    Calls Tryz.prog 37 #[.string key, .string v, .slice (some ⟨g, 0, none⟩) 3 3] w fun e w' => e = .returned (.tuple #[.string (putE key v).1, .bool (putE key v).2]) ∧ Below w.heap.size w w' := by
  have KP := Lib.hid (fun (k : Nat) (w : World) => parseEnv_anyB (candE key v k ++ ⟨#[10]⟩) w (by have := candE_size key v k; rw [ByteArray.size_append, show (⟨#[10]⟩ : ByteArray).size = 1 from rfl]; omega))
  have KL := Lib.hid (fun w => plain_impl v w (by omega))
  have HH := Lib.hid (putE_hit key v)
  have HN := Lib.hid (putE_none key v)
  have HLN : Hid (∀ k, (propsL (candE key v k ++ ⟨#[10]⟩)).length ≤ 200) := fun k => propsL_len _
  have HHE : Hid (∀ k, hitE key v k = decide (propsL (candE key v k ++ ⟨#[10]⟩) = [(⟨3, candE key v k ++ ⟨#[10]⟩, ⟨#[]⟩, key, plainT v, 1⟩ : RecD)])) := fun k => rfl
  have HCS := Lib.hid (candE_size key v)
  have HFC := Lib.hid (form_cand key v)
  have HCE : Hid (∀ (W : World), TryAt W g (formE v 0) (formE v 1) (formE v 2) → ∀ k, k < 3 → W.cell? ⟨g, k, none⟩ = some (.string (formE v k))) := fun W h k hk => form_cell h k hk
  have HT := Lib.hid hT
  clear hT
  generalize putE key v = r at *
  generalize plainT v = pv at *
  generalize formE v = fm at *
  generalize hcd : candE key v = cd at *
  generalize hht : hitE key v = ht at *
  clear hcd hht
  have z1 : (key ++ ⟨#[61]⟩ : ByteArray).size = key.size + 1 := ByteArray.size_append
  have hb2 := Lib.hid (Below.refl w.heap.size w)
  go_enter Tryz.func37, Tryz.ntmps37
  go_wp2
  go_loopw [14] (fun i wr => ∃ k : Nat, k ≤ 3 ∧ i = .int .i64 k ∧ Hid (∀ j, j < k → ht j = false) ∧ Hid (TryAt wr g (fm 0) (fm 1) (fm 2)) ∧ g < wr.heap.size ∧ Hid (Below w.heap.size w wr)) (fun i _ => 3 - (intOf i).toNat)
  case atStart => exact ⟨0, by omega, rfl, fun j hj => absurd hj (Nat.not_lt_zero _), HT, hg, hb2⟩
  case round =>
    obtain ⟨k, hk3, rfl, hno, hT, hgl, hb⟩ := hrel
    clear HT hb2
    by_cases hlt : k < 3
    · have hkz : (k : Int) < 3 := by omega
      have hkz2 : (k : Int) ≤ 3 := by omega
      have KP2 := Lib.hid (KP.out k)
      have hcz := HCS.out k
      have hml := HLN.out k
      have hhe := HHE.out k
      have hcell := HCE.out wr hT.out k hlt
      have hfc := HFC.out k
      have hyes : Hid (ht k = true → r = (cd k, true)) := fun h => HH.out k hlt hno.out h
      have hnext : Hid (ht k = false → ∀ j, j < k + 1 → ht j = false) := by
        intro h j hj
        by_cases e : j = k
        · subst e; exact h
        · exact hno.out j (by omega)
      generalize propsL (cd k ++ ⟨#[10]⟩) = m at *
      generalize hck : cd k = c at *
      generalize hfk : fm k = fk at *
      have zz : (key ++ ⟨#[61]⟩ ++ fk : ByteArray).size ≤ 10000000 := by rw [hfc]; omega
      have zz2 : (key ++ ⟨#[61]⟩ ++ fk : ByteArray).size = (key ++ ⟨#[61]⟩ : ByteArray).size + fk.size := ByteArray.size_append
      have HHE2 := Lib.hid hhe
      have HF := Lib.hid hfc
      clear KP HCS HLN HHE HH HN hno hck hhe hfk hfc HCE HFC
      generalize ht k = q at *
      have hcn : (c ++ ⟨#[10]⟩ : ByteArray).size = c.size + 1 := ByteArray.size_append
      go_wp2_with fail
      refine (KL.out _).mono ?_
      rintro e w3 ⟨rfl, hb3⟩
      rw [HF.out]
      have hT3 := Lib.hid (hT.out.over hb3 hgl)
      have hB3 := Lib.hid (hb.out.trans (hb3.mono hb.out.size))
      have hgl3 := Nat.lt_of_lt_of_le hgl hb3.size
      clear hT hb hb3 hcell KL z1 zz zz2 HF
      have hA : RecIn (w3.alloc (.cells #[.int .i64 3, .string (c ++ ⟨#[10]⟩), .string ⟨#[]⟩, .string key, .string pv, .int .i64 1] 35)) w3.heap.size ⟨3, c ++ ⟨#[10]⟩, ⟨#[]⟩, key, pv, 1⟩ := heap_alloc_new _ _
      have hT4 := hT3.out.over ((Below.refl w3.heap.size w3).alloc (Nat.le_refl _) (.cells #[.int .i64 3, .string (c ++ ⟨#[10]⟩), .string ⟨#[]⟩, .string key, .string pv, .int .i64 1] 35)) hgl3
      have hb0 := hB3.out.alloc hB3.out.size (.cells #[.int .i64 3, .string (c ++ ⟨#[10]⟩), .string ⟨#[]⟩, .string key, .string pv, .int .i64 1] 35)
      have hs0 : w3.heap.size < (w3.alloc (.cells #[.int .i64 3, .string (c ++ ⟨#[10]⟩), .string ⟨#[]⟩, .string key, .string pv, .int .i64 1] 35)).heap.size := by simp
      have hwb := hB3.out.size
      clear hT3 hB3 hcz hcn
      go_upto_region 6 with fail
      generalize (w3.alloc (.cells #[.int .i64 3, .string (c ++ ⟨#[10]⟩), .string ⟨#[]⟩, .string key, .string pv, .int .i64 1] 35)) = W at *
      generalize c ++ ⟨#[10]⟩ = raw at *
      generalize w3.heap.size = b at *
      have n3 : b ≠ W.heap.size := by omega
      have n4 : W.heap.size ≠ b := by omega
      have KB : Hid (Calls Tryz.prog 16 #[.string raw] W.drew (GotE W m)) := (KP2.out _).mono (fun _ _ h => gotE (below_drewN (Below.refl _ _) 1) h)
      have KA : Hid (Calls Tryz.prog 16 #[.string raw] (W.alloc (.cells #[.int .i64 3, .string raw, .string ⟨#[]⟩, .string key, .string pv, .int .i64 1] 35)).drew (GotE (W.alloc (.cells #[.int .i64 3, .string raw, .string ⟨#[]⟩, .string key, .string pv, .int .i64 1] 35)) m)) := (KP2.out _).mono (fun _ _ h => gotE (below_drewN (Below.refl _ _) 1) h)
      clear KP2
      obtain ⟨a0, a1, a2, a3, a4, a5⟩ := hA.cells
      simp only at a0 a1 a2 a3 a4 a5
      go_region_held3 (fun w' => w'.cell? ⟨b, 0, none⟩ = some (.int .i64 3) ∧ w'.cell? ⟨b, 1, none⟩ = some (.string raw) ∧ w'.cell? ⟨b, 2, none⟩ = some (.string ⟨#[]⟩) ∧ w'.cell? ⟨b, 3, none⟩ = some (.string key) ∧ w'.cell? ⟨b, 4, none⟩ = some (.string pv) ∧ w'.cell? ⟨b, 5, none⟩ = some (.int .i64 1))
        (first | go_keep | exact ⟨k0, k1, k2, k3, k4, k5⟩)
        (first
          | ((with_reducible refine KB.out.mono ?_); rintro e w2 ⟨a, cap, gl, rfl, hR, hg2, hb2⟩; have hA2 := hA.over hb2 hs0; have hT2 := hT4.over hb2 (by omega); have hB2 := hb0.trans (hb2.mono (by omega)); have hsz2 := hb2.size; obtain ⟨k0, k1, k2, k3, k4, k5⟩ := hA2.cells; simp only at k0 k1 k2 k3 k4 k5; have n7 : b ≠ w2.heap.size := (by omega); have n8 : w2.heap.size ≠ b := (by omega); have KE : Hid (Calls Tryz.prog 50 #[.slice a m.length cap, .slice (some ⟨w2.heap.size, 0, none⟩) 1 1] (w2.alloc (.cells #[.int .i64 3, .string raw, .string ⟨#[]⟩, .string key, .string pv, .int .i64 1] 35)) fun e w' => e = .returned (.bool q) ∧ Below w2.heap.size w2 w') := (by refine (equalRecs (w2.alloc (.cells #[.int .i64 3, .string raw, .string ⟨#[]⟩, .string key, .string pv, .int .i64 1] 35)) _ _ gl 0 w2.heap.size 0 m [⟨3, raw, ⟨#[]⟩, key, pv, 1⟩] (hR.over ((Below.refl _ _).alloc (Nat.le_refl _) _)) (one_rowE (heap_alloc_new _ _)) (by omega) (by simp)).mono ?_; rintro e w' ⟨rfl, n, rfl⟩; exact ⟨by rw [HHE2.out], below_drewN ((Below.refl _ _).alloc (Nat.le_refl _) _) n⟩))
          | ((with_reducible refine KA.out.mono ?_); rintro e w2 ⟨a, cap, gl, rfl, hR, hg2, hb2⟩; have hA2 := (hA.over ((Below.refl W.heap.size W).alloc (Nat.le_refl _) (.cells #[.int .i64 3, .string raw, .string ⟨#[]⟩, .string key, .string pv, .int .i64 1] 35)) hs0).over hb2 (by rw [World.size_alloc]; omega); have hT2 := (hT4.over ((Below.refl W.heap.size W).alloc (Nat.le_refl _) (.cells #[.int .i64 3, .string raw, .string ⟨#[]⟩, .string key, .string pv, .int .i64 1] 35)) (by omega)).over hb2 (by rw [World.size_alloc]; omega); have hB2 := (hb0.trans (((Below.refl W.heap.size W).alloc (Nat.le_refl _) (.cells #[.int .i64 3, .string raw, .string ⟨#[]⟩, .string key, .string pv, .int .i64 1] 35)).mono (by omega))).trans (hb2.mono (by rw [World.size_alloc]; omega)); have hsz2 := (by have hz := hb2.size; rwa [World.size_alloc] at hz : W.heap.size + 1 ≤ w2.heap.size); have hN2 := RecIn.over (show RecIn (W.alloc (.cells #[.int .i64 3, .string raw, .string ⟨#[]⟩, .string key, .string pv, .int .i64 1] 35)) W.heap.size ⟨3, raw, ⟨#[]⟩, key, pv, 1⟩ from heap_alloc_new _ _) hb2 (by rw [World.size_alloc]; omega); obtain ⟨k0, k1, k2, k3, k4, k5⟩ := hA2.cells; simp only at k0 k1 k2 k3 k4 k5; have KE : Hid (Calls Tryz.prog 50 #[.slice a m.length cap, .slice (some ⟨W.heap.size, 0, none⟩) 1 1] w2 fun e w' => e = .returned (.bool q) ∧ Below w2.heap.size w2 w') := (by refine (equalRecs w2 _ _ gl 0 W.heap.size 0 m [⟨3, raw, ⟨#[]⟩, key, pv, 1⟩] hR (one_rowE hN2) (by omega) (by simp)).mono ?_; rintro e w' ⟨rfl, n, rfl⟩; exact ⟨by rw [HHE2.out], below_drewN (Below.refl _ _) n⟩))
          | ((with_reducible refine KE.out.mono ?_); rintro e w5 ⟨rfl, hb5⟩; have hB5 := Lib.hid (hB2.trans (hb5.mono (by omega))); have hT5 := Lib.hid (hT2.over hb5 (by omega)); have hg5 : g < w5.heap.size := (by have := hb5.size; omega); obtain ⟨k0, k1, k2, k3, k4, k5⟩ := (hA2.over hb5 (by omega)).cells; simp only at k0 k1 k2 k3 k4 k5))
      all_goals
        clear KE hB2 hA2 k0 k1 k2 k3 k4 k5 hb5 hb2 hR hT2
        cases q
        · have hno2 := Lib.hid (hnext.out rfl)
          clear hyes hnext
          go_wp2
          go_roundw
          case rel => exact ⟨k + 1, by omega, by go_num, hno2, hT5, hg5, hB5⟩
          case measure => simp [intOf]; omega
        · have HF := Lib.hid (hyes.out rfl)
          clear hyes hnext
          go_wp2
          go_ret2
          exact ⟨by rw [HF.out]; rfl, hB5.out⟩
    · obtain rfl : k = 3 := by omega
      have HF := Lib.hid (HN.out hno.out)
      clear hno HH HN HHE HLN HCS KP HCE HFC
      go_wp2
      go_ret2
      exact ⟨by rw [HF.out]; rfl, hb.out⟩
set_option maxHeartbeats 1600000 in
theorem envPair_impl (key v : ByteArray) (w : World) (hk : key.size ≤ 1048576) (hv : v.size ≤ 1048576) :
    Calls Tryz.prog 14 #[.string key, .string v] w fun e w' => e = .returned (.tuple #[.string (putE key v).1, .bool (putE key v).2]) ∧ Below w.heap.size w w' := by
  have KE := Lib.hid (fun w => envEscape_impl2 v w (by omega))
  have hez := escVT_size v
  have KF := Lib.hid (fun g w hT hg => firstLine_impl key v g w hk hv hT hg)
  generalize putE key v = r at *
  have h0 : Hid (formE v 0 = v) := rfl
  have h1 : Hid (formE v 1 = ⟨#[39]⟩ ++ v ++ ⟨#[39]⟩) := rfl
  have h2 : Hid (formE v 2 = ⟨#[34]⟩ ++ escVT v ++ ⟨#[34]⟩) := rfl
  generalize formE v = fm at *
  generalize escVT v = ev at *
  have z2 : ((⟨#[39]⟩ : ByteArray) ++ v).size = 1 + v.size := ByteArray.size_append
  have z3 : ((⟨#[34]⟩ : ByteArray) ++ ev).size = 1 + ev.size := ByteArray.size_append
  go_enter Tryz.func14, Tryz.ntmps14
  go_wp2_with fail
  refine (KE.out _).mono ?_
  rintro e w1 ⟨rfl, hb1⟩
  clear KE
  have KF2 := Lib.hid (KF.out w1.heap.size (w1.alloc (.cells #[.string (fm 0), .string (fm 1), .string (fm 2)] 9)) (heap_alloc_new _ _) (by simp))
  have hb2 := hb1.alloc hb1.size (.cells #[.string (fm 0), .string (fm 1), .string (fm 2)] 9)
  rw [h0.out, h1.out, h2.out] at KF2 hb2
  clear KF h0 h1 h2 hb1
  go_wp2_with fail
  refine KF2.out.mono ?_
  rintro e w2 ⟨rfl, hb3⟩
  have hb4 := hb2.trans (hb3.mono hb2.size)
  clear hb2 hb3 KF2
  go_wp2
  go_ret2
  exact ⟨rfl, hb4⟩

end Go.Proofs.YtkhkpjnpjgnckaaGreatDoor
