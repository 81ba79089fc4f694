/- Settings for a shell: which are written, and what is read back. -/
import Derived.Test.YtkhkpjnpjgnckaaGreatDoorProg
import Derived.Test.YtkhkpjnpjgnckaaGreatDoorPlain
import Derived.Test.YtkhkpjnpjgnckaaGreatDoorRows0
import Derived.Test.YtkhkpjnpjgnckaaGreatDoorRecRows
import Derived.Test.YtkhkpjnpjgnckaaGreatDoorRecArg
import Derived.Test.YtkhkpjnpjgnckaaGreatDoorRecRaw
import Derived.Test.YtkhkpjnpjgnckaaGreatDoorEnvOne
import Derived.Test.YtkhkpjnpjgnckaaGreatDoorEnvRecs
import Derived.Test.YtkhkpjnpjgnckaaGreatDoorEnvFit
import Derived.Test.YtkhkpjnpjgnckaaGreatDoorEnvSame
import Derived.Test.YtkhkpjnpjgnckaaGreatDoorEnvThree
import Derived.Test.YtkhkpjnpjgnckaaGreatDoorEnvPutLine
import Derived.Test.YtkhkpjnpjgnckaaGreatDoorEnvPutSpec
import Derived.Lib.Hide
import Derived.Test.YtkhkpjnpjgnckaaGreatDoorDraw
import Derived.Test.YtkhkpjnpjgnckaaGreatDoorDrawNum
import Derived.WalkKit
import Derived.WalkLawsBesides
import Derived.BigQuiet
import Derived.Deep.QuietTactic
import Derived.Deep.RegionWith
import Derived.IntWalk
import Derived.Test.YtkhkpjnpjgnckaaGreatDoorEnvRepl
import Derived.Test.YtkhkpjnpjgnckaaGreatDoorEnvBig
import Derived.Test.YtkhkpjnpjgnckaaGreatDoorEnvPutImpl
import Derived.Lib.QuietBelow
import Derived.Laws.IdiomStrings
set_option maxRecDepth 100000
namespace Go.Proofs.YtkhkpjnpjgnckaaGreatDoor
open Go.RowKit
set_option linter.unusedVariables false

theorem app_dataS (a b : ByteArray) : (a ++ b).data.toList = a.data.toList ++ b.data.toList := by simp
theorem cand_shell (key v : ByteArray) : candE key v 2 ++ ⟨#[10]⟩ = ⟨(shellL [] key v ++ [10]).toArray⟩ := by
  apply of_data
  show (key ++ ⟨#[61, 34]⟩ ++ escVT v ++ ⟨#[34]⟩ ++ ⟨#[10]⟩).data.toList = _
  rw [app_dataS, app_dataS, app_dataS, app_dataS]
  unfold shellL escVT
  simp
theorem export_shell (key v : ByteArray) : (⟨#[101, 120, 112, 111, 114, 116, 32]⟩ : ByteArray) ++ key ++ ⟨#[61, 34]⟩ ++ escVT v ++ ⟨#[34, 10]⟩ = ⟨(shellL [101, 120, 112, 111, 114, 116, 32] key v ++ [10]).toArray⟩ := by
  apply of_data
  rw [app_dataS, app_dataS, app_dataS, app_dataS]
  unfold shellL escVT
  simp
theorem shell_size (pre : List UInt8) (key v : ByteArray) (hp : pre.length ≤ 7) (hk : key.size ≤ 40) (hv : v.size ≤ 1000) : (⟨(shellL pre key v ++ [10]).toArray⟩ : ByteArray).size ≤ 6000 := by
  have h := escVL_len v.data.toList
  rw [← Lib.size_eq] at h
  rw [Lib.size_eq]
  show (shellL pre key v ++ [10]).length ≤ _
  unfold shellL
  have := Lib.size_eq key
  simp only [List.length_append, List.length_cons, List.length_nil]
  omega
theorem shell_props (pre : List UInt8) (key v : ByteArray) (hpre : pre = [] ∨ pre = [101, 120, 112, 111, 114, 116, 32]) (hn : nameB key = true) (hv : v.size ≤ 1000) : propsL ⟨(shellL pre key v ++ [10]).toArray⟩ = [⟨3, ⟨(shellL pre key v ++ [10]).toArray⟩, ⟨#[]⟩, key, plainT v, 1⟩] := by
  have hk := (name_bytes2 hn).2.1
  have hz := shell_size pre key v (by rcases hpre with rfl | rfl <;> decide) hk hv
  unfold propsL
  rw [if_pos hz, shell_recs pre key v hpre hn, limG_few (by simp)]
theorem hit_name (key v : ByteArray) (k : Nat) (h : hitE key v k = true) : nameB key = true := by
  have h1 := of_decide_eq_true h
  have h2 := okR_env (candE key v k ++ ⟨#[10]⟩) (wantE (candE key v k) key v) (by rw [h1]; exact List.mem_singleton.2 rfl)
  exact h2.2.2.2.1 rfl
/-- written where the key is a name -/
theorem put_name (key v : ByteArray) (hv : v.size ≤ 1000) : (putE key v).2 = nameB key := by
  cases hn : nameB key
  · have hno : ∀ j, j < 3 → hitE key v j = false := by
      intro j _
      cases hj : hitE key v j
      · rfl
      · rw [hit_name key v j hj] at hn
        cases hn
    rw [putE_none key v hno]
  · have h2 : hitE key v 2 = true := by
      unfold hitE
      rw [decide_eq_true_iff, cand_shell, shell_props [] key v (.inl rfl) hn hv]
      unfold wantE
      rw [cand_shell]
    unfold putE
    split
    · rfl
    · split
      · rfl
      · first
          | rfl
          | rw [if_pos h2]
theorem put_back (key v : ByteArray) (h : (putE key v).2 = true) : ∃ raw, propsL ((putE key v).1 ++ ⟨#[10]⟩) = [⟨3, raw, ⟨#[]⟩, key, plainT v, 1⟩] := by
  unfold putE at *
  split at h
  · next h1 => rw [if_pos h1]; exact ⟨_, of_decide_eq_true h1⟩
  · next h1 =>
    rw [if_neg h1]
    split at h
    · next h2 => rw [if_pos h2]; exact ⟨_, of_decide_eq_true h2⟩
    · next h2 =>
      rw [if_neg h2]
      split at h
      · next h3 => rw [if_pos h3]; exact ⟨_, of_decide_eq_true h3⟩
      · cases h
theorem put_not (key v : ByteArray) (h : (putE key v).2 = false) : (putE key v).1 = ⟨#[]⟩ := by
  unfold putE at *
  split at h
  · cases h
  · next h1 =>
    rw [if_neg h1]
    split at h
    · cases h
    · next h2 =>
      rw [if_neg h2]
      split at h
      · cases h
      · next h3 => rw [if_neg h3]
theorem put_size (key v : ByteArray) : (putE key v).1.size ≤ key.size + 2 * v.size + 3 := by
  unfold putE
  split
  · exact candE_size key v 0
  · split
    · exact candE_size key v 1
    · split
      · exact candE_size key v 2
      · exact Nat.zero_le _

end Go.Proofs.YtkhkpjnpjgnckaaGreatDoor

/- The contract of l01Bent: some text. -/
namespace Go.Proofs.YtkhkpjnpjgnckaaGreatDoor
open Go.RowKit
set_option linter.unusedVariables false

def DrewBT (m : Nat) (w : World) (B b : Nat) (a : Option Addr) (len cap : Nat) (e : Ending) (w' : World) : Prop :=
  ∃ s : ByteArray, s.size ≤ m ∧ e = .returned (.string s) ∧ CurAt w' B b a len cap ∧ w.grownBy w' (some b)

end Go.Proofs.YtkhkpjnpjgnckaaGreatDoor

/- The draw of a setting for a shell: bounds alone. -/
set_option maxRecDepth 100000
namespace Go.Proofs.YtkhkpjnpjgnckaaGreatDoor
open Go.RowKit
set_option linter.unusedVariables false

set_option maxHeartbeats 1600000 in
theorem value9_draw (w : World) (B b : Nat) (a : Option Addr) (len cap : Nat) (hlen : len ≤ 9223372036854775807) (hC : CurAt w B b a len cap) :
    Calls Tryz.prog 36 #[.pointer (some ⟨b, 0, none⟩)] w (DrewS 9 w B b a len cap) := by
  have hlt := hC.lt
  have K := Lib.hid (pick_draw (w.alloc (.cells #[.string ⟨#[49]⟩, .string ⟨#[]⟩, .string ⟨#[116, 119, 111, 32, 119, 111, 114, 100, 115]⟩, .string ⟨#[32, 97]⟩, .string ⟨#[97, 32, 35, 98]⟩, .string ⟨#[35]⟩, .string ⟨#[105, 116, 39, 115]⟩, .string ⟨#[34, 113, 34]⟩, .string ⟨#[97, 36, 98]⟩, .string ⟨#[36, 65]⟩, .string ⟨#[97, 10, 98]⟩, .string ⟨#[92]⟩, .string ⟨#[97, 9, 98, 13]⟩, .string ⟨#[39, 34, 36]⟩, .string ⟨#[0]⟩, .string ⟨#[97, 92, 110, 98]⟩] 9)) B b a len cap w.heap.size 16 16 9 hlen (hC.alloc _) (by decide) (by decide) (by omega) (by simp) (by refine texts_alloc w _ _ _ _ ?_; decide +kernel))
  go_enter Tryz.func36, Tryz.ntmps36
  go_wp2_with fail
  refine K.out.mono ?_
  rintro e w3 ⟨y, hy, rfl, hC3, hg3⟩
  have hg4 := grownBy_step (World.grownBy_alloc w _ _) hg3
  clear K hg3 hC
  go_wp2
  go_ret
  exact ⟨y, hy, rfl, hC3, hg4⟩
def SomeTwo9 (w : World) (e : Ending) (w' : World) : Prop := ∃ s t : ByteArray, s.size ≤ 9 ∧ t.size ≤ 9 ∧ e = .returned (.tuple #[.string s, .string t]) ∧ Below w.heap.size w w'
set_option maxHeartbeats 1600000 in
theorem drawEnvPair (w : World) (a : Option Addr) (len cap : Nat) (hlen : len ≤ 1048576) (hB : BytesIn w a len) (hlow : ∀ x, a = some x → len ≠ 0 → x.block < w.heap.size) :
    Calls Tryz.prog 13 #[.slice a len cap] w (SomeTwo9 w) := by
  go_enter Tryz.func13, Tryz.ntmps13
  go_wp2_with fail
  refine (new_draw w a len cap hlen hB hlow).mono ?_
  rintro e w1 ⟨rfl, hC1, hb1⟩
  clear hB hlow
  have hlt := hC1.lt
  have K := Lib.hid (pick_draw (w1.alloc (.cells #[.string ⟨#[65]⟩, .string ⟨#[66, 95, 49]⟩, .string ⟨#[99]⟩, .string ⟨#[]⟩, .string ⟨#[49, 97]⟩, .string ⟨#[97, 32, 98]⟩, .string ⟨#[101, 120, 112, 111, 114, 116, 32, 88]⟩, .string ⟨#[65, 61, 66]⟩, .string ⟨#[35]⟩] 9)) w.heap.size w.heap.size a len cap w1.heap.size 9 9 9 (by omega) (hC1.alloc _) (by decide) (by decide) (by omega) (by simp) (by refine texts_alloc w1 _ _ _ _ ?_; decide +kernel))
  go_wp2_with fail
  refine K.out.mono ?_
  rintro e w2 ⟨s, hs, rfl, hC2, hg2⟩
  have hb2 := hb1.trans (grownBy_below (grownBy_step (World.grownBy_alloc w1 _ _) hg2) (Nat.le_refl _) hb1.size)
  clear hC1 hg2 hb1 K
  go_wp2_with fail
  refine (value9_draw w2 w.heap.size w.heap.size a len cap (by omega) hC2).mono ?_
  rintro e w3 ⟨t, ht, rfl, hC3, hg3⟩
  have hb3 := hb2.trans (grownBy_below hg3 (Nat.le_refl _) hb2.size)
  clear hC2 hg3 hb2 hC3
  go_wp2
  go_ret2
  exact ⟨s, t, hs, ht, rfl, hb3⟩

end Go.Proofs.YtkhkpjnpjgnckaaGreatDoor

/- The walk of FnShell. -/
set_option maxRecDepth 100000
namespace Go.Proofs.YtkhkpjnpjgnckaaGreatDoor
open Go.RowKit Go.Sort
set_option linter.unusedVariables false

set_option maxHeartbeats 1600000 in
theorem fnShell_walk (a0 : Option Addr) (len0 cap0 : Nat) (w : World) (hB : BytesIn w a0 len0) (hlow : ∀ x, a0 = some x → len0 ≠ 0 → x.block < w.heap.size) :
    Calls Tryz.prog 4 #[.slice a0 len0 cap0] w fun e w' => e = .returned (.bool true) ∧ Below w.heap.size w w' := by
  by_cases h0 : len0 ≤ 1048576
  · go_enter Tryz.func4, Tryz.ntmps4
    go_wp2_with fail
    refine (big_no w a0 len0 cap0 h0).mono ?_
    rintro e w1 ⟨rfl, rfl⟩
    go_wp2_with fail
    refine (drawEnvPair _ a0 len0 cap0 h0 hB hlow).mono ?_
    rintro e w1 ⟨key, v, hkz, hvz, rfl, hb1⟩
    clear hB hlow
    have KI := Lib.hid (fun w => envPair_impl key v w (by omega) (by omega))
    have KS := Lib.hid (fun w => envPair_spec key v w (by omega) (by omega))
    have KE := Lib.hid (fun w => envEscape_impl2 v w (by omega))
    have hez := escVT_size v
    have hpz := put_size key v
    have HPN := Lib.hid (put_name key v (by omega))
    have HPB := Lib.hid (put_back key v)
    have HPX := Lib.hid (put_not key v)
    have HEX := Lib.hid (export_shell key v)
    have HSP : Hid (nameB key = true → propsL ⟨(shellL [101, 120, 112, 111, 114, 116, 32] key v ++ [10]).toArray⟩ = [⟨3, ⟨(shellL [101, 120, 112, 111, 114, 116, 32] key v ++ [10]).toArray⟩, ⟨#[]⟩, key, plainT v, 1⟩]) := fun h => shell_props _ key v (.inr rfl) h (by omega)
    have KP1 := Lib.hid (fun w => parseEnv_anyB ⟨(shellL [101, 120, 112, 111, 114, 116, 32] key v ++ [10]).toArray⟩ w (by have := shell_size [101, 120, 112, 111, 114, 116, 32] key v (by decide) (by omega) (by omega); omega))
    have HL1 := Lib.hid (propsL_len ⟨(shellL [101, 120, 112, 111, 114, 116, 32] key v ++ [10]).toArray⟩)
    have KP2 := Lib.hid (fun w => parseEnv_anyB ((putE key v).1 ++ ⟨#[10]⟩) w (by rw [ByteArray.size_append, show (⟨#[10]⟩ : ByteArray).size = 1 from rfl]; omega))
    have HL2 := Lib.hid (propsL_len ((putE key v).1 ++ ⟨#[10]⟩))
    have KNM := Lib.hid (fun w => nameOk_spec key w (by omega))
    have KPL := Lib.hid (fun w => plain_impl v w (by omega))
    generalize (⟨(shellL [101, 120, 112, 111, 114, 116, 32] key v ++ [10]).toArray⟩ : ByteArray) = S at *
    generalize propsL S = r1 at *
    generalize propsL ((putE key v).1 ++ ⟨#[10]⟩) = r2 at *
    generalize putE key v = pe at *
    obtain ⟨line, ok⟩ := pe
    simp only at KI KS HPN HPB HPX KP2 hpz
    generalize plainT v = pv at *
    generalize escVT v = ev at *
    generalize nameB key = nk at *
    have hlz : line.size ≤ 1000 := by omega
    have hok : ok = nk := HPN.out
    subst hok
    clear HPN
    have tl : (line.toList != line.toList) = false := by simp
    have tl2 : (line.toList == line.toList) = true := by simp
    have z1 : ((⟨#[101, 120, 112, 111, 114, 116, 32]⟩ : ByteArray) ++ key).size = 7 + key.size := ByteArray.size_append
    have z2 : ((⟨#[101, 120, 112, 111, 114, 116, 32]⟩ : ByteArray) ++ key ++ ⟨#[61, 34]⟩).size = 9 + key.size := by rw [ByteArray.size_append, z1, show (⟨#[61, 34]⟩ : ByteArray).size = 2 from rfl]; omega
    have z3 : ((⟨#[101, 120, 112, 111, 114, 116, 32]⟩ : ByteArray) ++ key ++ ⟨#[61, 34]⟩ ++ ev).size = 9 + key.size + ev.size := by rw [ByteArray.size_append, z2]
    go_wp2_with fail
    refine (KI.out _).mono ?_
    rintro e w2 ⟨rfl, hb2⟩
    have hb3 := hb1.trans (hb2.mono hb1.size)
    clear hb1 hb2 KI
    go_wp2_with fail
    refine (KS.out _).mono ?_
    rintro e w3 ⟨rfl, hb2⟩
    have hb4 := hb3.trans (hb2.mono hb3.size)
    clear hb3 hb2 KS
    have tk : (ok != ok) = false := by simp
    cases ok
    · have hx := HPX.out rfl
      subst hx
      clear HPX HPB HSP
      go_wp2_with fail
      refine (KE.out _).mono ?_
      rintro e w4 ⟨rfl, hb2⟩
      have hb5 := hb4.trans (hb2.mono hb4.size)
      clear hb4 hb2 KE
      go_wp2_with fail
      rw [HEX.out]
      refine (KP1.out _).mono ?_
      rintro e w5 ⟨vl, gl, rfl, hR, hgl, hb2⟩
      have hb6 := hb5.trans (hb2.mono hb5.size)
      obtain ⟨al, cl, rfl, hal⟩ := hR.form
      clear hb5 hb2 KP1 hal hR
      have KNQ : Hid (∀ q os, Calls Tryz.prog 18 #[.string key] (grow (redrawn w5 q) os) fun e w' => e = .returned (.bool false) ∧ ∃ p : Regrown, w' = grow (redrawn w5 p.d) p.os) := by
        intro q os
        exact Calls.regrown_of (KNM.out (grow (redrawn w5 q) os))
      have KPQ := KNQ
      go_wp2_with fail
      refine wp_region_quiet_below (by kernel_rfl) (by kernel_rfl) ?_
      repeat (go_big_quiet_step (first | with_reducible exact KNQ.out _ _ | with_reducible exact KPQ.out _ _))
      refine wpQuiet_nil ?_
      intro _ hw'
      obtain ⟨⟨dq, osq⟩, hw''⟩ := hw'
      subst hw''
      have hb7 := hb6.trans ((below_regrown w5 dq osq).mono hb6.size)
      clear KNQ KPQ hb6
      generalize grow (redrawn w5 dq) osq = w6 at *
      go_wp2_with fail
      refine (KP2.out _).mono ?_
      rintro e w7 ⟨v2, g2, rfl, hR2, hg2, hb2⟩
      have hb8 := hb7.trans (hb2.mono hb7.size)
      obtain ⟨a2, c2, rfl, ha2⟩ := hR2.form
      clear hb7 hb2 KP2 ha2 hR2
      have KNQ : Hid (∀ q os, Calls Tryz.prog 18 #[.string key] (grow (redrawn w7 q) os) fun e w' => e = .returned (.bool false) ∧ ∃ p : Regrown, w' = grow (redrawn w7 p.d) p.os) := by
        intro q os
        exact Calls.regrown_of (KNM.out (grow (redrawn w7 q) os))
      have KPQ := KNQ
      go_wp2_with fail
      refine wp_region_quiet_below (by kernel_rfl) (by kernel_rfl) ?_
      repeat (go_big_quiet_step (first | with_reducible exact KNQ.out _ _ | with_reducible exact KPQ.out _ _))
      refine wpQuiet_nil ?_
      intro _ hw'
      obtain ⟨⟨dq, osq⟩, hw''⟩ := hw'
      subst hw''
      have hb9 := hb8.trans ((below_regrown w7 dq osq).mono hb8.size)
      go_wp2
      go_ret
      exact ⟨rfl, hb9⟩
    · obtain ⟨raw, hr2⟩ := HPB.out rfl
      have hr1 := HSP.out rfl
      subst hr1 hr2
      clear HPX HPB HSP HL1 HL2
      have tkk : (key.toList != key.toList) = false := by simp
      have tkk2 : (key.toList == key.toList) = true := by simp
      have tpv : (pv.toList != pv.toList) = false := by simp
      have tpv2 : (pv.toList == pv.toList) = true := by simp
      go_wp2_with fail
      refine (KE.out _).mono ?_
      rintro e w4 ⟨rfl, hb2⟩
      have hb5 := hb4.trans (hb2.mono hb4.size)
      clear hb4 hb2 KE
      go_wp2_with fail
      rw [HEX.out]
      refine (KP1.out _).mono ?_
      rintro e w5 ⟨vl, gl, rfl, hR, hgl, hb2⟩
      have hb6 := hb5.trans (hb2.mono hb5.size)
      obtain ⟨al, cl, rfl, hal⟩ := hR.form
      obtain rfl := hal (by simp)
      have q0 : w5.cell? ⟨gl, 0, none⟩ = some (.int .i64 3) := rec_c0 hR.toRowsRd 0 (by simp)
      have q3 : w5.cell? ⟨gl, 3, none⟩ = some (.string key) := rec_c3 hR.toRowsRd 0 (by simp)
      have q4 : w5.cell? ⟨gl, 4, none⟩ = some (.string pv) := rec_c4 hR.toRowsRd 0 (by simp)
      have z0 := cell_regrown q0
      have z3 := cell_regrown q3
      have z4 := cell_regrown q4
      clear hb5 hb2 KP1 hal hR
      have KNQ : Hid (∀ q os, Calls Tryz.prog 18 #[.string key] (grow (redrawn w5 q) os) fun e w' => e = .returned (.bool true) ∧ ∃ p : Regrown, w' = grow (redrawn w5 p.d) p.os) := by
        intro q os
        exact Calls.regrown_of (KNM.out (grow (redrawn w5 q) os))
      have KPQ : Hid (∀ q os, Calls Tryz.prog 19 #[.string v] (grow (redrawn w5 q) os) fun e w' => e = .returned (.string pv) ∧ ∃ p : Regrown, w' = grow (redrawn w5 p.d) p.os) := by
        intro q os
        exact Calls.regrown_of (KPL.out (grow (redrawn w5 q) os))
      go_wp2_with fail
      refine wp_region_quiet_below (by kernel_rfl) (by kernel_rfl) ?_
      repeat (go_big_quiet_step (first | with_reducible exact KNQ.out _ _ | with_reducible exact KPQ.out _ _))
      refine wpQuiet_nil ?_
      intro _ hw'
      obtain ⟨⟨dq, osq⟩, hw''⟩ := hw'
      subst hw''
      have hb7 := hb6.trans ((below_regrown w5 dq osq).mono hb6.size)
      clear KNQ KPQ hb6 q0 q3 q4 z0 z3 z4
      generalize grow (redrawn w5 dq) osq = w6 at *
      go_wp2_with fail
      refine (KP2.out _).mono ?_
      rintro e w7 ⟨v2, g2, rfl, hR2, hg2, hb2⟩
      have hb8 := hb7.trans (hb2.mono hb7.size)
      obtain ⟨a2, c2, rfl, ha2⟩ := hR2.form
      obtain rfl := ha2 (by simp)
      have q3 : w7.cell? ⟨g2, 3, none⟩ = some (.string key) := rec_c3 hR2.toRowsRd 0 (by simp)
      have q4 : w7.cell? ⟨g2, 4, none⟩ = some (.string pv) := rec_c4 hR2.toRowsRd 0 (by simp)
      have z3 := cell_regrown q3
      have z4 := cell_regrown q4
      clear hb7 hb2 KP2 ha2 hR2
      have KNQ : Hid (∀ q os, Calls Tryz.prog 18 #[.string key] (grow (redrawn w7 q) os) fun e w' => e = .returned (.bool true) ∧ ∃ p : Regrown, w' = grow (redrawn w7 p.d) p.os) := by
        intro q os
        exact Calls.regrown_of (KNM.out (grow (redrawn w7 q) os))
      have KPQ : Hid (∀ q os, Calls Tryz.prog 19 #[.string v] (grow (redrawn w7 q) os) fun e w' => e = .returned (.string pv) ∧ ∃ p : Regrown, w' = grow (redrawn w7 p.d) p.os) := by
        intro q os
        exact Calls.regrown_of (KPL.out (grow (redrawn w7 q) os))
      go_wp2_with fail
      refine wp_region_quiet_below (by kernel_rfl) (by kernel_rfl) ?_
      repeat (go_big_quiet_step (first | with_reducible exact KNQ.out _ _ | with_reducible exact KPQ.out _ _))
      refine wpQuiet_nil ?_
      intro _ hw'
      obtain ⟨⟨dq, osq⟩, hw''⟩ := hw'
      subst hw''
      have hb9 := hb8.trans ((below_regrown w7 dq osq).mono hb8.size)
      go_wp2
      go_ret
      exact ⟨rfl, hb9⟩
  · go_enter Tryz.func4, Tryz.ntmps4
    go_wp2_with fail
    refine (big_yes w a0 len0 cap0 (by omega)).mono ?_
    rintro e w1 ⟨rfl, rfl⟩
    go_wp2
    go_ret
    exact ⟨rfl, Below.refl _ _⟩

end Go.Proofs.YtkhkpjnpjgnckaaGreatDoor
