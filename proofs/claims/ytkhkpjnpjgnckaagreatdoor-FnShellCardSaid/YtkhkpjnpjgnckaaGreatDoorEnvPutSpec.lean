/- Settings for a shell: the model's EnvPair. -/
import Derived.Test.YtkhkpjnpjgnckaaGreatDoorProg
import Derived.Test.YtkhkpjnpjgnckaaGreatDoorPlain
import Derived.Test.YtkhkpjnpjgnckaaGreatDoorRows0
import Derived.Test.YtkhkpjnpjgnckaaGreatDoorRecRows
import Derived.Test.YtkhkpjnpjgnckaaGreatDoorRecArg
import Derived.Test.YtkhkpjnpjgnckaaGreatDoorRecRaw
import Derived.Test.YtkhkpjnpjgnckaaGreatDoorRecEq
import Derived.Test.YtkhkpjnpjgnckaaGreatDoorEnvOne
import Derived.Test.YtkhkpjnpjgnckaaGreatDoorEnvRecs
import Derived.Test.YtkhkpjnpjgnckaaGreatDoorEnvBig
import Derived.Test.YtkhkpjnpjgnckaaGreatDoorEnvPutLine
import Derived.Test.YtkhkpjnpjgnckaaGreatDoorEnvEscSpec
import Derived.WalkKit
import Derived.WalkLawsBesides
import Derived.OwnWalk
import Derived.BigQuiet
import Derived.Deep.QuietTactic
import Derived.Deep.RegionWith
import Derived.Deep.CutRange
import Derived.Deep.RegionHeld3
import Derived.Lib.QuietBelow
import Derived.Laws.IdiomStrings
import Derived.Lib.Hide
import Derived.IntWalk
import Derived.Outline
set_option maxRecDepth 100000
namespace Go.Proofs.YtkhkpjnpjgnckaaGreatDoor
open Go.RowKit Go.Sort
set_option linter.unusedVariables false

/-- the lines that are tried -/
def candE (key v : ByteArray) : Nat → ByteArray
  | 0 => key ++ ⟨#[61]⟩ ++ v
  | 1 => key ++ ⟨#[61, 39]⟩ ++ v ++ ⟨#[39]⟩
  | _ => key ++ ⟨#[61, 34]⟩ ++ escVT v ++ ⟨#[34]⟩
def wantE (c key v : ByteArray) : RecD := ⟨3, c ++ ⟨#[10]⟩, ⟨#[]⟩, key, plainT v, 1⟩
/-- does a line say just that -/
def hitE (key v : ByteArray) (k : Nat) : Bool := decide (propsL (candE key v k ++ ⟨#[10]⟩) = [wantE (candE key v k) key v])
/-- the first that does -/
def putE (key v : ByteArray) : ByteArray × Bool := if hitE key v 0 then (candE key v 0, true) else if hitE key v 1 then (candE key v 1, true) else if hitE key v 2 then (candE key v 2, true) else (⟨#[]⟩, false)
theorem candE_size (key v : ByteArray) (k : Nat) : (candE key v k).size ≤ key.size + 2 * v.size + 3 := by
  have h := escVT_size v
  match k with
  | 0 => show (key ++ ⟨#[61]⟩ ++ v).size ≤ _; rw [ByteArray.size_append, ByteArray.size_append, show (⟨#[61]⟩ : ByteArray).size = 1 from rfl]; omega
  | 1 => show (key ++ ⟨#[61, 39]⟩ ++ v ++ ⟨#[39]⟩).size ≤ _; rw [ByteArray.size_append, ByteArray.size_append, ByteArray.size_append, show (⟨#[61, 39]⟩ : ByteArray).size = 2 from rfl, show (⟨#[39]⟩ : ByteArray).size = 1 from rfl]; omega
  | k + 2 => show (key ++ ⟨#[61, 34]⟩ ++ escVT v ++ ⟨#[34]⟩).size ≤ _; rw [ByteArray.size_append, ByteArray.size_append, ByteArray.size_append, show (⟨#[61, 34]⟩ : ByteArray).size = 2 from rfl, show (⟨#[34]⟩ : ByteArray).size = 1 from rfl]; omega
theorem putE_hit (key v : ByteArray) (k : Nat) (hk : k < 3) (hno : ∀ j, j < k → hitE key v j = false) (h : hitE key v k = true) : putE key v = (candE key v k, true) := by
  unfold putE
  match k, hk with
  | 0, _ => rw [if_pos h]
  | 1, _ => rw [if_neg (by rw [hno 0 (by omega)]; decide), if_pos h]
  | 2, _ => rw [if_neg (by rw [hno 0 (by omega)]; decide), if_neg (by rw [hno 1 (by omega)]; decide), if_pos h]
theorem putE_none (key v : ByteArray) (hno : ∀ j, j < 3 → hitE key v j = false) : putE key v = (⟨#[]⟩, false) := by
  unfold putE
  rw [if_neg (by rw [hno 0 (by omega)]; decide), if_neg (by rw [hno 1 (by omega)]; decide), if_neg (by rw [hno 2 (by omega)]; decide)]
/-- the lines in their block -/
def TryAt (w : World) (g : Nat) (a b c : ByteArray) : Prop := w.heap[g]? = some (.cells #[.string a, .string b, .string c] 9 (0, 0))
theorem TryAt.over {w w' : World} {g B : Nat} {a b c : ByteArray} (h : TryAt w g a b c) (hb : Below B w w') (hB : g < B) : TryAt w' g a b c := by
  unfold TryAt at *
  rw [hb.block g hB]
  exact h
theorem TryAt.cell {w : World} {g : Nat} {key v : ByteArray} (h : TryAt w g (candE key v 0) (candE key v 1) (candE key v 2)) (k : Nat) (hk : k < 3) : w.cell? ⟨g, k, none⟩ = some (.string (candE key v k)) := by
  unfold TryAt at h
  rw [Lib.cell_of_heap h]
  match k, hk with
  | 0, _ => rfl
  | 1, _ => rfl
  | 2, _ => rfl
set_option maxHeartbeats 1600000 in
theorem envPair_spec (key v : ByteArray) (w : World) (hk : key.size ≤ 1048576) (hv : v.size ≤ 1048576) :
    Calls Tryz.prog 15 #[.string key, .string v] w fun e w' => e = .returned (.tuple #[.string (putE key v).1, .bool (putE key v).2]) ∧ Below w.heap.size w w' := by
  have KE := Lib.hid (fun w => envEscape_spec v w (by omega))
  have hez := escVT_size v
  have KP := Lib.hid (fun (k : Nat) (w : World) => parseEnv_specB (candE key v k ++ ⟨#[10]⟩) w (by have := candE_size key v k; rw [ByteArray.size_append, show (⟨#[10]⟩ : ByteArray).size = 1 from rfl]; omega))
  have KL := Lib.hid (fun w => plain_spec v w (by omega))
  have HH := Lib.hid (putE_hit key v)
  have HN := Lib.hid (putE_none key v)
  have HLN : Hid (∀ k, (propsL (candE key v k ++ ⟨#[10]⟩)).length ≤ 200) := fun k => propsL_len _
  have HHE : Hid (∀ k, hitE key v k = decide (propsL (candE key v k ++ ⟨#[10]⟩) = [(⟨3, candE key v k ++ ⟨#[10]⟩, ⟨#[]⟩, key, plainT v, 1⟩ : RecD)])) := fun k => rfl
  have HCS := Lib.hid (candE_size key v)
  generalize putE key v = r at *
  generalize plainT v = pv at *
  have h0 : Hid (candE key v 0 = key ++ ⟨#[61]⟩ ++ v) := rfl
  have h1 : Hid (candE key v 1 = key ++ ⟨#[61, 39]⟩ ++ v ++ ⟨#[39]⟩) := rfl
  have h2 : Hid (candE key v 2 = key ++ ⟨#[61, 34]⟩ ++ escVT v ++ ⟨#[34]⟩) := rfl
  have z1 : (key ++ ⟨#[61]⟩ : ByteArray).size = key.size + 1 := ByteArray.size_append
  have z2 : (key ++ ⟨#[61, 39]⟩ : ByteArray).size = key.size + 2 := ByteArray.size_append
  have z3 : (key ++ ⟨#[61, 34]⟩ : ByteArray).size = key.size + 2 := ByteArray.size_append
  have z4 : (key ++ ⟨#[61, 39]⟩ ++ v : ByteArray).size = key.size + 2 + v.size := by rw [ByteArray.size_append, z2]
  have z5 : (key ++ ⟨#[61, 34]⟩ ++ escVT v : ByteArray).size = key.size + 2 + (escVT v).size := by rw [ByteArray.size_append, z3]
  go_enter Tryz.func15, Tryz.ntmps15
  go_wp2_with fail
  refine (KE.out _).mono ?_
  rintro e w1 ⟨rfl, hb1⟩
  have HT : Hid (TryAt (w1.alloc (.cells #[.string (candE key v 0), .string (candE key v 1), .string (candE key v 2)] 9)) w1.heap.size (candE key v 0) (candE key v 1) (candE key v 2)) := heap_alloc_new _ _
  have hb2 := Lib.hid (hb1.alloc hb1.size (.cells #[.string (candE key v 0), .string (candE key v 1), .string (candE key v 2)] 9))
  have hg1 := hb1.size
  have hlt : w1.heap.size < (w1.alloc (.cells #[.string (candE key v 0), .string (candE key v 1), .string (candE key v 2)] 9)).heap.size := by simp
  clear hb1 KE
  have HCE : Hid (∀ (W : World), TryAt W w1.heap.size (candE key v 0) (candE key v 1) (candE key v 2) → ∀ k, k < 3 → W.cell? ⟨w1.heap.size, k, none⟩ = some (.string (candE key v k))) := fun W h k hk => h.cell k hk
  go_wp2
  rw [← h0.out, ← h1.out, ← h2.out]
  generalize (w1.alloc (.cells #[.string (candE key v 0), .string (candE key v 1), .string (candE key v 2)] 9)) = W0 at *
  clear h0 h1 h2 z1 z2 z3 z4 z5 hez
  generalize hgg : w1.heap.size = g at *
  generalize hcd : candE key v = cd at *
  generalize hht : hitE key v = ht at *
  clear hcd hht
  go_loopw [7] (fun i wr => ∃ k : Nat, k ≤ 3 ∧ i = .int .i64 k ∧ Hid (∀ j, j < k → ht j = false) ∧ Hid (TryAt wr g (cd 0) (cd 1) (cd 2)) ∧ g < wr.heap.size ∧ Hid (Below w.heap.size w wr)) (fun i _ => 3 - (intOf i).toNat)
  case atStart => exact ⟨0, by omega, rfl, fun j hj => absurd hj (Nat.not_lt_zero _), HT, hlt, hb2⟩
  case round =>
    obtain ⟨k, hk3, rfl, hno, hT, hgl, hb⟩ := hrel
    clear HT hb2 hlt
    by_cases hlt : k < 3
    · have hkz : (k : Int) < 3 := by omega
      have hkz2 : (k : Int) ≤ 3 := by omega
      have KP2 := Lib.hid (KP.out k)
      have hcz := HCS.out k
      have hml := HLN.out k
      have hhe := HHE.out k
      have hcell := HCE.out wr hT.out k hlt
      have hyes : Hid (ht k = true → r = (cd k, true)) := fun h => HH.out k hlt hno.out h
      have hnext : Hid (ht k = false → ∀ j, j < k + 1 → ht j = false) := by
        intro h j hj
        by_cases e : j = k
        · subst e; exact h
        · exact hno.out j (by omega)
      have HTC := Lib.hid (fun W h => HCE.out W h k hlt)
      generalize propsL (cd k ++ ⟨#[10]⟩) = m at *
      generalize hck : cd k = c at *
      have HHE2 := Lib.hid hhe
      clear KP HCS HLN HHE HH HN hno hck hhe
      generalize ht k = q at *
      have hcn : (c ++ ⟨#[10]⟩ : ByteArray).size = c.size + 1 := ByteArray.size_append
      have hcz2 : c.size ≤ 10000000 := by omega
      have hcz3 : (c.size : Int) ≤ 10000000 := by omega
      clear hcz
      go_wp2_with fail
      refine (KP2.out _).mono ?_
      rintro e w3 ⟨vb, gb, rfl, hR, hgb, hb3⟩
      have hT3 := Lib.hid (hT.out.over hb3 hgl)
      have hB3 := Lib.hid (hb.out.trans (hb3.mono hb.out.size))
      have hgl3 := Nat.lt_of_lt_of_le hgl hb3.size
      have hcell3 := HTC.out w3 hT3.out
      obtain ⟨ab, cb, rfl, hab⟩ := hR.form
      have hgR : ∀ h : m ≠ [], gb < w3.heap.size := fun h => hR.toRowsRd.lt h
      have HR := Lib.hid hR.toRowsRd
      have HRL := Lib.hid hgR
      have HAB := Lib.hid hab
      clear hT hb hb3 hcell hR hgR hab KP2
      have HZR : Hid (RecIn (w3.alloc (.cells #[.int .i64 0, .string ⟨#[]⟩, .string ⟨#[]⟩, .string ⟨#[]⟩, .string ⟨#[]⟩, .int .i64 0] 35)).drew w3.heap.size (kindP 0)) := heap_alloc_new _ _
      have HZL : Hid (w3.heap.size < (w3.alloc (.cells #[.int .i64 0, .string ⟨#[]⟩, .string ⟨#[]⟩, .string ⟨#[]⟩, .string ⟨#[]⟩, .int .i64 0] 35)).drew.heap.size) := by
        show w3.heap.size < (w3.alloc _).heap.size
        simp
      have HT5 : Hid (TryAt w3.drew g (cd 0) (cd 1) (cd 2)) := hT3.out
      have HT4a : TryAt (w3.alloc (.cells #[.int .i64 0, .string ⟨#[]⟩, .string ⟨#[]⟩, .string ⟨#[]⟩, .string ⟨#[]⟩, .int .i64 0] 35)) g (cd 0) (cd 1) (cd 2) := hT3.out.over ((Below.refl w3.heap.size w3).alloc (Nat.le_refl _) (.cells #[.int .i64 0, .string ⟨#[]⟩, .string ⟨#[]⟩, .string ⟨#[]⟩, .string ⟨#[]⟩, .int .i64 0] 35)) hgl3
      have HT4 : Hid (TryAt (w3.alloc (.cells #[.int .i64 0, .string ⟨#[]⟩, .string ⟨#[]⟩, .string ⟨#[]⟩, .string ⟨#[]⟩, .int .i64 0] 35)).drew g (cd 0) (cd 1) (cd 2)) := HT4a
      clear HT4a
      have HZG : Hid (g < (w3.alloc (.cells #[.int .i64 0, .string ⟨#[]⟩, .string ⟨#[]⟩, .string ⟨#[]⟩, .string ⟨#[]⟩, .int .i64 0] 35)).drew.heap.size) := by
        show g < (w3.alloc _).heap.size
        simp
        omega
      have HBA : Hid (Below w3.heap.size w3 w3.drew) := (Below.refl w3.heap.size w3).drew
      have HBB : Hid (Below w3.heap.size w3 (w3.alloc (.cells #[.int .i64 0, .string ⟨#[]⟩, .string ⟨#[]⟩, .string ⟨#[]⟩, .string ⟨#[]⟩, .int .i64 0] 35)).drew) := ((Below.refl w3.heap.size w3).alloc (Nat.le_refl _) (.cells #[.int .i64 0, .string ⟨#[]⟩, .string ⟨#[]⟩, .string ⟨#[]⟩, .string ⟨#[]⟩, .int .i64 0] 35)).drew
      have HLE : Hid (w3.heap.size ≤ (w3.alloc (.cells #[.int .i64 0, .string ⟨#[]⟩, .string ⟨#[]⟩, .string ⟨#[]⟩, .string ⟨#[]⟩, .int .i64 0] 35)).drew.heap.size) := Nat.le_of_lt HZL.out
      go_upto_region 6 with fail
      go_cut [9] from 26 to 60 (fun p wx => ∃ b : Nat, p = .pointer (some ⟨b, 0, none⟩) ∧ w3.heap.size ≤ b ∧ b < wx.heap.size ∧ Hid (RecIn wx b ⟨3, c ++ ⟨#[10]⟩, ⟨#[]⟩, key, pv, 1⟩) ∧ Hid (Below w3.heap.size w3 wx))
      case first =>
        go_region_with (first | ((with_reducible refine (KL.out _).mono ?_); rintro e w5 ⟨rfl, hb5⟩; first | (have hrec := HZR.out.over hb5 HZL.out; have HREC := Lib.hid hrec; have hX : Hid (Below w3.heap.size w3 w5) := HBB.out.trans (hb5.mono HLE.out); have hc5 := HTC.out w5 (HT4.out.over hb5 HZG.out); have hg5 : g < w5.heap.size := Nat.lt_of_lt_of_le HZG.out hb5.size; have hne5 : ¬ g = w5.heap.size := Nat.ne_of_lt hg5; have hl5 : w3.heap.size < w5.heap.size := Nat.lt_of_lt_of_le HZL.out hb5.size; obtain ⟨a0, a1, a2, a3, a4, a5⟩ := hrec.cells; simp only [kindP] at a0 a1 a2 a3 a4 a5; have f0 := hrec.free 0; have f1 := hrec.free 1; have f2 := hrec.free 2; have f3 := hrec.free 3; have f4 := hrec.free 4; have f5 := hrec.free 5; clear hrec) | (have hX : Hid (Below w3.heap.size w3 w5) := HBA.out.trans hb5; have hc5 := HTC.out w5 (HT5.out.over hb5 hgl3); have hg5 : g < w5.heap.size := Nat.lt_of_lt_of_le hgl3 hb5.size; have hne5 : ¬ g = w5.heap.size := Nat.ne_of_lt hg5)))
        all_goals
          go_wp2_with fail
          go_meet
          first
            | exact ⟨_, rfl, hX.out.size, by simp, heap_alloc_new _ _, hX.out.alloc hX.out.size _⟩
            | (have hp := HREC.out.put ⟨3, c ++ ⟨#[10]⟩, ⟨#[]⟩, key, pv, 1⟩
               have hq := below_put hX.out (Nat.le_refl _) ⟨3, c ++ ⟨#[10]⟩, ⟨#[]⟩, key, pv, 1⟩
               exact ⟨_, rfl, Nat.le_refl _, by simpa using hl5, hp, hq⟩)
      case rest =>
        obtain ⟨b, rfl, hb1, hb2, hRec, hB4⟩ := hcut
        have HR4 := Lib.hid (HR.out.over hB4.out)
        have hT4 := Lib.hid (hT3.out.over hB4.out hgl3)
        have hgl4 := Nat.lt_of_lt_of_le hgl3 hB4.out.size
        have hB5 := Lib.hid (hB3.out.trans (hB4.out.mono hB3.out.size))
        clear HR hT3 hB3 hB4 HBA HBB HLE HZR HZL HZG HT5 HT4 KL hcell3
        obtain ⟨a0, a1, a2, a3, a4, a5⟩ := hRec.out.cells
        simp only at a0 a1 a2 a3 a4 a5
        by_cases h1 : m.length = 1
        · obtain ⟨y, rfl⟩ : ∃ y, m = [y] := by
            cases m with
            | nil => simp at h1
            | cons y t => cases t with
              | nil => exact ⟨y, rfl⟩
              | cons _ _ => simp at h1
          obtain rfl := HAB.out (by simp)
          have hq : decide (y = ⟨3, c ++ ⟨#[10]⟩, ⟨#[]⟩, key, pv, 1⟩) = q := by rw [HHE2.out]; simp
          have q0 := rec_c0 HR4.out 0 (by simp)
          have q1 := rec_c1 HR4.out 0 (by simp)
          have q2 := rec_c2 HR4.out 0 (by simp)
          have q3 := rec_c3 HR4.out 0 (by simp)
          have q4 := rec_c4 HR4.out 0 (by simp)
          have q5 := rec_c5 HR4.out 0 (by simp)
          have he := eql_rec y ⟨3, c ++ ⟨#[10]⟩, ⟨#[]⟩, key, pv, 1⟩
          obtain ⟨y0, y1, y2, y3, y4, y5⟩ := y
          simp only [List.getElem_cons_zero, Nat.zero_mul, Nat.zero_add] at q0 q1 q2 q3 q4 q5
          simp only [recV] at he
          have hlen : (([⟨y0, y1, y2, y3, y4, y5⟩] : List RecD).length : Int) = 1 := rfl
          rw [hq] at he
          clear hq HHE2 HR4 hRec HRL HAB h1 hml
          have z0 := cell_regrown q0
          have z1 := cell_regrown q1
          have z2 := cell_regrown q2
          have z3 := cell_regrown q3
          have z4 := cell_regrown q4
          have z5 := cell_regrown q5
          have y0' := cell_regrown a0
          have y1' := cell_regrown a1
          have y2' := cell_regrown a2
          have y3' := cell_regrown a3
          have y4' := cell_regrown a4
          have y5' := cell_regrown a5
          cases q
          all_goals
            go_wp2_with fail
            refine wp_region_quiet_below (by kernel_rfl) (by kernel_rfl) ?_
            repeat (go_big_quiet_step (fail))
            refine wpQuiet_nil ?_
            intro _ hw'
            obtain ⟨⟨dq, osq⟩, hw''⟩ := hw'
            subst hw''
            have hbq := below_regrown wc dq osq
            have hT6 := Lib.hid (hT4.out.over hbq hgl4)
            have hgl6 := Nat.lt_of_lt_of_le hgl4 hbq.size
            have hB6 := Lib.hid (hB5.out.trans (hbq.mono hB5.out.size))
            have hc6 := HTC.out _ hT6.out
            clear z0 z1 z2 z3 z4 z5 y0' y1' y2' y3' y4' y5' q0 q1 q2 q3 q4 q5 a0 a1 a2 a3 a4 a5 he hbq hT4 hB5 hgl4
            generalize grow (redrawn wc dq) osq = w7 at *
          · have hno2 := Lib.hid (hnext.out (by trivial))
            clear hyes hnext hc6
            go_wp2
            go_roundw
            case rel => exact ⟨k + 1, by omega, by go_num, hno2, hT6, hgl6, hB6⟩
            case measure => simp [intOf]; omega
          · have HF := Lib.hid (hyes.out (by trivial))
            clear hyes hnext
            go_wp2
            go_ret2
            exact ⟨by rw [HF.out]; rfl, hB6.out⟩
        · obtain rfl : q = false := by
            rw [HHE2.out, decide_eq_false_iff_not]
            intro e
            rw [e] at h1
            exact h1 rfl
          have hne : ((m.length : Int) == 1) = false := by rw [beq_eq_false_iff_ne]; omega
          have hno2 := Lib.hid (hnext.out rfl)
          clear HHE2 h1 hyes hnext HR4 HRL HAB hRec
          go_wp2_with fail
          refine wp_region_quiet_below (by kernel_rfl) (by kernel_rfl) ?_
          repeat (go_big_quiet_step (fail))
          refine wpQuiet_nil ?_
          intro _ hw'
          obtain ⟨⟨dq, osq⟩, hw''⟩ := hw'
          subst hw''
          have hbq := below_regrown wc dq osq
          have hT6 := Lib.hid (hT4.out.over hbq hgl4)
          have hgl6 := Nat.lt_of_lt_of_le hgl4 hbq.size
          have hB6 := Lib.hid (hB5.out.trans (hbq.mono hB5.out.size))
          clear a0 a1 a2 a3 a4 a5 hbq hT4 hB5 hgl4
          generalize grow (redrawn wc dq) osq = w7 at *
          go_wp2
          go_roundw
          case rel => exact ⟨k + 1, by omega, by go_num, hno2, hT6, hgl6, hB6⟩
          case measure => simp [intOf]; omega
    · obtain rfl : k = 3 := by omega
      have HF := Lib.hid (HN.out hno.out)
      clear hno HH HN HHE HLN HCS KP
      go_wp2
      go_ret2
      exact ⟨by rw [HF.out]; rfl, hb.out⟩

end Go.Proofs.YtkhkpjnpjgnckaaGreatDoor
