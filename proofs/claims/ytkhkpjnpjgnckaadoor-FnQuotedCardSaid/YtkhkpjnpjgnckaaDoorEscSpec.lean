/- Escapes put: the model's contract of Escape. -/
import Derived.Test.YtkhkpjnpjgnckaaDoorProg
import Derived.Test.YtkhkpjnpjgnckaaDoorPlain
import Derived.Test.YtkhkpjnpjgnckaaDoorCut
import Derived.Test.YtkhkpjnpjgnckaaDoorTrim
import Derived.Test.YtkhkpjnpjgnckaaDoorTail
import Derived.Test.YtkhkpjnpjgnckaaDoorDialectRows
import Derived.Test.YtkhkpjnpjgnckaaDoorUnescSpec
import Derived.Test.YtkhkpjnpjgnckaaDoorBareSpec
import Derived.Test.YtkhkpjnpjgnckaaDoorEscList
import Derived.WalkKit
import Derived.WalkLawsBesides
import Derived.OwnWalk
import Derived.BigQuiet
import Derived.Deep.QuietTactic
import Derived.Lib.QuietBelow
import Derived.Lib.AppendStr
import Derived.Laws.IdiomStrings
import Derived.Lib.Hide
import Derived.IntWalk
set_option maxRecDepth 100000
namespace Go.Proofs.YtkhkpjnpjgnckaaDoor
open Go.RowKit Go.Sort
set_option linter.unusedVariables false

def escT (d : DialectD) (s : ByteArray) : ByteArray := if d.esc then ⟨(escL d.notes s.data.toList).toArray⟩ else s
theorem escT_size (d : DialectD) (s : ByteArray) : (escT d s).size ≤ 2 * s.size := by
  unfold escT
  split
  · have := escL_len d.notes s.data.toList
    rw [← Lib.size_eq] at this
    rw [Lib.size_eq]
    simpa using this
  · omega
theorem cell_two_newE (w : World) (x y : Value) (t : TypeId) : ∀ j u, [x, y][j]? = some u → (w.alloc (.cells #[x, y] t)).cell? ((⟨w.heap.size, 0, none⟩ : Addr).add j) = some u := by
  intro j u hu
  have ha : ∀ j, (⟨w.heap.size, 0, none⟩ : Addr).add j = ⟨w.heap.size, j, none⟩ := by intro j; unfold Addr.add; split <;> simp_all
  rw [ha, Lib.cell_of_heap (heap_alloc_new _ _)]
  match j, hu with
  | 0, hu => simpa using hu
  | 1, hu => simpa using hu
  | j + 2, hu => simp at hu
theorem own_stepE {B B0 : Nat} {w wr w1 : World} {t : Nat} {v v' : Value} {l m : List UInt8} {n : Nat} {cs : List Value} {o : Obj} (hb : Below B0 w wr) (hBw : B0 ≤ B) (hB0 : B0 ≤ wr.heap.size) (hown : wr.ownsRow B t 1 v l.length (Lib.byteCells l))
    (hown' : w1.ownsRow B t 1 v' (l.length + n) (Lib.byteCells l ++ cs)) (hg : (wr.alloc o).grownBy w1 v.ownBlock) (hn : m.length = n := by rfl) (hm : Lib.byteCells m = cs := by rfl) :
    w1.ownsRow B t 1 v' (l ++ m).length (Lib.byteCells (l ++ m)) ∧ Below B0 w w1 := by
  subst hn
  subst hm
  refine ⟨by simpa [Lib.byteCells] using hown', ?_⟩
  exact (hb.alloc hB0 o).grown hg (by simp; omega) (fun j hj => Nat.le_trans hBw (own_blockU hown j hj))
theorem own_below {w w' : World} {base e size n : Nat} {v : Value} {xs : List Value} (h : w.ownsRow base e size v n xs) (hb : Below w.heap.size w w') : w'.ownsRow base e size v n xs := by
  refine h.kept (row := none) ⟨hb.os, hb.tape, hb.output, hb.size, fun k hk _ => hb.block k hk⟩ ?_
  cases v.ownBlock with
  | none => exact .inl rfl
  | some _ => exact .inr (by simp)

set_option maxHeartbeats 3200000 in
theorem escape_spec (d : DialectD) (s : ByteArray) (w : World) (hs : s.size ≤ 1048576) (hn : d.notes.size ≤ 1048576) :
    Calls Tryd.prog 16 #[.string s, dialectV d] w fun e w' => e = .returned (.string (escT d s)) ∧ Below w.heap.size w w' := by
  obtain ⟨i0, hi, hz0, hz1, hz2⟩ := info_parts info_byteU
  have HN := Lib.hid (dialAt_new w d)
  have HV : Hid (escT d s = if d.esc then ⟨(escL d.notes s.data.toList).toArray⟩ else s) := rfl
  have HE := Lib.hid (fun k h => escL_succ d.notes s k h)
  have K1 := Lib.hid (fun (c : UInt8) w => has_any d.notes c w (by unfold maxLen; omega))
  generalize escT d s = r at *
  obtain ⟨d0, d1, d2, d3, d4, d5⟩ := d
  unfold dialectV at *
  simp only at K1 HN HV HE ⊢
  clear hn
  have hb0 := (Below.refl w.heap.size w).alloc (Nat.le_refl _) (.cells #[.string d0, .string d1, .bool d2, .bool d3, .bool d4, .int .i64 d5] 25)
  cases d4
  · have HR : Hid (r = s) := HV.out
    go_enter Tryd.func16, Tryd.ntmps16
    go_wp2
    go_ret
    exact ⟨by rw [HR.out]; rfl, hb0⟩
  · have HR : Hid (r = ⟨(escL d0 s.data.toList).toArray⟩) := HV.out
    have HSL := Lib.hid (Lib.size_eq s)
    clear HV
    have hs9 : (s.size : Int) ≤ 1048576 := by omega
    go_enter Tryd.func16, Tryd.ntmps16
    go_wp2
    go_loopw [5, 6] (fun v i wr => ∃ (k : Nat) (l : List UInt8), k ≤ s.size ∧ i = .int .i64 k ∧ l.length ≤ 2 * k ∧ Hid (l = escL d0 (s.data.toList.take k)) ∧ wr.ownsRow (w.heap.size + 1) 5 1 v l.length (Lib.byteCells l) ∧ Below (w.heap.size + 1) (w.alloc (.cells #[.string d0, .string d1, .bool d2, .bool d3, .bool true, .int .i64 d5] 25)) wr ∧ w.heap.size + 1 ≤ wr.heap.size) (fun _ i _ => s.size - (intOf i).toNat)
    case atStart => exact ⟨0, [], Nat.zero_le _, rfl, Nat.le_refl _, rfl, by have := World.ownsRow_lit (w.alloc (.cells #[.string d0, .string d1, .bool d2, .bool d3, .bool true, .int .i64 d5] 25)) (e := 5) (size := 1) #[] 0 (Nat.le_refl _) (Nat.zero_le _) rfl; rw [World.size_alloc] at this; exact this, (Below.refl _ _).alloc (by simp) _, by simp⟩
    case round =>
      obtain ⟨k, l, hk, rfl, hlk, hat, hown, hb, hw1⟩ := hrel
      by_cases hlt : k < s.size
      · have HS := Lib.hid (HE.out k hlt)
        have hD := HN.out.over hb (Nat.lt_succ_self _)
        obtain ⟨c0, c1, c2, c3, c4, c5⟩ := hD.cells
        simp only at c0 c1 c2 c3 c4 c5
        have x0 := cell_regrown c0
        clear c0 c1 c2 c3 c4 c5 hD HE
        have HA : Hid (∀ m, escC d0 s[k] = m → l ++ m = escL d0 (s.data.toList.take (k + 1))) := by
          intro m hm
          rw [HS.out, hat.out, hm]
        have hes : escC d0 s[k] = (if s[k] = 10 then [92, 110] else if s[k] = 9 then [92, 116] else if s[k] = 13 then [92, 114] else if (s[k] == 92 || s[k] == 34 || hasB d0 s[k]) = true then [92, s[k]] else [s[k]]) := rfl
        clear HS hat HN HR
        by_cases q1 : s[k] = 10
        · have e1 : ((s[k].toNat : Int) == 10) = true := byte_same _ 10 q1
          have hat2 := Lib.hid (HA.out [92, 110] (by rw [hes, if_pos q1]))
          clear HA hes q1 K1
          go_wp2_with (at_builtin; refine wpList_append_own _ rfl _ _ 22 rfl (w.heap.size + 1) 5 i0 (.int .u8 0) 1 1 Tryd.underlying22 hi hz0 hz1 hz2 rfl (by decide) _ _ _ rfl (hown.alloc _) ⟨wr.heap.size, 0, none⟩ 2 2 [.int .u8 92, .int .u8 110] rfl rfl (cell_two_newE _ _ _ _) (by simp [Value.oneCell']) (by unfold maxLen; omega) (by omega) (by simp; omega) ?_; intro v' w1 hown' hgrow _)
          obtain ⟨ho2, hb2⟩ := own_stepE (m := [92, 110]) hb (Nat.le_refl _) hw1 hown hown' hgrow
          have hw2 : w.heap.size + 1 ≤ w1.heap.size := by have := hgrow.size; simp at this; omega
          clear hown' hgrow hown hb
          go_wp2
          go_roundw
          case rel => exact ⟨k + 1, l ++ [92, 110], by omega, by go_num, by simp; omega, hat2, ho2, hb2, hw2⟩
          case measure => simp [intOf]; omega
        · have e1 : ((s[k].toNat : Int) == 10) = false := byte_differ _ 10 q1
          rw [if_neg q1] at hes
          clear q1
          by_cases q2 : s[k] = 9
          · have e2 : ((s[k].toNat : Int) == 9) = true := byte_same _ 9 q2
            have hat2 := Lib.hid (HA.out [92, 116] (by rw [hes, if_pos q2]))
            clear HA hes q2 K1
            go_wp2_with (at_builtin; refine wpList_append_own _ rfl _ _ 22 rfl (w.heap.size + 1) 5 i0 (.int .u8 0) 1 1 Tryd.underlying22 hi hz0 hz1 hz2 rfl (by decide) _ _ _ rfl (hown.alloc _) ⟨wr.heap.size, 0, none⟩ 2 2 [.int .u8 92, .int .u8 116] rfl rfl (cell_two_newE _ _ _ _) (by simp [Value.oneCell']) (by unfold maxLen; omega) (by omega) (by simp; omega) ?_; intro v' w1 hown' hgrow _)
            obtain ⟨ho2, hb2⟩ := own_stepE (m := [92, 116]) hb (Nat.le_refl _) hw1 hown hown' hgrow
            have hw2 : w.heap.size + 1 ≤ w1.heap.size := by have := hgrow.size; simp at this; omega
            clear hown' hgrow hown hb
            go_wp2
            go_roundw
            case rel => exact ⟨k + 1, l ++ [92, 116], by omega, by go_num, by simp; omega, hat2, ho2, hb2, hw2⟩
            case measure => simp [intOf]; omega
          · have e2 : ((s[k].toNat : Int) == 9) = false := byte_differ _ 9 q2
            rw [if_neg q2] at hes
            clear q2
            by_cases q3 : s[k] = 13
            · have e3 : ((s[k].toNat : Int) == 13) = true := byte_same _ 13 q3
              have hat2 := Lib.hid (HA.out [92, 114] (by rw [hes, if_pos q3]))
              clear HA hes q3 K1
              go_wp2_with (at_builtin; refine wpList_append_own _ rfl _ _ 22 rfl (w.heap.size + 1) 5 i0 (.int .u8 0) 1 1 Tryd.underlying22 hi hz0 hz1 hz2 rfl (by decide) _ _ _ rfl (hown.alloc _) ⟨wr.heap.size, 0, none⟩ 2 2 [.int .u8 92, .int .u8 114] rfl rfl (cell_two_newE _ _ _ _) (by simp [Value.oneCell']) (by unfold maxLen; omega) (by omega) (by simp; omega) ?_; intro v' w1 hown' hgrow _)
              obtain ⟨ho2, hb2⟩ := own_stepE (m := [92, 114]) hb (Nat.le_refl _) hw1 hown hown' hgrow
              have hw2 : w.heap.size + 1 ≤ w1.heap.size := by have := hgrow.size; simp at this; omega
              clear hown' hgrow hown hb
              go_wp2
              go_roundw
              case rel => exact ⟨k + 1, l ++ [92, 114], by omega, by go_num, by simp; omega, hat2, ho2, hb2, hw2⟩
              case measure => simp [intOf]; omega
            · have e3 : ((s[k].toNat : Int) == 13) = false := byte_differ _ 13 q3
              rw [if_neg q3] at hes
              clear q3
              have KA : Hid (∀ q os, Calls Tryd.prog 30 #[.string d0, .int .u8 (s[k].toNat : Int)] (grow (redrawn wr q) os) fun e w' => e = .returned (.bool (hasB d0 s[k])) ∧ ∃ p : Regrown, w' = grow (redrawn wr p.d) p.os) := by
                intro q os
                refine Calls.regrown_of ((K1.out s[k] _).mono ?_)
                rintro e w' ⟨rfl, rfl⟩
                exact ⟨rfl, Below.refl _ _⟩
              clear K1
              by_cases q4 : s[k] = 92
              · have e4 : ((s[k].toNat : Int) == 92) = true := byte_same _ 92 q4
                have hat2 := Lib.hid (HA.out [92, s[k]] (by rw [hes, if_pos (by simp [q4])]))
                clear HA hes q4
                generalize hasB d0 s[k] = hv at *
                go_wp2_with fail
                refine wp_region_quiet_below (by kernel_rfl) (by kernel_rfl) ?_
                repeat (go_big_quiet_step (with_reducible exact KA.out _ _))
                refine wpQuiet_nil ?_
                intro _ hw'
                obtain ⟨⟨dq, osq⟩, hw''⟩ := hw'
                subst hw''
                have hownQ := own_below hown (below_regrown wr dq osq)
                have hbQ := hb.trans ((below_regrown wr dq osq).mono hw1)
                have hwQ := Nat.le_trans hw1 (below_regrown wr dq osq).size
                generalize grow (redrawn wr dq) osq = wq at *
                clear hown hb hw1 KA
                go_wp2_with (at_builtin; refine wpList_append_own _ rfl _ _ 22 rfl (w.heap.size + 1) 5 i0 (.int .u8 0) 1 1 Tryd.underlying22 hi hz0 hz1 hz2 rfl (by decide) _ _ _ rfl (hownQ.alloc _) ⟨wq.heap.size, 0, none⟩ 2 2 [.int .u8 92, .int .u8 (s[k].toNat : Int)] rfl rfl (cell_two_newE _ _ _ _) (by simp [Value.oneCell']) (by unfold maxLen; omega) (by omega) (by simp; omega) ?_; intro v' w1 hown' hgrow _)
                obtain ⟨ho2, hb2⟩ := own_stepE (m := [92, s[k]]) hbQ (Nat.le_refl _) hwQ hownQ hown' hgrow
                have hw2 : w.heap.size + 1 ≤ w1.heap.size := by have := hgrow.size; simp at this; omega
                clear hown' hgrow hownQ hbQ
                go_wp2
                go_roundw
                case rel => exact ⟨k + 1, l ++ [92, s[k]], by omega, by go_num, by simp; omega, hat2, ho2, hb2, hw2⟩
                case measure => simp [intOf]; omega
              · have e4 : ((s[k].toNat : Int) == 92) = false := byte_differ _ 92 q4
                by_cases q5 : s[k] = 34
                · have e5 : ((s[k].toNat : Int) == 34) = true := byte_same _ 34 q5
                  have hat2 := Lib.hid (HA.out [92, s[k]] (by rw [hes, if_pos (by simp [q5])]))
                  clear HA hes q4 q5
                  generalize hasB d0 s[k] = hv at *
                  go_wp2_with fail
                  refine wp_region_quiet_below (by kernel_rfl) (by kernel_rfl) ?_
                  repeat (go_big_quiet_step (with_reducible exact KA.out _ _))
                  refine wpQuiet_nil ?_
                  intro _ hw'
                  obtain ⟨⟨dq, osq⟩, hw''⟩ := hw'
                  subst hw''
                  have hownQ := own_below hown (below_regrown wr dq osq)
                  have hbQ := hb.trans ((below_regrown wr dq osq).mono hw1)
                  have hwQ := Nat.le_trans hw1 (below_regrown wr dq osq).size
                  generalize grow (redrawn wr dq) osq = wq at *
                  clear hown hb hw1 KA
                  go_wp2_with (at_builtin; refine wpList_append_own _ rfl _ _ 22 rfl (w.heap.size + 1) 5 i0 (.int .u8 0) 1 1 Tryd.underlying22 hi hz0 hz1 hz2 rfl (by decide) _ _ _ rfl (hownQ.alloc _) ⟨wq.heap.size, 0, none⟩ 2 2 [.int .u8 92, .int .u8 (s[k].toNat : Int)] rfl rfl (cell_two_newE _ _ _ _) (by simp [Value.oneCell']) (by unfold maxLen; omega) (by omega) (by simp; omega) ?_; intro v' w1 hown' hgrow _)
                  obtain ⟨ho2, hb2⟩ := own_stepE (m := [92, s[k]]) hbQ (Nat.le_refl _) hwQ hownQ hown' hgrow
                  have hw2 : w.heap.size + 1 ≤ w1.heap.size := by have := hgrow.size; simp at this; omega
                  clear hown' hgrow hownQ hbQ
                  go_wp2
                  go_roundw
                  case rel => exact ⟨k + 1, l ++ [92, s[k]], by omega, by go_num, by simp; omega, hat2, ho2, hb2, hw2⟩
                  case measure => simp [intOf]; omega
                · have e5 : ((s[k].toNat : Int) == 34) = false := byte_differ _ 34 q5
                  have b4 : (s[k] == 92) = false := by simpa using q4
                  have b5 : (s[k] == 34) = false := by simpa using q5
                  rw [b4, b5, Bool.false_or, Bool.false_or] at hes
                  clear q4 q5 b4 b5
                  generalize hasB d0 s[k] = hv at *
                  cases hv
                  · have hat2 := Lib.hid (HA.out [s[k]] (by rw [hes, if_neg (by decide)]))
                    clear HA hes
                    go_wp2_with fail
                    refine wp_region_quiet_below (by kernel_rfl) (by kernel_rfl) ?_
                    repeat (go_big_quiet_step (with_reducible exact KA.out _ _))
                    refine wpQuiet_nil ?_
                    intro _ hw'
                    obtain ⟨⟨dq, osq⟩, hw''⟩ := hw'
                    subst hw''
                    have hownQ := own_below hown (below_regrown wr dq osq)
                    have hbQ := hb.trans ((below_regrown wr dq osq).mono hw1)
                    have hwQ := Nat.le_trans hw1 (below_regrown wr dq osq).size
                    generalize grow (redrawn wr dq) osq = wq at *
                    clear hown hb hw1 KA
                    go_wp2_with (at_builtin; refine wpList_append_own _ rfl _ _ 22 rfl (w.heap.size + 1) 5 i0 (.int .u8 0) 1 1 Tryd.underlying22 hi hz0 hz1 hz2 rfl (by decide) _ _ _ rfl (hownQ.alloc _) ⟨wq.heap.size, 0, none⟩ 1 1 [.int .u8 (s[k].toNat : Int)] rfl rfl (cell_one_newU _ _ _) (by simp [Value.oneCell']) (by unfold maxLen; omega) (by omega) (by simp; omega) ?_; intro v' w1 hown' hgrow _)
                    obtain ⟨ho2, hb2⟩ := own_stepE (m := [s[k]]) hbQ (Nat.le_refl _) hwQ hownQ hown' hgrow
                    have hw2 : w.heap.size + 1 ≤ w1.heap.size := by have := hgrow.size; simp at this; omega
                    clear hown' hgrow hownQ hbQ
                    go_wp2
                    go_roundw
                    case rel => exact ⟨k + 1, l ++ [s[k]], by omega, by go_num, by simp; omega, hat2, ho2, hb2, hw2⟩
                    case measure => simp [intOf]; omega
                  · have hat2 := Lib.hid (HA.out [92, s[k]] (by rw [hes, if_pos rfl]))
                    clear HA hes
                    go_wp2_with fail
                    refine wp_region_quiet_below (by kernel_rfl) (by kernel_rfl) ?_
                    repeat (go_big_quiet_step (with_reducible exact KA.out _ _))
                    refine wpQuiet_nil ?_
                    intro _ hw'
                    obtain ⟨⟨dq, osq⟩, hw''⟩ := hw'
                    subst hw''
                    have hownQ := own_below hown (below_regrown wr dq osq)
                    have hbQ := hb.trans ((below_regrown wr dq osq).mono hw1)
                    have hwQ := Nat.le_trans hw1 (below_regrown wr dq osq).size
                    generalize grow (redrawn wr dq) osq = wq at *
                    clear hown hb hw1 KA
                    go_wp2_with (at_builtin; refine wpList_append_own _ rfl _ _ 22 rfl (w.heap.size + 1) 5 i0 (.int .u8 0) 1 1 Tryd.underlying22 hi hz0 hz1 hz2 rfl (by decide) _ _ _ rfl (hownQ.alloc _) ⟨wq.heap.size, 0, none⟩ 2 2 [.int .u8 92, .int .u8 (s[k].toNat : Int)] rfl rfl (cell_two_newE _ _ _ _) (by simp [Value.oneCell']) (by unfold maxLen; omega) (by omega) (by simp; omega) ?_; intro v' w1 hown' hgrow _)
                    obtain ⟨ho2, hb2⟩ := own_stepE (m := [92, s[k]]) hbQ (Nat.le_refl _) hwQ hownQ hown' hgrow
                    have hw2 : w.heap.size + 1 ≤ w1.heap.size := by have := hgrow.size; simp at this; omega
                    clear hown' hgrow hownQ hbQ
                    go_wp2
                    go_roundw
                    case rel => exact ⟨k + 1, l ++ [92, s[k]], by omega, by go_num, by simp; omega, hat2, ho2, hb2, hw2⟩
                    case measure => simp [intOf]; omega
      · obtain rfl : k = s.size := by omega
        have hcv := text_of_ownU wr _ _ _ l hown rfl
        have HF : Hid (r = ⟨l.toArray⟩) := by unfold Hid; rw [HR.out, hat.out, HSL.out, List.take_length]
        have hbF := hb0.trans (hb.mono (by simp))
        clear hat hown HR HE K1
        go_wp2
        go_ret
        exact ⟨by rw [HF.out]; rfl, hbF⟩

end Go.Proofs.YtkhkpjnpjgnckaaDoor
