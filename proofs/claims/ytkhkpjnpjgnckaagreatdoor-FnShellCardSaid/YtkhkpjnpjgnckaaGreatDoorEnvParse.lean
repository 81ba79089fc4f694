/- A whole environment file: the program's ParseEnv. -/
import Derived.Test.YtkhkpjnpjgnckaaGreatDoorProg
import Derived.Test.YtkhkpjnpjgnckaaGreatDoorPlain
import Derived.Test.YtkhkpjnpjgnckaaGreatDoorRows0
import Derived.Test.YtkhkpjnpjgnckaaGreatDoorRecRows
import Derived.Test.YtkhkpjnpjgnckaaGreatDoorRecArg
import Derived.Test.YtkhkpjnpjgnckaaGreatDoorEnvOne
import Derived.Test.YtkhkpjnpjgnckaaGreatDoorRecRaw
import Derived.Test.YtkhkpjnpjgnckaaGreatDoorRecNum
import Derived.Test.YtkhkpjnpjgnckaaGreatDoorLines
import Derived.Test.YtkhkpjnpjgnckaaGreatDoorSplitSpec
import Derived.Test.YtkhkpjnpjgnckaaGreatDoorSplitImpl
import Derived.Test.YtkhkpjnpjgnckaaGreatDoorJoin
import Derived.Test.YtkhkpjnpjgnckaaGreatDoorEnvRecs
import Derived.Test.YtkhkpjnpjgnckaaGreatDoorEnvSame
import Derived.Test.YtkhkpjnpjgnckaaGreatDoorEnvSkip
import Derived.Test.YtkhkpjnpjgnckaaGreatDoorEnvFirst
import Derived.Test.YtkhkpjnpjgnckaaGreatDoorEnvLim
import Derived.Test.YtkhkpjnpjgnckaaGreatDoorEnvFit
import Derived.WalkKit
import Derived.WalkLawsBesides
import Derived.OwnWalk
import Derived.Maps.AppendAt
import Derived.Laws.IdiomStrings
import Derived.Lib.Hide
import Derived.IntWalk
set_option maxRecDepth 100000
namespace Go.Proofs.YtkhkpjnpjgnckaaGreatDoor
open Go.RowKit
set_option linter.unusedVariables false

/-- from a record to the next -/
theorem step_env (s z : ByteArray) (k : Nat) (hz : z.size ≠ 0) (hl : linesOf z = (linesOf s).drop k) : ∃ hk : k < (linesOf s).length,
    envF z = zeroR (putP (linesOf s) k (oneAt (linesOf s) k hk).2 (oneAt (linesOf s) k hk).1) ∧ linesOf (z.extract (envF z).raw.size z.size) = (linesOf s).drop (k + (oneAt (linesOf s) k hk).2) ∧ 1 ≤ (envF z).raw.size ∧ (envF z).raw.size ≤ z.size := by
  obtain ⟨f1, f2, f3⟩ := first_line z hz
  have hk : k < (linesOf s).length := by
    apply Classical.byContradiction
    intro h
    rw [List.drop_of_length_le (by omega)] at hl
    rw [hl] at f3
    cases f3
  have hd := List.drop_eq_getElem_cons hk
  rw [← hl, f3] at hd
  obtain ⟨d1, d2⟩ := List.cons.inj hd
  have hone : oneAt (linesOf s) k hk = oneE (firstL z) (linesOf (z.extract ((firstL z).1.size + (firstL z).2.size) z.size)) := by
    unfold oneAt
    rw [← d1, ← d2]
  have henv := envF_is z hz _ f3
  have hle := oneAt_le (linesOf s) k hk
  rw [← hone] at henv
  refine ⟨hk, ?_⟩
  generalize oneAt (linesOf s) k hk = q at *
  have hraw : rawP (linesOf z) 0 q.2 = rawP (linesOf s) k q.2 := by
    unfold rawP
    rw [List.drop_zero, hl]
  have hzl : z.data.toList = joinB ((linesOf z).take q.2) ++ joinB ((linesOf z).drop q.2) := by
    rw [← joinB_append, List.take_append_drop, linesOf_join]
  have hrs : (envF z).raw.size = (joinB ((linesOf z).take q.2)).length := by
    rw [henv]
    show (rawP (linesOf z) 0 q.2).size = _
    unfold rawP
    rw [Lib.size_eq, List.drop_zero]
  refine ⟨?_, ?_, ?_, ?_⟩
  · rw [henv, hraw]
    rfl
  · have h1 : (z.extract (envF z).raw.size z.size).data.toList = joinB ((linesOf z).drop q.2) := by
      rw [data_extract_all, hrs]
      conv => lhs; rw [hzl]
      rw [List.drop_left]
    obtain ⟨s2, h2⟩ := split_drop q.2 z.data.toList
    have h3 : (linesOf z).drop q.2 = linesOf ⟨s2.toArray⟩ := by
      unfold linesOf
      rw [← List.map_drop, h2]
    have h4 : z.extract (envF z).raw.size z.size = ⟨s2.toArray⟩ := by
      apply ext_dataB
      rw [h1, h3, linesOf_join]
    rw [h4, ← h3, hl, List.drop_drop]
  · rw [hrs]
    obtain ⟨c, hc⟩ : ∃ c, q.2 = c + 1 := ⟨q.2 - 1, by omega⟩
    rw [hc, f3, List.take_succ_cons, joinB_cons, List.length_append, List.length_append, ← Lib.size_eq, ← Lib.size_eq]
    omega
  · rw [hrs, Lib.size_eq, hzl, List.length_append]
    omega
set_option maxHeartbeats 1600000 in
theorem parseEnv_core (s : ByteArray) (w : World) (hs : s.size ≤ 6000) (hlim : LimOk ((recsP (linesOf s) 0).map zeroR)) :
    Calls Tryz.prog 16 #[.string s] w (NewRows recS w (limG (recsP (linesOf s) 0))) := by
  have HLIM := Lib.hid hlim
  clear hlim
  have HNUM := Lib.hid (num_env s)
  have hcost : costRec (limG ((recsP (linesOf s) 0).map zeroR)) ≤ 1048576 := by
    rw [limG_zero, costRec_zero]
    have := cost_env s hs
    omega
  have KNUM := Lib.hid (fun (W : World) (v : Value) (g : Nat) (h : RowsRd recS W v g 0 (limG ((recsP (linesOf s) 0).map zeroR))) => numbered_impl W v g 0 _ h hcost)
  rw [HNUM.out] at KNUM
  have HST := Lib.hid (step_env s)
  have HRS := Lib.hid (recsP_step (linesOf s))
  have HEN := Lib.hid (recsP_end (linesOf s))
  clear HNUM hcost
  have HPS : Hid (∀ r, (recsP (linesOf s) 0).map zeroR = r → LimOk r) := fun r h => h ▸ HLIM.out
  have HPN : Hid (∀ r, (recsP (linesOf s) 0).map zeroR = r → ∀ (W : World) (v : Value) (g : Nat), RowsRd recS W v g 0 (limG r) → Calls Tryz.prog 42 #[v] W (NewRows recS W (limG (recsP (linesOf s) 0)))) := by
    intro r h
    subst h
    exact KNUM.out
  have hlf := linesOf_few s
  have H00 : Hid ((recsP (linesOf s) 0).map zeroR = [] ++ (recsP (linesOf s) 0).map zeroR) := by unfold Hid; simp
  clear HLIM KNUM
  generalize hgl : linesOf s = l at *
  have HL0 : Hid (linesOf s = l.drop 0) := by unfold Hid; rw [List.drop_zero]; exact hgl
  clear hgl
  generalize limG (recsP l 0) = fin at *
  have hsz : ¬ (6000 : Int) < (s.size : Int) := by omega
  obtain ⟨i0, hi, hz0, hz1, hz2⟩ := info_parts info_recP
  go_enter Tryz.func16, Tryz.ntmps16
  go_wp2
  go_loopw [0, 3] (fun x v wr => ∃ (z : ByteArray) (k : Nat) (m : List RecD) (oa : Option Addr) (ocap : Nat), x = .string z ∧ v = .slice oa m.length ocap ∧ z.size ≤ s.size ∧ m.length + z.size ≤ s.size ∧ Hid (linesOf z = l.drop k) ∧ Hid ((recsP l 0).map zeroR = m ++ (recsP l k).map zeroR) ∧ Hid (wr.ownsRow w.heap.size 35 6 (.slice oa m.length ocap) m.length (rowCells recS m)) ∧ w.heap.size ≤ wr.heap.size ∧ Below w.heap.size w wr) (fun x _ _ => strLenE x)
  case atStart => exact ⟨s, 0, [], none, 0, rfl, rfl, Nat.le_refl _, by simp, HL0, H00, ⟨rfl, .inl ⟨rfl, rfl⟩⟩, Nat.le_refl _, Below.refl _ _⟩
  case round =>
    obtain ⟨z, k, m, oa, ocap, rfl, rfl, hzs, hms, hLz, hF, hown, hsw, hb⟩ := hrel
    clear H00 HL0
    by_cases hz : z.size = 0
    · obtain ⟨e1, e2⟩ := text_noneE z hz
      have hE : (recsP l 0).map zeroR = m := by
        have h1 : l.length ≤ k := by
          have := hLz.out
          rw [linesOf_none z hz] at this
          have h2 := congrArg List.length this
          rw [List.length_nil, List.length_drop] at h2
          omega
        rw [hF.out, HEN.out k h1]
        simp
      have K := Lib.hid (HPS.out m hE w.heap.size wr (.slice oa m.length ocap) hsw hown.out)
      have KN := Lib.hid (HPN.out m hE)
      have e3 : (!z.toList.isEmpty) = false := by rw [e2]; rfl
      clear hF hown HPS HPN hLz hE HST HRS HEN
      go_wp2_with fail
      refine K.out.mono ?_
      rintro e w2 ⟨v2, g2, rfl, hr2, hg2, hb2⟩
      have hb3 := hb.trans hb2
      have KN2 := Lib.hid (KN.out w2 v2 g2 hr2.toRowsRd)
      clear hr2 hb2 hb K KN
      go_wp2_with fail
      refine KN2.out.mono ?_
      rintro e w3 ⟨v3, g3, rfl, hr3, hg3, hb4⟩
      have hb5 := hb3.trans (hb4.mono hb3.size)
      have HR3 := Lib.hid hr3
      have hgw : w.heap.size ≤ g3 := Nat.le_trans hb3.size hg3
      clear hr3 hb4 hb3 KN2
      go_wp2
      go_ret
      exact ⟨v3, g3, rfl, HR3.out, hgw, hb5⟩
    · obtain ⟨e1, e2⟩ := text_someE z (by omega)
      have e3 : (!z.toList.isEmpty) = true := by rw [e2]; rfl
      obtain ⟨hk, s1, s2, s3, s4⟩ := HST.out z k hz hLz.out
      have hst := HRS.out k hk
      have K1 := Lib.hid (firstEnv_impl z · (by omega) hz)
      have HF : Hid ((recsP l 0).map zeroR = (m ++ [envF z]) ++ (recsP l (k + (oneAt l k hk).2)).map zeroR) := by
        unfold Hid
        rw [hF.out, hst, List.map_cons, ← s1]
        simp
      have HLZ : Hid (linesOf (z.extract (envF z).raw.size z.size) = l.drop (k + (oneAt l k hk).2)) := s2
      have hes : (z.extract (envF z).raw.size z.size).size = z.size - (envF z).raw.size := by rw [ByteArray.size_extract]; omega
      obtain ⟨z2, hz2e⟩ : ∃ z2, z.extract (envF z).raw.size z.size = z2 := ⟨_, rfl⟩
      rw [hz2e] at HLZ hes
      have HZ2 := Lib.hid hz2e
      generalize k + (oneAt l k hk).2 = k2 at *
      generalize envF z = x at *
      obtain ⟨y0, y1, y2, y3, y4, y5⟩ := x
      unfold recV at K1
      simp only at K1 s3 s4 hes HZ2
      clear hF hst s1 s2 hz2e HPS HPN HST HRS HEN hLz
      have q1 : (y1.size : Int) ≤ (z.size : Int) := by omega
      go_wp2_with fail
      refine (K1.out _).mono ?_
      rintro e w2 ⟨rfl, hb2⟩
      have hown2 := Lib.hid (ownsRow_below hown.out hb2)
      have hb3 := hb.trans (hb2.mono hb.size)
      have hs2 : w.heap.size ≤ w2.heap.size := Nat.le_trans hsw hb2.size
      clear K1 hown hb hb2
      have hsz2 : (w2.alloc (.cells #[.int .i64 y0, .string y1, .string y2, .string y3, .string y4, .int .i64 y5] 35)).heap.size = w2.heap.size + 1 := by simp
      have hbq : Below w2.heap.size w2 (w2.alloc (.cells #[.int .i64 y0, .string y1, .string y2, .string y3, .string y4, .int .i64 y5] 35)) := (Below.refl w2.heap.size w2).alloc (Nat.le_refl _) _
      have hb4 := hb3.trans (hbq.mono hs2)
      have hown4 := Lib.hid (ownsRow_below hown2.out hbq)
      have HNW := heap_alloc_new (w2.alloc (.cells #[.int .i64 y0, .string y1, .string y2, .string y3, .string y4, .int .i64 y5] 35)) (.cells #[.int .i64 y0, .string y1, .string y2, .string y3, .string y4, .int .i64 y5] 35)
      rw [hsz2] at HNW
      have HNW := Lib.hid HNW
      have HNE : Hid (some w2.heap.size ≠ (Value.slice oa m.length ocap).ownBlock) := fun e => by
        have := own_ltP hown2.out w2.heap.size e.symm
        omega
      have HRB : Hid (RecIn ((w2.alloc (.cells #[.int .i64 y0, .string y1, .string y2, .string y3, .string y4, .int .i64 y5] 35)).alloc (.cells #[.int .i64 y0, .string y1, .string y2, .string y3, .string y4, .int .i64 y5] 35)) w2.heap.size ⟨y0, y1, y2, y3, y4, y5⟩) := RecIn.over (show RecIn (w2.alloc (.cells #[.int .i64 y0, .string y1, .string y2, .string y3, .string y4, .int .i64 y5] 35)) w2.heap.size ⟨y0, y1, y2, y3, y4, y5⟩ from heap_alloc_new _ _) ((Below.refl _ _).alloc (Nat.le_refl _) _) (by rw [hsz2]; omega)
      clear hbq hown2 hb3
      go_wp2_with (at_builtin; refine wpList_append_own _ rfl _ _ 32 rfl w.heap.size 35 i0 (recV noRec) 6 80 Tryz.underlying32 hi hz0 hz1 hz2 rfl (by decide) _ _ _ rfl (hown4.out.alloc _) ⟨w2.heap.size + 1, 0, none⟩ 1 1 (recCs ⟨y0, y1, y2, y3, y4, y5⟩) rfl rfl (World.news_of_block (cs := #[.int .i64 y0, .string y1, .string y2, .string y3, .string y4, .int .i64 y5]) (t := 35) (fr := (0, 0)) HNW.out) (recS.one _) (by unfold maxLen; omega) (by omega) (by simp; omega) ?_; intro v7 w7 hown7 hgrow7 _; have hrec : RecIn w7 w2.heap.size ⟨y0, y1, y2, y3, y4, y5⟩ := (by unfold RecIn; rw [hgrow7.block w2.heap.size (by simp; omega) HNE.out]; exact HRB.out); obtain ⟨d0, d1, d2, d3, d4, d5⟩ := hrec.cells; simp only at d1; clear d0 d2 d3 d4 d5 hrec)
      have hb8 := (hb4.alloc (by rw [hsz2]; omega) _).grown hgrow7 (by simp; omega) (own_blockL hown4.out)
      obtain ⟨oa7, ocap7, rfl⟩ := own_formP hown7
      have hrow7 : Hid (w7.ownsRow w.heap.size 35 6 (.slice oa7 (m ++ [(⟨y0, y1, y2, y3, y4, y5⟩ : RecD)]).length ocap7) (m ++ [(⟨y0, y1, y2, y3, y4, y5⟩ : RecD)]).length (rowCells recS (m ++ [⟨y0, y1, y2, y3, y4, y5⟩]))) := by
        unfold Hid
        rw [rowCells_append, rowCells_single, List.length_append]
        exact hown7
      have hs8 : w.heap.size ≤ w7.heap.size := hb8.size
      clear hown7 hgrow7 hown4 HNW hb4 HRB HNE
      rw [HZ2.out]
      go_roundw
      case rel => exact ⟨z2, k2, m ++ [⟨y0, y1, y2, y3, y4, y5⟩], oa7, ocap7, rfl, by simp, by omega, by simp; omega, HLZ, HF, hrow7, hs8, hb8⟩
      case measure => simp only [strLenE]; omega


end Go.Proofs.YtkhkpjnpjgnckaaGreatDoor

/- A whole environment file, of any length: the program's ParseEnv. -/
set_option maxRecDepth 100000
namespace Go.Proofs.YtkhkpjnpjgnckaaGreatDoor
open Go.RowKit
set_option linter.unusedVariables false

theorem lim_env (s : ByteArray) (hs : s.size ≤ 6000) : LimOk ((recsP (linesOf s) 0).map zeroR) := by
  by_cases h : (recsP (linesOf s) 0).length ≤ 200
  · exact limit_fewP _ (by rw [List.length_map]; exact h)
  · refine limit_manyP _ (by rw [List.length_map]; omega) ?_
    have h1 := recsP_len (linesOf s) 0
    have h2 := linesOf_few s
    rw [List.length_map, rawB_zero, recsP_raw, List.drop_zero, linesOf_join, ← Lib.size_eq]
    omega

theorem parseEnv_any (s : ByteArray) (w : World) (hs : s.size ≤ 1048576) :
    Calls Tryz.prog 16 #[.string s] w (NewRows recS w (propsL s)) := by
  by_cases h : s.size ≤ 6000
  · have := parseEnv_core s w h (lim_env s h)
    unfold propsL
    rw [if_pos h]
    exact this
  · have HP : Hid (propsL s = []) := by unfold Hid propsL; rw [if_neg h]
    have hsz : (6000 : Int) < (s.size : Int) := by omega
    go_enter Tryz.func16, Tryz.ntmps16
    go_wp2
    go_ret
    exact ⟨_, w.heap.size, rfl, by rw [HP.out]; exact RowsIs.nil none 0 rfl, Nat.le_refl _, Below.refl _ _⟩

end Go.Proofs.YtkhkpjnpjgnckaaGreatDoor
