/- A file of heads, and of what is none of what is told: the model's contract of ParseIni. -/
import Derived.Test.YtkhkpjnpjgnckaaGreatDoorProg
import Derived.Test.YtkhkpjnpjgnckaaGreatDoorPlain
import Derived.Test.YtkhkpjnpjgnckaaGreatDoorLines
import Derived.Test.YtkhkpjnpjgnckaaGreatDoorSplitSpec
import Derived.Test.YtkhkpjnpjgnckaaGreatDoorJoin
import Derived.Test.YtkhkpjnpjgnckaaGreatDoorRows0
import Derived.Test.YtkhkpjnpjgnckaaGreatDoorRecRows
import Derived.Test.YtkhkpjnpjgnckaaGreatDoorRecArg
import Derived.Test.YtkhkpjnpjgnckaaGreatDoorHeadSpec
import Derived.Test.YtkhkpjnpjgnckaaGreatDoorQuotSpec
import Derived.Test.YtkhkpjnpjgnckaaGreatDoorTakeImpl
import Derived.Test.YtkhkpjnpjgnckaaGreatDoorOneEasy
import Derived.Test.YtkhkpjnpjgnckaaGreatDoorAddSpec
import Derived.Test.YtkhkpjnpjgnckaaGreatDoorParseImpl
import Derived.WalkKit
import Derived.WalkLawsBesides
import Derived.OwnWalk
import Derived.BigQuiet
import Derived.Deep.QuietTactic
import Derived.Lib.QuietBelow
import Derived.Laws.IdiomStrings
import Derived.Lib.Hide
import Derived.IntWalk
import Derived.Outline
set_option maxRecDepth 100000
namespace Go.Proofs.YtkhkpjnpjgnckaaGreatDoor
open Go.RowKit Go.Sort
set_option linter.unusedVariables false

/-- the records of the lines from a place on -/
def recs5 (d : DialectD) (l : List Ln) : Nat → Nat → ByteArray → List RecD
  | 0, _, _ => []
  | f + 1, k, sec => if h : k < l.length then ⟨(one5 d sec l[k] (l.drop (k + 1))).1.kind, rawI l k (one5 d sec l[k] (l.drop (k + 1))).2.1, (one5 d sec l[k] (l.drop (k + 1))).2.2, (one5 d sec l[k] (l.drop (k + 1))).1.key, (one5 d sec l[k] (l.drop (k + 1))).1.value, (k : Int) + 1⟩ :: recs5 d l f (k + (one5 d sec l[k] (l.drop (k + 1))).2.1) (one5 d sec l[k] (l.drop (k + 1))).2.2 else []
theorem recs5_end (d : DialectD) (l : List Ln) (f k : Nat) (sec : ByteArray) (h : l.length ≤ k) : recs5 d l f k sec = [] := by
  cases f with
  | zero => rfl
  | succ f => unfold recs5; rw [dif_neg (by omega)]
theorem recs5_more (d : DialectD) (l : List Ln) : ∀ (f f2 k : Nat) (sec : ByteArray), l.length ≤ k + f → l.length ≤ k + f2 → recs5 d l f k sec = recs5 d l f2 k sec := by
  intro f
  induction f with
  | zero => intro f2 k sec h1 h2; rw [recs5_end d l 0 k sec (by omega), recs5_end d l f2 k sec (by omega)]
  | succ f ih =>
    intro f2 k sec h1 h2
    by_cases hk : k < l.length
    · cases f2 with
      | zero => omega
      | succ f2 =>
        have hs := one5_bound d sec l[k] (l.drop (k + 1))
        unfold recs5
        rw [dif_pos hk, dif_pos hk, ih f2 _ _ (by omega) (by omega)]
    · rw [recs5_end d l _ k sec (by omega), recs5_end d l _ k sec (by omega)]
def recs5At (d : DialectD) (l : List Ln) (k : Nat) (sec : ByteArray) : List RecD := recs5 d l l.length k sec
theorem recs5At_step (d : DialectD) (l : List Ln) (k : Nat) (sec : ByteArray) (hk : k < l.length) : recs5At d l k sec = ⟨(one5 d sec l[k] (l.drop (k + 1))).1.kind, rawI l k (one5 d sec l[k] (l.drop (k + 1))).2.1, (one5 d sec l[k] (l.drop (k + 1))).2.2, (one5 d sec l[k] (l.drop (k + 1))).1.key, (one5 d sec l[k] (l.drop (k + 1))).1.value, (k : Int) + 1⟩ :: recs5At d l (k + (one5 d sec l[k] (l.drop (k + 1))).2.1) (one5 d sec l[k] (l.drop (k + 1))).2.2 := by
  have hs := one5_bound d sec l[k] (l.drop (k + 1))
  unfold recs5At
  obtain ⟨f, hf⟩ : ∃ f, l.length = f + 1 := ⟨l.length - 1, by omega⟩
  conv => lhs; rw [hf]; unfold recs5
  rw [dif_pos hk, recs5_more d l f l.length _ _ (by omega) (by omega)]
theorem recs5At_end (d : DialectD) (l : List Ln) (k : Nat) (sec : ByteArray) (h : l.length ≤ k) : recs5At d l k sec = [] := recs5_end d l _ k sec h

/-- how far it has come -/
def atOf5 (w : World) (b : Nat) : Nat := match w.cell? ⟨b, 1, none⟩ with
  | some (.int _ z) => z.toNat
  | _ => 0
theorem atOf5_at {w : World} {b : Nat} {lv : Value} {k : Nat} {sec : ByteArray} {ov : Value} (h : ReadAt w b lv k sec ov) : atOf5 w b = k := by
  obtain ⟨e0, e1, e2, e3⟩ := h.cells
  unfold atOf5
  rw [e1]
  simp
theorem own_lines {w : World} {B : Nat} {v : Value} {l : List Ln} {t : Nat} (h : w.ownsRow B t 2 v l.length (lnCells l)) (hne : l ≠ []) (hB : B ≤ w.heap.size) : ∃ g cap, v = .slice (some ⟨g, 0, none⟩) l.length cap ∧ l.length ≤ cap ∧ LinesRd w v g 0 l ∧ B ≤ g ∧ g < w.heap.size := by
  obtain ⟨g, hI, hg⟩ := linesIs_of_owns h rfl hB
  have hlt := hI.toLinesRd.lt hne
  rcases h.2 with ⟨hv, h0⟩ | ⟨g2, cap, cur, hv, hb, hg2, hnc, hcm, hcs, htake⟩
  · exact absurd (List.eq_nil_of_length_eq_zero h0) hne
  · obtain ⟨a, cap2, hv2, ha⟩ := hI.form
    have := ha hne
    subst this
    refine ⟨g, cap, ?_, hnc, hI.toLinesRd, hg, hlt⟩
    rw [hv2] at hv
    injection hv with e1 e2 e3
    rw [hv2, e3]

set_option maxHeartbeats 3200000 in
theorem parse_easy (d : DialectD) (s : ByteArray) (w : World) (hok : dialOk d = true) (hs : s.size ≤ 6000) (h0 : s.size ≠ 0) (hlim : (linesOf s).length ≤ 198)
    (hE : ∀ k (hk : k < (linesOf s).length), easy5 d (joined5 d (linesOf s)[k] ((linesOf s).drop (k + 1))).1) :
    Calls Tryz.prog 51 #[.string s, dialectV d] w (NewRows recS w (recs5At d (linesOf s) 0 ⟨#[]⟩)) := by
  have hds := dialOk_size hok
  have KD := Lib.hid (fun w => dialectOk_spec d w (by omega) (by omega))
  rw [hok] at KD
  have KS := Lib.hid (fun w => splitLines_spec s w (by omega))
  have hco := linesOf_cost s
  have hne := linesOf_some s h0
  have HRS := Lib.hid (recs5At_step d (linesOf s))
  have HRE := Lib.hid (recs5At_end d (linesOf s))
  generalize linesOf s = l at *
  have KO := Lib.hid (fun (w : World) (b : Nat) (lv ov : Value) (k : Nat) (sec : ByteArray) (g : Nat) (hX : ReadAt w b lv k sec ov) (hu : LinesRd w lv g 0 l) (hk : k < l.length) => one_easy d w b lv ov k sec g 0 l hX hu (by omega) hk (by omega) (by omega) (hE k hk))
  have HBD := Lib.hid (fun (sec : ByteArray) (k : Nat) (hk : k < l.length) => one5_bound d sec l[k] (l.drop (k + 1)))
  have HN := Lib.hid (dialAt_new w d)
  have hb0 := (Below.refl w.heap.size w).alloc (Nat.le_refl _) (.cells #[.string d.notes, .string d.seps, .bool d.inl, .bool d.quo, .bool d.esc, .int .i64 d.join] 25)
  have hw0 : w.heap.size < (w.alloc (.cells #[.string d.notes, .string d.seps, .bool d.inl, .bool d.quo, .bool d.esc, .int .i64 d.join] 25)).heap.size := by simp
  clear hE
  obtain ⟨d0, d1, d2, d3, d4, d5⟩ := d
  unfold dialectV at *
  simp only at KD KO HN hb0 hw0 hds
  have hsz : ¬ (6000 : Int) < (s.size : Int) := by omega
  have hsz2 : (s.size : Int) ≤ 6000 := by omega
  clear hok
  go_enter Tryz.func51, Tryz.ntmps51
  go_wp2_with fail
  generalize w.alloc (.cells #[.string d0, .string d1, .bool d2, .bool d3, .bool d4, .int .i64 d5] 25) = W0 at *
  refine (KS.out _).mono ?_
  rintro e W1 ⟨lv, rfl, hown, hb1⟩
  obtain ⟨g, cap, rfl, hcap, hL, hg1, hg2⟩ := own_lines hown hne hb1.size
  have HD1 := Lib.hid (HN.out.over hb1 hw0)
  have hB1 := hb0.trans (hb1.mono hb0.size)
  have hw1 := Nat.lt_of_lt_of_le hw0 hb1.size
  have HL1 := Lib.hid hL
  clear hb1 hb0 HN hw0 KS hown hL
  obtain ⟨c0, c1, c2, c3, c4, c5⟩ := HD1.out.cells
  simp only at c0 c1 c2 c3 c4 c5
  have hbx := ((Below.refl W1.heap.size W1).alloc (Nat.le_refl _) (.cells #[] 35)).alloc (by simp) (.cells #[.slice (some ⟨g, 0, none⟩) l.length cap, .int .i64 0, .string ⟨#[]⟩, .slice (some ⟨W1.heap.size, 0, none⟩) 0 0] 81)
  have HX : Hid (ReadAt ((W1.alloc (.cells #[] 35)).alloc (.cells #[.slice (some ⟨g, 0, none⟩) l.length cap, .int .i64 0, .string ⟨#[]⟩, .slice (some ⟨W1.heap.size, 0, none⟩) 0 0] 81)) (W1.heap.size + 1) (.slice (some ⟨g, 0, none⟩) l.length cap) 0 ⟨#[]⟩ (.slice (some ⟨W1.heap.size, 0, none⟩) 0 0)) := by
    have := heap_alloc_new (W1.alloc (.cells #[] 35)) (.cells #[.slice (some ⟨g, 0, none⟩) l.length cap, .int .i64 0, .string ⟨#[]⟩, .slice (some ⟨W1.heap.size, 0, none⟩) 0 0] 81)
    rw [World.size_alloc] at this
    exact this
  have HO : Hid (((W1.alloc (.cells #[] 35)).alloc (.cells #[.slice (some ⟨g, 0, none⟩) l.length cap, .int .i64 0, .string ⟨#[]⟩, .slice (some ⟨W1.heap.size, 0, none⟩) 0 0] 81)).ownsRow W1.heap.size 35 6 (.slice (some ⟨W1.heap.size, 0, none⟩) 0 0) ([] : List RecD).length (rowCells recS [])) :=
    own_belowA (World.ownsRow_lit W1 (e := 35) (size := 6) #[] 0 (Nat.le_refl _) (Nat.zero_le _) rfl) ((Below.refl _ _).alloc (Nat.le_refl _) _)
  have HRO : Hid (∀ i, (Value.slice (some ⟨W1.heap.size, 0, none⟩) 0 0).ownBlock = some i → i ≠ W1.heap.size + 1) := by
    intro i hi
    simp only [Value.ownBlock, Option.some.injEq] at hi
    omega
  replace HD1 := Lib.hid (HD1.out.over hbx hw1)
  replace HL1 := Lib.hid (HL1.out.below hbx (fun _ => hg2))
  have hB2 := hB1.trans (hbx.mono (Nat.le_of_lt hw1))
  have hsx : W1.heap.size + 1 < ((W1.alloc (.cells #[] 35)).alloc (.cells #[.slice (some ⟨g, 0, none⟩) l.length cap, .int .i64 0, .string ⟨#[]⟩, .slice (some ⟨W1.heap.size, 0, none⟩) 0 0] 81)).heap.size := by simp
  go_wp2_with fail
  clear c0 c1 c2 c3 c4 c5 hbx hB1
  generalize ((W1.alloc (.cells #[] 35)).alloc (.cells #[.slice (some ⟨g, 0, none⟩) l.length cap, .int .i64 0, .string ⟨#[]⟩, .slice (some ⟨W1.heap.size, 0, none⟩) 0 0] 81)) = Wx at *
  generalize hBq : W1.heap.size = B at *
  refine (KD.out _).mono ?_
  rintro e W2 ⟨rfl, hbd⟩
  replace HD1 := Lib.hid (HD1.out.over hbd (by omega))
  replace HL1 := Lib.hid (HL1.out.below hbd (fun _ => by omega))
  replace HX := Lib.hid (HX.out.over hbd hsx)
  replace HO := Lib.hid (own_belowA HO.out hbd)
  replace hB2 := hB2.trans (hbd.mono hB2.size)
  replace hsx := Nat.lt_of_lt_of_le hsx hbd.size
  clear hbd KD
  have n1 : g ≠ (B + 1) := by omega
  have n2 : w.heap.size ≠ (B + 1) := by omega
  have H00 : Hid (recs5At ⟨d0, d1, d2, d3, d4, d5⟩ l 0 ⟨#[]⟩ = [] ++ recs5At ⟨d0, d1, d2, d3, d4, d5⟩ l 0 ⟨#[]⟩) := by unfold Hid; simp
  go_wp2_with fail
  go_loopw [6] (fun _ wr => ∃ (k : Nat) (sec : ByteArray) (m : List RecD) (ov : Value), k ≤ l.length ∧ m.length ≤ k ∧ Hid (recs5At ⟨d0, d1, d2, d3, d4, d5⟩ l 0 ⟨#[]⟩ = m ++ recs5At ⟨d0, d1, d2, d3, d4, d5⟩ l k sec) ∧ Hid (ReadAt wr (B + 1) (.slice (some ⟨g, 0, none⟩) l.length cap) k sec ov) ∧ Hid (LinesRd wr (.slice (some ⟨g, 0, none⟩) l.length cap) g 0 l) ∧ Hid (DialAt wr w.heap.size ⟨d0, d1, d2, d3, d4, d5⟩) ∧ Hid (wr.ownsRow B 35 6 ov m.length (rowCells recS m)) ∧ Hid (∀ i, ov.ownBlock = some i → i ≠ (B + 1)) ∧ (B + 1) < wr.heap.size ∧ Below w.heap.size w wr) (fun _ wr => l.length - atOf5 wr (B + 1))
  case atStart => exact ⟨0, ⟨#[]⟩, [], _, Nat.zero_le _, Nat.le_refl _, H00, HX, HL1, HD1, HO, HRO, hsx, hB2⟩
  case round =>
    obtain ⟨k, sec, m, ov, hkl, hmk, hF, hX, hL, hD, hO, hRO, hsw, hb⟩ := hrel
    clear H00 HX HL1 HD1 HO HRO hsx hB2
    obtain ⟨oa, oc, rfl⟩ := own_form hO.out
    obtain ⟨e0, e1, e2, e3⟩ := hX.out.cells
    have y0 := cell_regrown e0
    have y1 := cell_regrown e1
    have HM1 := Lib.hid (atOf5_at hX.out)
    by_cases hlt : k < l.length
    · have hkz : (k : Int) < (l.length : Int) := by omega
      clear e0 e1 e2 e3
      go_wp2_with fail
      refine wp_region_quiet_below (by kernel_rfl) (by kernel_rfl) ?_
      repeat (go_big_quiet_step (fail))
      refine wpQuiet_nil ?_
      intro _ hw'
      obtain ⟨⟨dq, osq⟩, hw''⟩ := hw'
      subst hw''
      have hbq := below_regrown wr dq osq
      replace hX := Lib.hid (hX.out.over hbq hsw)
      replace hL := Lib.hid (hL.out.below hbq (fun _ => by omega))
      replace hD := Lib.hid (hD.out.over hbq (by omega))
      replace hO := Lib.hid (own_belowA hO.out hbq)
      replace hb := hb.trans (hbq.mono hb.size)
      replace hsw := Nat.lt_of_lt_of_le hsw hbq.size
      have hM2 := HM1.out
      clear y0 y1 hbq HM1
      have HM1 := Lib.hid hM2
      clear hM2
      generalize grow (redrawn wr dq) osq = w2 at *
      have HS := Lib.hid (HRS.out k sec hlt)
      have hbd2 := HBD.out sec k hlt
      have K1 := Lib.hid (KO.out w2 (B + 1) _ _ k sec g hX.out hL.out hlt)
      generalize one5 ⟨d0, d1, d2, d3, d4, d5⟩ sec l[k] (l.drop (k + 1)) = r at *
      obtain ⟨⟨y0, y1, y2, y3, y4, y5⟩, n, sec2⟩ := r
      simp only [recV] at K1 HS hbd2
      rw [List.length_drop] at hbd2
      obtain ⟨e0, e1, e2, e3⟩ := hX.out.cells
      obtain ⟨c0, c1, c2, c3, c4, c5⟩ := hD.out.cells
      simp only at c0 c1 c2 c3 c4 c5
      clear e0 e1 e3
      go_wp2_with fail
      refine (K1.out).mono ?_
      rintro e w3 ⟨rfl, hX3, hgr⟩
      have hL3 := hL.out.kept (fun _ => hgr.block g (by omega) (by intro e; injection e with e; omega))
      have hD3 : DialAt w3 w.heap.size ⟨d0, d1, d2, d3, d4, d5⟩ := by
        unfold DialAt
        rw [hgr.block w.heap.size (by omega) (by intro e; injection e with e; omega)]
        exact hD.out
      have hO3 := hO.out.kept hgr (.inr (fun e => hRO.out (B + 1) e rfl))
      have hb3 := hb.grown hgr hb.size (fun j e => by injection e with e; omega)
      have hs3 := Nat.lt_of_lt_of_le hsw hgr.size
      have hba := (Below.refl w3.heap.size w3).alloc (Nat.le_refl _) (.cells #[.int .i64 y0, .string y1, .string y2, .string y3, .string y4, .int .i64 y5] 35)
      have HR4 := Lib.hid (recAt_new w3 ⟨y0, y1, y2, y3, y4, y5⟩)
      have HX4 := Lib.hid (hX3.over hba hs3)
      have HL4 := Lib.hid (hL3.below hba (fun _ => by omega))
      have HD4 := Lib.hid (hD3.over hba (by omega))
      have HO4 := Lib.hid (own_belowA hO3 hba)
      have hb4 := hb3.trans (hba.mono (by omega))
      have hs4 := Nat.lt_of_lt_of_le hs3 hba.size
      have hs5 : w3.heap.size < (w3.alloc (.cells #[.int .i64 y0, .string y1, .string y2, .string y3, .string y4, .int .i64 y5] 35)).heap.size := by simp
      simp only at HR4
      clear hX3 hgr hL3 hD3 hO3 hb3 hba hX hL hD hO hb hsw K1 e2 c0 c1 c2 c3 c4 c5
      have hne : ((m.length : Int) == 199) = false := by rw [beq_eq_false_iff_ne]; omega
      go_wp2_with fail
      generalize w3.alloc (.cells #[.int .i64 y0, .string y1, .string y2, .string y3, .string y4, .int .i64 y5] 35) = w4 at *
      obtain ⟨e0, e1, e2, e3⟩ := HX4.out.cells
      have z3 := cell_regrown e3
      refine wp_region_quiet_below (by kernel_rfl) (by kernel_rfl) ?_
      repeat (go_big_quiet_step (fail))
      refine wpQuiet_nil ?_
      intro _ hw'
      obtain ⟨⟨dq, osq⟩, hw''⟩ := hw'
      subst hw''
      have hbq := below_regrown w4 dq osq
      replace HR4 := Lib.hid (HR4.out.over hbq hs5)
      replace HX4 := Lib.hid (HX4.out.over hbq hs4)
      replace HL4 := Lib.hid (HL4.out.below hbq (fun _ => by omega))
      replace HD4 := Lib.hid (HD4.out.over hbq (by omega))
      replace HO4 := Lib.hid (own_belowA HO4.out hbq)
      replace hb4 := hb4.trans (hbq.mono hb4.size)
      replace hs4 := Nat.lt_of_lt_of_le hs4 hbq.size
      clear z3 e0 e1 e2 e3 hbq hs5
      generalize grow (redrawn w4 dq) osq = w5 at *
      obtain ⟨a0, a1, a2, a3, a4, a5⟩ := HR4.out.cells
      simp only at a0 a1 a2 a3 a4 a5
      have KA := Lib.hid (add_spec w5 (B + 1) B k n sec2 g cap l _ m ⟨y0, y1, y2, y3, y4, y5⟩ HX4.out HL4.out n1 (by omega) (by omega) hcap (by omega) HO4.out (by omega) hRO.out (by omega) (by omega))
      simp only [recV] at KA
      go_wp2_with fail
      refine (KA.out).mono ?_
      rintro e w6 ⟨rfl, ov6, hX6, hO6, hU6, hRO6⟩
      have hL6 := HL4.out.kept (fun _ => hU6.block g (by omega) n1)
      have hD6 : DialAt w6 w.heap.size ⟨d0, d1, d2, d3, d4, d5⟩ := by
        unfold DialAt
        rw [hU6.block w.heap.size (by omega) n2]
        exact HD4.out
      have hb6 := hb4.trans ((hU6.below (by omega)).mono (by omega))
      have hs6 := Nat.lt_of_lt_of_le hs4 hU6.size
      have HM6 := Lib.hid (atOf5_at hX6)
      have HF6 : Hid (recs5At ⟨d0, d1, d2, d3, d4, d5⟩ l 0 ⟨#[]⟩ = (m ++ [⟨y0, rawI l k n, sec2, y3, y4, (k : Int) + 1⟩]) ++ recs5At ⟨d0, d1, d2, d3, d4, d5⟩ l (k + n) sec2) := by
        unfold Hid
        rw [hF.out, HS.out]
        simp
      have HX6 := Lib.hid hX6
      have HL6 := Lib.hid hL6
      have HD6 := Lib.hid hD6
      have HO6 := Lib.hid hO6
      have HRO6 := Lib.hid hRO6
      clear hX6 hL6 hD6 hO6 hRO6 hU6 KA a0 a1 a2 a3 a4 a5 HR4 HX4 HL4 HD4 HO4 hb4 hs4 hF HS
      go_wp2
      go_roundw
      case rel => exact ⟨k + n, sec2, _, ov6, by omega, by simp; omega, HF6, HX6, HL6, HD6, HO6, HRO6, hs6, hb6⟩
      case measure => rw [HM6.out, HM1.out]; omega
    · obtain rfl : k = l.length := by omega
      have HF : Hid (recs5At ⟨d0, d1, d2, d3, d4, d5⟩ l 0 ⟨#[]⟩ = m) := by
        unfold Hid
        rw [hF.out, HRE.out l.length sec (Nat.le_refl _)]
        simp
      clear hF e0 e1 e2 e3
      go_wp2_with fail
      refine wp_region_quiet_below (by kernel_rfl) (by kernel_rfl) ?_
      repeat (go_big_quiet_step (fail))
      refine wpQuiet_nil ?_
      intro _ hw'
      obtain ⟨⟨dq, osq⟩, hw''⟩ := hw'
      subst hw''
      have hbq := below_regrown wr dq osq
      replace hX := Lib.hid (hX.out.over hbq hsw)
      replace hO := Lib.hid (own_belowA hO.out hbq)
      replace hb := hb.trans (hbq.mono hb.size)
      replace hsw := Nat.lt_of_lt_of_le hsw hbq.size
      clear y0 y1 hbq HM1
      generalize grow (redrawn wr dq) osq = w2 at *
      obtain ⟨gr, hrs, hgr⟩ := rowsIs_of_owns (S := recS) hO.out rfl (by omega)
      have HRS2 := Lib.hid hrs
      obtain ⟨e0, e1, e2, e3⟩ := hX.out.cells
      clear hrs e0 e1 e2
      go_wp2
      go_ret
      rw [HF.out]
      exact ⟨_, gr, rfl, HRS2.out, by omega, hb⟩

end Go.Proofs.YtkhkpjnpjgnckaaGreatDoor
