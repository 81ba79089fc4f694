/- A file with sections: the program's joiner, limitRecs, ParseIni. -/
import Derived.Test.YtkhkpjnpjgnckaaGreatDoorProg
import Derived.Test.YtkhkpjnpjgnckaaGreatDoorPlain
import Derived.Test.YtkhkpjnpjgnckaaGreatDoorDialectRows
import Derived.Test.YtkhkpjnpjgnckaaGreatDoorQuotSpec
import Derived.Test.YtkhkpjnpjgnckaaGreatDoorDialImpl
import Derived.Test.YtkhkpjnpjgnckaaGreatDoorRecRows
import Derived.Test.YtkhkpjnpjgnckaaGreatDoorRecArg
import Derived.Test.YtkhkpjnpjgnckaaGreatDoorRows0
import Derived.Test.YtkhkpjnpjgnckaaGreatDoorLines
import Derived.Test.YtkhkpjnpjgnckaaGreatDoorSplitSpec
import Derived.Test.YtkhkpjnpjgnckaaGreatDoorSplitImpl
import Derived.Test.YtkhkpjnpjgnckaaGreatDoorJoin
import Derived.Test.YtkhkpjnpjgnckaaGreatDoorRecOf
import Derived.Test.YtkhkpjnpjgnckaaGreatDoorTakeImpl
import Derived.Test.YtkhkpjnpjgnckaaGreatDoorMarkedRec
import Derived.Test.YtkhkpjnpjgnckaaGreatDoorIndentRec
import Derived.WalkKit
import Derived.WalkLawsBesides
import Derived.OwnWalk
import Derived.Maps.AppendAt
import Derived.Deep.RegionHeld3
import Derived.Deep.AppendLies
import Derived.Laws.IdiomStrings
import Derived.Lib.Hide
import Derived.IntWalk
import Derived.Outline
set_option maxRecDepth 100000
namespace Go.Proofs.YtkhkpjnpjgnckaaGreatDoor
open Go.RowKit
set_option linter.unusedVariables false

/-! one step of the parser, by how the Dialect joins -/
def stepN (d : DialectD) (sec : ByteArray) (l : List Ln) (k : Nat) (hk : k < l.length) : Nat := if d.join = 1 then markN d l k hk else if d.join = 2 then indN d sec l k hk else 1
def stepR (d : DialectD) (sec : ByteArray) (l : List Ln) (k : Nat) (hk : k < l.length) : RecD := if d.join = 1 then recI d sec (markT d l k hk) else if d.join = 2 then indR d sec l k hk else recI d sec l[k].1
theorem stepN_le (d : DialectD) (sec : ByteArray) (l : List Ln) (k : Nat) (hk : k < l.length) : 1 ≤ stepN d sec l k hk ∧ k + stepN d sec l k hk ≤ l.length := by
  unfold stepN
  split
  · exact markN_le d l k hk
  · split
    · exact indN_le d sec l k hk
    · omega
theorem step_mark {d : DialectD} (hj : d.join = 1) (sec : ByteArray) (l : List Ln) (k : Nat) (hk : k < l.length) : stepN d sec l k hk = markN d l k hk ∧ stepR d sec l k hk = recI d sec (markT d l k hk) := ⟨if_pos hj, if_pos hj⟩
theorem step_ind {d : DialectD} (hj : d.join = 2) (sec : ByteArray) (l : List Ln) (k : Nat) (hk : k < l.length) : stepN d sec l k hk = indN d sec l k hk ∧ stepR d sec l k hk = indR d sec l k hk := by
  have h1 : ¬ d.join = 1 := by rw [hj]; decide
  exact ⟨(if_neg h1).trans (if_pos hj), (if_neg h1).trans (if_pos hj)⟩
theorem step_one {d : DialectD} (hj : d.join = 0) (sec : ByteArray) (l : List Ln) (k : Nat) (hk : k < l.length) : stepN d sec l k hk = 1 ∧ stepR d sec l k hk = recI d sec l[k].1 := by
  have h1 : ¬ d.join = 1 := by rw [hj]; decide
  have h2 : ¬ d.join = 2 := by rw [hj]; decide
  exact ⟨(if_neg h1).trans (if_neg h2), (if_neg h1).trans (if_neg h2)⟩
/-- the records of lines from a place on -/
def recsI (d : DialectD) (l : List Ln) : Nat → Nat → ByteArray → List RecD
  | 0, _, _ => []
  | f + 1, k, sec => if h : k < l.length then takeI l k (stepN d sec l k h) (stepR d sec l k h) :: recsI d l f (k + stepN d sec l k h) (stepR d sec l k h).sect else []
theorem recsI_end (d : DialectD) (l : List Ln) (f k : Nat) (sec : ByteArray) (h : l.length ≤ k) : recsI d l f k sec = [] := by
  cases f with
  | zero => rfl
  | succ f => unfold recsI; rw [dif_neg (by omega)]
theorem recsI_more (d : DialectD) (l : List Ln) : ∀ (f f2 k : Nat) (sec : ByteArray), l.length ≤ k + f → l.length ≤ k + f2 → recsI d l f k sec = recsI d l f2 k sec := by
  intro f
  induction f with
  | zero => intro f2 k sec h1 h2; rw [recsI_end d l 0 k sec (by omega), recsI_end d l f2 k sec (by omega)]
  | succ f ih =>
    intro f2 k sec h1 h2
    by_cases hk : k < l.length
    · cases f2 with
      | zero => omega
      | succ f2 =>
        have hs := stepN_le d sec l k hk
        unfold recsI
        rw [dif_pos hk, dif_pos hk, ih f2 _ _ (by omega) (by omega)]
    · rw [recsI_end d l _ k sec (by omega), recsI_end d l _ k sec (by omega)]
/-- those of all lines -/
def recsAt (d : DialectD) (l : List Ln) (k : Nat) (sec : ByteArray) : List RecD := recsI d l l.length k sec
theorem recsAt_step (d : DialectD) (l : List Ln) (k : Nat) (sec : ByteArray) (hk : k < l.length) : recsAt d l k sec = takeI l k (stepN d sec l k hk) (stepR d sec l k hk) :: recsAt d l (k + stepN d sec l k hk) (stepR d sec l k hk).sect := by
  have hs := stepN_le d sec l k hk
  unfold recsAt
  obtain ⟨f, hf⟩ : ∃ f, l.length = f + 1 := ⟨l.length - 1, by omega⟩
  conv => lhs; rw [hf]; unfold recsI
  rw [dif_pos hk, recsI_more d l f l.length _ _ (by omega) (by omega)]
theorem recsAt_end (d : DialectD) (l : List Ln) (k : Nat) (sec : ByteArray) (h : l.length ≤ k) : recsAt d l k sec = [] := recsI_end d l _ k sec h
theorem linesOf_cost (s : ByteArray) : costL (linesOf s) ≤ 2 * s.size := by
  have h1 := joinB_len (linesOf s)
  have h2 := linesOf_few s
  have h3 : (joinB (linesOf s)).length = s.size := by
    rw [joinB_is]
    unfold linesOf
    rw [List.map_map, show (ofB ∘ toB) = id from funext ofB_toB, List.map_id, join_split, Lib.size_eq]
    rfl
  omega
theorem linesOf_some (s : ByteArray) (h : s.size ≠ 0) : linesOf s ≠ [] := by
  intro e
  have h1 := joinB_len (linesOf s)
  have h3 : (joinB (linesOf s)).length = s.size := by
    rw [joinB_is]
    unfold linesOf
    rw [List.map_map, show (ofB ∘ toB) = id from funext ofB_toB, List.map_id, join_split, Lib.size_eq]
    rfl
  rw [e] at h3
  simp [joinB] at h3
  omega

theorem info_recI : (Tryz.prog.info? 35).map (fun i => (i.zero, i.size, i.bytes)) = some (some (recV noRec), 6, 80) := by kernel_rfl
theorem limit_few (w : World) (a : Option Addr) (n cap : Nat) (hn : n ≤ 200) :
    Calls Tryz.prog 35 #[.slice a n cap] w fun e w' => e = .returned (.slice a n cap) ∧ w = w' := by
  have h1 : (n : Int) ≤ 200 := by omega
  go_enter Tryz.func35, Tryz.ntmps35
  go_wp2
  go_ret
  exact ⟨rfl, rfl⟩
theorem PA.nine {w : World} {b : Nat} {c0 c1 c2 c3 c4 c5 c6 c7 c8 : Value} (h : w.heap[b]? = some (.cells #[c0, c1, c2, c3, c4, c5, c6, c7, c8] 57 (0, 0))) (d0 d1 : ByteArray) (d2 d3 d4 : Bool) (d5 : Int) (lv : Value) (sec : ByteArray) :
    PA (((((((((w.setCell ⟨b, 0, none⟩ (.string d0)).setCell ⟨b, 1, none⟩ (.string d1)).setCell ⟨b, 2, none⟩ (.bool d2)).setCell ⟨b, 3, none⟩ (.bool d3)).setCell ⟨b, 4, none⟩ (.bool d4)).setCell ⟨b, 5, none⟩ (.int .i64 d5)).setCell ⟨b, 6, none⟩ lv).setCell ⟨b, 7, none⟩ (.int .i64 0)).setCell ⟨b, 8, none⟩ (.string sec)) b ⟨d0, d1, d2, d3, d4, d5⟩ lv 0 sec := by
  unfold PA
  have h1 : (w.setCell ⟨b, 0, none⟩ (.string d0)).heap[b]? = some (.cells #[.string d0, c1, c2, c3, c4, c5, c6, c7, c8] 57 (0, 0)) := set_cellR _ b 0 _ _ _ _ h
  have h2 : ((w.setCell ⟨b, 0, none⟩ (.string d0)).setCell ⟨b, 1, none⟩ (.string d1)).heap[b]? = some (.cells #[.string d0, .string d1, c2, c3, c4, c5, c6, c7, c8] 57 (0, 0)) := set_cellR _ b 1 _ _ _ _ h1
  have h3 : (((w.setCell ⟨b, 0, none⟩ (.string d0)).setCell ⟨b, 1, none⟩ (.string d1)).setCell ⟨b, 2, none⟩ (.bool d2)).heap[b]? = some (.cells #[.string d0, .string d1, .bool d2, c3, c4, c5, c6, c7, c8] 57 (0, 0)) := set_cellR _ b 2 _ _ _ _ h2
  have h4 : ((((w.setCell ⟨b, 0, none⟩ (.string d0)).setCell ⟨b, 1, none⟩ (.string d1)).setCell ⟨b, 2, none⟩ (.bool d2)).setCell ⟨b, 3, none⟩ (.bool d3)).heap[b]? = some (.cells #[.string d0, .string d1, .bool d2, .bool d3, c4, c5, c6, c7, c8] 57 (0, 0)) := set_cellR _ b 3 _ _ _ _ h3
  have h5 : (((((w.setCell ⟨b, 0, none⟩ (.string d0)).setCell ⟨b, 1, none⟩ (.string d1)).setCell ⟨b, 2, none⟩ (.bool d2)).setCell ⟨b, 3, none⟩ (.bool d3)).setCell ⟨b, 4, none⟩ (.bool d4)).heap[b]? = some (.cells #[.string d0, .string d1, .bool d2, .bool d3, .bool d4, c5, c6, c7, c8] 57 (0, 0)) := set_cellR _ b 4 _ _ _ _ h4
  have h6 : ((((((w.setCell ⟨b, 0, none⟩ (.string d0)).setCell ⟨b, 1, none⟩ (.string d1)).setCell ⟨b, 2, none⟩ (.bool d2)).setCell ⟨b, 3, none⟩ (.bool d3)).setCell ⟨b, 4, none⟩ (.bool d4)).setCell ⟨b, 5, none⟩ (.int .i64 d5)).heap[b]? = some (.cells #[.string d0, .string d1, .bool d2, .bool d3, .bool d4, .int .i64 d5, c6, c7, c8] 57 (0, 0)) := set_cellR _ b 5 _ _ _ _ h5
  have h7 : (((((((w.setCell ⟨b, 0, none⟩ (.string d0)).setCell ⟨b, 1, none⟩ (.string d1)).setCell ⟨b, 2, none⟩ (.bool d2)).setCell ⟨b, 3, none⟩ (.bool d3)).setCell ⟨b, 4, none⟩ (.bool d4)).setCell ⟨b, 5, none⟩ (.int .i64 d5)).setCell ⟨b, 6, none⟩ (lv)).heap[b]? = some (.cells #[.string d0, .string d1, .bool d2, .bool d3, .bool d4, .int .i64 d5, lv, c7, c8] 57 (0, 0)) := set_cellR _ b 6 _ _ _ _ h6
  have h8 : ((((((((w.setCell ⟨b, 0, none⟩ (.string d0)).setCell ⟨b, 1, none⟩ (.string d1)).setCell ⟨b, 2, none⟩ (.bool d2)).setCell ⟨b, 3, none⟩ (.bool d3)).setCell ⟨b, 4, none⟩ (.bool d4)).setCell ⟨b, 5, none⟩ (.int .i64 d5)).setCell ⟨b, 6, none⟩ (lv)).setCell ⟨b, 7, none⟩ (.int .i64 0)).heap[b]? = some (.cells #[.string d0, .string d1, .bool d2, .bool d3, .bool d4, .int .i64 d5, lv, .int .i64 0, c8] 57 (0, 0)) := set_cellR _ b 7 _ _ _ _ h7
  have h9 : (((((((((w.setCell ⟨b, 0, none⟩ (.string d0)).setCell ⟨b, 1, none⟩ (.string d1)).setCell ⟨b, 2, none⟩ (.bool d2)).setCell ⟨b, 3, none⟩ (.bool d3)).setCell ⟨b, 4, none⟩ (.bool d4)).setCell ⟨b, 5, none⟩ (.int .i64 d5)).setCell ⟨b, 6, none⟩ (lv)).setCell ⟨b, 7, none⟩ (.int .i64 0)).setCell ⟨b, 8, none⟩ (.string sec)).heap[b]? = some (.cells #[.string d0, .string d1, .bool d2, .bool d3, .bool d4, .int .i64 d5, lv, .int .i64 0, .string sec] 57 (0, 0)) := set_cellR _ b 8 _ _ _ _ h8
  exact h9
theorem cells9 {w : World} {b : Nat} {c0 c1 c2 c3 c4 c5 c6 c7 c8 : Value} {t : TypeId} (h : w.heap[b]? = some (.cells #[c0, c1, c2, c3, c4, c5, c6, c7, c8] t (0, 0))) : w.cell? ⟨b, 0, none⟩ = some c0 ∧ w.cell? ⟨b, 1, none⟩ = some c1 ∧ w.cell? ⟨b, 2, none⟩ = some c2 ∧ w.cell? ⟨b, 3, none⟩ = some c3 ∧ w.cell? ⟨b, 4, none⟩ = some c4 ∧ w.cell? ⟨b, 5, none⟩ = some c5 ∧ w.cell? ⟨b, 6, none⟩ = some c6 ∧ w.cell? ⟨b, 7, none⟩ = some c7 ∧ w.cell? ⟨b, 8, none⟩ = some c8 := by
  refine ⟨?_, ?_, ?_, ?_, ?_, ?_, ?_, ?_, ?_⟩ <;> (rw [Lib.cell_of_heap h]; rfl)
theorem frozen9 {w : World} {b : Nat} {cs : Array Value} {t : TypeId} (h : w.heap[b]? = some (.cells cs t (0, 0))) (j : Nat) : w.frozen? ⟨b, j, none⟩ = false := by simp [World.frozen?, h]
/-- lines that have been split off -/
def Split5 (W : World) (l : List Ln) (e : Ending) (w2 : World) : Prop := ∃ g, e = .returned (.slice (some ⟨g, 0, none⟩) l.length l.length) ∧ LinesRd w2 (.slice (some ⟨g, 0, none⟩) l.length l.length) g 0 l ∧ W.heap.size ≤ g ∧ Below W.heap.size W w2
theorem split5 {W0 W : World} {l : List Ln} {e : Ending} {w2 : World} (hne : l ≠ []) (h0 : Below W0.heap.size W0 W) (h : TightLines W l e w2) : Split5 W0 l e w2 := by
  obtain ⟨a, g, rfl, hL, hg, hb⟩ := h
  obtain ⟨a2, cap, hv, ha⟩ := hL.form
  injection hv with h1 h2 h3
  subst h1
  have := ha hne
  subst this
  exact ⟨g, rfl, hL.toLinesRd, Nat.le_trans h0.size hg, h0.trans (hb.mono h0.size)⟩
/-- the line at which the parser stands -/
def atOf (w : World) (b : Nat) : Nat := match w.cell? ⟨b, 7, none⟩ with
  | some (.int _ z) => z.toNat
  | _ => 0
theorem atOf_pa {w : World} {b : Nat} {d : DialectD} {lv : Value} {k : Nat} {sec : ByteArray} (h : PA w b d lv k sec) : atOf w b = k := by
  obtain ⟨p0, p1, p2, p3, p4, p5, p6, p7, p8⟩ := h.cells
  unfold atOf
  rw [p7]
  simp
theorem Pars.lowP {w w' : World} {B b : Nat} {d : DialectD} {g : Nat} {l : List Ln} {k : Nat} {sec : ByteArray} (h : Pars w b d g l k sec) (hb : Below B w w') (hbB : b < B) (hgB : g < B) : Pars w' b d g l k sec :=
  ⟨h.pa.kept (hb.block b hbB), h.ls.kept (fun _ => hb.block g hgB), h.ne, h.co, h.se⟩

set_option maxHeartbeats 800000 in
theorem joiner_mark (w : World) (b : Nat) (d : DialectD) (lv : Value) (k : Nat) (sec : ByteArray) (h : PA w b d lv k sec) (hj : d.join = 1) :
    Calls Tryz.prog 34 #[.pointer (some ⟨b, 0, none⟩)] w fun e w' => e = .returned (.func (Fn.func 55) #[.pointer (some ⟨b, 0, none⟩)] #[]) ∧ w = w' := by
  obtain ⟨p0, p1, p2, p3, p4, p5, p6, p7, p8⟩ := h.cells
  rw [hj] at p5
  clear p0 p1 p2 p3 p4 p6 p7 p8 hj
  go_enter Tryz.func34, Tryz.ntmps34
  go_wp2
  go_ret
  exact ⟨rfl, rfl⟩

set_option maxHeartbeats 1200000 in
theorem parse_mark (d : DialectD) (s : ByteArray) (w : World) (hok : dialOk d = true) (hs : s.size ≤ 6000) (h0 : s.size ≠ 0) (hj : d.join = 1) (hlim : (recsAt d (linesOf s) 0 ⟨#[]⟩).length ≤ 200) :
    Calls Tryz.prog 12 #[.string s, dialectV d] w (NewRows recS w (recsAt d (linesOf s) 0 ⟨#[]⟩)) := by
  have hds := dialOk_size hok
  have KD := Lib.hid (fun w => dialectOk_impl d w (by omega) (by omega))
  rw [hok] at KD
  have KS := Lib.hid (fun w => splitLines_tight s w (by omega))
  have hco := linesOf_cost s
  have hne := linesOf_some s h0
  have HRS := Lib.hid (recsAt_step d (linesOf s))
  have HRE := Lib.hid (recsAt_end d (linesOf s))
  have HLI := Lib.hid hlim
  clear hlim
  generalize linesOf s = l at *
  have HST := Lib.hid (fun (sec : ByteArray) (k : Nat) (hk : k < l.length) => step_mark hj sec l k hk)
  have KJ := Lib.hid (fun (W : World) (b : Nat) (lv : Value) (hW : PA W b d lv 0 ⟨#[]⟩) => joiner_mark W b d lv 0 ⟨#[]⟩ hW hj)
  have KK := Lib.hid (fun (W : World) (b g k : Nat) (sec : ByteArray) (hW : Pars W b d g l k sec) (hk : k < l.length) => (markedRec_impl d W b k sec g l hW hk).mono (fun _ _ => stepV))
  have HN := Lib.hid (dialAt_new w d)
  have hb0 := (Below.refl w.heap.size w).alloc (Nat.le_refl _) (.cells #[.string d.notes, .string d.seps, .bool d.inl, .bool d.quo, .bool d.esc, .int .i64 d.join] 25)
  have hw0 : w.heap.size < (w.alloc (.cells #[.string d.notes, .string d.seps, .bool d.inl, .bool d.quo, .bool d.esc, .int .i64 d.join] 25)).heap.size := by simp
  obtain ⟨d0, d1, d2, d3, d4, d5⟩ := d
  unfold dialectV at *
  simp only at KD HN hb0 hw0 hds
  have hsz : ¬ (6000 : Int) < (s.size : Int) := by omega
  have hsz2 : (s.size : Int) ≤ 6000 := by omega
  clear hj hok
  go_enter Tryz.func12, Tryz.ntmps12
  go_wp2_with fail
  refine (KD.out _).mono ?_
  rintro e W1 ⟨rfl, hb1⟩
  have hD1 := HN.out.over hb1 hw0
  have hB1 := hb0.trans (hb1.mono hb0.size)
  have hw1 := Nat.lt_of_lt_of_le hw0 hb1.size
  clear hb1 hb0 HN hw0 KD
  obtain ⟨c0, c1, c2, c3, c4, c5⟩ := hD1.cells
  simp only at c0 c1 c2 c3 c4 c5
  have nw1 : w.heap.size ≠ W1.heap.size := by omega
  have nw2 : W1.heap.size ≠ w.heap.size := by omega
  have KA : Hid (Calls Tryz.prog 33 #[.string s] (W1.alloc (.cells #[.string ⟨#[]⟩, .string ⟨#[]⟩, .bool false, .bool false, .bool false, .int .i64 0, .slice none 0 0, .int .i64 0, .string ⟨#[]⟩] 57)).drew (Split5 (W1.alloc (.cells #[.string ⟨#[]⟩, .string ⟨#[]⟩, .bool false, .bool false, .bool false, .int .i64 0, .slice none 0 0, .int .i64 0, .string ⟨#[]⟩] 57)) l)) :=
    (KS.out _).mono (fun _ _ h => split5 hne (below_drewN (Below.refl _ _) 1) h)
  have KB : Hid (Calls Tryz.prog 33 #[.string s] W1.drew (Split5 W1 l)) :=
    (KS.out _).mono (fun _ _ h => split5 hne (below_drewN (Below.refl _ _) 1) h)
  clear KS
  go_wp2_with fail
  go_region_held3 (fun w' => w'.cell? ⟨w.heap.size, 0, none⟩ = some (.string d0) ∧ w'.cell? ⟨w.heap.size, 1, none⟩ = some (.string d1) ∧ w'.cell? ⟨w.heap.size, 2, none⟩ = some (.bool d2) ∧ w'.cell? ⟨w.heap.size, 3, none⟩ = some (.bool d3) ∧ w'.cell? ⟨w.heap.size, 4, none⟩ = some (.bool d4) ∧ w'.cell? ⟨w.heap.size, 5, none⟩ = some (.int .i64 d5))
    (first | go_keep | exact ⟨m0, m1, m2, m3, m4, m5⟩)
    (first
      | ((with_reducible refine KB.out.mono ?_); rintro e w2 ⟨g, rfl, hL, hg, hb2⟩; obtain ⟨m0, m1, m2, m3, m4, m5⟩ := (hD1.over hb2 hw1).cells; simp only at m0 m1 m2 m3 m4 m5; have nw3 : w.heap.size ≠ w2.heap.size := (by have := hb2.size; omega); have nw4 : w2.heap.size ≠ w.heap.size := nw3.symm)
      | ((with_reducible refine KA.out.mono ?_); rintro e w2 ⟨g, rfl, hL, hg, hb2⟩; obtain ⟨m0, m1, m2, m3, m4, m5⟩ := (hD1.over (((Below.refl W1.heap.size W1).alloc (Nat.le_refl _) _).trans (hb2.mono (by simp))) hw1).cells; simp only at m0 m1 m2 m3 m4 m5; have hpar := (hb2.block W1.heap.size (by simp)).trans (heap_alloc_new W1 _); have f0 := frozen9 hpar 0; have f1 := frozen9 hpar 1; have f2 := frozen9 hpar 2; have f3 := frozen9 hpar 3; have f4 := frozen9 hpar 4; have f5 := frozen9 hpar 5; have f6 := frozen9 hpar 6; have f7 := frozen9 hpar 7; have f8 := frozen9 hpar 8; obtain ⟨u0, u1, u2, u3, u4, u5, u6, u7, u8⟩ := cells9 hpar; have HPAR := Lib.hid hpar; clear hpar))
  · have hgl := hL.lt hne
    have HP : Hid (Pars (w2.alloc (.cells #[.string d0, .string d1, .bool d2, .bool d3, .bool d4, .int .i64 d5, .slice (some ⟨g, 0, none⟩) l.length l.length, .int .i64 0, .string ⟨#[]⟩] 57)) w2.heap.size ⟨d0, d1, d2, d3, d4, d5⟩ g l 0 ⟨#[]⟩) :=
      ⟨heap_alloc_new _ _, hL.kept (fun _ => Below.heap_alloc _ _ _ hgl), by omega, by omega, by show d1.size ≤ _; omega⟩
    have hBf : Below w.heap.size w (w2.alloc (.cells #[.string d0, .string d1, .bool d2, .bool d3, .bool d4, .int .i64 d5, .slice (some ⟨g, 0, none⟩) l.length l.length, .int .i64 0, .string ⟨#[]⟩] 57)) := (hB1.trans (hb2.mono hB1.size)).alloc (by have := hb2.size; omega) _
    have hbf : w.heap.size ≤ w2.heap.size := by have := hb2.size; omega
    clear hL hg hb2 m0 m1 m2 m3 m4 m5 nw3 nw4 nw1 nw2 KA KB c0 c1 c2 c3 c4 c5 hD1 hB1 hw1 hgl
    have hgW : g < (w2.alloc (.cells #[.string d0, .string d1, .bool d2, .bool d3, .bool d4, .int .i64 d5, .slice (some ⟨g, 0, none⟩) l.length l.length, .int .i64 0, .string ⟨#[]⟩] 57)).heap.size := HP.out.ls.lt hne
    generalize w2.alloc (.cells #[.string d0, .string d1, .bool d2, .bool d3, .bool d4, .int .i64 d5, .slice (some ⟨g, 0, none⟩) l.length l.length, .int .i64 0, .string ⟨#[]⟩] 57) = Wf at *
    generalize w2.heap.size = b at *
    have hlen := HP.out.len
    have hbW := HP.out.pa.lt
    go_wp2_with fail
    refine (KJ.out _ b _ HP.out.pa).mono ?_
    rintro e w3 ⟨rfl, rfl⟩
    clear KJ
    obtain ⟨i0, hi, hz0, hz1, hz2⟩ := info_parts info_recI
    have H00 : Hid (recsAt ⟨d0, d1, d2, d3, d4, d5⟩ l 0 ⟨#[]⟩ = [] ++ recsAt ⟨d0, d1, d2, d3, d4, d5⟩ l 0 ⟨#[]⟩) := by unfold Hid; simp
    go_wp2_with fail
    go_loopw [7] (fun v wr => ∃ (k : Nat) (sec : ByteArray) (m : List RecD), k ≤ l.length ∧ m.length ≤ k ∧ Hid (recsAt ⟨d0, d1, d2, d3, d4, d5⟩ l 0 ⟨#[]⟩ = m ++ recsAt ⟨d0, d1, d2, d3, d4, d5⟩ l k sec) ∧ Hid (Pars wr b ⟨d0, d1, d2, d3, d4, d5⟩ g l k sec) ∧ wr.ownsRow Wf.heap.size 35 6 v m.length (rowCells recS m) ∧ Wf.heap.size ≤ wr.heap.size ∧ Below w.heap.size w wr) (fun _ wr => l.length - atOf wr b)
    case atStart => exact ⟨0, ⟨#[]⟩, [], Nat.zero_le _, Nat.le_refl _, H00, HP, ⟨rfl, .inl ⟨rfl, rfl⟩⟩, Nat.le_refl _, hBf⟩
    case round =>
      obtain ⟨k, sec, m, hkl, hmk, hF, hP, hown, hsw, hb⟩ := hrel
      clear H00 HP hBf
      obtain ⟨p0, p1, p2, p3, p4, p5, p6, p7, p8⟩ := hP.out.pa.cells
      clear p0 p1 p2 p3 p4 p5 p8
      by_cases hlt : k < l.length
      · have hkz : (k : Int) < (l.length : Int) := by omega
        have hM1 := atOf_pa hP.out.pa
        have HF : Hid (recsAt ⟨d0, d1, d2, d3, d4, d5⟩ l 0 ⟨#[]⟩ = m ++ takeI l k (stepN ⟨d0, d1, d2, d3, d4, d5⟩ sec l k hlt) (stepR ⟨d0, d1, d2, d3, d4, d5⟩ sec l k hlt) :: recsAt ⟨d0, d1, d2, d3, d4, d5⟩ l (k + stepN ⟨d0, d1, d2, d3, d4, d5⟩ sec l k hlt) (stepR ⟨d0, d1, d2, d3, d4, d5⟩ sec l k hlt).sect) := by
          unfold Hid
          rw [hF.out, HRS.out k sec hlt]
        have hsn := stepN_le ⟨d0, d1, d2, d3, d4, d5⟩ sec l k hlt
        have KK1 := KK.out wr b g k sec hP.out hlt
        rw [← (HST.out sec k hlt).1, ← (HST.out sec k hlt).2] at KK1
        have K1 := Lib.hid KK1
        clear KK1 hF
        generalize stepN ⟨d0, d1, d2, d3, d4, d5⟩ sec l k hlt = c at *
        generalize stepR ⟨d0, d1, d2, d3, d4, d5⟩ sec l k hlt = x at *
        have HM1 := Lib.hid hM1
        clear hM1
        go_wp2_with fail
        refine K1.out.mono ?_
        rintro e w4 ⟨y0, y1, y2, y3, y4, y5, hT, rfl, hp4, hu4⟩
        have hgr : wr.grownBy w4 (some b) := ⟨hu4.os, hu4.tape, hu4.output, hu4.size, fun j hj hn => hu4.block j hj (fun e => hn (by rw [e]))⟩
        have hown4 := hown.kept hgr (.inr (fun e => by have := own_blockL hown b e; omega))
        have hb4 := hb.grown hgr hb.size (fun j e => by injection e with e; omega)
        have hs4 := hu4.size
        have HP4 := Lib.hid hp4
        rw [hT] at HF
        clear hu4 hgr hown hb hp4 hP K1 p6 p7 hT
        go_wp2_with (at_builtin; refine wpList_append_own _ rfl _ _ 32 rfl Wf.heap.size 35 i0 (recV noRec) 6 80 Tryz.underlying32 hi hz0 hz1 hz2 rfl (by decide) _ _ _ rfl (hown4.alloc _) ⟨w4.heap.size, 0, none⟩ 1 1 (recCs ⟨y0, y1, y2, y3, y4, y5⟩) rfl rfl (World.news_of_block (cs := #[.int .i64 y0, .string y1, .string y2, .string y3, .string y4, .int .i64 y5]) (t := 35) (fr := (0, 0)) (heap_alloc_new w4 _)) (recS.one _) (by unfold maxLen; omega) (by omega) (by simp; omega) ?_; intro v7 w7 hown7 hgrow7 _)
        have hrow7 : w7.ownsRow Wf.heap.size 35 6 v7 (m ++ [(⟨y0, y1, y2, y3, y4, y5⟩ : RecD)]).length (rowCells recS (m ++ [⟨y0, y1, y2, y3, y4, y5⟩])) := by
          rw [rowCells_append, rowCells_single, List.length_append]
          exact hown7
        have hb7 : Below w.heap.size w w7 := (hb4.alloc (by omega) _).grown hgrow7 (by simp; omega) (fun j hj => by have := own_blockL hown4 j hj; omega)
        have hlow : Below Wf.heap.size w4 w7 := ((Below.refl Wf.heap.size w4).alloc (by omega) _).grown hgrow7 (by simp; omega) (own_blockL hown4)
        have HP7 := Lib.hid (HP4.out.lowP hlow hbW hgW)
        have hs7 : Wf.heap.size ≤ w7.heap.size := Nat.le_trans (by omega) hlow.size
        have HF7 : Hid (recsAt ⟨d0, d1, d2, d3, d4, d5⟩ l 0 ⟨#[]⟩ = (m ++ [⟨y0, y1, y2, y3, y4, y5⟩]) ++ recsAt ⟨d0, d1, d2, d3, d4, d5⟩ l (k + c) x.sect) := by
          unfold Hid
          rw [HF.out]
          simp
        have HM7 := Lib.hid (atOf_pa HP7.out.pa)
        clear hown7 hgrow7 hown4 hb4 HP4 hlow HF hs4
        go_wp2
        go_roundw
        case rel => exact ⟨k + c, x.sect, m ++ [⟨y0, y1, y2, y3, y4, y5⟩], by omega, by simp; omega, HF7, HP7, hrow7, hs7, hb7⟩
        case measure => rw [HM7.out, HM1.out]; omega
      · obtain rfl : k = l.length := by omega
        have HF : Hid (recsAt ⟨d0, d1, d2, d3, d4, d5⟩ l 0 ⟨#[]⟩ = m) := by
          unfold Hid
          rw [hF.out, HRE.out l.length sec (Nat.le_refl _)]
          simp
        have hmm : m.length ≤ 200 := by have := HLI.out; rw [HF.out] at this; exact this
        obtain ⟨gr, hrs, hgr⟩ := rowsIs_of_owns (S := recS) hown rfl hsw
        obtain ⟨a, cap, hv, _⟩ := hrs.form
        have KL := Lib.hid (fun w => limit_few w a m.length cap hmm)
        rw [← hv] at KL
        have HRS2 := Lib.hid hrs
        clear hF hv hown hrs
        go_wp2_with fail
        refine (KL.out _).mono ?_
        rintro e w5 ⟨rfl, rfl⟩
        go_wp2
        go_ret
        rw [HF.out]
        exact ⟨_, gr, rfl, HRS2.out, Nat.le_trans hbf (by omega), hb⟩
  · have hgg : W1.heap.size < g := by simp at hg; omega
    have ng : g ≠ W1.heap.size := by omega
    have HP : Hid (Pars (((((((((w2.setCell ⟨W1.heap.size, 0, none⟩ (.string d0)).setCell ⟨W1.heap.size, 1, none⟩ (.string d1)).setCell ⟨W1.heap.size, 2, none⟩ (.bool d2)).setCell ⟨W1.heap.size, 3, none⟩ (.bool d3)).setCell ⟨W1.heap.size, 4, none⟩ (.bool d4)).setCell ⟨W1.heap.size, 5, none⟩ (.int .i64 d5)).setCell ⟨W1.heap.size, 6, none⟩ (.slice (some ⟨g, 0, none⟩) l.length l.length)).setCell ⟨W1.heap.size, 7, none⟩ (.int .i64 0)).setCell ⟨W1.heap.size, 8, none⟩ (.string ⟨#[]⟩)) W1.heap.size ⟨d0, d1, d2, d3, d4, d5⟩ g l 0 ⟨#[]⟩) :=
      ⟨PA.nine HPAR.out d0 d1 d2 d3 d4 d5 _ ⟨#[]⟩, hL.kept (fun _ => by rw [Below.heap_setCell _ _ _ g ng, Below.heap_setCell _ _ _ g ng, Below.heap_setCell _ _ _ g ng, Below.heap_setCell _ _ _ g ng, Below.heap_setCell _ _ _ g ng, Below.heap_setCell _ _ _ g ng, Below.heap_setCell _ _ _ g ng, Below.heap_setCell _ _ _ g ng, Below.heap_setCell _ _ _ g ng]), by omega, by omega, by show d1.size ≤ _; omega⟩
    have hBf : Below w.heap.size w (((((((((w2.setCell ⟨W1.heap.size, 0, none⟩ (.string d0)).setCell ⟨W1.heap.size, 1, none⟩ (.string d1)).setCell ⟨W1.heap.size, 2, none⟩ (.bool d2)).setCell ⟨W1.heap.size, 3, none⟩ (.bool d3)).setCell ⟨W1.heap.size, 4, none⟩ (.bool d4)).setCell ⟨W1.heap.size, 5, none⟩ (.int .i64 d5)).setCell ⟨W1.heap.size, 6, none⟩ (.slice (some ⟨g, 0, none⟩) l.length l.length)).setCell ⟨W1.heap.size, 7, none⟩ (.int .i64 0)).setCell ⟨W1.heap.size, 8, none⟩ (.string ⟨#[]⟩)) := ((((((((((hB1.trans (((Below.refl W1.heap.size W1).alloc (Nat.le_refl _) _).trans (hb2.mono (by simp)) |>.mono hB1.size)).setCell (p := ⟨W1.heap.size, 0, none⟩) hB1.size _).setCell (p := ⟨W1.heap.size, 1, none⟩) hB1.size _).setCell (p := ⟨W1.heap.size, 2, none⟩) hB1.size _).setCell (p := ⟨W1.heap.size, 3, none⟩) hB1.size _).setCell (p := ⟨W1.heap.size, 4, none⟩) hB1.size _).setCell (p := ⟨W1.heap.size, 5, none⟩) hB1.size _).setCell (p := ⟨W1.heap.size, 6, none⟩) hB1.size _).setCell (p := ⟨W1.heap.size, 7, none⟩) hB1.size _).setCell (p := ⟨W1.heap.size, 8, none⟩) hB1.size _)
    have hbf : w.heap.size ≤ W1.heap.size := hB1.size
    clear hL hg hb2 m0 m1 m2 m3 m4 m5 nw1 nw2 KA KB c0 c1 c2 c3 c4 c5 hD1 hB1 hw1 hgg ng f0 f1 f2 f3 f4 f5 f6 f7 f8 u0 u1 u2 u3 u4 u5 u6 u7 u8 HPAR
    have hgW : g < (((((((((w2.setCell ⟨W1.heap.size, 0, none⟩ (.string d0)).setCell ⟨W1.heap.size, 1, none⟩ (.string d1)).setCell ⟨W1.heap.size, 2, none⟩ (.bool d2)).setCell ⟨W1.heap.size, 3, none⟩ (.bool d3)).setCell ⟨W1.heap.size, 4, none⟩ (.bool d4)).setCell ⟨W1.heap.size, 5, none⟩ (.int .i64 d5)).setCell ⟨W1.heap.size, 6, none⟩ (.slice (some ⟨g, 0, none⟩) l.length l.length)).setCell ⟨W1.heap.size, 7, none⟩ (.int .i64 0)).setCell ⟨W1.heap.size, 8, none⟩ (.string ⟨#[]⟩)).heap.size := HP.out.ls.lt hne
    generalize (((((((((w2.setCell ⟨W1.heap.size, 0, none⟩ (.string d0)).setCell ⟨W1.heap.size, 1, none⟩ (.string d1)).setCell ⟨W1.heap.size, 2, none⟩ (.bool d2)).setCell ⟨W1.heap.size, 3, none⟩ (.bool d3)).setCell ⟨W1.heap.size, 4, none⟩ (.bool d4)).setCell ⟨W1.heap.size, 5, none⟩ (.int .i64 d5)).setCell ⟨W1.heap.size, 6, none⟩ (.slice (some ⟨g, 0, none⟩) l.length l.length)).setCell ⟨W1.heap.size, 7, none⟩ (.int .i64 0)).setCell ⟨W1.heap.size, 8, none⟩ (.string ⟨#[]⟩)) = Wf at *
    generalize W1.heap.size = b at *
    have hlen := HP.out.len
    have hbW := HP.out.pa.lt
    go_wp2_with fail
    refine (KJ.out _ b _ HP.out.pa).mono ?_
    rintro e w3 ⟨rfl, rfl⟩
    clear KJ
    obtain ⟨i0, hi, hz0, hz1, hz2⟩ := info_parts info_recI
    have H00 : Hid (recsAt ⟨d0, d1, d2, d3, d4, d5⟩ l 0 ⟨#[]⟩ = [] ++ recsAt ⟨d0, d1, d2, d3, d4, d5⟩ l 0 ⟨#[]⟩) := by unfold Hid; simp
    go_wp2_with fail
    go_loopw [7] (fun v wr => ∃ (k : Nat) (sec : ByteArray) (m : List RecD), k ≤ l.length ∧ m.length ≤ k ∧ Hid (recsAt ⟨d0, d1, d2, d3, d4, d5⟩ l 0 ⟨#[]⟩ = m ++ recsAt ⟨d0, d1, d2, d3, d4, d5⟩ l k sec) ∧ Hid (Pars wr b ⟨d0, d1, d2, d3, d4, d5⟩ g l k sec) ∧ wr.ownsRow Wf.heap.size 35 6 v m.length (rowCells recS m) ∧ Wf.heap.size ≤ wr.heap.size ∧ Below w.heap.size w wr) (fun _ wr => l.length - atOf wr b)
    case atStart => exact ⟨0, ⟨#[]⟩, [], Nat.zero_le _, Nat.le_refl _, H00, HP, ⟨rfl, .inl ⟨rfl, rfl⟩⟩, Nat.le_refl _, hBf⟩
    case round =>
      obtain ⟨k, sec, m, hkl, hmk, hF, hP, hown, hsw, hb⟩ := hrel
      clear H00 HP hBf
      obtain ⟨p0, p1, p2, p3, p4, p5, p6, p7, p8⟩ := hP.out.pa.cells
      clear p0 p1 p2 p3 p4 p5 p8
      by_cases hlt : k < l.length
      · have hkz : (k : Int) < (l.length : Int) := by omega
        have hM1 := atOf_pa hP.out.pa
        have HF : Hid (recsAt ⟨d0, d1, d2, d3, d4, d5⟩ l 0 ⟨#[]⟩ = m ++ takeI l k (stepN ⟨d0, d1, d2, d3, d4, d5⟩ sec l k hlt) (stepR ⟨d0, d1, d2, d3, d4, d5⟩ sec l k hlt) :: recsAt ⟨d0, d1, d2, d3, d4, d5⟩ l (k + stepN ⟨d0, d1, d2, d3, d4, d5⟩ sec l k hlt) (stepR ⟨d0, d1, d2, d3, d4, d5⟩ sec l k hlt).sect) := by
          unfold Hid
          rw [hF.out, HRS.out k sec hlt]
        have hsn := stepN_le ⟨d0, d1, d2, d3, d4, d5⟩ sec l k hlt
        have KK1 := KK.out wr b g k sec hP.out hlt
        rw [← (HST.out sec k hlt).1, ← (HST.out sec k hlt).2] at KK1
        have K1 := Lib.hid KK1
        clear KK1 hF
        generalize stepN ⟨d0, d1, d2, d3, d4, d5⟩ sec l k hlt = c at *
        generalize stepR ⟨d0, d1, d2, d3, d4, d5⟩ sec l k hlt = x at *
        have HM1 := Lib.hid hM1
        clear hM1
        go_wp2_with fail
        refine K1.out.mono ?_
        rintro e w4 ⟨y0, y1, y2, y3, y4, y5, hT, rfl, hp4, hu4⟩
        have hgr : wr.grownBy w4 (some b) := ⟨hu4.os, hu4.tape, hu4.output, hu4.size, fun j hj hn => hu4.block j hj (fun e => hn (by rw [e]))⟩
        have hown4 := hown.kept hgr (.inr (fun e => by have := own_blockL hown b e; omega))
        have hb4 := hb.grown hgr hb.size (fun j e => by injection e with e; omega)
        have hs4 := hu4.size
        have HP4 := Lib.hid hp4
        rw [hT] at HF
        clear hu4 hgr hown hb hp4 hP K1 p6 p7 hT
        go_wp2_with (at_builtin; refine wpList_append_own _ rfl _ _ 32 rfl Wf.heap.size 35 i0 (recV noRec) 6 80 Tryz.underlying32 hi hz0 hz1 hz2 rfl (by decide) _ _ _ rfl (hown4.alloc _) ⟨w4.heap.size, 0, none⟩ 1 1 (recCs ⟨y0, y1, y2, y3, y4, y5⟩) rfl rfl (World.news_of_block (cs := #[.int .i64 y0, .string y1, .string y2, .string y3, .string y4, .int .i64 y5]) (t := 35) (fr := (0, 0)) (heap_alloc_new w4 _)) (recS.one _) (by unfold maxLen; omega) (by omega) (by simp; omega) ?_; intro v7 w7 hown7 hgrow7 _)
        have hrow7 : w7.ownsRow Wf.heap.size 35 6 v7 (m ++ [(⟨y0, y1, y2, y3, y4, y5⟩ : RecD)]).length (rowCells recS (m ++ [⟨y0, y1, y2, y3, y4, y5⟩])) := by
          rw [rowCells_append, rowCells_single, List.length_append]
          exact hown7
        have hb7 : Below w.heap.size w w7 := (hb4.alloc (by omega) _).grown hgrow7 (by simp; omega) (fun j hj => by have := own_blockL hown4 j hj; omega)
        have hlow : Below Wf.heap.size w4 w7 := ((Below.refl Wf.heap.size w4).alloc (by omega) _).grown hgrow7 (by simp; omega) (own_blockL hown4)
        have HP7 := Lib.hid (HP4.out.lowP hlow hbW hgW)
        have hs7 : Wf.heap.size ≤ w7.heap.size := Nat.le_trans (by omega) hlow.size
        have HF7 : Hid (recsAt ⟨d0, d1, d2, d3, d4, d5⟩ l 0 ⟨#[]⟩ = (m ++ [⟨y0, y1, y2, y3, y4, y5⟩]) ++ recsAt ⟨d0, d1, d2, d3, d4, d5⟩ l (k + c) x.sect) := by
          unfold Hid
          rw [HF.out]
          simp
        have HM7 := Lib.hid (atOf_pa HP7.out.pa)
        clear hown7 hgrow7 hown4 hb4 HP4 hlow HF hs4
        go_wp2
        go_roundw
        case rel => exact ⟨k + c, x.sect, m ++ [⟨y0, y1, y2, y3, y4, y5⟩], by omega, by simp; omega, HF7, HP7, hrow7, hs7, hb7⟩
        case measure => rw [HM7.out, HM1.out]; omega
      · obtain rfl : k = l.length := by omega
        have HF : Hid (recsAt ⟨d0, d1, d2, d3, d4, d5⟩ l 0 ⟨#[]⟩ = m) := by
          unfold Hid
          rw [hF.out, HRE.out l.length sec (Nat.le_refl _)]
          simp
        have hmm : m.length ≤ 200 := by have := HLI.out; rw [HF.out] at this; exact this
        obtain ⟨gr, hrs, hgr⟩ := rowsIs_of_owns (S := recS) hown rfl hsw
        obtain ⟨a, cap, hv, _⟩ := hrs.form
        have KL := Lib.hid (fun w => limit_few w a m.length cap hmm)
        rw [← hv] at KL
        have HRS2 := Lib.hid hrs
        clear hF hv hown hrs
        go_wp2_with fail
        refine (KL.out _).mono ?_
        rintro e w5 ⟨rfl, rfl⟩
        go_wp2
        go_ret
        rw [HF.out]
        exact ⟨_, gr, rfl, HRS2.out, Nat.le_trans hbf (by omega), hb⟩

set_option maxHeartbeats 800000 in
theorem joiner_ind (w : World) (b : Nat) (d : DialectD) (lv : Value) (k : Nat) (sec : ByteArray) (h : PA w b d lv k sec) (hj : d.join = 2) :
    Calls Tryz.prog 34 #[.pointer (some ⟨b, 0, none⟩)] w fun e w' => e = .returned (.func (Fn.func 56) #[.pointer (some ⟨b, 0, none⟩)] #[]) ∧ w = w' := by
  obtain ⟨p0, p1, p2, p3, p4, p5, p6, p7, p8⟩ := h.cells
  rw [hj] at p5
  clear p0 p1 p2 p3 p4 p6 p7 p8 hj
  go_enter Tryz.func34, Tryz.ntmps34
  go_wp2
  go_ret
  exact ⟨rfl, rfl⟩

set_option maxHeartbeats 1200000 in
theorem parse_ind (d : DialectD) (s : ByteArray) (w : World) (hok : dialOk d = true) (hs : s.size ≤ 6000) (h0 : s.size ≠ 0) (hj : d.join = 2) (hlim : (recsAt d (linesOf s) 0 ⟨#[]⟩).length ≤ 200) :
    Calls Tryz.prog 12 #[.string s, dialectV d] w (NewRows recS w (recsAt d (linesOf s) 0 ⟨#[]⟩)) := by
  have hds := dialOk_size hok
  have KD := Lib.hid (fun w => dialectOk_impl d w (by omega) (by omega))
  rw [hok] at KD
  have KS := Lib.hid (fun w => splitLines_tight s w (by omega))
  have hco := linesOf_cost s
  have hne := linesOf_some s h0
  have HRS := Lib.hid (recsAt_step d (linesOf s))
  have HRE := Lib.hid (recsAt_end d (linesOf s))
  have HLI := Lib.hid hlim
  clear hlim
  generalize linesOf s = l at *
  have HST := Lib.hid (fun (sec : ByteArray) (k : Nat) (hk : k < l.length) => step_ind hj sec l k hk)
  have KJ := Lib.hid (fun (W : World) (b : Nat) (lv : Value) (hW : PA W b d lv 0 ⟨#[]⟩) => joiner_ind W b d lv 0 ⟨#[]⟩ hW hj)
  have KK := Lib.hid (fun (W : World) (b g k : Nat) (sec : ByteArray) (hW : Pars W b d g l k sec) (hk : k < l.length) => (indentedRec_impl d W b k sec g l hW hk).mono (fun _ _ => stepV))
  have HN := Lib.hid (dialAt_new w d)
  have hb0 := (Below.refl w.heap.size w).alloc (Nat.le_refl _) (.cells #[.string d.notes, .string d.seps, .bool d.inl, .bool d.quo, .bool d.esc, .int .i64 d.join] 25)
  have hw0 : w.heap.size < (w.alloc (.cells #[.string d.notes, .string d.seps, .bool d.inl, .bool d.quo, .bool d.esc, .int .i64 d.join] 25)).heap.size := by simp
  obtain ⟨d0, d1, d2, d3, d4, d5⟩ := d
  unfold dialectV at *
  simp only at KD HN hb0 hw0 hds
  have hsz : ¬ (6000 : Int) < (s.size : Int) := by omega
  have hsz2 : (s.size : Int) ≤ 6000 := by omega
  clear hj hok
  go_enter Tryz.func12, Tryz.ntmps12
  go_wp2_with fail
  refine (KD.out _).mono ?_
  rintro e W1 ⟨rfl, hb1⟩
  have hD1 := HN.out.over hb1 hw0
  have hB1 := hb0.trans (hb1.mono hb0.size)
  have hw1 := Nat.lt_of_lt_of_le hw0 hb1.size
  clear hb1 hb0 HN hw0 KD
  obtain ⟨c0, c1, c2, c3, c4, c5⟩ := hD1.cells
  simp only at c0 c1 c2 c3 c4 c5
  have nw1 : w.heap.size ≠ W1.heap.size := by omega
  have nw2 : W1.heap.size ≠ w.heap.size := by omega
  have KA : Hid (Calls Tryz.prog 33 #[.string s] (W1.alloc (.cells #[.string ⟨#[]⟩, .string ⟨#[]⟩, .bool false, .bool false, .bool false, .int .i64 0, .slice none 0 0, .int .i64 0, .string ⟨#[]⟩] 57)).drew (Split5 (W1.alloc (.cells #[.string ⟨#[]⟩, .string ⟨#[]⟩, .bool false, .bool false, .bool false, .int .i64 0, .slice none 0 0, .int .i64 0, .string ⟨#[]⟩] 57)) l)) :=
    (KS.out _).mono (fun _ _ h => split5 hne (below_drewN (Below.refl _ _) 1) h)
  have KB : Hid (Calls Tryz.prog 33 #[.string s] W1.drew (Split5 W1 l)) :=
    (KS.out _).mono (fun _ _ h => split5 hne (below_drewN (Below.refl _ _) 1) h)
  clear KS
  go_wp2_with fail
  go_region_held3 (fun w' => w'.cell? ⟨w.heap.size, 0, none⟩ = some (.string d0) ∧ w'.cell? ⟨w.heap.size, 1, none⟩ = some (.string d1) ∧ w'.cell? ⟨w.heap.size, 2, none⟩ = some (.bool d2) ∧ w'.cell? ⟨w.heap.size, 3, none⟩ = some (.bool d3) ∧ w'.cell? ⟨w.heap.size, 4, none⟩ = some (.bool d4) ∧ w'.cell? ⟨w.heap.size, 5, none⟩ = some (.int .i64 d5))
    (first | go_keep | exact ⟨m0, m1, m2, m3, m4, m5⟩)
    (first
      | ((with_reducible refine KB.out.mono ?_); rintro e w2 ⟨g, rfl, hL, hg, hb2⟩; obtain ⟨m0, m1, m2, m3, m4, m5⟩ := (hD1.over hb2 hw1).cells; simp only at m0 m1 m2 m3 m4 m5; have nw3 : w.heap.size ≠ w2.heap.size := (by have := hb2.size; omega); have nw4 : w2.heap.size ≠ w.heap.size := nw3.symm)
      | ((with_reducible refine KA.out.mono ?_); rintro e w2 ⟨g, rfl, hL, hg, hb2⟩; obtain ⟨m0, m1, m2, m3, m4, m5⟩ := (hD1.over (((Below.refl W1.heap.size W1).alloc (Nat.le_refl _) _).trans (hb2.mono (by simp))) hw1).cells; simp only at m0 m1 m2 m3 m4 m5; have hpar := (hb2.block W1.heap.size (by simp)).trans (heap_alloc_new W1 _); have f0 := frozen9 hpar 0; have f1 := frozen9 hpar 1; have f2 := frozen9 hpar 2; have f3 := frozen9 hpar 3; have f4 := frozen9 hpar 4; have f5 := frozen9 hpar 5; have f6 := frozen9 hpar 6; have f7 := frozen9 hpar 7; have f8 := frozen9 hpar 8; obtain ⟨u0, u1, u2, u3, u4, u5, u6, u7, u8⟩ := cells9 hpar; have HPAR := Lib.hid hpar; clear hpar))
  · have hgl := hL.lt hne
    have HP : Hid (Pars (w2.alloc (.cells #[.string d0, .string d1, .bool d2, .bool d3, .bool d4, .int .i64 d5, .slice (some ⟨g, 0, none⟩) l.length l.length, .int .i64 0, .string ⟨#[]⟩] 57)) w2.heap.size ⟨d0, d1, d2, d3, d4, d5⟩ g l 0 ⟨#[]⟩) :=
      ⟨heap_alloc_new _ _, hL.kept (fun _ => Below.heap_alloc _ _ _ hgl), by omega, by omega, by show d1.size ≤ _; omega⟩
    have hBf : Below w.heap.size w (w2.alloc (.cells #[.string d0, .string d1, .bool d2, .bool d3, .bool d4, .int .i64 d5, .slice (some ⟨g, 0, none⟩) l.length l.length, .int .i64 0, .string ⟨#[]⟩] 57)) := (hB1.trans (hb2.mono hB1.size)).alloc (by have := hb2.size; omega) _
    have hbf : w.heap.size ≤ w2.heap.size := by have := hb2.size; omega
    clear hL hg hb2 m0 m1 m2 m3 m4 m5 nw3 nw4 nw1 nw2 KA KB c0 c1 c2 c3 c4 c5 hD1 hB1 hw1 hgl
    have hgW : g < (w2.alloc (.cells #[.string d0, .string d1, .bool d2, .bool d3, .bool d4, .int .i64 d5, .slice (some ⟨g, 0, none⟩) l.length l.length, .int .i64 0, .string ⟨#[]⟩] 57)).heap.size := HP.out.ls.lt hne
    generalize w2.alloc (.cells #[.string d0, .string d1, .bool d2, .bool d3, .bool d4, .int .i64 d5, .slice (some ⟨g, 0, none⟩) l.length l.length, .int .i64 0, .string ⟨#[]⟩] 57) = Wf at *
    generalize w2.heap.size = b at *
    have hlen := HP.out.len
    have hbW := HP.out.pa.lt
    go_wp2_with fail
    refine (KJ.out _ b _ HP.out.pa).mono ?_
    rintro e w3 ⟨rfl, rfl⟩
    clear KJ
    obtain ⟨i0, hi, hz0, hz1, hz2⟩ := info_parts info_recI
    have H00 : Hid (recsAt ⟨d0, d1, d2, d3, d4, d5⟩ l 0 ⟨#[]⟩ = [] ++ recsAt ⟨d0, d1, d2, d3, d4, d5⟩ l 0 ⟨#[]⟩) := by unfold Hid; simp
    go_wp2_with fail
    go_loopw [7] (fun v wr => ∃ (k : Nat) (sec : ByteArray) (m : List RecD), k ≤ l.length ∧ m.length ≤ k ∧ Hid (recsAt ⟨d0, d1, d2, d3, d4, d5⟩ l 0 ⟨#[]⟩ = m ++ recsAt ⟨d0, d1, d2, d3, d4, d5⟩ l k sec) ∧ Hid (Pars wr b ⟨d0, d1, d2, d3, d4, d5⟩ g l k sec) ∧ wr.ownsRow Wf.heap.size 35 6 v m.length (rowCells recS m) ∧ Wf.heap.size ≤ wr.heap.size ∧ Below w.heap.size w wr) (fun _ wr => l.length - atOf wr b)
    case atStart => exact ⟨0, ⟨#[]⟩, [], Nat.zero_le _, Nat.le_refl _, H00, HP, ⟨rfl, .inl ⟨rfl, rfl⟩⟩, Nat.le_refl _, hBf⟩
    case round =>
      obtain ⟨k, sec, m, hkl, hmk, hF, hP, hown, hsw, hb⟩ := hrel
      clear H00 HP hBf
      obtain ⟨p0, p1, p2, p3, p4, p5, p6, p7, p8⟩ := hP.out.pa.cells
      clear p0 p1 p2 p3 p4 p5 p8
      by_cases hlt : k < l.length
      · have hkz : (k : Int) < (l.length : Int) := by omega
        have hM1 := atOf_pa hP.out.pa
        have HF : Hid (recsAt ⟨d0, d1, d2, d3, d4, d5⟩ l 0 ⟨#[]⟩ = m ++ takeI l k (stepN ⟨d0, d1, d2, d3, d4, d5⟩ sec l k hlt) (stepR ⟨d0, d1, d2, d3, d4, d5⟩ sec l k hlt) :: recsAt ⟨d0, d1, d2, d3, d4, d5⟩ l (k + stepN ⟨d0, d1, d2, d3, d4, d5⟩ sec l k hlt) (stepR ⟨d0, d1, d2, d3, d4, d5⟩ sec l k hlt).sect) := by
          unfold Hid
          rw [hF.out, HRS.out k sec hlt]
        have hsn := stepN_le ⟨d0, d1, d2, d3, d4, d5⟩ sec l k hlt
        have KK1 := KK.out wr b g k sec hP.out hlt
        rw [← (HST.out sec k hlt).1, ← (HST.out sec k hlt).2] at KK1
        have K1 := Lib.hid KK1
        clear KK1 hF
        generalize stepN ⟨d0, d1, d2, d3, d4, d5⟩ sec l k hlt = c at *
        generalize stepR ⟨d0, d1, d2, d3, d4, d5⟩ sec l k hlt = x at *
        have HM1 := Lib.hid hM1
        clear hM1
        go_wp2_with fail
        refine K1.out.mono ?_
        rintro e w4 ⟨y0, y1, y2, y3, y4, y5, hT, rfl, hp4, hu4⟩
        have hgr : wr.grownBy w4 (some b) := ⟨hu4.os, hu4.tape, hu4.output, hu4.size, fun j hj hn => hu4.block j hj (fun e => hn (by rw [e]))⟩
        have hown4 := hown.kept hgr (.inr (fun e => by have := own_blockL hown b e; omega))
        have hb4 := hb.grown hgr hb.size (fun j e => by injection e with e; omega)
        have hs4 := hu4.size
        have HP4 := Lib.hid hp4
        rw [hT] at HF
        clear hu4 hgr hown hb hp4 hP K1 p6 p7 hT
        go_wp2_with (at_builtin; refine wpList_append_own _ rfl _ _ 32 rfl Wf.heap.size 35 i0 (recV noRec) 6 80 Tryz.underlying32 hi hz0 hz1 hz2 rfl (by decide) _ _ _ rfl (hown4.alloc _) ⟨w4.heap.size, 0, none⟩ 1 1 (recCs ⟨y0, y1, y2, y3, y4, y5⟩) rfl rfl (World.news_of_block (cs := #[.int .i64 y0, .string y1, .string y2, .string y3, .string y4, .int .i64 y5]) (t := 35) (fr := (0, 0)) (heap_alloc_new w4 _)) (recS.one _) (by unfold maxLen; omega) (by omega) (by simp; omega) ?_; intro v7 w7 hown7 hgrow7 _)
        have hrow7 : w7.ownsRow Wf.heap.size 35 6 v7 (m ++ [(⟨y0, y1, y2, y3, y4, y5⟩ : RecD)]).length (rowCells recS (m ++ [⟨y0, y1, y2, y3, y4, y5⟩])) := by
          rw [rowCells_append, rowCells_single, List.length_append]
          exact hown7
        have hb7 : Below w.heap.size w w7 := (hb4.alloc (by omega) _).grown hgrow7 (by simp; omega) (fun j hj => by have := own_blockL hown4 j hj; omega)
        have hlow : Below Wf.heap.size w4 w7 := ((Below.refl Wf.heap.size w4).alloc (by omega) _).grown hgrow7 (by simp; omega) (own_blockL hown4)
        have HP7 := Lib.hid (HP4.out.lowP hlow hbW hgW)
        have hs7 : Wf.heap.size ≤ w7.heap.size := Nat.le_trans (by omega) hlow.size
        have HF7 : Hid (recsAt ⟨d0, d1, d2, d3, d4, d5⟩ l 0 ⟨#[]⟩ = (m ++ [⟨y0, y1, y2, y3, y4, y5⟩]) ++ recsAt ⟨d0, d1, d2, d3, d4, d5⟩ l (k + c) x.sect) := by
          unfold Hid
          rw [HF.out]
          simp
        have HM7 := Lib.hid (atOf_pa HP7.out.pa)
        clear hown7 hgrow7 hown4 hb4 HP4 hlow HF hs4
        go_wp2
        go_roundw
        case rel => exact ⟨k + c, x.sect, m ++ [⟨y0, y1, y2, y3, y4, y5⟩], by omega, by simp; omega, HF7, HP7, hrow7, hs7, hb7⟩
        case measure => rw [HM7.out, HM1.out]; omega
      · obtain rfl : k = l.length := by omega
        have HF : Hid (recsAt ⟨d0, d1, d2, d3, d4, d5⟩ l 0 ⟨#[]⟩ = m) := by
          unfold Hid
          rw [hF.out, HRE.out l.length sec (Nat.le_refl _)]
          simp
        have hmm : m.length ≤ 200 := by have := HLI.out; rw [HF.out] at this; exact this
        obtain ⟨gr, hrs, hgr⟩ := rowsIs_of_owns (S := recS) hown rfl hsw
        obtain ⟨a, cap, hv, _⟩ := hrs.form
        have KL := Lib.hid (fun w => limit_few w a m.length cap hmm)
        rw [← hv] at KL
        have HRS2 := Lib.hid hrs
        clear hF hv hown hrs
        go_wp2_with fail
        refine (KL.out _).mono ?_
        rintro e w5 ⟨rfl, rfl⟩
        go_wp2
        go_ret
        rw [HF.out]
        exact ⟨_, gr, rfl, HRS2.out, Nat.le_trans hbf (by omega), hb⟩
  · have hgg : W1.heap.size < g := by simp at hg; omega
    have ng : g ≠ W1.heap.size := by omega
    have HP : Hid (Pars (((((((((w2.setCell ⟨W1.heap.size, 0, none⟩ (.string d0)).setCell ⟨W1.heap.size, 1, none⟩ (.string d1)).setCell ⟨W1.heap.size, 2, none⟩ (.bool d2)).setCell ⟨W1.heap.size, 3, none⟩ (.bool d3)).setCell ⟨W1.heap.size, 4, none⟩ (.bool d4)).setCell ⟨W1.heap.size, 5, none⟩ (.int .i64 d5)).setCell ⟨W1.heap.size, 6, none⟩ (.slice (some ⟨g, 0, none⟩) l.length l.length)).setCell ⟨W1.heap.size, 7, none⟩ (.int .i64 0)).setCell ⟨W1.heap.size, 8, none⟩ (.string ⟨#[]⟩)) W1.heap.size ⟨d0, d1, d2, d3, d4, d5⟩ g l 0 ⟨#[]⟩) :=
      ⟨PA.nine HPAR.out d0 d1 d2 d3 d4 d5 _ ⟨#[]⟩, hL.kept (fun _ => by rw [Below.heap_setCell _ _ _ g ng, Below.heap_setCell _ _ _ g ng, Below.heap_setCell _ _ _ g ng, Below.heap_setCell _ _ _ g ng, Below.heap_setCell _ _ _ g ng, Below.heap_setCell _ _ _ g ng, Below.heap_setCell _ _ _ g ng, Below.heap_setCell _ _ _ g ng, Below.heap_setCell _ _ _ g ng]), by omega, by omega, by show d1.size ≤ _; omega⟩
    have hBf : Below w.heap.size w (((((((((w2.setCell ⟨W1.heap.size, 0, none⟩ (.string d0)).setCell ⟨W1.heap.size, 1, none⟩ (.string d1)).setCell ⟨W1.heap.size, 2, none⟩ (.bool d2)).setCell ⟨W1.heap.size, 3, none⟩ (.bool d3)).setCell ⟨W1.heap.size, 4, none⟩ (.bool d4)).setCell ⟨W1.heap.size, 5, none⟩ (.int .i64 d5)).setCell ⟨W1.heap.size, 6, none⟩ (.slice (some ⟨g, 0, none⟩) l.length l.length)).setCell ⟨W1.heap.size, 7, none⟩ (.int .i64 0)).setCell ⟨W1.heap.size, 8, none⟩ (.string ⟨#[]⟩)) := ((((((((((hB1.trans (((Below.refl W1.heap.size W1).alloc (Nat.le_refl _) _).trans (hb2.mono (by simp)) |>.mono hB1.size)).setCell (p := ⟨W1.heap.size, 0, none⟩) hB1.size _).setCell (p := ⟨W1.heap.size, 1, none⟩) hB1.size _).setCell (p := ⟨W1.heap.size, 2, none⟩) hB1.size _).setCell (p := ⟨W1.heap.size, 3, none⟩) hB1.size _).setCell (p := ⟨W1.heap.size, 4, none⟩) hB1.size _).setCell (p := ⟨W1.heap.size, 5, none⟩) hB1.size _).setCell (p := ⟨W1.heap.size, 6, none⟩) hB1.size _).setCell (p := ⟨W1.heap.size, 7, none⟩) hB1.size _).setCell (p := ⟨W1.heap.size, 8, none⟩) hB1.size _)
    have hbf : w.heap.size ≤ W1.heap.size := hB1.size
    clear hL hg hb2 m0 m1 m2 m3 m4 m5 nw1 nw2 KA KB c0 c1 c2 c3 c4 c5 hD1 hB1 hw1 hgg ng f0 f1 f2 f3 f4 f5 f6 f7 f8 u0 u1 u2 u3 u4 u5 u6 u7 u8 HPAR
    have hgW : g < (((((((((w2.setCell ⟨W1.heap.size, 0, none⟩ (.string d0)).setCell ⟨W1.heap.size, 1, none⟩ (.string d1)).setCell ⟨W1.heap.size, 2, none⟩ (.bool d2)).setCell ⟨W1.heap.size, 3, none⟩ (.bool d3)).setCell ⟨W1.heap.size, 4, none⟩ (.bool d4)).setCell ⟨W1.heap.size, 5, none⟩ (.int .i64 d5)).setCell ⟨W1.heap.size, 6, none⟩ (.slice (some ⟨g, 0, none⟩) l.length l.length)).setCell ⟨W1.heap.size, 7, none⟩ (.int .i64 0)).setCell ⟨W1.heap.size, 8, none⟩ (.string ⟨#[]⟩)).heap.size := HP.out.ls.lt hne
    generalize (((((((((w2.setCell ⟨W1.heap.size, 0, none⟩ (.string d0)).setCell ⟨W1.heap.size, 1, none⟩ (.string d1)).setCell ⟨W1.heap.size, 2, none⟩ (.bool d2)).setCell ⟨W1.heap.size, 3, none⟩ (.bool d3)).setCell ⟨W1.heap.size, 4, none⟩ (.bool d4)).setCell ⟨W1.heap.size, 5, none⟩ (.int .i64 d5)).setCell ⟨W1.heap.size, 6, none⟩ (.slice (some ⟨g, 0, none⟩) l.length l.length)).setCell ⟨W1.heap.size, 7, none⟩ (.int .i64 0)).setCell ⟨W1.heap.size, 8, none⟩ (.string ⟨#[]⟩)) = Wf at *
    generalize W1.heap.size = b at *
    have hlen := HP.out.len
    have hbW := HP.out.pa.lt
    go_wp2_with fail
    refine (KJ.out _ b _ HP.out.pa).mono ?_
    rintro e w3 ⟨rfl, rfl⟩
    clear KJ
    obtain ⟨i0, hi, hz0, hz1, hz2⟩ := info_parts info_recI
    have H00 : Hid (recsAt ⟨d0, d1, d2, d3, d4, d5⟩ l 0 ⟨#[]⟩ = [] ++ recsAt ⟨d0, d1, d2, d3, d4, d5⟩ l 0 ⟨#[]⟩) := by unfold Hid; simp
    go_wp2_with fail
    go_loopw [7] (fun v wr => ∃ (k : Nat) (sec : ByteArray) (m : List RecD), k ≤ l.length ∧ m.length ≤ k ∧ Hid (recsAt ⟨d0, d1, d2, d3, d4, d5⟩ l 0 ⟨#[]⟩ = m ++ recsAt ⟨d0, d1, d2, d3, d4, d5⟩ l k sec) ∧ Hid (Pars wr b ⟨d0, d1, d2, d3, d4, d5⟩ g l k sec) ∧ wr.ownsRow Wf.heap.size 35 6 v m.length (rowCells recS m) ∧ Wf.heap.size ≤ wr.heap.size ∧ Below w.heap.size w wr) (fun _ wr => l.length - atOf wr b)
    case atStart => exact ⟨0, ⟨#[]⟩, [], Nat.zero_le _, Nat.le_refl _, H00, HP, ⟨rfl, .inl ⟨rfl, rfl⟩⟩, Nat.le_refl _, hBf⟩
    case round =>
      obtain ⟨k, sec, m, hkl, hmk, hF, hP, hown, hsw, hb⟩ := hrel
      clear H00 HP hBf
      obtain ⟨p0, p1, p2, p3, p4, p5, p6, p7, p8⟩ := hP.out.pa.cells
      clear p0 p1 p2 p3 p4 p5 p8
      by_cases hlt : k < l.length
      · have hkz : (k : Int) < (l.length : Int) := by omega
        have hM1 := atOf_pa hP.out.pa
        have HF : Hid (recsAt ⟨d0, d1, d2, d3, d4, d5⟩ l 0 ⟨#[]⟩ = m ++ takeI l k (stepN ⟨d0, d1, d2, d3, d4, d5⟩ sec l k hlt) (stepR ⟨d0, d1, d2, d3, d4, d5⟩ sec l k hlt) :: recsAt ⟨d0, d1, d2, d3, d4, d5⟩ l (k + stepN ⟨d0, d1, d2, d3, d4, d5⟩ sec l k hlt) (stepR ⟨d0, d1, d2, d3, d4, d5⟩ sec l k hlt).sect) := by
          unfold Hid
          rw [hF.out, HRS.out k sec hlt]
        have hsn := stepN_le ⟨d0, d1, d2, d3, d4, d5⟩ sec l k hlt
        have KK1 := KK.out wr b g k sec hP.out hlt
        rw [← (HST.out sec k hlt).1, ← (HST.out sec k hlt).2] at KK1
        have K1 := Lib.hid KK1
        clear KK1 hF
        generalize stepN ⟨d0, d1, d2, d3, d4, d5⟩ sec l k hlt = c at *
        generalize stepR ⟨d0, d1, d2, d3, d4, d5⟩ sec l k hlt = x at *
        have HM1 := Lib.hid hM1
        clear hM1
        go_wp2_with fail
        refine K1.out.mono ?_
        rintro e w4 ⟨y0, y1, y2, y3, y4, y5, hT, rfl, hp4, hu4⟩
        have hgr : wr.grownBy w4 (some b) := ⟨hu4.os, hu4.tape, hu4.output, hu4.size, fun j hj hn => hu4.block j hj (fun e => hn (by rw [e]))⟩
        have hown4 := hown.kept hgr (.inr (fun e => by have := own_blockL hown b e; omega))
        have hb4 := hb.grown hgr hb.size (fun j e => by injection e with e; omega)
        have hs4 := hu4.size
        have HP4 := Lib.hid hp4
        rw [hT] at HF
        clear hu4 hgr hown hb hp4 hP K1 p6 p7 hT
        go_wp2_with (at_builtin; refine wpList_append_own _ rfl _ _ 32 rfl Wf.heap.size 35 i0 (recV noRec) 6 80 Tryz.underlying32 hi hz0 hz1 hz2 rfl (by decide) _ _ _ rfl (hown4.alloc _) ⟨w4.heap.size, 0, none⟩ 1 1 (recCs ⟨y0, y1, y2, y3, y4, y5⟩) rfl rfl (World.news_of_block (cs := #[.int .i64 y0, .string y1, .string y2, .string y3, .string y4, .int .i64 y5]) (t := 35) (fr := (0, 0)) (heap_alloc_new w4 _)) (recS.one _) (by unfold maxLen; omega) (by omega) (by simp; omega) ?_; intro v7 w7 hown7 hgrow7 _)
        have hrow7 : w7.ownsRow Wf.heap.size 35 6 v7 (m ++ [(⟨y0, y1, y2, y3, y4, y5⟩ : RecD)]).length (rowCells recS (m ++ [⟨y0, y1, y2, y3, y4, y5⟩])) := by
          rw [rowCells_append, rowCells_single, List.length_append]
          exact hown7
        have hb7 : Below w.heap.size w w7 := (hb4.alloc (by omega) _).grown hgrow7 (by simp; omega) (fun j hj => by have := own_blockL hown4 j hj; omega)
        have hlow : Below Wf.heap.size w4 w7 := ((Below.refl Wf.heap.size w4).alloc (by omega) _).grown hgrow7 (by simp; omega) (own_blockL hown4)
        have HP7 := Lib.hid (HP4.out.lowP hlow hbW hgW)
        have hs7 : Wf.heap.size ≤ w7.heap.size := Nat.le_trans (by omega) hlow.size
        have HF7 : Hid (recsAt ⟨d0, d1, d2, d3, d4, d5⟩ l 0 ⟨#[]⟩ = (m ++ [⟨y0, y1, y2, y3, y4, y5⟩]) ++ recsAt ⟨d0, d1, d2, d3, d4, d5⟩ l (k + c) x.sect) := by
          unfold Hid
          rw [HF.out]
          simp
        have HM7 := Lib.hid (atOf_pa HP7.out.pa)
        clear hown7 hgrow7 hown4 hb4 HP4 hlow HF hs4
        go_wp2
        go_roundw
        case rel => exact ⟨k + c, x.sect, m ++ [⟨y0, y1, y2, y3, y4, y5⟩], by omega, by simp; omega, HF7, HP7, hrow7, hs7, hb7⟩
        case measure => rw [HM7.out, HM1.out]; omega
      · obtain rfl : k = l.length := by omega
        have HF : Hid (recsAt ⟨d0, d1, d2, d3, d4, d5⟩ l 0 ⟨#[]⟩ = m) := by
          unfold Hid
          rw [hF.out, HRE.out l.length sec (Nat.le_refl _)]
          simp
        have hmm : m.length ≤ 200 := by have := HLI.out; rw [HF.out] at this; exact this
        obtain ⟨gr, hrs, hgr⟩ := rowsIs_of_owns (S := recS) hown rfl hsw
        obtain ⟨a, cap, hv, _⟩ := hrs.form
        have KL := Lib.hid (fun w => limit_few w a m.length cap hmm)
        rw [← hv] at KL
        have HRS2 := Lib.hid hrs
        clear hF hv hown hrs
        go_wp2_with fail
        refine (KL.out _).mono ?_
        rintro e w5 ⟨rfl, rfl⟩
        go_wp2
        go_ret
        rw [HF.out]
        exact ⟨_, gr, rfl, HRS2.out, Nat.le_trans hbf (by omega), hb⟩

set_option maxHeartbeats 800000 in
theorem joiner_one (w : World) (b : Nat) (d : DialectD) (lv : Value) (k : Nat) (sec : ByteArray) (h : PA w b d lv k sec) (hj : d.join = 0) :
    Calls Tryz.prog 34 #[.pointer (some ⟨b, 0, none⟩)] w fun e w' => e = .returned (.func (Fn.func 57) #[.pointer (some ⟨b, 0, none⟩)] #[]) ∧ w = w' := by
  obtain ⟨p0, p1, p2, p3, p4, p5, p6, p7, p8⟩ := h.cells
  rw [hj] at p5
  clear p0 p1 p2 p3 p4 p6 p7 p8 hj
  go_enter Tryz.func34, Tryz.ntmps34
  go_wp2
  go_ret
  exact ⟨rfl, rfl⟩

set_option maxHeartbeats 1200000 in
theorem parse_one (d : DialectD) (s : ByteArray) (w : World) (hok : dialOk d = true) (hs : s.size ≤ 6000) (h0 : s.size ≠ 0) (hj : d.join = 0) (hlim : (recsAt d (linesOf s) 0 ⟨#[]⟩).length ≤ 200) :
    Calls Tryz.prog 12 #[.string s, dialectV d] w (NewRows recS w (recsAt d (linesOf s) 0 ⟨#[]⟩)) := by
  have hds := dialOk_size hok
  have KD := Lib.hid (fun w => dialectOk_impl d w (by omega) (by omega))
  rw [hok] at KD
  have KS := Lib.hid (fun w => splitLines_tight s w (by omega))
  have hco := linesOf_cost s
  have hne := linesOf_some s h0
  have HRS := Lib.hid (recsAt_step d (linesOf s))
  have HRE := Lib.hid (recsAt_end d (linesOf s))
  have HLI := Lib.hid hlim
  clear hlim
  generalize linesOf s = l at *
  have HST := Lib.hid (fun (sec : ByteArray) (k : Nat) (hk : k < l.length) => step_one hj sec l k hk)
  have KJ := Lib.hid (fun (W : World) (b : Nat) (lv : Value) (hW : PA W b d lv 0 ⟨#[]⟩) => joiner_one W b d lv 0 ⟨#[]⟩ hW hj)
  have KK := Lib.hid (fun (W : World) (b g k : Nat) (sec : ByteArray) (hW : Pars W b d g l k sec) (hk : k < l.length) => (singleRec_impl d W b k sec g l hW hk).mono (fun _ _ => stepV))
  have HN := Lib.hid (dialAt_new w d)
  have hb0 := (Below.refl w.heap.size w).alloc (Nat.le_refl _) (.cells #[.string d.notes, .string d.seps, .bool d.inl, .bool d.quo, .bool d.esc, .int .i64 d.join] 25)
  have hw0 : w.heap.size < (w.alloc (.cells #[.string d.notes, .string d.seps, .bool d.inl, .bool d.quo, .bool d.esc, .int .i64 d.join] 25)).heap.size := by simp
  obtain ⟨d0, d1, d2, d3, d4, d5⟩ := d
  unfold dialectV at *
  simp only at KD HN hb0 hw0 hds
  have hsz : ¬ (6000 : Int) < (s.size : Int) := by omega
  have hsz2 : (s.size : Int) ≤ 6000 := by omega
  clear hj hok
  go_enter Tryz.func12, Tryz.ntmps12
  go_wp2_with fail
  refine (KD.out _).mono ?_
  rintro e W1 ⟨rfl, hb1⟩
  have hD1 := HN.out.over hb1 hw0
  have hB1 := hb0.trans (hb1.mono hb0.size)
  have hw1 := Nat.lt_of_lt_of_le hw0 hb1.size
  clear hb1 hb0 HN hw0 KD
  obtain ⟨c0, c1, c2, c3, c4, c5⟩ := hD1.cells
  simp only at c0 c1 c2 c3 c4 c5
  have nw1 : w.heap.size ≠ W1.heap.size := by omega
  have nw2 : W1.heap.size ≠ w.heap.size := by omega
  have KA : Hid (Calls Tryz.prog 33 #[.string s] (W1.alloc (.cells #[.string ⟨#[]⟩, .string ⟨#[]⟩, .bool false, .bool false, .bool false, .int .i64 0, .slice none 0 0, .int .i64 0, .string ⟨#[]⟩] 57)).drew (Split5 (W1.alloc (.cells #[.string ⟨#[]⟩, .string ⟨#[]⟩, .bool false, .bool false, .bool false, .int .i64 0, .slice none 0 0, .int .i64 0, .string ⟨#[]⟩] 57)) l)) :=
    (KS.out _).mono (fun _ _ h => split5 hne (below_drewN (Below.refl _ _) 1) h)
  have KB : Hid (Calls Tryz.prog 33 #[.string s] W1.drew (Split5 W1 l)) :=
    (KS.out _).mono (fun _ _ h => split5 hne (below_drewN (Below.refl _ _) 1) h)
  clear KS
  go_wp2_with fail
  go_region_held3 (fun w' => w'.cell? ⟨w.heap.size, 0, none⟩ = some (.string d0) ∧ w'.cell? ⟨w.heap.size, 1, none⟩ = some (.string d1) ∧ w'.cell? ⟨w.heap.size, 2, none⟩ = some (.bool d2) ∧ w'.cell? ⟨w.heap.size, 3, none⟩ = some (.bool d3) ∧ w'.cell? ⟨w.heap.size, 4, none⟩ = some (.bool d4) ∧ w'.cell? ⟨w.heap.size, 5, none⟩ = some (.int .i64 d5))
    (first | go_keep | exact ⟨m0, m1, m2, m3, m4, m5⟩)
    (first
      | ((with_reducible refine KB.out.mono ?_); rintro e w2 ⟨g, rfl, hL, hg, hb2⟩; obtain ⟨m0, m1, m2, m3, m4, m5⟩ := (hD1.over hb2 hw1).cells; simp only at m0 m1 m2 m3 m4 m5; have nw3 : w.heap.size ≠ w2.heap.size := (by have := hb2.size; omega); have nw4 : w2.heap.size ≠ w.heap.size := nw3.symm)
      | ((with_reducible refine KA.out.mono ?_); rintro e w2 ⟨g, rfl, hL, hg, hb2⟩; obtain ⟨m0, m1, m2, m3, m4, m5⟩ := (hD1.over (((Below.refl W1.heap.size W1).alloc (Nat.le_refl _) _).trans (hb2.mono (by simp))) hw1).cells; simp only at m0 m1 m2 m3 m4 m5; have hpar := (hb2.block W1.heap.size (by simp)).trans (heap_alloc_new W1 _); have f0 := frozen9 hpar 0; have f1 := frozen9 hpar 1; have f2 := frozen9 hpar 2; have f3 := frozen9 hpar 3; have f4 := frozen9 hpar 4; have f5 := frozen9 hpar 5; have f6 := frozen9 hpar 6; have f7 := frozen9 hpar 7; have f8 := frozen9 hpar 8; obtain ⟨u0, u1, u2, u3, u4, u5, u6, u7, u8⟩ := cells9 hpar; have HPAR := Lib.hid hpar; clear hpar))
  · have hgl := hL.lt hne
    have HP : Hid (Pars (w2.alloc (.cells #[.string d0, .string d1, .bool d2, .bool d3, .bool d4, .int .i64 d5, .slice (some ⟨g, 0, none⟩) l.length l.length, .int .i64 0, .string ⟨#[]⟩] 57)) w2.heap.size ⟨d0, d1, d2, d3, d4, d5⟩ g l 0 ⟨#[]⟩) :=
      ⟨heap_alloc_new _ _, hL.kept (fun _ => Below.heap_alloc _ _ _ hgl), by omega, by omega, by show d1.size ≤ _; omega⟩
    have hBf : Below w.heap.size w (w2.alloc (.cells #[.string d0, .string d1, .bool d2, .bool d3, .bool d4, .int .i64 d5, .slice (some ⟨g, 0, none⟩) l.length l.length, .int .i64 0, .string ⟨#[]⟩] 57)) := (hB1.trans (hb2.mono hB1.size)).alloc (by have := hb2.size; omega) _
    have hbf : w.heap.size ≤ w2.heap.size := by have := hb2.size; omega
    clear hL hg hb2 m0 m1 m2 m3 m4 m5 nw3 nw4 nw1 nw2 KA KB c0 c1 c2 c3 c4 c5 hD1 hB1 hw1 hgl
    have hgW : g < (w2.alloc (.cells #[.string d0, .string d1, .bool d2, .bool d3, .bool d4, .int .i64 d5, .slice (some ⟨g, 0, none⟩) l.length l.length, .int .i64 0, .string ⟨#[]⟩] 57)).heap.size := HP.out.ls.lt hne
    generalize w2.alloc (.cells #[.string d0, .string d1, .bool d2, .bool d3, .bool d4, .int .i64 d5, .slice (some ⟨g, 0, none⟩) l.length l.length, .int .i64 0, .string ⟨#[]⟩] 57) = Wf at *
    generalize w2.heap.size = b at *
    have hlen := HP.out.len
    have hbW := HP.out.pa.lt
    go_wp2_with fail
    refine (KJ.out _ b _ HP.out.pa).mono ?_
    rintro e w3 ⟨rfl, rfl⟩
    clear KJ
    obtain ⟨i0, hi, hz0, hz1, hz2⟩ := info_parts info_recI
    have H00 : Hid (recsAt ⟨d0, d1, d2, d3, d4, d5⟩ l 0 ⟨#[]⟩ = [] ++ recsAt ⟨d0, d1, d2, d3, d4, d5⟩ l 0 ⟨#[]⟩) := by unfold Hid; simp
    go_wp2_with fail
    go_loopw [7] (fun v wr => ∃ (k : Nat) (sec : ByteArray) (m : List RecD), k ≤ l.length ∧ m.length ≤ k ∧ Hid (recsAt ⟨d0, d1, d2, d3, d4, d5⟩ l 0 ⟨#[]⟩ = m ++ recsAt ⟨d0, d1, d2, d3, d4, d5⟩ l k sec) ∧ Hid (Pars wr b ⟨d0, d1, d2, d3, d4, d5⟩ g l k sec) ∧ wr.ownsRow Wf.heap.size 35 6 v m.length (rowCells recS m) ∧ Wf.heap.size ≤ wr.heap.size ∧ Below w.heap.size w wr) (fun _ wr => l.length - atOf wr b)
    case atStart => exact ⟨0, ⟨#[]⟩, [], Nat.zero_le _, Nat.le_refl _, H00, HP, ⟨rfl, .inl ⟨rfl, rfl⟩⟩, Nat.le_refl _, hBf⟩
    case round =>
      obtain ⟨k, sec, m, hkl, hmk, hF, hP, hown, hsw, hb⟩ := hrel
      clear H00 HP hBf
      obtain ⟨p0, p1, p2, p3, p4, p5, p6, p7, p8⟩ := hP.out.pa.cells
      clear p0 p1 p2 p3 p4 p5 p8
      by_cases hlt : k < l.length
      · have hkz : (k : Int) < (l.length : Int) := by omega
        have hM1 := atOf_pa hP.out.pa
        have HF : Hid (recsAt ⟨d0, d1, d2, d3, d4, d5⟩ l 0 ⟨#[]⟩ = m ++ takeI l k (stepN ⟨d0, d1, d2, d3, d4, d5⟩ sec l k hlt) (stepR ⟨d0, d1, d2, d3, d4, d5⟩ sec l k hlt) :: recsAt ⟨d0, d1, d2, d3, d4, d5⟩ l (k + stepN ⟨d0, d1, d2, d3, d4, d5⟩ sec l k hlt) (stepR ⟨d0, d1, d2, d3, d4, d5⟩ sec l k hlt).sect) := by
          unfold Hid
          rw [hF.out, HRS.out k sec hlt]
        have hsn := stepN_le ⟨d0, d1, d2, d3, d4, d5⟩ sec l k hlt
        have KK1 := KK.out wr b g k sec hP.out hlt
        rw [← (HST.out sec k hlt).1, ← (HST.out sec k hlt).2] at KK1
        have K1 := Lib.hid KK1
        clear KK1 hF
        generalize stepN ⟨d0, d1, d2, d3, d4, d5⟩ sec l k hlt = c at *
        generalize stepR ⟨d0, d1, d2, d3, d4, d5⟩ sec l k hlt = x at *
        have HM1 := Lib.hid hM1
        clear hM1
        go_wp2_with fail
        refine K1.out.mono ?_
        rintro e w4 ⟨y0, y1, y2, y3, y4, y5, hT, rfl, hp4, hu4⟩
        have hgr : wr.grownBy w4 (some b) := ⟨hu4.os, hu4.tape, hu4.output, hu4.size, fun j hj hn => hu4.block j hj (fun e => hn (by rw [e]))⟩
        have hown4 := hown.kept hgr (.inr (fun e => by have := own_blockL hown b e; omega))
        have hb4 := hb.grown hgr hb.size (fun j e => by injection e with e; omega)
        have hs4 := hu4.size
        have HP4 := Lib.hid hp4
        rw [hT] at HF
        clear hu4 hgr hown hb hp4 hP K1 p6 p7 hT
        go_wp2_with (at_builtin; refine wpList_append_own _ rfl _ _ 32 rfl Wf.heap.size 35 i0 (recV noRec) 6 80 Tryz.underlying32 hi hz0 hz1 hz2 rfl (by decide) _ _ _ rfl (hown4.alloc _) ⟨w4.heap.size, 0, none⟩ 1 1 (recCs ⟨y0, y1, y2, y3, y4, y5⟩) rfl rfl (World.news_of_block (cs := #[.int .i64 y0, .string y1, .string y2, .string y3, .string y4, .int .i64 y5]) (t := 35) (fr := (0, 0)) (heap_alloc_new w4 _)) (recS.one _) (by unfold maxLen; omega) (by omega) (by simp; omega) ?_; intro v7 w7 hown7 hgrow7 _)
        have hrow7 : w7.ownsRow Wf.heap.size 35 6 v7 (m ++ [(⟨y0, y1, y2, y3, y4, y5⟩ : RecD)]).length (rowCells recS (m ++ [⟨y0, y1, y2, y3, y4, y5⟩])) := by
          rw [rowCells_append, rowCells_single, List.length_append]
          exact hown7
        have hb7 : Below w.heap.size w w7 := (hb4.alloc (by omega) _).grown hgrow7 (by simp; omega) (fun j hj => by have := own_blockL hown4 j hj; omega)
        have hlow : Below Wf.heap.size w4 w7 := ((Below.refl Wf.heap.size w4).alloc (by omega) _).grown hgrow7 (by simp; omega) (own_blockL hown4)
        have HP7 := Lib.hid (HP4.out.lowP hlow hbW hgW)
        have hs7 : Wf.heap.size ≤ w7.heap.size := Nat.le_trans (by omega) hlow.size
        have HF7 : Hid (recsAt ⟨d0, d1, d2, d3, d4, d5⟩ l 0 ⟨#[]⟩ = (m ++ [⟨y0, y1, y2, y3, y4, y5⟩]) ++ recsAt ⟨d0, d1, d2, d3, d4, d5⟩ l (k + c) x.sect) := by
          unfold Hid
          rw [HF.out]
          simp
        have HM7 := Lib.hid (atOf_pa HP7.out.pa)
        clear hown7 hgrow7 hown4 hb4 HP4 hlow HF hs4
        go_wp2
        go_roundw
        case rel => exact ⟨k + c, x.sect, m ++ [⟨y0, y1, y2, y3, y4, y5⟩], by omega, by simp; omega, HF7, HP7, hrow7, hs7, hb7⟩
        case measure => rw [HM7.out, HM1.out]; omega
      · obtain rfl : k = l.length := by omega
        have HF : Hid (recsAt ⟨d0, d1, d2, d3, d4, d5⟩ l 0 ⟨#[]⟩ = m) := by
          unfold Hid
          rw [hF.out, HRE.out l.length sec (Nat.le_refl _)]
          simp
        have hmm : m.length ≤ 200 := by have := HLI.out; rw [HF.out] at this; exact this
        obtain ⟨gr, hrs, hgr⟩ := rowsIs_of_owns (S := recS) hown rfl hsw
        obtain ⟨a, cap, hv, _⟩ := hrs.form
        have KL := Lib.hid (fun w => limit_few w a m.length cap hmm)
        rw [← hv] at KL
        have HRS2 := Lib.hid hrs
        clear hF hv hown hrs
        go_wp2_with fail
        refine (KL.out _).mono ?_
        rintro e w5 ⟨rfl, rfl⟩
        go_wp2
        go_ret
        rw [HF.out]
        exact ⟨_, gr, rfl, HRS2.out, Nat.le_trans hbf (by omega), hb⟩
  · have hgg : W1.heap.size < g := by simp at hg; omega
    have ng : g ≠ W1.heap.size := by omega
    have HP : Hid (Pars (((((((((w2.setCell ⟨W1.heap.size, 0, none⟩ (.string d0)).setCell ⟨W1.heap.size, 1, none⟩ (.string d1)).setCell ⟨W1.heap.size, 2, none⟩ (.bool d2)).setCell ⟨W1.heap.size, 3, none⟩ (.bool d3)).setCell ⟨W1.heap.size, 4, none⟩ (.bool d4)).setCell ⟨W1.heap.size, 5, none⟩ (.int .i64 d5)).setCell ⟨W1.heap.size, 6, none⟩ (.slice (some ⟨g, 0, none⟩) l.length l.length)).setCell ⟨W1.heap.size, 7, none⟩ (.int .i64 0)).setCell ⟨W1.heap.size, 8, none⟩ (.string ⟨#[]⟩)) W1.heap.size ⟨d0, d1, d2, d3, d4, d5⟩ g l 0 ⟨#[]⟩) :=
      ⟨PA.nine HPAR.out d0 d1 d2 d3 d4 d5 _ ⟨#[]⟩, hL.kept (fun _ => by rw [Below.heap_setCell _ _ _ g ng, Below.heap_setCell _ _ _ g ng, Below.heap_setCell _ _ _ g ng, Below.heap_setCell _ _ _ g ng, Below.heap_setCell _ _ _ g ng, Below.heap_setCell _ _ _ g ng, Below.heap_setCell _ _ _ g ng, Below.heap_setCell _ _ _ g ng, Below.heap_setCell _ _ _ g ng]), by omega, by omega, by show d1.size ≤ _; omega⟩
    have hBf : Below w.heap.size w (((((((((w2.setCell ⟨W1.heap.size, 0, none⟩ (.string d0)).setCell ⟨W1.heap.size, 1, none⟩ (.string d1)).setCell ⟨W1.heap.size, 2, none⟩ (.bool d2)).setCell ⟨W1.heap.size, 3, none⟩ (.bool d3)).setCell ⟨W1.heap.size, 4, none⟩ (.bool d4)).setCell ⟨W1.heap.size, 5, none⟩ (.int .i64 d5)).setCell ⟨W1.heap.size, 6, none⟩ (.slice (some ⟨g, 0, none⟩) l.length l.length)).setCell ⟨W1.heap.size, 7, none⟩ (.int .i64 0)).setCell ⟨W1.heap.size, 8, none⟩ (.string ⟨#[]⟩)) := ((((((((((hB1.trans (((Below.refl W1.heap.size W1).alloc (Nat.le_refl _) _).trans (hb2.mono (by simp)) |>.mono hB1.size)).setCell (p := ⟨W1.heap.size, 0, none⟩) hB1.size _).setCell (p := ⟨W1.heap.size, 1, none⟩) hB1.size _).setCell (p := ⟨W1.heap.size, 2, none⟩) hB1.size _).setCell (p := ⟨W1.heap.size, 3, none⟩) hB1.size _).setCell (p := ⟨W1.heap.size, 4, none⟩) hB1.size _).setCell (p := ⟨W1.heap.size, 5, none⟩) hB1.size _).setCell (p := ⟨W1.heap.size, 6, none⟩) hB1.size _).setCell (p := ⟨W1.heap.size, 7, none⟩) hB1.size _).setCell (p := ⟨W1.heap.size, 8, none⟩) hB1.size _)
    have hbf : w.heap.size ≤ W1.heap.size := hB1.size
    clear hL hg hb2 m0 m1 m2 m3 m4 m5 nw1 nw2 KA KB c0 c1 c2 c3 c4 c5 hD1 hB1 hw1 hgg ng f0 f1 f2 f3 f4 f5 f6 f7 f8 u0 u1 u2 u3 u4 u5 u6 u7 u8 HPAR
    have hgW : g < (((((((((w2.setCell ⟨W1.heap.size, 0, none⟩ (.string d0)).setCell ⟨W1.heap.size, 1, none⟩ (.string d1)).setCell ⟨W1.heap.size, 2, none⟩ (.bool d2)).setCell ⟨W1.heap.size, 3, none⟩ (.bool d3)).setCell ⟨W1.heap.size, 4, none⟩ (.bool d4)).setCell ⟨W1.heap.size, 5, none⟩ (.int .i64 d5)).setCell ⟨W1.heap.size, 6, none⟩ (.slice (some ⟨g, 0, none⟩) l.length l.length)).setCell ⟨W1.heap.size, 7, none⟩ (.int .i64 0)).setCell ⟨W1.heap.size, 8, none⟩ (.string ⟨#[]⟩)).heap.size := HP.out.ls.lt hne
    generalize (((((((((w2.setCell ⟨W1.heap.size, 0, none⟩ (.string d0)).setCell ⟨W1.heap.size, 1, none⟩ (.string d1)).setCell ⟨W1.heap.size, 2, none⟩ (.bool d2)).setCell ⟨W1.heap.size, 3, none⟩ (.bool d3)).setCell ⟨W1.heap.size, 4, none⟩ (.bool d4)).setCell ⟨W1.heap.size, 5, none⟩ (.int .i64 d5)).setCell ⟨W1.heap.size, 6, none⟩ (.slice (some ⟨g, 0, none⟩) l.length l.length)).setCell ⟨W1.heap.size, 7, none⟩ (.int .i64 0)).setCell ⟨W1.heap.size, 8, none⟩ (.string ⟨#[]⟩)) = Wf at *
    generalize W1.heap.size = b at *
    have hlen := HP.out.len
    have hbW := HP.out.pa.lt
    go_wp2_with fail
    refine (KJ.out _ b _ HP.out.pa).mono ?_
    rintro e w3 ⟨rfl, rfl⟩
    clear KJ
    obtain ⟨i0, hi, hz0, hz1, hz2⟩ := info_parts info_recI
    have H00 : Hid (recsAt ⟨d0, d1, d2, d3, d4, d5⟩ l 0 ⟨#[]⟩ = [] ++ recsAt ⟨d0, d1, d2, d3, d4, d5⟩ l 0 ⟨#[]⟩) := by unfold Hid; simp
    go_wp2_with fail
    go_loopw [7] (fun v wr => ∃ (k : Nat) (sec : ByteArray) (m : List RecD), k ≤ l.length ∧ m.length ≤ k ∧ Hid (recsAt ⟨d0, d1, d2, d3, d4, d5⟩ l 0 ⟨#[]⟩ = m ++ recsAt ⟨d0, d1, d2, d3, d4, d5⟩ l k sec) ∧ Hid (Pars wr b ⟨d0, d1, d2, d3, d4, d5⟩ g l k sec) ∧ wr.ownsRow Wf.heap.size 35 6 v m.length (rowCells recS m) ∧ Wf.heap.size ≤ wr.heap.size ∧ Below w.heap.size w wr) (fun _ wr => l.length - atOf wr b)
    case atStart => exact ⟨0, ⟨#[]⟩, [], Nat.zero_le _, Nat.le_refl _, H00, HP, ⟨rfl, .inl ⟨rfl, rfl⟩⟩, Nat.le_refl _, hBf⟩
    case round =>
      obtain ⟨k, sec, m, hkl, hmk, hF, hP, hown, hsw, hb⟩ := hrel
      clear H00 HP hBf
      obtain ⟨p0, p1, p2, p3, p4, p5, p6, p7, p8⟩ := hP.out.pa.cells
      clear p0 p1 p2 p3 p4 p5 p8
      by_cases hlt : k < l.length
      · have hkz : (k : Int) < (l.length : Int) := by omega
        have hM1 := atOf_pa hP.out.pa
        have HF : Hid (recsAt ⟨d0, d1, d2, d3, d4, d5⟩ l 0 ⟨#[]⟩ = m ++ takeI l k (stepN ⟨d0, d1, d2, d3, d4, d5⟩ sec l k hlt) (stepR ⟨d0, d1, d2, d3, d4, d5⟩ sec l k hlt) :: recsAt ⟨d0, d1, d2, d3, d4, d5⟩ l (k + stepN ⟨d0, d1, d2, d3, d4, d5⟩ sec l k hlt) (stepR ⟨d0, d1, d2, d3, d4, d5⟩ sec l k hlt).sect) := by
          unfold Hid
          rw [hF.out, HRS.out k sec hlt]
        have hsn := stepN_le ⟨d0, d1, d2, d3, d4, d5⟩ sec l k hlt
        have KK1 := KK.out wr b g k sec hP.out hlt
        rw [← (HST.out sec k hlt).1, ← (HST.out sec k hlt).2] at KK1
        have K1 := Lib.hid KK1
        clear KK1 hF
        generalize stepN ⟨d0, d1, d2, d3, d4, d5⟩ sec l k hlt = c at *
        generalize stepR ⟨d0, d1, d2, d3, d4, d5⟩ sec l k hlt = x at *
        have HM1 := Lib.hid hM1
        clear hM1
        go_wp2_with fail
        refine K1.out.mono ?_
        rintro e w4 ⟨y0, y1, y2, y3, y4, y5, hT, rfl, hp4, hu4⟩
        have hgr : wr.grownBy w4 (some b) := ⟨hu4.os, hu4.tape, hu4.output, hu4.size, fun j hj hn => hu4.block j hj (fun e => hn (by rw [e]))⟩
        have hown4 := hown.kept hgr (.inr (fun e => by have := own_blockL hown b e; omega))
        have hb4 := hb.grown hgr hb.size (fun j e => by injection e with e; omega)
        have hs4 := hu4.size
        have HP4 := Lib.hid hp4
        rw [hT] at HF
        clear hu4 hgr hown hb hp4 hP K1 p6 p7 hT
        go_wp2_with (at_builtin; refine wpList_append_own _ rfl _ _ 32 rfl Wf.heap.size 35 i0 (recV noRec) 6 80 Tryz.underlying32 hi hz0 hz1 hz2 rfl (by decide) _ _ _ rfl (hown4.alloc _) ⟨w4.heap.size, 0, none⟩ 1 1 (recCs ⟨y0, y1, y2, y3, y4, y5⟩) rfl rfl (World.news_of_block (cs := #[.int .i64 y0, .string y1, .string y2, .string y3, .string y4, .int .i64 y5]) (t := 35) (fr := (0, 0)) (heap_alloc_new w4 _)) (recS.one _) (by unfold maxLen; omega) (by omega) (by simp; omega) ?_; intro v7 w7 hown7 hgrow7 _)
        have hrow7 : w7.ownsRow Wf.heap.size 35 6 v7 (m ++ [(⟨y0, y1, y2, y3, y4, y5⟩ : RecD)]).length (rowCells recS (m ++ [⟨y0, y1, y2, y3, y4, y5⟩])) := by
          rw [rowCells_append, rowCells_single, List.length_append]
          exact hown7
        have hb7 : Below w.heap.size w w7 := (hb4.alloc (by omega) _).grown hgrow7 (by simp; omega) (fun j hj => by have := own_blockL hown4 j hj; omega)
        have hlow : Below Wf.heap.size w4 w7 := ((Below.refl Wf.heap.size w4).alloc (by omega) _).grown hgrow7 (by simp; omega) (own_blockL hown4)
        have HP7 := Lib.hid (HP4.out.lowP hlow hbW hgW)
        have hs7 : Wf.heap.size ≤ w7.heap.size := Nat.le_trans (by omega) hlow.size
        have HF7 : Hid (recsAt ⟨d0, d1, d2, d3, d4, d5⟩ l 0 ⟨#[]⟩ = (m ++ [⟨y0, y1, y2, y3, y4, y5⟩]) ++ recsAt ⟨d0, d1, d2, d3, d4, d5⟩ l (k + c) x.sect) := by
          unfold Hid
          rw [HF.out]
          simp
        have HM7 := Lib.hid (atOf_pa HP7.out.pa)
        clear hown7 hgrow7 hown4 hb4 HP4 hlow HF hs4
        go_wp2
        go_roundw
        case rel => exact ⟨k + c, x.sect, m ++ [⟨y0, y1, y2, y3, y4, y5⟩], by omega, by simp; omega, HF7, HP7, hrow7, hs7, hb7⟩
        case measure => rw [HM7.out, HM1.out]; omega
      · obtain rfl : k = l.length := by omega
        have HF : Hid (recsAt ⟨d0, d1, d2, d3, d4, d5⟩ l 0 ⟨#[]⟩ = m) := by
          unfold Hid
          rw [hF.out, HRE.out l.length sec (Nat.le_refl _)]
          simp
        have hmm : m.length ≤ 200 := by have := HLI.out; rw [HF.out] at this; exact this
        obtain ⟨gr, hrs, hgr⟩ := rowsIs_of_owns (S := recS) hown rfl hsw
        obtain ⟨a, cap, hv, _⟩ := hrs.form
        have KL := Lib.hid (fun w => limit_few w a m.length cap hmm)
        rw [← hv] at KL
        have HRS2 := Lib.hid hrs
        clear hF hv hown hrs
        go_wp2_with fail
        refine (KL.out _).mono ?_
        rintro e w5 ⟨rfl, rfl⟩
        go_wp2
        go_ret
        rw [HF.out]
        exact ⟨_, gr, rfl, HRS2.out, Nat.le_trans hbf (by omega), hb⟩

end Go.Proofs.YtkhkpjnpjgnckaaGreatDoor
