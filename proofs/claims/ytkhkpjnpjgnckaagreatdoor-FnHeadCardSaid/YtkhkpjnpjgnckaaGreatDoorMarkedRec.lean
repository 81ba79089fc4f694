/- A record of one line: the program's singleRec. -/
import Derived.Test.YtkhkpjnpjgnckaaGreatDoorProg
import Derived.Test.YtkhkpjnpjgnckaaGreatDoorPlain
import Derived.Test.YtkhkpjnpjgnckaaGreatDoorDialectRows
import Derived.Test.YtkhkpjnpjgnckaaGreatDoorRecRows
import Derived.Test.YtkhkpjnpjgnckaaGreatDoorRecArg
import Derived.Test.YtkhkpjnpjgnckaaGreatDoorLines
import Derived.Test.YtkhkpjnpjgnckaaGreatDoorJoin
import Derived.Test.YtkhkpjnpjgnckaaGreatDoorHeadSpec
import Derived.Test.YtkhkpjnpjgnckaaGreatDoorRecOf
import Derived.Test.YtkhkpjnpjgnckaaGreatDoorTakeImpl
import Derived.WalkKit
import Derived.WalkLawsBesides
import Derived.Deep.RegionWith
import Derived.Laws.IdiomStrings
import Derived.Lib.Hide
import Derived.IntWalk
import Derived.Outline
import Derived.Test.YtkhkpjnpjgnckaaGreatDoorTail
import Derived.Test.YtkhkpjnpjgnckaaGreatDoorBuild
import Derived.Test.YtkhkpjnpjgnckaaGreatDoorQuotSpec
import Derived.Test.YtkhkpjnpjgnckaaGreatDoorBareImpl
import Derived.Test.YtkhkpjnpjgnckaaGreatDoorUnescTop
import Derived.Test.YtkhkpjnpjgnckaaGreatDoorQuotImpl
import Derived.BigQuiet
import Derived.Deep.QuietTactic
import Derived.Lib.QuietBelow
set_option maxRecDepth 100000
namespace Go.Proofs.YtkhkpjnpjgnckaaGreatDoor
open Go.RowKit
set_option linter.unusedVariables false

/-- a record completed -/
def takeI (l : List Ln) (k c : Nat) (x : RecD) : RecD := ⟨x.kind, rawI l k c, x.sect, x.key, x.value, (k : Int) + 1⟩
/-- what is true of a parser as it goes -/
structure Pars (w : World) (b : Nat) (d : DialectD) (g : Nat) (l : List Ln) (k : Nat) (sec : ByteArray) : Prop where
  pa : PA w b d (.slice (some ⟨g, 0, none⟩) l.length l.length) k sec
  ls : LinesRd w (.slice (some ⟨g, 0, none⟩) l.length l.length) g 0 l
  ne : g ≠ b
  co : costL l ≤ 1048576
  se : d.seps.size ≤ 1048576
theorem Pars.over {w w' : World} {b : Nat} {d : DialectD} {g : Nat} {l : List Ln} {k : Nat} {sec : ByteArray} (h : Pars w b d g l k sec) (hb : Below w.heap.size w w') : Pars w' b d g l k sec :=
  ⟨h.pa.over hb, h.ls.below hb (fun hl => h.ls.lt hl), h.ne, h.co, h.se⟩
theorem Pars.text {w : World} {b : Nat} {d : DialectD} {g : Nat} {l : List Ln} {k : Nat} {sec : ByteArray} (h : Pars w b d g l k sec) (i : Nat) (hi : i < l.length) : w.cell? ⟨g, i * 2, none⟩ = some (.string l[i].1) := by
  have := h.ls.c0 i hi
  rwa [Nat.zero_add] at this
theorem Pars.size {w : World} {b : Nat} {d : DialectD} {g : Nat} {l : List Ln} {k : Nat} {sec : ByteArray} (h : Pars w b d g l k sec) (i : Nat) (hi : i < l.length) : l[i].1.size ≤ 1048576 := by
  have := costL_at l i hi
  have := h.co
  omega
theorem Pars.len {w : World} {b : Nat} {d : DialectD} {g : Nat} {l : List Ln} {k : Nat} {sec : ByteArray} (h : Pars w b d g l k sec) : l.length ≤ 1048576 := by
  have := joinB_len l
  have := h.co
  omega
theorem Pars.set {w : World} {b h j : Nat} {d : DialectD} {g : Nat} {l : List Ln} {k : Nat} {sec : ByteArray} (p : Pars w b d g l k sec) (hb : b ≠ h) (hg : g ≠ h) (v : Value) : Pars (w.setCell ⟨h, j, none⟩ v) b d g l k sec :=
  ⟨p.pa.set hb v, p.ls.kept (fun _ => Below.heap_setCell _ _ _ g hg), p.ne, p.co, p.se⟩
theorem Pars.set6 {w : World} {b h : Nat} {d : DialectD} {g : Nat} {l : List Ln} {k : Nat} {sec : ByteArray} (p : Pars w b d g l k sec) (hb : b ≠ h) (hg : g ≠ h) (a0 : Int) (a1 a2 a3 a4 : ByteArray) (a5 : Int) : Pars ((((((w.setCell ⟨h, 0, none⟩ (.int .i64 a0)).setCell ⟨h, 1, none⟩ (.string a1)).setCell ⟨h, 2, none⟩ (.string a2)).setCell ⟨h, 3, none⟩ (.string a3)).setCell ⟨h, 4, none⟩ (.string a4)).setCell ⟨h, 5, none⟩ (.int .i64 a5)) b d g l k sec :=
  (((((p.set hb hg _).set hb hg _).set hb hg _).set hb hg _).set hb hg _).set hb hg _
theorem But.put6 {B b : Nat} {w0 w : World} (u : But B b w0 w) (h : Nat) (hh : B ≤ h) (a0 : Int) (a1 a2 a3 a4 : ByteArray) (a5 : Int) : But B b w0 ((((((w.setCell ⟨h, 0, none⟩ (.int .i64 a0)).setCell ⟨h, 1, none⟩ (.string a1)).setCell ⟨h, 2, none⟩ (.string a2)).setCell ⟨h, 3, none⟩ (.string a3)).setCell ⟨h, 4, none⟩ (.string a4)).setCell ⟨h, 5, none⟩ (.int .i64 a5)) :=
  (((((u.put h 0 (.inl hh) _).put h 1 (.inl hh) _).put h 2 (.inl hh) _).put h 3 (.inl hh) _).put h 4 (.inl hh) _).put h 5 (.inl hh) _
/-- what a step of the parser leaves -/
def Stepped (w : World) (b : Nat) (d : DialectD) (g : Nat) (l : List Ln) (k c : Nat) (x : RecD) (e : Ending) (w' : World) : Prop := e = .returned (recV (takeI l k c x)) ∧ Pars w' b d g l (k + c) x.sect ∧ But w.heap.size b w w'
theorem stepped {w : World} {b : Nat} {d : DialectD} {g : Nat} {l : List Ln} {k c : Nat} {x y : RecD} {w' : World} (h0 : takeI l k c x = y) (h1 : Pars w' b d g l (k + c) x.sect) (h2 : But w.heap.size b w w') : Stepped w b d g l k c x (.returned (recV y)) w' := ⟨by rw [h0], h1, h2⟩
theorem take_any {d : DialectD} {w : World} {b k c : Nat} {sec : ByteArray} {g : Nat} {l : List Ln} (x : RecD) (h : Pars w b d g l k sec) (h1 : 1 ≤ c) (hk : k + c ≤ l.length) :
    Calls Tryz.prog 83 #[.pointer (some ⟨b, 0, none⟩), .int .i64 (c : Int), recV x] w (Stepped w b d g l k c x) := by
  refine (take_impl d w b k c sec g l x h.pa h.ls h.ne h1 hk h.co).mono ?_
  rintro e w' ⟨rfl, hp, hu⟩
  exact ⟨rfl, ⟨hp, h.ls.kept (fun hl => hu.block g (h.ls.lt hl) h.ne), h.ne, h.co, h.se⟩, hu⟩

set_option maxHeartbeats 1600000 in
theorem singleRec_impl (d : DialectD) (w : World) (b k : Nat) (sec : ByteArray) (g : Nat) (l : List Ln) (h : Pars w b d g l k sec) (hk : k < l.length) :
    Calls Tryz.prog 57 #[.pointer (some ⟨b, 0, none⟩)] w (Stepped w b d g l k 1 (recI d sec l[k].1)) := by
  have hbl := h.pa.lt
  have hb0 := (Below.refl w.heap.size w).alloc (Nat.le_refl _) (.cells #[.int .i64 0, .string ⟨#[]⟩, .string ⟨#[]⟩, .string ⟨#[]⟩, .string ⟨#[]⟩, .int .i64 0] 35)
  have HB := Lib.hid (recAt_new w noRec)
  have hs0 : w.heap.size < (w.alloc (.cells #[.int .i64 0, .string ⟨#[]⟩, .string ⟨#[]⟩, .string ⟨#[]⟩, .string ⟨#[]⟩, .int .i64 0] 35)).heap.size := by simp
  have h0 := h.over hb0
  have KR := Lib.hid (fun W (hW : Pars W b d g l k sec) => recOf_impl d l[k].1 W b _ k sec hW.pa (h.size k hk) h.se)
  have hlen := h.len
  generalize recI d sec l[k].1 = x at *
  have HT : Hid (takeI l k 1 x = ⟨x.kind, rawI l k 1, x.sect, x.key, x.value, (k : Int) + 1⟩) := rfl
  generalize rawI l k 1 = raw at *
  have hr1 : (k : Int) < (l.length : Int) := by omega
  have n1 : b ≠ w.heap.size := by omega
  have n2 : w.heap.size ≠ b := by omega
  have n3 : g ≠ w.heap.size := by
    have := h.ls.lt (by intro e; subst e; simp at hk)
    omega
  have KT := Lib.hid (fun W (hW : Pars W b d g l k sec) => (take_any x hW (Nat.le_refl 1) (by omega)).mono (fun e w' (h : Stepped W b d g l k 1 x e w') => h))
  have HB2 : Hid (RecAt (w.alloc (.cells #[.int .i64 0, .string ⟨#[]⟩, .string ⟨#[]⟩, .string ⟨#[]⟩, .string ⟨#[]⟩, .int .i64 0] 35)) w.heap.size noRec) := HB.out
  clear HB
  go_enter Tryz.func57, Tryz.ntmps57
  go_wp2_with fail
  generalize w.alloc (.cells #[.int .i64 0, .string ⟨#[]⟩, .string ⟨#[]⟩, .string ⟨#[]⟩, .string ⟨#[]⟩, .int .i64 0] 35) = W at *
  obtain ⟨p0, p1, p2, p3, p4, p5, p6, p7, p8⟩ := h0.pa.cells
  clear p0 p1 p2 p3 p4 p5 p8
  have t0 := h0.text k hk
  have KR1 : Hid (Calls Tryz.prog 84 #[.pointer (some ⟨b, 0, none⟩), .string l[k].1] W.drew fun e w' => e = .returned (recV x) ∧ Below W.heap.size W w') := by
    refine (KR.out _ (h0.over (below_drewN (Below.refl _ _) 1))).mono ?_
    rintro e w' ⟨rfl, hb⟩
    exact ⟨rfl, (below_drewN (Below.refl _ _) 1).trans hb⟩
  clear KR
  generalize l[k].1 = tx at *
  have H0 := Lib.hid h0
  have HB0 := Lib.hid hb0
  clear h0 hb0
  obtain ⟨x0, x1, x2, x3, x4, x5⟩ := x
  unfold recV at *
  simp only at KR1 KT HT
  have KT1 : Hid (∀ w1, Below W.heap.size W w1 → Calls Tryz.prog 83 #[.pointer (some ⟨b, 0, none⟩), .int .i64 1, .agg #[.int .i64 x0, .string x1, .string x2, .string x3, .string x4, .int .i64 x5]] w1 fun e w2 => e = .returned (.agg #[.int .i64 x0, .string raw, .string x2, .string x3, .string x4, .int .i64 ((k : Int) + 1)]) ∧ Pars w2 b d g l (k + 1) x2 ∧ But W.heap.size b W w2) := by
    intro w1 hb1
    refine (KT.out w1 (H0.out.over hb1)).mono ?_
    rintro e w2 ⟨rfl, hp, hu⟩
    exact ⟨by rw [HT.out]; rfl, hp, (But.of hb1).trans (hu.mono hb1.size)⟩
  clear KT
  go_region_with (first
    | ((with_reducible refine KR1.out.mono ?_); rintro e w1 ⟨rfl, hb1⟩; have KT2 := Lib.hid (KT1.out w1 hb1))
    | ((with_reducible refine KT2.out.mono ?_); rintro e w2 ⟨rfl, hp2, hu2⟩; have hB2 : RecAt w2 w.heap.size noRec := by { unfold RecAt; rw [hu2.block _ hs0 n2]; exact HB2.out }; obtain ⟨a0, a1, a2, a3, a4, a5⟩ := hB2.cells; simp only [noRec] at a0 a1 a2 a3 a4 a5; have f0 := hB2.free 0; have f1 := hB2.free 1; have f2 := hB2.free 2; have f3 := hB2.free 3; have f4 := hB2.free 4; have f5 := hB2.free 5; have HB3 := Lib.hid hB2; have HP2 := Lib.hid hp2; have HU2 := Lib.hid hu2; clear hB2 hp2 hu2))
  all_goals
    go_wp2
    (try simp only [Exit.inBlock, Exit.then])
    exact bodyPost_ret (rec_result _ w.heap.size _ _ _ _ rfl rfl (HB3.out.put6 _ _ _ _ _ _)) rfl (stepped HT.out (HP2.out.set6 n1 n3 _ _ _ _ _ _) (((But.of HB0.out).trans (HU2.out.mono HB0.out.size)).put6 _ (Nat.le_refl _) _ _ _ _ _ _))

end Go.Proofs.YtkhkpjnpjgnckaaGreatDoor

/- Lines that a mark joins: the program's joinMarked. -/
set_option maxRecDepth 100000
namespace Go.Proofs.YtkhkpjnpjgnckaaGreatDoor
open Go.RowKit
set_option linter.unusedVariables false

/-! a builder kept over what happens above -/
theorem builtAt_overM {T e B b : Nat} {p : Value} {bs : List Value} {w w' : World} (h : Lib.BuilderAtF T e B b p bs w) (hb : Below w.heap.size w w') : Lib.BuilderAtF T e B b p bs w' := by
  obtain ⟨hB, v, hbk, hown, hne⟩ := h
  refine ⟨hB, v, (hb.block b (Array.getElem?_eq_some_iff.1 hbk).1).trans hbk, ⟨hown.1, ?_⟩, hne⟩
  rcases hown.2 with h2 | ⟨g, cap, cur, fz, hv, hg0, hg, h5, h6, h7, h8, h9⟩
  · exact .inl h2
  · exact .inr ⟨g, cap, cur, fz, hv, hg0, (hb.block g (Array.getElem?_eq_some_iff.1 hg).1).trans hg, h5, h6, h7, h8, h9⟩
theorem built_overM {B b : Nat} {l : List UInt8} {w w' : World} (h : BuiltF B b l w) (hb : Below w.heap.size w w') : BuiltF B b l w' := by
  rcases h with h | h
  · exact .inl (builtAt_overM h hb)
  · exact .inr (builtAt_overM h hb)

/-- a text without its last byte -/
def butLast (s : ByteArray) : ByteArray := s.extract 0 (s.size - 1)
abbrev slashB : ByteArray := ⟨#[92]⟩
theorem tail_last (s : ByteArray) (h : tailN s ≠ 0) : 0 < s.size ∧ s.extract (s.size - 1) s.size = slashB := by
  unfold tailN at h
  rcases List.eq_nil_or_concat s.data.toList with h0 | ⟨i, c, h0⟩
  · rw [h0] at h; simp at h
  · rw [List.concat_eq_append] at h0
    have hz : s.size = i.length + 1 := by rw [Lib.size_eq, h0]; simp
    rw [h0, List.reverse_append] at h
    simp only [List.reverse_cons, List.reverse_nil, List.nil_append, List.cons_append, List.takeWhile_cons] at h
    have hc : c = 92 := by
      cases hcc : (c == 92)
      · rw [hcc] at h; simp at h
      · simpa using hcc
    refine ⟨by omega, same_data ?_⟩
    rw [ext_data, h0, hz, hc]
    simp
set_option maxHeartbeats 1600000 in
theorem hasSlash_any (s : ByteArray) (w : World) (hs : s.size ≤ 1048576) (h0 : 0 < s.size) (he : s.extract (s.size - 1) s.size = slashB) :
    Calls Tryz.prog 144 #[.string s, .string slashB] w fun e w' => e = .returned (.bool true) ∧ w = w' := by
  have h1 : (1 : Int) ≤ (s.size : Int) := by omega
  have h2 : ((s.size : Int) - 1).toNat = s.size - 1 := by omega
  have h3 : (s.size : Int) - 1 ≤ (s.size : Int) := by omega
  have h4 : (0 : Int) ≤ (s.size : Int) - 1 := by omega
  have h5 : ((s.extract (s.size - 1) s.size).toList == [92]) = true := by rw [he, Lib.toList_data]; rfl
  have h6 : Hid (s.extract (s.size - 1) s.size = slashB) := he
  clear he
  go_enter Tryz.func144, Tryz.ntmps144
  go_wp2
  go_ret
  exact ⟨rfl, rfl⟩
set_option maxHeartbeats 1600000 in
theorem trimSlash_lite (s : ByteArray) (w : World) (hs : s.size ≤ 1048576) (h0 : 0 < s.size) (he : s.extract (s.size - 1) s.size = slashB) :
    Calls Tryz.prog 103 #[.string s, .string slashB] w fun e w' => e = .returned (.string (butLast s)) ∧ w = w' := by
  have K := Lib.hid (fun w => hasSlash_any s w hs h0 he)
  have h1 : (1 : Int) ≤ (s.size : Int) := by omega
  have h2 : ((s.size : Int) - 1).toNat = s.size - 1 := by omega
  have h3 : (s.size : Int) - 1 ≤ (s.size : Int) := by omega
  have h4 : (0 : Int) ≤ (s.size : Int) - 1 := by omega
  have HV : Hid (butLast s = s.extract 0 (s.size - 1)) := rfl
  clear he
  go_enter Tryz.func103, Tryz.ntmps103
  go_wp2_with fail
  refine (K.out _).mono ?_
  rintro e w' ⟨rfl, rfl⟩
  go_wp2
  go_ret
  exact ⟨by rw [HV.out]; rfl, rfl⟩
theorem trimSlash_any (s : ByteArray) (w : World) (hs : s.size ≤ 1048576) (h : tailN s ≠ 0) :
    Calls Tryz.prog 70 #[.string s, .string slashB] w fun e w' => e = .returned (.string (butLast s)) ∧ w = w' := by
  have K := Lib.hid (fun w => trimSlash_lite s w hs (tail_last s h).1 (tail_last s h).2)
  generalize butLast s = x at *
  go_enter Tryz.func70, Tryz.ntmps70
  go_wp2_with fail
  refine (K.out _).mono ?_
  rintro e w' ⟨rfl, rfl⟩
  go_wp2
  go_ret
  exact ⟨rfl, rfl⟩

/-- lines joined by a mark: their text, and how many they are -/
def jmI : List Ln → List UInt8 × Nat
  | [] => ([], 0)
  | x :: r => if x.2.size = 0 ∨ tailN (start5 x.1) % 2 = 0 then ((start5 x.1).data.toList, 1) else ((butLast (start5 x.1)).data.toList ++ (jmI r).1, (jmI r).2 + 1)
theorem jmI_len (l : List Ln) : (jmI l).1.length ≤ (joinB l).length := by
  induction l with
  | nil => exact Nat.le_refl _
  | cons x r ih =>
    have h1 := start5_size x.1
    have h2 : (joinB (x :: r)).length = x.1.size + x.2.size + (joinB r).length := by
      simp only [joinB, List.flatMap_cons, List.length_append, ← Lib.size_eq]
    have h3 : (butLast (start5 x.1)).size ≤ (start5 x.1).size := by unfold butLast; rw [ByteArray.size_extract]; omega
    unfold jmI
    split
    · simp only [← Lib.size_eq]; omega
    · simp only [List.length_append, ← Lib.size_eq]; omega
theorem jmI_count (l : List Ln) : (jmI l).2 ≤ l.length ∧ (l ≠ [] → 1 ≤ (jmI l).2) := by
  induction l with
  | nil => exact ⟨Nat.le_refl _, fun h => absurd rfl h⟩
  | cons x r ih =>
    unfold jmI
    split
    · simp
    · simp only [List.length_cons]; omega
/-- its text, as a text -/
def jmT (l : List Ln) : ByteArray := ⟨(jmI l).1.toArray⟩
theorem drop_at (l : List Ln) (k : Nat) (h : k < l.length) : l.drop k = l[k] :: l.drop (k + 1) := List.drop_eq_getElem_cons h

set_option maxHeartbeats 3200000 in
theorem joinMarked_impl (w : World) (u : Value) (g o : Nat) (l : List Ln) (hu : LinesRd w u g o l) (hl : costL l ≤ 1048576) (hg : l ≠ [] → g < w.heap.size) :
    Calls Tryz.prog 82 #[u] w fun e w' => e = .returned (.tuple #[.string (jmT l), .int .i64 (((jmI l).2 : Nat) : Int)]) ∧ Below w.heap.size w w' := by
  obtain ⟨a, cap, rfl, ha⟩ := hu.form
  have hll : l.length ≤ 1048576 := by have := joinB_len l; omega
  have CU := Lib.hid hu
  have HA := Lib.hid ha
  clear hu ha
  have h0 : BuiltF w.heap.size w.heap.size [] (w.alloc (.cells #[.pointer none, .slice none 0 0] 95)) := Lib.IsBuilderF.of (Lib.fresh_isBuilder 95 5 w)
  have H0 := Lib.hid h0
  clear h0
  have HT : Hid (jmT l = ⟨(jmI l).1.toArray⟩) := rfl
  have HL : Hid ((joinB l).length ≤ 1048576) := by unfold Hid; have := joinB_len l; omega
  have HJ := Lib.hid (jmI_len)
  have HP : Hid (∀ k (h : k < l.length), (start5 l[k].1).size ≤ 1048576) := by
    intro k h
    have := costL_at l k h
    rw [start5_size]; omega
  have HJB : Hid (∀ k, k < l.length → (joinB (l.drop k)).length ≤ 1048576) := by
    intro k h
    have h1 := joinB_len (l.drop k)
    have h2 := costL_drop l k
    omega
  generalize jmT l = jt at *
  go_enter Tryz.func82, Tryz.ntmps82
  go_wp2
  go_loopw [10] (fun i wr => ∃ (k : Nat) (z : List UInt8), k ≤ l.length ∧ i = .int .i64 k ∧ Hid (BuiltF w.heap.size w.heap.size z wr) ∧ Hid (jmI l = (z ++ (jmI (l.drop k)).1, k + (jmI (l.drop k)).2)) ∧ Hid (z.length ≤ 1048576) ∧ w.heap.size < wr.heap.size ∧ Below w.heap.size w wr) (fun i _ => l.length - (intOf i).toNat)
  case atStart => exact ⟨0, [], Nat.zero_le _, rfl, H0, by unfold Hid; simp, by unfold Hid; simp, by simp, (Below.refl _ _).alloc (Nat.le_refl _) _⟩
  case round =>
    obtain ⟨k, z, hk, rfl, hB, hz, hzl, hsz, hb⟩ := hrel
    clear H0
    by_cases hlt : k < l.length
    · have hln : l ≠ [] := by intro e; subst e; simp at hlt
      obtain rfl := HA.out hln
      have hgl := hg hln
      have q1 := (hb.cell (p := ⟨g, o + k * 2, none⟩) hgl).trans (CU.out.c0 k hlt)
      have q2 := (hb.cell (p := ⟨g, o + k * 2 + 1, none⟩) hgl).trans (CU.out.c1 k hlt)
      have HD : Hid (jmI (l.drop k) = if l[k].2.size = 0 ∨ tailN (start5 l[k].1) % 2 = 0 then ((start5 l[k].1).data.toList, 1) else ((butLast (start5 l[k].1)).data.toList ++ (jmI (l.drop (k + 1))).1, (jmI (l.drop (k + 1))).2 + 1)) := by
        unfold Hid
        rw [drop_at l k hlt]
        rfl
      have hps := HP.out k hlt
      generalize l[k] = x at *
      obtain ⟨x1, x2⟩ := x
      simp only at HD hps q1 q2
      have K0 := Lib.hid (fun w => trimStart_impl x1 w)
      have K1 := Lib.hid (fun w => tail_impl (start5 x1) w (by unfold maxLen; omega))
      have K2 := Lib.hid (fun w (h : tailN (start5 x1) ≠ 0) => trimSlash_any (start5 x1) w hps h)
      have htl := tailN_le (start5 x1)
      have hbs : (butLast (start5 x1)).size ≤ (start5 x1).size := by unfold butLast; rw [ByteArray.size_extract]; omega
      go_wp2_with fail
      have hB1 : BuiltF w.heap.size w.heap.size z (wr.alloc (.cells #[.string x1, .string x2] 75)) := hB.out.alloc _
      refine (K0.out _).mono ?_
      rintro e w1 ⟨rfl, hb1⟩
      have hB2 := Lib.hid (built_overM hB1 hb1)
      have hbl : w1.heap[wr.heap.size]? = some (.cells #[.string x1, .string x2] 75 (0, 0)) := by rw [hb1.block _ (by simp)]; exact heap_alloc_new _ _
      have c1 : w1.cell? ⟨wr.heap.size, 1, none⟩ = some (.string x2) := by rw [Lib.cell_of_heap hbl]; rfl
      have hs1 : w.heap.size < w1.heap.size := by have := hb1.size; simp at this; omega
      have hb3 := (hb.alloc (by omega) _).trans (hb1.mono (by simp; omega))
      clear hB hB1 hbl hb1 hb K0 q1 q2
      by_cases hx : x2.size = 0
      · obtain ⟨e1, e2⟩ := text_none x2 hx
        have HF : Hid (jmI l = (z ++ (start5 x1).data.toList, k + 1)) := by unfold Hid; rw [hz.out, HD.out, if_pos (.inl hx)]
        clear HD hz hx K1 K2 htl hbs
        generalize start5 x1 = p at *
        go_wp2_with fail
        refine (built_write w.heap.size w.heap.size z p _ hB2.out (by have := hzl.out; omega) (by omega)).mono ?_
        rintro e w4 ⟨rfl, hB4, hb4, _⟩
        have HB4 := Lib.hid hB4
        have hb5 := hb3.trans hb4
        have hs4 := Nat.lt_of_lt_of_le hs1 hb4.size
        clear hB4 hb4 hB2 hb3
        go_wp2_with fail
        refine (built_string w.heap.size w.heap.size (z ++ p.data.toList) _ HB4.out (by omega)).mono ?_
        rintro e w5 ⟨rfl, _, hb6, _⟩
        have hb7 := hb5.trans hb6
        clear HB4 hb6
        go_wp2
        go_ret2
        exact ⟨by rw [HT.out, HF.out]; rfl, hb7⟩
      · obtain ⟨e1, e2⟩ := text_some x2 (by omega)
        go_wp2_with fail
        refine (K1.out _).mono ?_
        rintro e w2 ⟨rfl, hb2⟩
        replace hB2 := Lib.hid (built_overM hB2.out hb2)
        replace hb3 := hb3.trans (hb2.mono (by omega))
        replace hs1 := Nat.lt_of_lt_of_le hs1 hb2.size
        clear hb2 K1 c1
        by_cases ht : tailN (start5 x1) % 2 = 0
        · have HF : Hid (jmI l = (z ++ (start5 x1).data.toList, k + 1)) := by unfold Hid; rw [hz.out, HD.out, if_pos (.inr ht)]
          have ht2 : (((tailN (start5 x1) : Int) % 2) == 0) = true := by rw [beq_iff_eq]; omega
          clear HD hz hx K2 hbs ht
          generalize tailN (start5 x1) = tn at *
          generalize start5 x1 = p at *
          go_wp2_with fail
          refine (built_write w.heap.size w.heap.size z p _ hB2.out (by have := hzl.out; omega) (by omega)).mono ?_
          rintro e w4 ⟨rfl, hB4, hb4, _⟩
          have HB4 := Lib.hid hB4
          have hb5 := hb3.trans hb4
          have hs4 := Nat.lt_of_lt_of_le hs1 hb4.size
          clear hB4 hb4 hB2 hb3
          go_wp2_with fail
          refine (built_string w.heap.size w.heap.size (z ++ p.data.toList) _ HB4.out (by omega)).mono ?_
          rintro e w5 ⟨rfl, _, hb6, _⟩
          have hb7 := hb5.trans hb6
          clear HB4 hb6
          go_wp2
          go_ret2
          exact ⟨by rw [HT.out, HF.out]; rfl, hb7⟩
        · have HF : Hid (jmI l = (z ++ (butLast (start5 x1)).data.toList ++ (jmI (l.drop (k + 1))).1, k + 1 + (jmI (l.drop (k + 1))).2)) := by
            unfold Hid
            rw [hz.out, HD.out, if_neg (by rintro (h | h); exact hx h; exact ht h)]
            simp only [List.append_assoc, Prod.mk.injEq, true_and]
            omega
          have ht2 : (((tailN (start5 x1) : Int) % 2) == 0) = false := by rw [beq_eq_false_iff_ne]; omega
          have K3 := Lib.hid (fun w => K2.out w (by omega))
          have hz2 : Hid ((z ++ (butLast (start5 x1)).data.toList).length ≤ 1048576) := by
            have h1 := HJ.out l
            rw [HF.out] at h1
            simp only [List.length_append] at h1 ⊢
            have := HL.out
            unfold Hid
            omega
          have hbs2 : (butLast (start5 x1)).size ≤ 1048576 := by omega
          clear HD hz hx K2 ht hbs
          generalize butLast (start5 x1) = bl at *
          generalize tailN (start5 x1) = tn at *
          generalize start5 x1 = p at *
          go_wp2_with fail
          refine (K3.out _).mono ?_
          rintro e w3 ⟨rfl, rfl⟩
          clear K3
          go_wp2_with fail
          refine (built_write w.heap.size w.heap.size z bl _ hB2.out (by have := hzl.out; omega) (by omega)).mono ?_
          rintro e w4 ⟨rfl, hB4, hb4, _⟩
          have HB4 := Lib.hid hB4
          have hb5 := hb3.trans hb4
          have hs4 := Nat.lt_of_lt_of_le hs1 hb4.size
          clear hB4 hb4 hB2 hb3 hzl
          go_wp2
          go_roundw
          case rel => exact ⟨k + 1, z ++ bl.data.toList, by omega, by go_num, HB4, HF, hz2, hs4, hb5⟩
          case measure => simp [intOf]; omega
    · obtain rfl : k = l.length := by omega
      have HF : Hid (jmI l = (z, l.length)) := by unfold Hid; rw [hz.out, List.drop_length]; simp [jmI]
      clear hz
      go_wp2_with fail
      refine (built_string w.heap.size w.heap.size z _ hB.out (by omega)).mono ?_
      rintro e w2 ⟨rfl, _, hb4, _⟩
      have hb5 := hb.trans hb4
      clear hB hb4
      go_wp2
      go_ret2
      exact ⟨by rw [HT.out, HF.out]; rfl, hb5⟩

end Go.Proofs.YtkhkpjnpjgnckaaGreatDoor

/- A record of lines that a mark joins: the program's markedRec. -/
set_option maxRecDepth 100000
namespace Go.Proofs.YtkhkpjnpjgnckaaGreatDoor
open Go.RowKit Go.Sort
set_option linter.unusedVariables false

theorem lines_rest {w : World} {g n cap : Nat} {l : List Ln} (h : LinesRd w (.slice (some ⟨g, 0, none⟩) l.length n) g 0 l) (k : Nat) (hk : k ≤ l.length) : LinesRd w (.slice (some ⟨g, k * 2, none⟩) (l.length - k) cap) g (k * 2) (l.drop k) := by
  have := lines_from (cap := cap) h k (l.length - k) (by omega)
  rwa [List.take_of_length_le (by rw [List.length_drop]; omega)] at this
/-- how many lines a mark joins, and their text -/
def markN (d : DialectD) (l : List Ln) (k : Nat) (h : k < l.length) : Nat := if isN d (start5 l[k].1) then 1 else (jmI (l.drop k)).2
def markT (d : DialectD) (l : List Ln) (k : Nat) (h : k < l.length) : ByteArray := if isN d (start5 l[k].1) then l[k].1 else jmT (l.drop k)
theorem markN_le (d : DialectD) (l : List Ln) (k : Nat) (h : k < l.length) : 1 ≤ markN d l k h ∧ k + markN d l k h ≤ l.length := by
  unfold markN
  split
  · omega
  · have := jmI_count (l.drop k)
    rw [List.length_drop] at this
    have h2 : l.drop k ≠ [] := by intro e; have := congrArg List.length e; rw [List.length_drop] at this; simp at this; omega
    have := this.2 h2
    omega
theorem jmT_size (l : List Ln) (hl : costL l ≤ 1048576) (k : Nat) : (jmT (l.drop k)).size ≤ 1048576 := by
  have h1 := jmI_len (l.drop k)
  have h2 := joinB_len (l.drop k)
  have h3 := costL_drop l k
  unfold jmT
  rw [Lib.size_eq]
  simp only
  omega

/-- a step's answer, field by field -/
def StepV (w : World) (b : Nat) (d : DialectD) (g : Nat) (l : List Ln) (k c : Nat) (x : RecD) (e : Ending) (w' : World) : Prop := ∃ (y0 : Int) (y1 y2 y3 y4 : ByteArray) (y5 : Int), takeI l k c x = ⟨y0, y1, y2, y3, y4, y5⟩ ∧ e = .returned (.agg #[.int .i64 y0, .string y1, .string y2, .string y3, .string y4, .int .i64 y5]) ∧ Pars w' b d g l (k + c) x.sect ∧ But w.heap.size b w w'
theorem stepV {w : World} {b : Nat} {d : DialectD} {g : Nat} {l : List Ln} {k c : Nat} {x : RecD} {e : Ending} {w' : World} (h : Stepped w b d g l k c x e w') : StepV w b d g l k c x e w' :=
  ⟨_, _, _, _, _, _, rfl, h.1, h.2.1, h.2.2⟩
set_option maxHeartbeats 3200000 in
theorem markedRec_impl (d : DialectD) (w : World) (b k : Nat) (sec : ByteArray) (g : Nat) (l : List Ln) (h : Pars w b d g l k sec) (hk : k < l.length) :
    Calls Tryz.prog 55 #[.pointer (some ⟨b, 0, none⟩)] w (Stepped w b d g l k (markN d l k hk) (recI d sec (markT d l k hk))) := by
  have hbl := h.pa.lt
  have hb0 := (Below.refl w.heap.size w).alloc (Nat.le_refl _) (.cells #[.int .i64 0, .string ⟨#[]⟩, .string ⟨#[]⟩, .string ⟨#[]⟩, .string ⟨#[]⟩, .int .i64 0] 35)
  have HB2 : Hid (RecAt (w.alloc (.cells #[.int .i64 0, .string ⟨#[]⟩, .string ⟨#[]⟩, .string ⟨#[]⟩, .string ⟨#[]⟩, .int .i64 0] 35)) w.heap.size noRec) := recAt_new w noRec
  have hs0 : w.heap.size < (w.alloc (.cells #[.int .i64 0, .string ⟨#[]⟩, .string ⟨#[]⟩, .string ⟨#[]⟩, .string ⟨#[]⟩, .int .i64 0] 35)).heap.size := by simp
  have h0 := h.over hb0
  have hlen := h.len
  have hr1 : (k : Int) < (l.length : Int) := by omega
  have n1 : b ≠ w.heap.size := by omega
  have n2 : w.heap.size ≠ b := by omega
  have n3 : g ≠ w.heap.size := by
    have := h.ls.lt (by intro e; subst e; simp at hk)
    omega
  have hls := start5_size l[k].1
  have htx := h.size k hk
  have K0 := Lib.hid (fun w => trimStart_impl l[k].1 w)
  have K1 := Lib.hid (fun w => isNote_impl d (start5 l[k].1) w (by omega))
  have KR := Lib.hid (fun (W : World) (x : ByteArray) (hx : x.size ≤ 1048576) (hW : Pars W b d g l k sec) => recOf_impl d x W b _ k sec hW.pa hx h.se)
  have KS := Lib.hid (fun (W : World) (hW : Pars W b d g l k sec) => singleRec_impl d W b k sec g l hW hk)
  have hjz := jmT_size l h.co k
  have hjc := jmI_count (l.drop k)
  have hjn : l.drop k ≠ [] := by intro e; have := congrArg List.length e; rw [List.length_drop] at this; simp at this; omega
  have hj1 := hjc.2 hjn
  have hj2 : k + (jmI (l.drop k)).2 ≤ l.length := by have := hjc.1; rw [List.length_drop] at this; omega
  have hcd := Nat.le_trans (costL_drop l k) h.co
  have KJ := Lib.hid (fun (W : World) (hW : Pars W b d g l k sec) => joinMarked_impl W (.slice (some ⟨g, k * 2, none⟩) (l.length - k) (l.length - k)) g (k * 2) (l.drop k) (lines_rest hW.ls k (by omega)) hcd (fun _ => hW.ls.lt (by intro e; subst e; simp at hk)))
  have KT := Lib.hid (fun (W : World) (x : RecD) (hW : Pars W b d g l k sec) => take_any (c := (jmI (l.drop k)).2) x hW hj1 hj2)
  have HN1 : Hid (isN d (start5 l[k].1) = true → markN d l k hk = 1 ∧ markT d l k hk = l[k].1) := by
    intro e; unfold markN markT; rw [e]; exact ⟨rfl, rfl⟩
  have HN2 : Hid (isN d (start5 l[k].1) = false → markN d l k hk = (jmI (l.drop k)).2 ∧ markT d l k hk = jmT (l.drop k)) := by
    intro e; unfold markN markT; rw [e]; exact ⟨rfl, rfl⟩
  clear hcd hjc hjn hls htx
  generalize markN d l k hk = mn at *
  generalize markT d l k hk = mt at *
  generalize isN d (start5 l[k].1) = nn at *
  generalize jmT (l.drop k) = jt at *
  generalize (jmI (l.drop k)).2 = jc at *
  have hr2 : ¬ l.length = k := by omega
  have hr3 : (k : Int) ≤ (l.length : Int) := by omega
  have t0 := h0.text k hk
  generalize start5 l[k].1 = sx at *
  generalize l[k].1 = tx at *
  have H0 := Lib.hid h0
  have HB0 := Lib.hid hb0
  clear hb0
  obtain ⟨d0, d1, d2, d3, d4, d5⟩ := d
  unfold dialectV at *
  simp only at K0 K1
  go_enter Tryz.func55, Tryz.ntmps55
  go_wp2_with fail
  generalize w.alloc (.cells #[.int .i64 0, .string ⟨#[]⟩, .string ⟨#[]⟩, .string ⟨#[]⟩, .string ⟨#[]⟩, .int .i64 0] 35) = W at *
  obtain ⟨p0, p1, p2, p3, p4, p5, p6, p7, p8⟩ := h0.pa.cells
  simp only at p0 p1 p2 p3 p4 p5
  have x0 := cell_regrown p0
  have x1 := cell_regrown p1
  have x2 := cell_regrown p2
  have x3 := cell_regrown p3
  have x4 := cell_regrown p4
  have x5 := cell_regrown p5
  have x6 := cell_regrown p6
  have x7 := cell_regrown p7
  have xt := cell_regrown t0
  clear p0 p1 p2 p3 p4 p5 p6 p7 p8 h0 t0
  have KA : Hid (∀ q os, Calls Tryz.prog 63 #[.string tx] (grow (redrawn W q) os) fun e w' => e = .returned (.string sx) ∧ ∃ p : Regrown, w' = grow (redrawn W p.d) p.os) := by
    intro q os
    exact Calls.regrown_of (K0.out _)
  have KB : Hid (∀ q os, Calls Tryz.prog 81 #[.agg #[.string d0, .string d1, .bool d2, .bool d3, .bool d4, .int .i64 d5], .string sx] (grow (redrawn W q) os) fun e w' => e = .returned (.bool nn) ∧ ∃ p : Regrown, w' = grow (redrawn W p.d) p.os) := by
    intro q os
    exact Calls.regrown_of (K1.out _)
  clear K0 K1
  refine wp_region_quiet_below (by kernel_rfl) (by kernel_rfl) ?_
  repeat (go_big_quiet_step (first | with_reducible exact KA.out _ _ | with_reducible exact KB.out _ _))
  refine wpQuiet_nil ?_
  intro _ hw'
  obtain ⟨⟨dq, osq⟩, hw''⟩ := hw'
  subst hw''
  have hbq := below_regrown W dq osq
  replace H0 := Lib.hid (H0.out.over hbq)
  replace HB0 := Lib.hid (HB0.out.trans (hbq.mono HB0.out.size))
  replace HB2 := Lib.hid (HB2.out.over hbq hs0)
  replace hs0 := Nat.lt_of_lt_of_le hs0 hbq.size
  clear KA KB x0 x1 x2 x3 x4 x5 x6 x7 xt hbq
  generalize grow (redrawn W dq) osq = W1 at *
  cases nn
  · obtain ⟨rfl, rfl⟩ := HN2.out rfl
    clear HN1 HN2 KS
    have KR2 := Lib.hid (fun W hW => KR.out W mt hjz hW)
    clear KR
    generalize recI ⟨d0, d1, d2, d3, d4, d5⟩ sec mt = x at *
    obtain ⟨p0, p1, p2, p3, p4, p5, p6, p7, p8⟩ := H0.out.pa.cells
    have x6 := cell_regrown p6
    have x7 := cell_regrown p7
    clear p0 p1 p2 p3 p4 p5 p6 p7 p8
    have KA : Hid (∀ q os, Calls Tryz.prog 82 #[.slice (some ⟨g, k * 2, none⟩) (l.length - k) (l.length - k)] (grow (redrawn W1 q) os) fun e w' => e = .returned (.tuple #[.string mt, .int .i64 (mn : Int)]) ∧ ∃ p : Regrown, w' = grow (redrawn W1 p.d) p.os) := by
      intro q os
      exact Calls.regrown_of (KJ.out _ (H0.out.over (below_regrown W1 q os)))
    clear KJ
    go_wp2_with fail
    refine wp_region_quiet_below (by kernel_rfl) (by kernel_rfl) ?_
    repeat (go_big_quiet_step (with_reducible exact KA.out _ _))
    refine wpQuiet_nil ?_
    intro _ hw'
    obtain ⟨⟨dq2, osq2⟩, hw''⟩ := hw'
    subst hw''
    have hbq := below_regrown W1 dq2 osq2
    replace H0 := Lib.hid (H0.out.over hbq)
    replace HB0 := Lib.hid (HB0.out.trans (hbq.mono HB0.out.size))
    replace HB2 := Lib.hid (HB2.out.over hbq hs0)
    replace hs0 := Nat.lt_of_lt_of_le hs0 hbq.size
    clear KA x6 x7 hbq
    generalize grow (redrawn W1 dq2) osq2 = W2 at *
    go_wp2_with fail
    refine (KR2.out _ H0.out).mono ?_
    rintro e W3 ⟨rfl, hb3⟩
    replace H0 := Lib.hid (H0.out.over hb3)
    replace HB0 := Lib.hid (HB0.out.trans (hb3.mono HB0.out.size))
    replace HB2 := Lib.hid (HB2.out.over hb3 hs0)
    replace hs0 := Nat.lt_of_lt_of_le hs0 hb3.size
    clear KR2 hb3
    go_wp2_with fail
    refine ((KT.out _ x H0.out).mono (fun _ _ => stepV)).mono ?_
    rintro e w2 ⟨y0, y1, y2, y3, y4, y5, hT, rfl, hp2, hu2⟩
    clear KT
    have hB3 : RecAt w2 w.heap.size noRec := by
      unfold RecAt
      rw [hu2.block _ hs0 n2]
      exact HB2.out
    obtain ⟨a0, a1, a2, a3, a4, a5⟩ := hB3.cells
    simp only [noRec] at a0 a1 a2 a3 a4 a5
    have f0 := hB3.free 0
    have f1 := hB3.free 1
    have f2 := hB3.free 2
    have f3 := hB3.free 3
    have f4 := hB3.free 4
    have f5 := hB3.free 5
    have HB3 := Lib.hid hB3
    have HP2 := Lib.hid hp2
    have HU2 := Lib.hid hu2
    have HT := Lib.hid hT
    clear hB3 hp2 hu2 hT
    go_wp2
    (try simp only [Exit.inBlock, Exit.then])
    exact bodyPost_ret (rec_result _ w.heap.size _ _ _ _ rfl rfl (HB3.out.put6 _ _ _ _ _ _)) rfl (stepped HT.out (HP2.out.set6 n1 n3 _ _ _ _ _ _) (((But.of HB0.out).trans (HU2.out.mono HB0.out.size)).put6 _ (Nat.le_refl _) _ _ _ _ _ _))
  · obtain ⟨rfl, rfl⟩ := HN1.out rfl
    clear HN1 HN2 KR KJ KT
    generalize recI ⟨d0, d1, d2, d3, d4, d5⟩ sec mt = x at *
    go_wp2_with fail
    refine ((KS.out _ H0.out).mono (fun _ _ => stepV)).mono ?_
    rintro e w2 ⟨y0, y1, y2, y3, y4, y5, hT, rfl, hp2, hu2⟩
    clear KS
    have hB3 : RecAt w2 w.heap.size noRec := by
      unfold RecAt
      rw [hu2.block _ hs0 n2]
      exact HB2.out
    obtain ⟨a0, a1, a2, a3, a4, a5⟩ := hB3.cells
    simp only [noRec] at a0 a1 a2 a3 a4 a5
    have f0 := hB3.free 0
    have f1 := hB3.free 1
    have f2 := hB3.free 2
    have f3 := hB3.free 3
    have f4 := hB3.free 4
    have f5 := hB3.free 5
    have HB3 := Lib.hid hB3
    have HP2 := Lib.hid hp2
    have HU2 := Lib.hid hu2
    have HT := Lib.hid hT
    clear hB3 hp2 hu2 hT
    go_wp2
    (try simp only [Exit.inBlock, Exit.then])
    exact bodyPost_ret (rec_result _ w.heap.size _ _ _ _ rfl rfl (HB3.out.put6 _ _ _ _ _ _)) rfl (stepped HT.out (HP2.out.set6 n1 n3 _ _ _ _ _ _) (((But.of HB0.out).trans (HU2.out.mono HB0.out.size)).put6 _ (Nat.le_refl _) _ _ _ _ _ _))

end Go.Proofs.YtkhkpjnpjgnckaaGreatDoor
