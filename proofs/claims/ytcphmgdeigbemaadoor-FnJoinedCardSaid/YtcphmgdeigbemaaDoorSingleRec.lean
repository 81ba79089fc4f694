/- A record of one line: the program's singleRec. -/
import Derived.Test.YtcphmgdeigbemaaDoorProg
import Derived.Test.YtcphmgdeigbemaaDoorPlain
import Derived.Test.YtcphmgdeigbemaaDoorDialectRows
import Derived.Test.YtcphmgdeigbemaaDoorRecRows
import Derived.Test.YtcphmgdeigbemaaDoorRecArg
import Derived.Test.YtcphmgdeigbemaaDoorLines
import Derived.Test.YtcphmgdeigbemaaDoorLinesArg
import Derived.Test.YtcphmgdeigbemaaDoorJoin
import Derived.Test.YtcphmgdeigbemaaDoorPairSpec
import Derived.Test.YtcphmgdeigbemaaDoorRecOf
import Derived.Test.YtcphmgdeigbemaaDoorTakeImpl
import Derived.WalkKit
import Derived.WalkLawsBesides
import Derived.Deep.RegionWith
import Derived.Laws.IdiomStrings
import Derived.Lib.Hide
import Derived.IntWalk
import Derived.Outline
set_option maxRecDepth 100000
namespace Go.Proofs.YtcphmgdeigbemaaDoor
open Go.RowKit
set_option linter.unusedVariables false

/-- a record completed -/
def takeI (l : List Ln) (k c : Nat) (x : RecD) : RecD := ⟨x.kind, rawI l k c, x.sect, x.key, x.value, (k : Int) + 1⟩
/-- what is true of a parser as it goes -/
structure Pars (w : World) (b : Nat) (d : DialectD) (g : Nat) (l : List Ln) (k : Nat) (sec : ByteArray) : Prop where
  pa : PA w b d (.slice (some ⟨g, 0, none⟩) l.length l.length) k sec
  ls : LinesRd w (.slice (some ⟨g, 0, none⟩) l.length l.length) g 0 l
  ne : g ≠ b
  co : costL l ≤ 1048576
  se : d.seps.size ≤ 1048576
theorem Pars.over {w w' : World} {b : Nat} {d : DialectD} {g : Nat} {l : List Ln} {k : Nat} {sec : ByteArray} (h : Pars w b d g l k sec) (hb : Below w.heap.size w w') : Pars w' b d g l k sec :=
  ⟨h.pa.over hb, h.ls.below hb (fun hl => h.ls.lt hl), h.ne, h.co, h.se⟩
theorem Pars.text {w : World} {b : Nat} {d : DialectD} {g : Nat} {l : List Ln} {k : Nat} {sec : ByteArray} (h : Pars w b d g l k sec) (i : Nat) (hi : i < l.length) : w.cell? ⟨g, i * 2, none⟩ = some (.string l[i].1) := by
  have := h.ls.c0 i hi
  rwa [Nat.zero_add] at this
theorem Pars.size {w : World} {b : Nat} {d : DialectD} {g : Nat} {l : List Ln} {k : Nat} {sec : ByteArray} (h : Pars w b d g l k sec) (i : Nat) (hi : i < l.length) : l[i].1.size ≤ 1048576 := by
  have := costL_at l i hi
  have := h.co
  omega
theorem Pars.len {w : World} {b : Nat} {d : DialectD} {g : Nat} {l : List Ln} {k : Nat} {sec : ByteArray} (h : Pars w b d g l k sec) : l.length ≤ 1048576 := by
  have := joinB_len l
  have := h.co
  omega
theorem Pars.set {w : World} {b h j : Nat} {d : DialectD} {g : Nat} {l : List Ln} {k : Nat} {sec : ByteArray} (p : Pars w b d g l k sec) (hb : b ≠ h) (hg : g ≠ h) (v : Value) : Pars (w.setCell ⟨h, j, none⟩ v) b d g l k sec :=
  ⟨p.pa.set hb v, p.ls.kept (fun _ => Below.heap_setCell _ _ _ g hg), p.ne, p.co, p.se⟩
theorem Pars.set6 {w : World} {b h : Nat} {d : DialectD} {g : Nat} {l : List Ln} {k : Nat} {sec : ByteArray} (p : Pars w b d g l k sec) (hb : b ≠ h) (hg : g ≠ h) (a0 : Int) (a1 a2 a3 a4 : ByteArray) (a5 : Int) : Pars ((((((w.setCell ⟨h, 0, none⟩ (.int .i64 a0)).setCell ⟨h, 1, none⟩ (.string a1)).setCell ⟨h, 2, none⟩ (.string a2)).setCell ⟨h, 3, none⟩ (.string a3)).setCell ⟨h, 4, none⟩ (.string a4)).setCell ⟨h, 5, none⟩ (.int .i64 a5)) b d g l k sec :=
  (((((p.set hb hg _).set hb hg _).set hb hg _).set hb hg _).set hb hg _).set hb hg _
theorem But.put6 {B b : Nat} {w0 w : World} (u : But B b w0 w) (h : Nat) (hh : B ≤ h) (a0 : Int) (a1 a2 a3 a4 : ByteArray) (a5 : Int) : But B b w0 ((((((w.setCell ⟨h, 0, none⟩ (.int .i64 a0)).setCell ⟨h, 1, none⟩ (.string a1)).setCell ⟨h, 2, none⟩ (.string a2)).setCell ⟨h, 3, none⟩ (.string a3)).setCell ⟨h, 4, none⟩ (.string a4)).setCell ⟨h, 5, none⟩ (.int .i64 a5)) :=
  (((((u.put h 0 (.inl hh) _).put h 1 (.inl hh) _).put h 2 (.inl hh) _).put h 3 (.inl hh) _).put h 4 (.inl hh) _).put h 5 (.inl hh) _
/-- what a step of the parser leaves -/
def Stepped (w : World) (b : Nat) (d : DialectD) (g : Nat) (l : List Ln) (k c : Nat) (x : RecD) (e : Ending) (w' : World) : Prop := e = .returned (recV (takeI l k c x)) ∧ Pars w' b d g l (k + c) x.sect ∧ But w.heap.size b w w'
theorem stepped {w : World} {b : Nat} {d : DialectD} {g : Nat} {l : List Ln} {k c : Nat} {x y : RecD} {w' : World} (h0 : takeI l k c x = y) (h1 : Pars w' b d g l (k + c) x.sect) (h2 : But w.heap.size b w w') : Stepped w b d g l k c x (.returned (recV y)) w' := ⟨by rw [h0], h1, h2⟩
theorem take_any {d : DialectD} {w : World} {b k c : Nat} {sec : ByteArray} {g : Nat} {l : List Ln} (x : RecD) (h : Pars w b d g l k sec) (h1 : 1 ≤ c) (hk : k + c ≤ l.length) :
    Calls Tryd.prog 65 #[.pointer (some ⟨b, 0, none⟩), .int .i64 (c : Int), recV x] w (Stepped w b d g l k c x) := by
  refine (take_impl d w b k c sec g l x h.pa h.ls h.ne h1 hk h.co).mono ?_
  rintro e w' ⟨rfl, hp, hu⟩
  exact ⟨rfl, ⟨hp, h.ls.kept (fun hl => hu.block g (h.ls.lt hl) h.ne), h.ne, h.co, h.se⟩, hu⟩

set_option maxHeartbeats 1600000 in
theorem singleRec_impl (d : DialectD) (w : World) (b k : Nat) (sec : ByteArray) (g : Nat) (l : List Ln) (h : Pars w b d g l k sec) (hk : k < l.length) :
    Calls Tryd.prog 50 #[.pointer (some ⟨b, 0, none⟩)] w (Stepped w b d g l k 1 (recI d sec l[k].1)) := by
  have hbl := h.pa.lt
  have hb0 := (Below.refl w.heap.size w).alloc (Nat.le_refl _) (.cells #[.int .i64 0, .string ⟨#[]⟩, .string ⟨#[]⟩, .string ⟨#[]⟩, .string ⟨#[]⟩, .int .i64 0] 32)
  have HB := Lib.hid (recAt_new w noRec)
  have hs0 : w.heap.size < (w.alloc (.cells #[.int .i64 0, .string ⟨#[]⟩, .string ⟨#[]⟩, .string ⟨#[]⟩, .string ⟨#[]⟩, .int .i64 0] 32)).heap.size := by simp
  have h0 := h.over hb0
  have KR := Lib.hid (fun W (hW : Pars W b d g l k sec) => recOf_impl d l[k].1 W b _ k sec hW.pa (h.size k hk) h.se)
  have hlen := h.len
  generalize recI d sec l[k].1 = x at *
  have HT : Hid (takeI l k 1 x = ⟨x.kind, rawI l k 1, x.sect, x.key, x.value, (k : Int) + 1⟩) := rfl
  generalize rawI l k 1 = raw at *
  have hr1 : (k : Int) < (l.length : Int) := by omega
  have n1 : b ≠ w.heap.size := by omega
  have n2 : w.heap.size ≠ b := by omega
  have n3 : g ≠ w.heap.size := by
    have := h.ls.lt (by intro e; subst e; simp at hk)
    omega
  have KT := Lib.hid (fun W (hW : Pars W b d g l k sec) => (take_any x hW (Nat.le_refl 1) (by omega)).mono (fun e w' (h : Stepped W b d g l k 1 x e w') => h))
  have HB2 : Hid (RecAt (w.alloc (.cells #[.int .i64 0, .string ⟨#[]⟩, .string ⟨#[]⟩, .string ⟨#[]⟩, .string ⟨#[]⟩, .int .i64 0] 32)) w.heap.size noRec) := HB.out
  clear HB
  go_enter Tryd.func50, Tryd.ntmps50
  go_wp2_with fail
  generalize w.alloc (.cells #[.int .i64 0, .string ⟨#[]⟩, .string ⟨#[]⟩, .string ⟨#[]⟩, .string ⟨#[]⟩, .int .i64 0] 32) = W at *
  obtain ⟨p0, p1, p2, p3, p4, p5, p6, p7, p8⟩ := h0.pa.cells
  clear p0 p1 p2 p3 p4 p5 p8
  have t0 := h0.text k hk
  have KR1 : Hid (Calls Tryd.prog 66 #[.pointer (some ⟨b, 0, none⟩), .string l[k].1] W.drew fun e w' => e = .returned (recV x) ∧ Below W.heap.size W w') := by
    refine (KR.out _ (h0.over (below_drewN (Below.refl _ _) 1))).mono ?_
    rintro e w' ⟨rfl, hb⟩
    exact ⟨rfl, (below_drewN (Below.refl _ _) 1).trans hb⟩
  clear KR
  generalize l[k].1 = tx at *
  have H0 := Lib.hid h0
  have HB0 := Lib.hid hb0
  clear h0 hb0
  obtain ⟨x0, x1, x2, x3, x4, x5⟩ := x
  unfold recV at *
  simp only at KR1 KT HT
  have KT1 : Hid (∀ w1, Below W.heap.size W w1 → Calls Tryd.prog 65 #[.pointer (some ⟨b, 0, none⟩), .int .i64 1, .agg #[.int .i64 x0, .string x1, .string x2, .string x3, .string x4, .int .i64 x5]] w1 fun e w2 => e = .returned (.agg #[.int .i64 x0, .string raw, .string x2, .string x3, .string x4, .int .i64 ((k : Int) + 1)]) ∧ Pars w2 b d g l (k + 1) x2 ∧ But W.heap.size b W w2) := by
    intro w1 hb1
    refine (KT.out w1 (H0.out.over hb1)).mono ?_
    rintro e w2 ⟨rfl, hp, hu⟩
    exact ⟨by rw [HT.out]; rfl, hp, (But.of hb1).trans (hu.mono hb1.size)⟩
  clear KT
  go_region_with (first
    | ((with_reducible refine KR1.out.mono ?_); rintro e w1 ⟨rfl, hb1⟩; have KT2 := Lib.hid (KT1.out w1 hb1))
    | ((with_reducible refine KT2.out.mono ?_); rintro e w2 ⟨rfl, hp2, hu2⟩; have hB2 : RecAt w2 w.heap.size noRec := by { unfold RecAt; rw [hu2.block _ hs0 n2]; exact HB2.out }; obtain ⟨a0, a1, a2, a3, a4, a5⟩ := hB2.cells; simp only [noRec] at a0 a1 a2 a3 a4 a5; have f0 := hB2.free 0; have f1 := hB2.free 1; have f2 := hB2.free 2; have f3 := hB2.free 3; have f4 := hB2.free 4; have f5 := hB2.free 5; have HB3 := Lib.hid hB2; have HP2 := Lib.hid hp2; have HU2 := Lib.hid hu2; clear hB2 hp2 hu2))
  all_goals
    go_wp2
    (try simp only [Exit.inBlock, Exit.then])
    exact bodyPost_ret (rec_result _ w.heap.size _ _ _ _ rfl rfl (HB3.out.put6 _ _ _ _ _ _)) rfl (stepped HT.out (HP2.out.set6 n1 n3 _ _ _ _ _ _) (((But.of HB0.out).trans (HU2.out.mono HB0.out.size)).put6 _ (Nat.le_refl _) _ _ _ _ _ _))

end Go.Proofs.YtcphmgdeigbemaaDoor
