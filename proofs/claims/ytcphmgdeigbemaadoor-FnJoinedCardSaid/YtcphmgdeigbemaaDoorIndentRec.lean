/- A record of lines that are joined by their indent: the program's indentedRec. -/
import Derived.Test.YtcphmgdeigbemaaDoorProg
import Derived.Test.YtcphmgdeigbemaaDoorPlain
import Derived.Test.YtcphmgdeigbemaaDoorDialectRows
import Derived.Test.YtcphmgdeigbemaaDoorRecRows
import Derived.Test.YtcphmgdeigbemaaDoorRecArg
import Derived.Test.YtcphmgdeigbemaaDoorLines
import Derived.Test.YtcphmgdeigbemaaDoorLinesArg
import Derived.Test.YtcphmgdeigbemaaDoorSplitSpec
import Derived.Test.YtcphmgdeigbemaaDoorSplitImpl
import Derived.Test.YtcphmgdeigbemaaDoorJoin
import Derived.Test.YtcphmgdeigbemaaDoorPairSpec
import Derived.Test.YtcphmgdeigbemaaDoorIniSmall
import Derived.Test.YtcphmgdeigbemaaDoorRecOf
import Derived.Test.YtcphmgdeigbemaaDoorTakeImpl
import Derived.Test.YtcphmgdeigbemaaDoorSingleRec
import Derived.Test.YtcphmgdeigbemaaDoorMarkedRec
import Derived.Test.YtcphmgdeigbemaaDoorIndentVals
import Derived.Test.YtcphmgdeigbemaaDoorJoinNL
import Derived.WalkKit
import Derived.WalkLawsBesides
import Derived.BigQuiet
import Derived.Deep.QuietTactic
import Derived.Deep.RegionHeld3
import Derived.Deep.AppendLies
import Derived.Lib.QuietBelow
import Derived.Laws.IdiomStrings
import Derived.Laws.OwnMore
import Derived.Lib.Hide
import Derived.IntWalk
import Derived.Outline
set_option maxRecDepth 100000
namespace Go.Proofs.YtcphmgdeigbemaaDoor
open Go.RowKit Go.Sort
set_option linter.unusedVariables false

/-- append of nothing, as one step of a region that draws -/
theorem step_append_none {P : Program} (w : World) {ops : Array Oper} {o : Oper} {a : Act} {K : Act → World → Prop} {Q : Exit → Act → World → Prop} {E : Prop} (hgd : o.guard = none) (sl x : Operand) (t : TypeId)
    (ho : o.op = .call { callee := .builtin .append, args := #[sl, x], argTypes := #[t, t] })
    (base : Nat) (e : TypeId) (i : TypeInfo) (size : Nat) (ht : P.underlying t = some (.slice e)) (hi : P.info? e = some i)
    (v : Value) (n : Nat) (xs : List Value) (hs : a.eval sl = v) (hown : w.ownsRow base e size v n xs) (hx : a.eval x = .slice none 0 0)
    (h : K (a.put o.dst v) w) :
    if Region.wanted o (yielded ops a.tmps) = true then Oper.wp P o a w K Q else E := by
  have hw : Region.wanted o (yielded ops a.tmps) = true := by simp [Region.wanted, hgd]
  rw [if_pos hw]
  have hr := run_append_owned_none (P := P) (w := w) base t o.type e i size ht hi v n xs hown
  unfold Oper.wp execOp
  simp only [ho, resolve, invoke, builtin, Sem.run_bind, Sem.run_pure, Result.andThen_ok, List.map_toArray, List.map_cons, List.map_nil, hs, hx, hr]
  exact h

theorem lines_next {w : World} {g n cap : Nat} {l : List Ln} (h : LinesRd w (.slice (some ⟨g, 0, none⟩) l.length n) g 0 l) (k : Nat) (hk : k < l.length) : LinesRd w (.slice (if l.length = k + 1 then some ⟨g, 0, none⟩ else some ⟨g, (k + 1) * 2, none⟩) (l.length - (k + 1)) cap) g ((k + 1) * 2) (l.drop (k + 1)) := by
  by_cases e : l.length = k + 1
  · have h0 : l.drop (k + 1) = [] := List.drop_of_length_le (by omega)
    rw [h0, e, Nat.sub_self, if_pos rfl]
    exact ⟨⟨_, _, rfl, fun h => absurd rfl h⟩, fun i hi => absurd hi (Nat.not_lt_zero _), fun i hi => absurd hi (Nat.not_lt_zero _)⟩
  · rw [if_neg e]
    exact lines_rest h (k + 1) (by omega)
/-- what indentedRec holds -/
structure IndH (w W : World) (b : Nat) (d : DialectD) (g : Nat) (l : List Ln) (k : Nat) (sec : ByteArray) (q : Nat) (x : RecD) : Prop where
  pr : Pars W b d g l k sec
  ra : RecAt W w.heap.size noRec
  rx : RecAt W q x
  bl : Below w.heap.size w W
  hq : w.heap.size < q
  qs : q < W.heap.size
theorem IndH.over {w W W' : World} {b : Nat} {d : DialectD} {g : Nat} {l : List Ln} {k : Nat} {sec : ByteArray} {q : Nat} {x : RecD} (h : IndH w W b d g l k sec q x) (hb : Below W.heap.size W W') : IndH w W' b d g l k sec q x :=
  ⟨h.pr.over hb, h.ra.over hb (by have := h.hq; have := h.qs; omega), h.rx.over hb h.qs, h.bl.trans (hb.mono h.bl.size), h.hq, Nat.lt_of_lt_of_le h.qs hb.size⟩

theorem IndH.putVal {w W : World} {b : Nat} {d : DialectD} {g : Nat} {l : List Ln} {k : Nat} {sec : ByteArray} {q : Nat} {x0 : Int} {x1 x2 x3 x4 : ByteArray} {x5 : Int} (h : IndH w W b d g l k sec q ⟨x0, x1, x2, x3, x4, x5⟩) (v : ByteArray) (hb : b ≠ q) (hg : g ≠ q) (hw : w.heap.size ≠ q) : IndH w (W.setCell ⟨q, 4, none⟩ (.string v)) b d g l k sec q ⟨x0, x1, x2, x3, v, x5⟩ := by
  refine ⟨h.pr.set hb hg _, h.ra.set hw _, ?_, h.bl.setCell (p := ⟨q, 4, none⟩) (Nat.le_of_lt h.hq) _, h.hq, by have := h.qs; simpa [World.setCell] using this⟩
  have := h.rx
  unfold RecAt at *
  rw [set_cellR _ q 4 _ _ _ _ this]
  rfl
theorem IndH.low {w W W' : World} {B b : Nat} {d : DialectD} {g : Nat} {l : List Ln} {k : Nat} {sec : ByteArray} {q : Nat} {x : RecD} (h : IndH w W b d g l k sec q x) (hb : Below B W W') (hq : q < B) (hbB : b < B) (hgB : g < B) : IndH w W' b d g l k sec q x :=
  ⟨⟨h.pr.pa.kept (hb.block b hbB), h.pr.ls.kept (fun _ => hb.block g hgB), h.pr.ne, h.pr.co, h.pr.se⟩, h.ra.over hb (by have := h.hq; omega), h.rx.over hb hq, h.bl.trans (hb.mono (by have := h.hq; omega)), h.hq, Nat.lt_of_lt_of_le h.qs hb.size⟩
theorem own_cap {w : World} {B e size n g cap : Nat} {xs : List Value} (h : w.ownsRow B e size (.slice (some ⟨g, 0, none⟩) n cap) n xs) (hn : 0 < n) : n ≤ cap := by
  rcases h.2 with ⟨_, h0⟩ | ⟨g2, cap2, cur, hv, _, _, h3, _⟩
  · omega
  · injection hv with _ _ h5
    omega
theorem quotI_size (d : DialectD) (s : ByteArray) : (quotT d s).1.size ≤ s.size := by
  unfold quotT
  split
  · split
    · refine Nat.le_trans (unT_size _ _) ?_
      rw [ByteArray.size_extract]
      omega
    · exact Nat.zero_le _
  · exact Nat.zero_le _
theorem valI_size (d : DialectD) (s : ByteArray) : (valI d s).1.size ≤ s.size := by
  unfold valI
  split
  · exact quotI_size d s
  · exact bareT_size d s
theorem recI_size (d : DialectD) (sec t : ByteArray) : (recI d sec t).value.size ≤ t.size := by
  have h0 : (⟨#[]⟩ : ByteArray).size ≤ t.size := Nat.zero_le _
  unfold recI
  split
  · exact h0
  · split
    · exact h0
    · split
      · split <;> exact h0
      · split
        · unfold pairI
          split
          · exact Nat.le_trans (valI_size _ _) (Nat.le_trans (trim5_size _ _) (Nat.le_trans (cutZ_size _ _) (trim5_size _ _)))
          · exact h0
        · exact h0
theorem indV_size (d : DialectD) (t : ByteArray) : (indV d t).1.size ≤ t.size := by
  unfold indV
  split
  · exact Nat.le_trans (bareT_size _ _) (trim5_size _ _)
  · exact Nat.zero_le _
theorem indVs_cost (d : DialectD) (l : List Ln) : (nlTail (indVs d l)).length ≤ costL l := by
  induction l with
  | nil => exact Nat.le_refl _
  | cons x l ih =>
    have h1 : costL (x :: l) = 1 + x.1.size + x.2.size + costL l := by simp only [costL, List.length_cons, List.map_cons, List.sum_cons]; omega
    have h2 := indV_size d x.1
    unfold indVs
    split
    · rw [h1, show nlTail ((indV d x.1).1 :: indVs d l) = ((10 : UInt8) :: (indV d x.1).1.data.toList) ++ nlTail (indVs d l) from rfl, List.length_append, List.length_cons, ← Lib.size_eq]
      omega
    · simp [nlTail]
theorem own_some {w : World} {B e size n : Nat} {v : Value} {xs : List Value} (h : w.ownsRow B e size v n xs) (hn : 0 < n) : ∃ g cap, v = .slice (some ⟨g, 0, none⟩) n cap := by
  rcases h.2 with ⟨_, h0⟩ | ⟨g, cap, cur, hv, _⟩
  · omega
  · exact ⟨g, cap, hv⟩
/-- what indentedValues answers, from a world W on; its row lies from W0's end on -/
def GotA (W0 W : World) (vs : List ByteArray) (e : Ending) (w1 : World) : Prop := ∃ v, e = .returned v ∧ (vs = [] → v = .slice none 0 0) ∧ w1.ownsRow W0.heap.size 9 1 v vs.length (vs.map Value.string) ∧ Below W.heap.size W w1
/-- the values of a pair and of what is joined with it -/
def indL (d : DialectD) (sec : ByteArray) (l : List Ln) (k : Nat) (h : k < l.length) : List ByteArray := (recI d sec l[k].1).value :: indVs d (l.drop (k + 1))
def indQ (d : DialectD) (sec : ByteArray) (l : List Ln) (k : Nat) (h : k < l.length) : Bool := (recI d sec l[k].1).kind != 3 || hasQ d l[k].1
/-- how many lines it is, and the record -/
def indN (d : DialectD) (sec : ByteArray) (l : List Ln) (k : Nat) (h : k < l.length) : Nat := if indQ d sec l k h then 1 else (indL d sec l k h).length
def indR (d : DialectD) (sec : ByteArray) (l : List Ln) (k : Nat) (h : k < l.length) : RecD := if indQ d sec l k h then recI d sec l[k].1 else ⟨(recI d sec l[k].1).kind, (recI d sec l[k].1).raw, (recI d sec l[k].1).sect, (recI d sec l[k].1).key, ⟨(nlJoin (indL d sec l k h)).toArray⟩, (recI d sec l[k].1).line⟩
theorem indN_le (d : DialectD) (sec : ByteArray) (l : List Ln) (k : Nat) (h : k < l.length) : 1 ≤ indN d sec l k h ∧ k + indN d sec l k h ≤ l.length := by
  unfold indN indL
  split
  · omega
  · have := indVs_len d (l.drop (k + 1))
    rw [List.length_drop] at this
    simp only [List.length_cons]
    omega

set_option maxHeartbeats 6400000 in
theorem indentedRec_impl (d : DialectD) (w : World) (b k : Nat) (sec : ByteArray) (g : Nat) (l : List Ln) (h : Pars w b d g l k sec) (hk : k < l.length) :
    Calls Tryd.prog 49 #[.pointer (some ⟨b, 0, none⟩)] w (Stepped w b d g l k (indN d sec l k hk) (indR d sec l k hk)) := by
  have hbl := h.pa.lt
  have hb0 := (Below.refl w.heap.size w).alloc (Nat.le_refl _) (.cells #[.int .i64 0, .string ⟨#[]⟩, .string ⟨#[]⟩, .string ⟨#[]⟩, .string ⟨#[]⟩, .int .i64 0] 32)
  have HB2 : Hid (RecAt (w.alloc (.cells #[.int .i64 0, .string ⟨#[]⟩, .string ⟨#[]⟩, .string ⟨#[]⟩, .string ⟨#[]⟩, .int .i64 0] 32)) w.heap.size noRec) := recAt_new w noRec
  have hs0 : w.heap.size < (w.alloc (.cells #[.int .i64 0, .string ⟨#[]⟩, .string ⟨#[]⟩, .string ⟨#[]⟩, .string ⟨#[]⟩, .int .i64 0] 32)).heap.size := by simp
  have h0 := h.over hb0
  have hlen := h.len
  have hr1 : (k : Int) < (l.length : Int) := by omega
  have n1 : b ≠ w.heap.size := by omega
  have n2 : w.heap.size ≠ b := by omega
  have hgl := h.ls.lt (by intro e; subst e; simp at hk)
  have n3 : g ≠ w.heap.size := by omega
  have htx := h.size k hk
  have HSE := Lib.hid h.se
  have KR := Lib.hid (fun (W : World) (hW : Pars W b d g l k sec) => recOf_impl d l[k].1 W b _ k sec hW.pa htx h.se)
  have KQ := Lib.hid (fun (W : World) => hasQuoted_impl d l[k].1 W htx h.se)
  have KT := Lib.hid (fun (W : World) (c : Nat) (x : RecD) (hW : Pars W b d g l k sec) (h1 : 1 ≤ c) (h2 : k + c ≤ l.length) => take_any (c := c) x hW h1 h2)
  have KI := Lib.hid (fun (W : World) (hW : Pars W b d g l k sec) => indentedValues_impl d W (.slice (if l.length = k + 1 then some ⟨g, 0, none⟩ else some ⟨g, (k + 1) * 2, none⟩) (l.length - (k + 1)) (l.length - (k + 1))) g ((k + 1) * 2) (l.drop (k + 1)) (lines_next hW.ls k hk) (Nat.le_trans (costL_drop l (k + 1)) h.co) (fun _ => hW.ls.lt (by intro e; subst e; simp at hk)))
  have HN : Hid (indN d sec l k hk = if indQ d sec l k hk then 1 else (indL d sec l k hk).length) := rfl
  have HR : Hid (indR d sec l k hk = if indQ d sec l k hk then recI d sec l[k].1 else ⟨(recI d sec l[k].1).kind, (recI d sec l[k].1).raw, (recI d sec l[k].1).sect, (recI d sec l[k].1).key, ⟨(nlJoin (indL d sec l k hk)).toArray⟩, (recI d sec l[k].1).line⟩) := rfl
  have HQ : Hid (indQ d sec l k hk = ((recI d sec l[k].1).kind != 3 || hasQ d l[k].1)) := rfl
  have HL : Hid (indL d sec l k hk = (recI d sec l[k].1).value :: indVs d (l.drop (k + 1))) := rfl
  have HNL : Hid ((nlJoin (indL d sec l k hk)).length ≤ 10000000) := by
    have h1 := recI_size d sec l[k].1
    have h2 := indVs_cost d (l.drop (k + 1))
    have h3 := costL_drop l (k + 1)
    have h4 := h.co
    unfold Hid indL
    rw [show nlJoin ((recI d sec l[k].1).value :: indVs d (l.drop (k + 1))) = (recI d sec l[k].1).value.data.toList ++ nlTail (indVs d (l.drop (k + 1))) from rfl, List.length_append, ← Lib.size_eq]
    omega
  have t0 := h0.text k hk
  have H0 := Lib.hid h0
  have HB0 := Lib.hid hb0
  clear h h0 hb0
  generalize indN d sec l k hk = mn at *
  generalize indR d sec l k hk = mr at *
  generalize indQ d sec l k hk = mq at *
  generalize indL d sec l k hk = ml at *
  generalize recI d sec l[k].1 = x at *
  generalize hasQ d l[k].1 = hq at *
  generalize l[k].1 = tx at *
  obtain ⟨x0, x1, x2, x3, x4, x5⟩ := x
  unfold recV at KR
  simp only at KR HR HQ HL
  go_enter Tryd.func49, Tryd.ntmps49
  go_wp2_with fail
  generalize w.alloc (.cells #[.int .i64 0, .string ⟨#[]⟩, .string ⟨#[]⟩, .string ⟨#[]⟩, .string ⟨#[]⟩, .int .i64 0] 32) = W at *
  obtain ⟨p0, p1, p2, p3, p4, p5, p6, p7, p8⟩ := H0.out.pa.cells
  clear p0 p1 p2 p3 p4 p5 p8
  go_quiet (fail)
  have hbq := below_drewN (Below.refl W.heap.size W) nq
  replace H0 := Lib.hid (H0.out.over hbq)
  replace HB0 := Lib.hid (HB0.out.trans (hbq.mono HB0.out.size))
  replace HB2 := Lib.hid (HB2.out.over hbq hs0)
  replace hs0 := Nat.lt_of_lt_of_le hs0 hbq.size
  clear p6 p7 t0 hbq
  generalize W.drewN nq = W1 at *
  go_wp2_with fail
  refine (KR.out _ H0.out).mono ?_
  rintro e W2 ⟨rfl, hb2⟩
  have hbb := hb2.trans ((Below.refl W2.heap.size W2).alloc (Nat.le_refl _) (.cells #[.int .i64 x0, .string x1, .string x2, .string x3, .string x4, .int .i64 x5] 32) |>.mono hb2.size)
  have H : Hid (IndH w (W2.alloc (.cells #[.int .i64 x0, .string x1, .string x2, .string x3, .string x4, .int .i64 x5] 32)) b d g l k sec W2.heap.size ⟨x0, x1, x2, x3, x4, x5⟩) :=
    ⟨H0.out.over hbb, HB2.out.over hbb hs0, recAt_new W2 ⟨x0, x1, x2, x3, x4, x5⟩, HB0.out.trans (hbb.mono HB0.out.size), Nat.lt_of_lt_of_le hs0 hb2.size, by simp⟩
  clear KR H0 HB0 HB2 hbb hb2 hs0
  obtain ⟨d0, d1, d2, d3, d4, d5⟩ := d
  unfold dialectV at *
  simp only at KQ HSE
  unfold recV at KT
  by_cases hx : x0 = 3
  · cases hq
    · have hx2 : (x0 != 3) = false := by simpa using hx
      obtain rfl : mq = false := by rw [HQ.out, hx2]; rfl
      replace HR : Hid (mr = ⟨x0, x1, x2, x3, ⟨(nlJoin ml).toArray⟩, x5⟩) := HR.out
      replace HN : Hid (mn = ml.length) := HN.out
      clear HQ hx
      obtain ⟨p0, p1, p2, p3, p4, p5, p6, p7, p8⟩ := H.out.pr.pa.cells
      obtain ⟨c0, c1, c2, c3, c4, c5⟩ := H.out.rx.cells
      simp only at p0 p1 p2 p3 p4 p5 p6 p7 p8 c0 c1 c2 c3 c4 c5
      go_wp2_with fail
      refine (KQ.out _).mono ?_
      rintro e W3 ⟨rfl, hb3⟩
      replace H := Lib.hid (H.out.over hb3)
      clear p0 p1 p2 p3 p4 p5 p6 p7 p8 c0 c1 c2 c3 c4 c5
      clear hb3 KQ
      generalize W2.heap.size = q at *
      obtain ⟨p0, p1, p2, p3, p4, p5, p6, p7, p8⟩ := H.out.pr.pa.cells
      obtain ⟨c0, c1, c2, c3, c4, c5⟩ := H.out.rx.cells
      simp only at p0 p1 p2 p3 p4 p5 p6 p7 p8 c0 c1 c2 c3 c4 c5
      have r1 : IntKind.i64.wrap ((k : Int) + 1) = (k : Int) + 1 := IntWalk.i64_in _ (by omega)
      have r2 : ((k : Int) + 1).toNat = k + 1 := by omega
      have r3 : (k : Int) + 1 ≤ (l.length : Int) := by omega
      have r4 : (0 : Int) ≤ (k : Int) + 1 := by omega
      obtain ⟨av, hav⟩ : ∃ av : Option Addr, (if l.length = k + 1 then some (⟨g, 0, none⟩ : Addr) else some ⟨g, (k + 1) * 2, none⟩) = av := ⟨_, rfl⟩
      rw [hav] at KI
      have KA : Hid (Calls Tryd.prog 68 #[.agg #[.string d0, .string d1, .bool d2, .bool d3, .bool d4, .int .i64 d5], .slice av (l.length - (k + 1)) (l.length - (k + 1))] (W3.alloc (.cells #[.string x4] 9)).drew (GotA W3 (W3.alloc (.cells #[.string x4] 9)) (indVs ⟨d0, d1, d2, d3, d4, d5⟩ (l.drop (k + 1))))) := by
        have hb : Below W3.heap.size W3 (W3.alloc (.cells #[.string x4] 9)).drew := below_drewN ((Below.refl W3.heap.size W3).alloc (Nat.le_refl _) _) 1
        refine (KI.out _ (H.out.over hb).pr).mono ?_
        rintro e w1 ⟨v, rfl, hnil, hown, hb1⟩
        exact ⟨v, rfl, hnil, own_lower hown (by simp), (below_drewN (Below.refl _ (W3.alloc (.cells #[.string x4] 9))) 1).trans hb1⟩
      have KB : Hid (Calls Tryd.prog 68 #[.agg #[.string d0, .string d1, .bool d2, .bool d3, .bool d4, .int .i64 d5], .slice av (l.length - (k + 1)) (l.length - (k + 1))] W3.drew (GotA W3 W3 (indVs ⟨d0, d1, d2, d3, d4, d5⟩ (l.drop (k + 1))))) := by
        have hb : Below W3.heap.size W3 W3.drew := below_drewN (Below.refl W3.heap.size W3) 1
        refine (KI.out _ (H.out.over hb).pr).mono ?_
        rintro e w1 ⟨v, rfl, hnil, hown, hb1⟩
        exact ⟨v, rfl, hnil, hown, hb.trans hb1⟩
      clear KI
      have hln := indVs_len ⟨d0, d1, d2, d3, d4, d5⟩ (l.drop (k + 1))
      rw [List.length_drop] at hln
      generalize indVs ⟨d0, d1, d2, d3, d4, d5⟩ (l.drop (k + 1)) = vs at *
      obtain rfl := HL.out
      clear HL
      obtain ⟨i0, hi, hz0, hz1, hz2⟩ := info_parts info_stringI
      have hq3 := H.out.qs
      cases vs with
      | nil =>
        replace KA : Hid (Calls Tryd.prog 68 #[.agg #[.string d0, .string d1, .bool d2, .bool d3, .bool d4, .int .i64 d5], .slice av (l.length - (k + 1)) (l.length - (k + 1))] (W3.alloc (.cells #[.string x4] 9)).drew fun e w1 => e = .returned (.slice none 0 0) ∧ IndH w w1 b ⟨d0, d1, d2, d3, d4, d5⟩ g l k sec q ⟨x0, x1, x2, x3, x4, x5⟩ ∧ w1.ownsRow W3.heap.size 9 1 (.slice (some ⟨W3.heap.size, 0, none⟩) 1 1) 1 [.string x4]) := by
          refine KA.out.mono ?_
          rintro e w1 ⟨v, rfl, hnil, hown1, hb1⟩
          exact ⟨by rw [hnil rfl], H.out.over (((Below.refl W3.heap.size W3).alloc (Nat.le_refl _) _).trans (hb1.mono (by simp))), ownsRow_below (World.ownsRow_lit (base := W3.heap.size) (e := 9) (size := 1) W3 #[.string x4] 1 (Nat.le_refl _) (by decide) rfl) hb1⟩
        replace KB : Hid (Calls Tryd.prog 68 #[.agg #[.string d0, .string d1, .bool d2, .bool d3, .bool d4, .int .i64 d5], .slice av (l.length - (k + 1)) (l.length - (k + 1))] W3.drew fun e w1 => e = .returned (.slice none 0 0) ∧ IndH w w1 b ⟨d0, d1, d2, d3, d4, d5⟩ g l k sec q ⟨x0, x1, x2, x3, x4, x5⟩ ∧ (w1.alloc (.cells #[.string x4] 9)).ownsRow W3.heap.size 9 1 (.slice (some ⟨w1.heap.size, 0, none⟩) 1 1) 1 [.string x4]) := by
          refine KB.out.mono ?_
          rintro e w1 ⟨v, rfl, hnil, hown1, hb1⟩
          exact ⟨by rw [hnil rfl], H.out.over hb1, World.ownsRow_lit (base := W3.heap.size) (e := 9) (size := 1) w1 #[.string x4] 1 hb1.size (by decide) rfl⟩
        go_wp2_with fail
        go_region_held3 (fun w' => w'.cell? ⟨b, 0, none⟩ = some (.string d0) ∧ w'.cell? ⟨b, 1, none⟩ = some (.string d1) ∧ w'.cell? ⟨b, 2, none⟩ = some (.bool d2) ∧ w'.cell? ⟨b, 3, none⟩ = some (.bool d3) ∧ w'.cell? ⟨b, 4, none⟩ = some (.bool d4) ∧ w'.cell? ⟨b, 5, none⟩ = some (.int .i64 d5) ∧ w'.cell? ⟨b, 6, none⟩ = some (.slice (some ⟨g, 0, none⟩) l.length l.length) ∧ w'.cell? ⟨b, 7, none⟩ = some (.int .i64 (k : Int)) ∧ w'.cell? ⟨q, 4, none⟩ = some (.string x4))
          (first | go_keep | exact ⟨m0, m1, m2, m3, m4, m5, m6, m7, mc4⟩)
          (first
            | ((with_reducible refine KA.out.mono ?_); rintro e w1 ⟨rfl, hI1, hrow⟩; obtain ⟨m0, m1, m2, m3, m4, m5, m6, m7, m8⟩ := hI1.pr.pa.cells; obtain ⟨mc0, mc1, mc2, mc3, mc4, mc5⟩ := hI1.rx.cells; simp only at m0 m1 m2 m3 m4 m5 m6 m7 mc4)
            | ((with_reducible refine KB.out.mono ?_); rintro e w1 ⟨rfl, hI1, hrow⟩; obtain ⟨m0, m1, m2, m3, m4, m5, m6, m7, m8⟩ := hI1.pr.pa.cells; obtain ⟨mc0, mc1, mc2, mc3, mc4, mc5⟩ := hI1.rx.cells; simp only at m0 m1 m2 m3 m4 m5 m6 m7 mc4)
            | (refine step_append_none _ (by rfl) _ _ 44 (by rfl) W3.heap.size 9 i0 1 Tryd.underlying44 hi _ _ _ (by rfl) hrow (by rfl) ?_))
        · have hcell : w1.cell? ⟨W3.heap.size, 0, none⟩ = some (.string x4) := World.ownsRow.cells hrow (g := W3.heap.size) rfl 0 _ rfl
          have HI := Lib.hid hI1
          have n4 : b ≠ q := by have := H.out.hq; omega
          have n5 : g ≠ q := by have := H.out.hq; omega
          have n6 : w.heap.size ≠ q := by have := H.out.hq; omega
          clear hrow hI1 KA KB H hq3 m0 m1 m2 m3 m4 m5 m6 m7 m8 mc0 mc1 mc2 mc3 mc4 mc5 hav r1 r2 r3 r4 p0 p1 p2 p3 p4 p5 p6 p7 p8 c0 c1 c2 c3 c4 c5
          generalize W3.heap.size = gS at *
          obtain ⟨Wf, hWf⟩ : ∃ Wf, Wf = w1 := ⟨_, rfl⟩
          subst hWf
          have KJ := Lib.hid (joinNL_one Wf gS 1 x4 hcell)
          obtain ⟨jv, hjv⟩ : ∃ jv, jv = x4 := ⟨_, rfl⟩
          rw [← hjv] at KJ
          have HMN : Hid (mn = 1) := HN.out
          have HMR : Hid (mr = ⟨x0, x1, x2, x3, jv, x5⟩) := by
            unfold Hid
            rw [HR.out, hjv]
            simp [nlJoin, nlTail]
          clear HN HR hjv
          have hm1 : 1 ≤ 1 := Nat.le_refl _
          have hm2 : k + 1 ≤ l.length := by omega
          go_wp2_with fail
          with_reducible refine KJ.out.mono ?_
          rintro e w4 ⟨rfl, hb4⟩
          replace HI := Lib.hid (HI.out.over hb4)
          clear hb4 KJ
          obtain ⟨c0, c1, c2, c3, c4, c5⟩ := HI.out.rx.cells
          simp only at c0 c1 c2 c3 c4 c5
          have f4 := HI.out.rx.free 4
          have H5 := Lib.hid (HI.out.putVal jv n4 n5 n6)
          go_wp2_with fail
          clear c0 c1 c2 c3 c4 c5 f4
          have HB0 := Lib.hid H5.out.bl
          have HB2 := Lib.hid H5.out.ra
          have hs0 := Nat.lt_trans H5.out.hq H5.out.qs
          have KT2 := Lib.hid (KT.out _ _ ⟨x0, x1, x2, x3, jv, x5⟩ H5.out.pr hm1 hm2)
          clear KT HI
          try rw [hcast] at KT2
          generalize w4.setCell ⟨q, 4, none⟩ (.string jv) = W5 at *
          refine (KT2.out.mono (fun _ _ => stepV)).mono ?_
          rintro e w2 ⟨y0, y1, y2, y3, y4, y5, hT, rfl, hp2, hu2⟩
          clear KT2 H5
          have hB3 : RecAt w2 w.heap.size noRec := by
            unfold RecAt
            rw [hu2.block _ hs0 n2]
            exact HB2.out
          obtain ⟨a0, a1, a2, a3, a4, a5⟩ := hB3.cells
          simp only [noRec] at a0 a1 a2 a3 a4 a5
          have f0 := hB3.free 0
          have f1 := hB3.free 1
          have f2 := hB3.free 2
          have f3 := hB3.free 3
          have f4 := hB3.free 4
          have f5 := hB3.free 5
          have HB3 := Lib.hid hB3
          have HP2 := Lib.hid hp2
          have HU2 := Lib.hid hu2
          have HT := Lib.hid hT
          clear hB3 hp2 hu2 hT
          go_wp2
          (try simp only [Exit.inBlock, Exit.then])
          refine bodyPost_ret (rec_result _ w.heap.size _ _ _ _ rfl rfl (HB3.out.put6 _ _ _ _ _ _)) rfl ?_
          rw [HMN.out, HMR.out]
          exact stepped HT.out (HP2.out.set6 n1 n3 _ _ _ _ _ _) (((But.of HB0.out).trans (HU2.out.mono HB0.out.size)).put6 _ (Nat.le_refl _) _ _ _ _ _ _)
        · have hcell : (w1.alloc (.cells #[.string x4] 9)).cell? ⟨w1.heap.size, 0, none⟩ = some (.string x4) := World.ownsRow.cells hrow (g := w1.heap.size) rfl 0 _ rfl
          have HI := Lib.hid (hI1.over ((Below.refl w1.heap.size w1).alloc (Nat.le_refl _) (.cells #[.string x4] 9)))
          have n4 : b ≠ q := by have := H.out.hq; omega
          have n5 : g ≠ q := by have := H.out.hq; omega
          have n6 : w.heap.size ≠ q := by have := H.out.hq; omega
          clear hrow hI1 KA KB H hq3 m0 m1 m2 m3 m4 m5 m6 m7 m8 mc0 mc1 mc2 mc3 mc4 mc5 hav r1 r2 r3 r4 p0 p1 p2 p3 p4 p5 p6 p7 p8 c0 c1 c2 c3 c4 c5
          generalize w1.alloc (.cells #[.string x4] 9) = Wf at *
          generalize w1.heap.size = gS at *
          have KJ := Lib.hid (joinNL_one Wf gS 1 x4 hcell)
          obtain ⟨jv, hjv⟩ : ∃ jv, jv = x4 := ⟨_, rfl⟩
          rw [← hjv] at KJ
          have HMN : Hid (mn = 1) := HN.out
          have HMR : Hid (mr = ⟨x0, x1, x2, x3, jv, x5⟩) := by
            unfold Hid
            rw [HR.out, hjv]
            simp [nlJoin, nlTail]
          clear HN HR hjv
          have hm1 : 1 ≤ 1 := Nat.le_refl _
          have hm2 : k + 1 ≤ l.length := by omega
          go_wp2_with fail
          with_reducible refine KJ.out.mono ?_
          rintro e w4 ⟨rfl, hb4⟩
          replace HI := Lib.hid (HI.out.over hb4)
          clear hb4 KJ
          obtain ⟨c0, c1, c2, c3, c4, c5⟩ := HI.out.rx.cells
          simp only at c0 c1 c2 c3 c4 c5
          have f4 := HI.out.rx.free 4
          have H5 := Lib.hid (HI.out.putVal jv n4 n5 n6)
          go_wp2_with fail
          clear c0 c1 c2 c3 c4 c5 f4
          have HB0 := Lib.hid H5.out.bl
          have HB2 := Lib.hid H5.out.ra
          have hs0 := Nat.lt_trans H5.out.hq H5.out.qs
          have KT2 := Lib.hid (KT.out _ _ ⟨x0, x1, x2, x3, jv, x5⟩ H5.out.pr hm1 hm2)
          clear KT HI
          try rw [hcast] at KT2
          generalize w4.setCell ⟨q, 4, none⟩ (.string jv) = W5 at *
          refine (KT2.out.mono (fun _ _ => stepV)).mono ?_
          rintro e w2 ⟨y0, y1, y2, y3, y4, y5, hT, rfl, hp2, hu2⟩
          clear KT2 H5
          have hB3 : RecAt w2 w.heap.size noRec := by
            unfold RecAt
            rw [hu2.block _ hs0 n2]
            exact HB2.out
          obtain ⟨a0, a1, a2, a3, a4, a5⟩ := hB3.cells
          simp only [noRec] at a0 a1 a2 a3 a4 a5
          have f0 := hB3.free 0
          have f1 := hB3.free 1
          have f2 := hB3.free 2
          have f3 := hB3.free 3
          have f4 := hB3.free 4
          have f5 := hB3.free 5
          have HB3 := Lib.hid hB3
          have HP2 := Lib.hid hp2
          have HU2 := Lib.hid hu2
          have HT := Lib.hid hT
          clear hB3 hp2 hu2 hT
          go_wp2
          (try simp only [Exit.inBlock, Exit.then])
          refine bodyPost_ret (rec_result _ w.heap.size _ _ _ _ rfl rfl (HB3.out.put6 _ _ _ _ _ _)) rfl ?_
          rw [HMN.out, HMR.out]
          exact stepped HT.out (HP2.out.set6 n1 n3 _ _ _ _ _ _) (((But.of HB0.out).trans (HU2.out.mono HB0.out.size)).put6 _ (Nat.le_refl _) _ _ _ _ _ _)
      | cons y vs =>
        replace KA : Hid (Calls Tryd.prog 68 #[.agg #[.string d0, .string d1, .bool d2, .bool d3, .bool d4, .int .i64 d5], .slice av (l.length - (k + 1)) (l.length - (k + 1))] (W3.alloc (.cells #[.string x4] 9)).drew fun e w1 => ∃ gv cv, e = .returned (.slice (some ⟨gv, 0, none⟩) (vs.length + 1) cv) ∧ IndH w w1 b ⟨d0, d1, d2, d3, d4, d5⟩ g l k sec q ⟨x0, x1, x2, x3, x4, x5⟩ ∧ w1.ownsRow W3.heap.size 9 1 (.slice (some ⟨W3.heap.size, 0, none⟩) 1 1) 1 [.string x4] ∧ (∀ j u, ((y :: vs).map Value.string)[j]? = some u → w1.cell? ((⟨gv, 0, none⟩ : Addr).add j) = some u) ∧ W3.heap.size ≤ w1.heap.size) := by
          refine KA.out.mono ?_
          rintro e w1 ⟨v, rfl, hnil, hown1, hb1⟩
          have hbw : Below W3.heap.size W3 w1 := ((Below.refl W3.heap.size W3).alloc (Nat.le_refl _) _).trans (hb1.mono (by simp))
          obtain ⟨gv, cv, rfl⟩ := own_some hown1 (by simp)
          exact ⟨gv, cv, rfl, H.out.over hbw, ownsRow_below (World.ownsRow_lit (base := W3.heap.size) (e := 9) (size := 1) W3 #[.string x4] 1 (Nat.le_refl _) (by decide) rfl) hb1, fun j u hu => World.ownsRow.cells hown1 (g := gv) rfl j u hu, hbw.size⟩
        replace KB : Hid (Calls Tryd.prog 68 #[.agg #[.string d0, .string d1, .bool d2, .bool d3, .bool d4, .int .i64 d5], .slice av (l.length - (k + 1)) (l.length - (k + 1))] W3.drew fun e w1 => ∃ gv cv, e = .returned (.slice (some ⟨gv, 0, none⟩) (vs.length + 1) cv) ∧ IndH w w1 b ⟨d0, d1, d2, d3, d4, d5⟩ g l k sec q ⟨x0, x1, x2, x3, x4, x5⟩ ∧ (w1.alloc (.cells #[.string x4] 9)).ownsRow W3.heap.size 9 1 (.slice (some ⟨w1.heap.size, 0, none⟩) 1 1) 1 [.string x4] ∧ (∀ j u, ((y :: vs).map Value.string)[j]? = some u → (w1.alloc (.cells #[.string x4] 9)).cell? ((⟨gv, 0, none⟩ : Addr).add j) = some u) ∧ W3.heap.size ≤ w1.heap.size) := by
          refine KB.out.mono ?_
          rintro e w1 ⟨v, rfl, hnil, hown1, hb1⟩
          obtain ⟨gv, cv, rfl⟩ := own_some hown1 (by simp)
          exact ⟨gv, cv, rfl, H.out.over hb1, World.ownsRow_lit (base := W3.heap.size) (e := 9) (size := 1) w1 #[.string x4] 1 hb1.size (by decide) rfl, fun j u hu => World.ownsRow.cells (hown1.alloc _) (g := gv) rfl j u hu, hb1.size⟩
        have hbB : b < W3.heap.size := by have := H.out.hq; omega
        have hgB : g < W3.heap.size := by have := H.out.hq; omega
        have hvl : vs.length + 1 ≤ 1048576 := by simp only [List.length_cons] at hln; omega
        go_wp2_with fail
        go_region_held3 (fun w' => w'.cell? ⟨b, 0, none⟩ = some (.string d0) ∧ w'.cell? ⟨b, 1, none⟩ = some (.string d1) ∧ w'.cell? ⟨b, 2, none⟩ = some (.bool d2) ∧ w'.cell? ⟨b, 3, none⟩ = some (.bool d3) ∧ w'.cell? ⟨b, 4, none⟩ = some (.bool d4) ∧ w'.cell? ⟨b, 5, none⟩ = some (.int .i64 d5) ∧ w'.cell? ⟨b, 6, none⟩ = some (.slice (some ⟨g, 0, none⟩) l.length l.length) ∧ w'.cell? ⟨b, 7, none⟩ = some (.int .i64 (k : Int)) ∧ w'.cell? ⟨q, 4, none⟩ = some (.string x4))
          (first | go_keep | exact ⟨m0, m1, m2, m3, m4, m5, m6, m7, mc4⟩ | exact ⟨z0, z1, z2, z3, z4, z5, z6, z7, zc4⟩)
          (first
            | ((with_reducible refine KA.out.mono ?_); rintro e w1 ⟨gv, cv, rfl, hI1, hrow, hcv, hsz1⟩; obtain ⟨m0, m1, m2, m3, m4, m5, m6, m7, m8⟩ := hI1.pr.pa.cells; obtain ⟨mc0, mc1, mc2, mc3, mc4, mc5⟩ := hI1.rx.cells; simp only at m0 m1 m2 m3 m4 m5 m6 m7 mc4)
            | ((with_reducible refine KB.out.mono ?_); rintro e w1 ⟨gv, cv, rfl, hI1, hrow, hcv, hsz1⟩; obtain ⟨m0, m1, m2, m3, m4, m5, m6, m7, m8⟩ := hI1.pr.pa.cells; obtain ⟨mc0, mc1, mc2, mc3, mc4, mc5⟩ := hI1.rx.cells; simp only at m0 m1 m2 m3 m4 m5 m6 m7 mc4)
            | (refine step_append_lies _ (by rfl) _ _ _ (by rfl) W3.heap.size 9 i0 (.string ByteArray.empty) 1 16 Tryd.underlying44 hi hz0 hz1 hz2 rfl (by decide) _ _ _ (by rfl) hrow ⟨gv, 0, none⟩ (vs.length + 1) cv ((y :: vs).map Value.string) (by rfl) (by simp) hcv (by simp [Value.oneCell']) (by omega) (by unfold maxLen; omega) (by omega) hsz1 _ rfl ?_; intro gg cap w2 hown2 hgrow hat hlt2; have hkI := hI1.low ((Below.refl W3.heap.size w1).grown hgrow hsz1 (own_blockL hrow)) H.out.qs hbB hgB; obtain ⟨z0, z1, z2, z3, z4, z5, z6, z7, z8⟩ := hkI.pr.pa.cells; obtain ⟨zc0, zc1, zc2, zc3, zc4, zc5⟩ := hkI.rx.cells; simp only at z0 z1 z2 z3 z4 z5 z6 z7 zc4)
            | (refine step_append_lies _ (by rfl) _ _ _ (by rfl) W3.heap.size 9 i0 (.string ByteArray.empty) 1 16 Tryd.underlying44 hi hz0 hz1 hz2 rfl (by decide) _ _ _ (by rfl) hrow ⟨gv, 0, none⟩ (vs.length + 1) cv ((y :: vs).map Value.string) (by rfl) (by simp) hcv (by simp [Value.oneCell']) (by omega) (by unfold maxLen; omega) (by omega) (by simp; omega) _ rfl ?_; intro gg cap w2 hown2 hgrow hat hlt2; have hkI := hI1.low (((Below.refl W3.heap.size w1).alloc hsz1 _).grown hgrow (by simp; omega) (own_blockL hrow)) H.out.qs hbB hgB; obtain ⟨z0, z1, z2, z3, z4, z5, z6, z7, z8⟩ := hkI.pr.pa.cells; obtain ⟨zc0, zc1, zc2, zc3, zc4, zc5⟩ := hkI.rx.cells; simp only at z0 z1 z2 z3 z4 z5 z6 z7 zc4))
        ·
          have e9 : 1 + (vs.length + 1) = vs.length + 2 := by omega
          rw [e9] at hown2
          rw [e9]
          have hcells : ∀ i (h : i < (x4 :: y :: vs).length), w2.cell? ⟨gg, i, none⟩ = some (.string (x4 :: y :: vs)[i]) := by
            intro i h
            have := World.ownsRow.cells hown2 (g := gg) rfl i (.string (x4 :: y :: vs)[i]) (by rw [show [Value.string x4] ++ (y :: vs).map Value.string = (x4 :: y :: vs).map Value.string from rfl, List.getElem?_map, List.getElem?_eq_getElem h]; rfl)
            rwa [row_addr] at this
          have hcp := own_cap hown2 (by omega)
          have KJ0 := joinNL_many w2 gg cap vs.length (x4 :: y :: vs) x4 (y :: vs) rfl rfl hcells hlt2 HNL.out hcp
          obtain ⟨jv, hjv⟩ : ∃ jv : ByteArray, jv = ⟨(nlJoin (x4 :: y :: vs)).toArray⟩ := ⟨_, rfl⟩
          rw [← hjv] at KJ0
          have KJ := Lib.hid KJ0
          have HI := Lib.hid hkI
          have n4 : b ≠ q := by have := H.out.hq; omega
          have n5 : g ≠ q := by have := H.out.hq; omega
          have n6 : w.heap.size ≠ q := by have := H.out.hq; omega
          have HMN : Hid (mn = vs.length + 2) := HN.out
          have HMR : Hid (mr = ⟨x0, x1, x2, x3, jv, x5⟩) := by unfold Hid; rw [HR.out, hjv]
          have hm1 : 1 ≤ vs.length + 2 := by omega
          have hm2 : k + (vs.length + 2) ≤ l.length := by simp only [List.length_cons] at hln; omega
          have hcast : ((vs.length + 2 : Nat) : Int) = (vs.length : Int) + 2 := by omega
          clear e9 hcells hcp KJ0 hjv HN HR hrow hI1 hkI KA KB H hq3 m0 m1 m2 m3 m4 m5 m6 m7 m8 mc0 mc1 mc2 mc3 mc4 mc5 z0 z1 z2 z3 z4 z5 z6 z7 z8 zc0 zc1 zc2 zc3 zc4 zc5 hav r1 r2 r3 r4 p0 p1 p2 p3 p4 p5 p6 p7 p8 c0 c1 c2 c3 c4 c5 hown2 hgrow hat hcv hsz1 hbB hgB
          go_wp2_with fail
          with_reducible refine KJ.out.mono ?_
          rintro e w4 ⟨rfl, hb4⟩
          replace HI := Lib.hid (HI.out.over hb4)
          clear hb4 KJ
          obtain ⟨c0, c1, c2, c3, c4, c5⟩ := HI.out.rx.cells
          simp only at c0 c1 c2 c3 c4 c5
          have f4 := HI.out.rx.free 4
          have H5 := Lib.hid (HI.out.putVal jv n4 n5 n6)
          go_wp2_with fail
          clear c0 c1 c2 c3 c4 c5 f4
          have HB0 := Lib.hid H5.out.bl
          have HB2 := Lib.hid H5.out.ra
          have hs0 := Nat.lt_trans H5.out.hq H5.out.qs
          have KT2 := Lib.hid (KT.out _ _ ⟨x0, x1, x2, x3, jv, x5⟩ H5.out.pr hm1 hm2)
          clear KT HI
          try rw [hcast] at KT2
          generalize w4.setCell ⟨q, 4, none⟩ (.string jv) = W5 at *
          refine (KT2.out.mono (fun _ _ => stepV)).mono ?_
          rintro e w2 ⟨y0, y1, y2, y3, y4, y5, hT, rfl, hp2, hu2⟩
          clear KT2 H5
          have hB3 : RecAt w2 w.heap.size noRec := by
            unfold RecAt
            rw [hu2.block _ hs0 n2]
            exact HB2.out
          obtain ⟨a0, a1, a2, a3, a4, a5⟩ := hB3.cells
          simp only [noRec] at a0 a1 a2 a3 a4 a5
          have f0 := hB3.free 0
          have f1 := hB3.free 1
          have f2 := hB3.free 2
          have f3 := hB3.free 3
          have f4 := hB3.free 4
          have f5 := hB3.free 5
          have HB3 := Lib.hid hB3
          have HP2 := Lib.hid hp2
          have HU2 := Lib.hid hu2
          have HT := Lib.hid hT
          clear hB3 hp2 hu2 hT
          go_wp2
          (try simp only [Exit.inBlock, Exit.then])
          refine bodyPost_ret (rec_result _ w.heap.size _ _ _ _ rfl rfl (HB3.out.put6 _ _ _ _ _ _)) rfl ?_
          rw [HMN.out, HMR.out]
          exact stepped HT.out (HP2.out.set6 n1 n3 _ _ _ _ _ _) (((But.of HB0.out).trans (HU2.out.mono HB0.out.size)).put6 _ (Nat.le_refl _) _ _ _ _ _ _)
        ·
          have e9 : 1 + (vs.length + 1) = vs.length + 2 := by omega
          rw [e9] at hown2
          rw [e9]
          have hcells : ∀ i (h : i < (x4 :: y :: vs).length), w2.cell? ⟨gg, i, none⟩ = some (.string (x4 :: y :: vs)[i]) := by
            intro i h
            have := World.ownsRow.cells hown2 (g := gg) rfl i (.string (x4 :: y :: vs)[i]) (by rw [show [Value.string x4] ++ (y :: vs).map Value.string = (x4 :: y :: vs).map Value.string from rfl, List.getElem?_map, List.getElem?_eq_getElem h]; rfl)
            rwa [row_addr] at this
          have hcp := own_cap hown2 (by omega)
          have KJ0 := joinNL_many w2 gg cap vs.length (x4 :: y :: vs) x4 (y :: vs) rfl rfl hcells hlt2 HNL.out hcp
          obtain ⟨jv, hjv⟩ : ∃ jv : ByteArray, jv = ⟨(nlJoin (x4 :: y :: vs)).toArray⟩ := ⟨_, rfl⟩
          rw [← hjv] at KJ0
          have KJ := Lib.hid KJ0
          have HI := Lib.hid hkI
          have n4 : b ≠ q := by have := H.out.hq; omega
          have n5 : g ≠ q := by have := H.out.hq; omega
          have n6 : w.heap.size ≠ q := by have := H.out.hq; omega
          have HMN : Hid (mn = vs.length + 2) := HN.out
          have HMR : Hid (mr = ⟨x0, x1, x2, x3, jv, x5⟩) := by unfold Hid; rw [HR.out, hjv]
          have hm1 : 1 ≤ vs.length + 2 := by omega
          have hm2 : k + (vs.length + 2) ≤ l.length := by simp only [List.length_cons] at hln; omega
          have hcast : ((vs.length + 2 : Nat) : Int) = (vs.length : Int) + 2 := by omega
          clear e9 hcells hcp KJ0 hjv HN HR hrow hI1 hkI KA KB H hq3 m0 m1 m2 m3 m4 m5 m6 m7 m8 mc0 mc1 mc2 mc3 mc4 mc5 z0 z1 z2 z3 z4 z5 z6 z7 z8 zc0 zc1 zc2 zc3 zc4 zc5 hav r1 r2 r3 r4 p0 p1 p2 p3 p4 p5 p6 p7 p8 c0 c1 c2 c3 c4 c5 hown2 hgrow hat hcv hsz1 hbB hgB
          go_wp2_with fail
          with_reducible refine KJ.out.mono ?_
          rintro e w4 ⟨rfl, hb4⟩
          replace HI := Lib.hid (HI.out.over hb4)
          clear hb4 KJ
          obtain ⟨c0, c1, c2, c3, c4, c5⟩ := HI.out.rx.cells
          simp only at c0 c1 c2 c3 c4 c5
          have f4 := HI.out.rx.free 4
          have H5 := Lib.hid (HI.out.putVal jv n4 n5 n6)
          go_wp2_with fail
          clear c0 c1 c2 c3 c4 c5 f4
          have HB0 := Lib.hid H5.out.bl
          have HB2 := Lib.hid H5.out.ra
          have hs0 := Nat.lt_trans H5.out.hq H5.out.qs
          have KT2 := Lib.hid (KT.out _ _ ⟨x0, x1, x2, x3, jv, x5⟩ H5.out.pr hm1 hm2)
          clear KT HI
          try rw [hcast] at KT2
          generalize w4.setCell ⟨q, 4, none⟩ (.string jv) = W5 at *
          refine (KT2.out.mono (fun _ _ => stepV)).mono ?_
          rintro e w2 ⟨y0, y1, y2, y3, y4, y5, hT, rfl, hp2, hu2⟩
          clear KT2 H5
          have hB3 : RecAt w2 w.heap.size noRec := by
            unfold RecAt
            rw [hu2.block _ hs0 n2]
            exact HB2.out
          obtain ⟨a0, a1, a2, a3, a4, a5⟩ := hB3.cells
          simp only [noRec] at a0 a1 a2 a3 a4 a5
          have f0 := hB3.free 0
          have f1 := hB3.free 1
          have f2 := hB3.free 2
          have f3 := hB3.free 3
          have f4 := hB3.free 4
          have f5 := hB3.free 5
          have HB3 := Lib.hid hB3
          have HP2 := Lib.hid hp2
          have HU2 := Lib.hid hu2
          have HT := Lib.hid hT
          clear hB3 hp2 hu2 hT
          go_wp2
          (try simp only [Exit.inBlock, Exit.then])
          refine bodyPost_ret (rec_result _ w.heap.size _ _ _ _ rfl rfl (HB3.out.put6 _ _ _ _ _ _)) rfl ?_
          rw [HMN.out, HMR.out]
          exact stepped HT.out (HP2.out.set6 n1 n3 _ _ _ _ _ _) (((But.of HB0.out).trans (HU2.out.mono HB0.out.size)).put6 _ (Nat.le_refl _) _ _ _ _ _ _)
    · have hx2 : (x0 != 3) = false := by simpa using hx
      obtain rfl : mq = true := by rw [HQ.out]; simp
      obtain rfl : mr = ⟨x0, x1, x2, x3, x4, x5⟩ := HR.out
      obtain rfl : mn = 1 := HN.out
      clear HQ HR HN HL KI hx
      obtain ⟨p0, p1, p2, p3, p4, p5, p6, p7, p8⟩ := H.out.pr.pa.cells
      obtain ⟨c0, c1, c2, c3, c4, c5⟩ := H.out.rx.cells
      simp only at p0 p1 p2 p3 p4 p5 p6 p7 p8 c0 c1 c2 c3 c4 c5
      go_wp2_with fail
      refine (KQ.out _).mono ?_
      rintro e W3 ⟨rfl, hb3⟩
      replace H := Lib.hid (H.out.over hb3)
      clear p0 p1 p2 p3 p4 p5 p6 p7 p8 c0 c1 c2 c3 c4 c5
      clear hb3 KQ
      generalize W2.heap.size = q at *
      obtain ⟨p0, p1, p2, p3, p4, p5, p6, p7, p8⟩ := H.out.pr.pa.cells
      obtain ⟨c0, c1, c2, c3, c4, c5⟩ := H.out.rx.cells
      simp only at p0 p1 p2 p3 p4 p5 p6 p7 p8 c0 c1 c2 c3 c4 c5
      go_wp2_with fail
      clear p0 p1 p2 p3 p4 p5 p6 p7 p8 c0 c1 c2 c3 c4 c5
      have HB0 := Lib.hid H.out.bl
      have HB2 := Lib.hid H.out.ra
      have hs0 := Nat.lt_trans H.out.hq H.out.qs
      refine ((KT.out _ 1 ⟨x0, x1, x2, x3, x4, x5⟩ H.out.pr (Nat.le_refl _) (by omega)).mono (fun _ _ => stepV)).mono ?_
      rintro e w2 ⟨y0, y1, y2, y3, y4, y5, hT, rfl, hp2, hu2⟩
      clear KT H
      have hB3 : RecAt w2 w.heap.size noRec := by
        unfold RecAt
        rw [hu2.block _ hs0 n2]
        exact HB2.out
      obtain ⟨a0, a1, a2, a3, a4, a5⟩ := hB3.cells
      simp only [noRec] at a0 a1 a2 a3 a4 a5
      have f0 := hB3.free 0
      have f1 := hB3.free 1
      have f2 := hB3.free 2
      have f3 := hB3.free 3
      have f4 := hB3.free 4
      have f5 := hB3.free 5
      have HB3 := Lib.hid hB3
      have HP2 := Lib.hid hp2
      have HU2 := Lib.hid hu2
      have HT := Lib.hid hT
      clear hB3 hp2 hu2 hT
      go_wp2
      (try simp only [Exit.inBlock, Exit.then])
      exact bodyPost_ret (rec_result _ w.heap.size _ _ _ _ rfl rfl (HB3.out.put6 _ _ _ _ _ _)) rfl (stepped HT.out (HP2.out.set6 n1 n3 _ _ _ _ _ _) (((But.of HB0.out).trans (HU2.out.mono HB0.out.size)).put6 _ (Nat.le_refl _) _ _ _ _ _ _))
  · have hx2 : (x0 != 3) = true := by simpa using hx
    obtain rfl : mq = true := by rw [HQ.out, hx2]; rfl
    obtain rfl : mr = ⟨x0, x1, x2, x3, x4, x5⟩ := HR.out
    obtain rfl : mn = 1 := HN.out
    clear HQ HR HN HL KI KQ hx
    obtain ⟨p0, p1, p2, p3, p4, p5, p6, p7, p8⟩ := H.out.pr.pa.cells
    obtain ⟨c0, c1, c2, c3, c4, c5⟩ := H.out.rx.cells
    simp only at p0 p1 p2 p3 p4 p5 p6 p7 p8 c0 c1 c2 c3 c4 c5
    go_wp2_with fail
    clear p0 p1 p2 p3 p4 p5 p6 p7 p8 c0 c1 c2 c3 c4 c5
    have HB0 := Lib.hid H.out.bl
    have HB2 := Lib.hid H.out.ra
    have hs0 := Nat.lt_trans H.out.hq H.out.qs
    refine ((KT.out _ 1 ⟨x0, x1, x2, x3, x4, x5⟩ H.out.pr (Nat.le_refl _) (by omega)).mono (fun _ _ => stepV)).mono ?_
    rintro e w2 ⟨y0, y1, y2, y3, y4, y5, hT, rfl, hp2, hu2⟩
    clear KT H
    have hB3 : RecAt w2 w.heap.size noRec := by
      unfold RecAt
      rw [hu2.block _ hs0 n2]
      exact HB2.out
    obtain ⟨a0, a1, a2, a3, a4, a5⟩ := hB3.cells
    simp only [noRec] at a0 a1 a2 a3 a4 a5
    have f0 := hB3.free 0
    have f1 := hB3.free 1
    have f2 := hB3.free 2
    have f3 := hB3.free 3
    have f4 := hB3.free 4
    have f5 := hB3.free 5
    have HB3 := Lib.hid hB3
    have HP2 := Lib.hid hp2
    have HU2 := Lib.hid hu2
    have HT := Lib.hid hT
    clear hB3 hp2 hu2 hT
    go_wp2
    (try simp only [Exit.inBlock, Exit.then])
    exact bodyPost_ret (rec_result _ w.heap.size _ _ _ _ rfl rfl (HB3.out.put6 _ _ _ _ _ _)) rfl (stepped HT.out (HP2.out.set6 n1 n3 _ _ _ _ _ _) (((But.of HB0.out).trans (HU2.out.mono HB0.out.size)).put6 _ (Nat.le_refl _) _ _ _ _ _ _))

end Go.Proofs.YtcphmgdeigbemaaDoor
