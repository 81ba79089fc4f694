/- The text that is drawn of a given size. -/
import Derived.Test.YtkhcdopnohbieaaDoorProg
import Derived.Test.YtkhcdopnohbieaaDoorDraw
import Derived.Test.YtkhcdopnohbieaaDoorDrawFn
import Derived.Test.YtkhcdopnohbieaaDoorLcg
import Derived.WalkKit
import Derived.WalkLawsBesides
import Derived.RangeFuncBox
import Derived.Maps.AppendAt
import Derived.Laws.IdiomStrings
import Derived.BigQuiet
import Derived.Deep.QuietTactic
import Derived.Lib.Hide
import Derived.IntWalk
import Derived.Below
namespace Go.Proofs.YtkhcdopnohbieaaDoor
open Go.RowKit
set_option linter.unusedVariables false

def byteV (c : UInt8) : Value := .int .u8 (c.toNat : Int)
theorem info_byte : (Tryd.prog.info? 5).map (fun i => (i.zero, i.size, i.bytes)) = some (some (.int .u8 0), 1, 1) := by kernel_rfl

/-- a row of bytes of the call's own, beside a cursor -/
structure TI (w : World) (B b : Nat) (a : Option Addr) (len cap : Nat) (r : Nat → Int) (l : List UInt8) (v : Value) (i h : Int) (wr : World) : Prop where
  own : wr.ownsRow w.heap.size 5 1 v l.length (l.map byteV)
  form : ∃ g c, v = .slice (some ⟨g, 0, none⟩) l.length c
  cur : CurF wr B b a len cap r i h
  grown : w.grownBy wr (some b)
  low : b < w.heap.size

theorem TI.draw {w : World} {B b : Nat} {a : Option Addr} {len cap : Nat} {r : Nat → Int} {l : List UInt8} {v : Value} {i h i' h' : Int} {wr w' : World} (H : TI w B b a len cap r l v i h wr) (hC : CurF w' B b a len cap r i' h') (hg : wr.grownBy w' (some b)) : TI w B b a len cap r l v i' h' w' :=
  ⟨H.own.kept hg (.inr (fun e => by have := (H.own.lt b e).1; have := H.low; omega)), H.form, hC, grownBy_step H.grown hg, H.low⟩
theorem TI.push {w : World} {B b : Nat} {a : Option Addr} {len cap : Nat} {r : Nat → Int} {l : List UInt8} {x : UInt8} {v v' : Value} {i h : Int} {wr w1 : World} {o : Obj} (H : TI w B b a len cap r l v i h wr)
    (hown : w1.ownsRow w.heap.size 5 1 v' (l.length + 1) (l.map byteV ++ [byteV x])) (hg : (wr.alloc o).grownBy w1 v.ownBlock) : TI w B b a len cap r (l ++ [x]) v' i h w1 := by
  have hsz := H.grown.size
  have keep : ∀ k, k < w.heap.size → w1.heap[k]? = wr.heap[k]? := fun k hk =>
    (hg.block k (by simp; omega) (fun e => by have := (H.own.lt k e.symm).1; omega)).trans (Below.heap_alloc _ _ _ (by omega))
  have hs2 : wr.heap.size ≤ w1.heap.size := Nat.le_trans (by simp) hg.size
  refine ⟨by simpa using hown, ?_, H.cur.kept (fun k hk => keep k (by have := H.low; omega)) hs2, ?_, H.low⟩
  · obtain ⟨g, c, e⟩ := ownsRow_succ hown
    exact ⟨g, c, by rw [e]; simp⟩
  · refine ⟨hg.os.trans H.grown.os, hg.tape.trans H.grown.tape, hg.output.trans H.grown.output, Nat.le_trans hsz hs2, fun k hk hne => (keep k hk).trans (H.grown.block k hk hne)⟩

noncomputable def cI (wr : World) (b : Nat) : Int := intOf ((wr.cell? ⟨b, 1, none⟩).getD undef)
noncomputable def cH (wr : World) (b : Nat) : Int := intOf ((wr.cell? ⟨b, 2, none⟩).getD undef)
def lenOf : Value → Nat | .slice _ n _ => n | _ => 0
theorem TI.see {w : World} {B b : Nat} {a : Option Addr} {len cap : Nat} {r : Nat → Int} {l : List UInt8} {v : Value} {i h : Int} {wr : World} (H : TI w B b a len cap r l v i h wr) : cI wr b = i ∧ cH wr b = h ∧ lenOf v = l.length ∧ 0 ≤ i := by
  obtain ⟨g, c, rfl⟩ := H.form
  refine ⟨?_, ?_, rfl, H.cur.1.i0⟩
  · unfold cI; rw [H.cur.1.c1]; rfl
  · unfold cH; rw [H.cur.1.c2]; rfl
theorem to_byte (x : Int) : ∃ c : UInt8, x % 256 = (c.toNat : Int) := by
  refine ⟨UInt8.ofNat (x % 256).toNat, ?_⟩
  rw [UInt8.toNat_ofNat']
  omega

def SomeT (n : Nat) (w : World) (B b : Nat) (a : Option Addr) (len cap : Nat) (r : Nat → Int) (e : Ending) (w' : World) : Prop :=
  ∃ (s : ByteArray) (i' h' : Int), s.size = n ∧ e = .returned (.string s) ∧ CurF w' B b a len cap r i' h' ∧ w.grownBy w' (some b)

theorem text_back {w : World} {B b : Nat} {a : Option Addr} {len cap : Nat} {r : Nat → Int} {l : List UInt8} {g c : Nat} {i h : Int} {wr : World} (H : TI w B b a len cap r l (.slice (some ⟨g, 0, none⟩) l.length c) i h wr) (n : Nat) (hn : n ≤ l.length) :
    (convert 22 9 (.slice (some ⟨g, 0, none⟩) n c)).run Tryd.prog wr = .ok (.string ⟨(l.take n).toArray⟩) wr := by
  have h := run_convert_bytes_back (P := Tryd.prog) wr 22 9 5 ⟨g, 0, none⟩ c (l.take n) Tryd.underlying22 Tryd.underlying5 Tryd.underlying9 (fun j hj => by
    have hj2 : j < n := by rw [List.length_take] at hj; omega
    have := H.own.cells (g := g) rfl j (byteV l[j]) (by simp [show j < l.length by omega])
    rw [this]
    simp [byteV])
  rw [List.length_take, Nat.min_eq_left hn] at h
  exact h

set_option maxRecDepth 100000 in
set_option maxHeartbeats 3200000 in
theorem text_draw (w : World) (B b : Nat) (a : Option Addr) (len cap : Nat) (r : Nat → Int) (i0 h0 : Int) (n : Nat) (hlen : len ≤ 1048576) (hC : CurF w B b a len cap r i0 h0) (hn : n ≤ 16) :
    Calls Tryd.prog 36 #[.pointer (some ⟨b, 0, none⟩), .int .i64 n] w (SomeT n w B b a len cap r) := by
  obtain ⟨ib, hi, hz0, hz1, hz2⟩ := info_parts info_byte
  have hlt := hC.lt
  go_enter Tryd.func36, Tryd.ntmps36
  go_wp2
  go_loopw [5] (fun v wr => ∃ (l : List UInt8) (i h : Int), l.length ≤ 40 ∧ Hid (TI w B b a len cap r l v i h wr)) (fun v wr => togo n len (lenOf v) (cI wr b) (cH wr b))
  case atStart => exact ⟨[], i0, h0, by simp, ⟨World.ownsRow_lit w #[] 0 (Nat.le_refl _) (Nat.zero_le _) rfl, ⟨_, _, rfl⟩, hC.alloc _, World.grownBy_alloc w _ _, hlt⟩⟩
  case round =>
    obtain ⟨l, i, h, hl40, H⟩ := hrel
    obtain ⟨sI, sH, sL, hi0⟩ := H.out.see
    have SI := Lib.hid sI
    have SH := Lib.hid sH
    have SL := Lib.hid sL
    clear sI sH sL hC
    obtain ⟨g, c, rfl⟩ := H.out.form
    by_cases hln : l.length < n
    · go_wp2_with fail
      refine (below_fn _ B b a len cap r i h 5 (by omega) H.out.cur (by decide) (by decide)).mono ?_
      rintro e w1 ⟨rfl, hC1, hg1⟩
      have H1 := Lib.hid (H.out.draw hC1 hg1)
      clear H hC1 hg1
      have hx : byteX r len i h % 5 = 0 ∨ byteX r len i h % 5 = 1 ∨ byteX r len i h % 5 = 2 ∨ byteX r len i h % 5 = 3 ∨ byteX r len i h % 5 = 4 := by
        have hb0 := byteX_bound r len i h
        omega
      rcases hx with hx | hx | hx | hx | hx
      · rw [hx]
        clear hx
        have hb1 := byteX_bound r len (nextI len i) (nextH h)
        have K := Lib.hid (byte_fn w1 B b a len cap r (nextI len i) (nextH h) (by omega) H1.out.cur)
        generalize byteX r len (nextI len i) (nextH h) = y at *
        go_wp2_with fail
        refine K.out.mono ?_
        rintro e w2 ⟨rfl, hC2, hg2⟩
        have H2 := Lib.hid (H1.out.draw hC2 hg2)
        clear H1 hC2 hg2 K
        obtain ⟨x, hx⟩ := to_byte y
        have hy : y % 256 = y := by omega
        rw [hy] at hx
        subst hx
        go_wp2_with (at_builtin; refine wpList_append_own _ rfl _ _ 22 rfl w.heap.size 5 ib (.int .u8 0) 1 1 Tryd.underlying22 hi hz0 hz1 hz2 rfl (by decide) _ _ _ rfl (H2.out.own.alloc _) ⟨w2.heap.size, 0, none⟩ 1 1 [byteV x] rfl rfl (cell_one_new _ _ _) (by simp [Value.oneCell', byteV]) (by unfold maxLen; omega) (by omega) (by have := H2.out.grown.size; simp; omega) ?_; intro v' wn hown' hgrow _)
        have HN := Lib.hid (H2.out.push hown' hgrow)
        clear H2 hown' hgrow
        go_wp2
        go_roundw
        case rel => exact ⟨_, _, _, by simp; omega, HN⟩
        case measure =>
          obtain ⟨s1, s2, s3, s4⟩ := HN.out.see
          rw [s1, s2, s3, SI.out, SH.out, SL.out]
          exact togo_grow _ _ _ _ _ _ _ _ hln (by simp)
      · have hbad : ¬ goodX (byteX r len i h) := fun hg => hg.1 hx
        have HBAD := Lib.hid hbad
        rw [hx]
        clear hx hbad
        have hk0 : 0 ≤ byteX r len (nextI len i) (nextH h) % 9 := Int.emod_nonneg _ (by decide)
        have hk1 : byteX r len (nextI len i) (nextH h) % 9 < 9 := Int.emod_lt_of_pos _ (by decide)
        have K := Lib.hid (below_fn w1 B b a len cap r (nextI len i) (nextH h) 9 (by omega) H1.out.cur (by decide) (by decide))
        generalize byteX r len (nextI len i) (nextH h) % 9 = kk at *
        obtain ⟨k, rfl⟩ := Int.eq_ofNat_of_zero_le hk0
        have hm0 : 0 ≤ byteX r len (nextI len (nextI len i)) (nextH (nextH h)) % 4 := Int.emod_nonneg _ (by decide)
        have hm1 : byteX r len (nextI len (nextI len i)) (nextH (nextH h)) % 4 < 4 := Int.emod_lt_of_pos _ (by decide)
        go_wp2_with fail
        refine K.out.mono ?_
        rintro e w2 ⟨rfl, hC2, hg2⟩
        have H2 := Lib.hid (H1.out.draw hC2 hg2)
        clear H1 hC2 hg2 K
        have K := Lib.hid (below_fn w2 B b a len cap r (nextI len (nextI len i)) (nextH (nextH h)) 4 (by omega) H2.out.cur (by decide) (by decide))
        generalize byteX r len (nextI len (nextI len i)) (nextH (nextH h)) % 4 = y at *
        obtain ⟨x, hx⟩ := to_byte (97 + y)
        have hy : (97 + y) % 256 = 97 + y := by omega
        rw [hy] at hx
        obtain rfl : y = (x.toNat : Int) - 97 := by omega
        have hxx : 97 + ((x.toNat : Int) - 97) = (x.toNat : Int) := by omega
        clear hx hy
        go_wp2_with fail
        refine K.out.mono ?_
        rintro e w3 ⟨rfl, hC3, hg3⟩
        have H3 := Lib.hid (H2.out.draw hC3 hg3)
        clear H2 hC3 hg3 K
        go_wp2
        go_loopw [5, 8] (fun v q wq => ∃ (j : Nat) (m : List UInt8), j ≤ k ∧ q = .int .i64 j ∧ m.length = l.length + j ∧ Hid (TI w B b a len cap r m v (nextI len (nextI len (nextI len i))) (nextH (nextH (nextH h))) wq)) (fun _ q _ => k - (intOf q).toNat)
        case atStart => exact ⟨0, l, Nat.zero_le _, rfl, rfl, H3⟩
        case round =>
          obtain ⟨j, m, hj, rfl, hm, HM⟩ := hrel
          clear H3
          obtain ⟨g2, c2, rfl⟩ := HM.out.form
          by_cases hjk : j < k
          · go_wp2_with (at_builtin; refine wpList_append_own _ rfl _ _ 22 rfl w.heap.size 5 ib (.int .u8 0) 1 1 Tryd.underlying22 hi hz0 hz1 hz2 rfl (by decide) _ _ _ rfl (HM.out.own.alloc _) ⟨wr.heap.size, 0, none⟩ 1 1 [byteV x] rfl rfl (cell_one_new _ _ _) (by simp [Value.oneCell', byteV]) (by unfold maxLen; omega) (by omega) (by have := HM.out.grown.size; simp; omega) ?_; intro v' wn hown' hgrow _)
            have HN := Lib.hid (HM.out.push hown' hgrow)
            clear HM hown' hgrow
            go_wp2
            go_roundw
            case rel => exact ⟨j + 1, m ++ [x], by omega, by go_num, by simp; omega, HN⟩
            case measure => simp [intOf]; omega
          · obtain rfl : j = k := by omega
            go_wp2
            go_roundw
            case rel => exact ⟨m, _, _, by omega, HM⟩
            case measure =>
              obtain ⟨s1, s2, s3, s4⟩ := HM.out.see
              rw [s1, s2, s3, SI.out, SH.out, SL.out]
              by_cases hj0 : j = 0
              · rw [show m.length = l.length by omega]
                exact togo_still r n len l.length i h 3 hi0 HBAD.out (by decide) (by decide)
              · exact togo_grow _ _ _ _ _ _ _ _ hln (by omega)
      · have hbad : ¬ goodX (byteX r len i h) := fun hg => hg.2 hx
        have HBAD := Lib.hid hbad
        rw [hx]
        clear hx hbad
        rcases Nat.eq_zero_or_pos l.length with hl0 | hl0
        · obtain rfl : l = [] := List.eq_nil_of_length_eq_zero hl0
          clear hl0
          go_wp2
          go_roundw
          case rel => exact ⟨[], _, _, by simp, H1⟩
          case measure =>
            obtain ⟨s1, s2, s3, s4⟩ := H1.out.see
            rw [s1, s2, SI.out, SH.out]
            exact togo_still r n len _ i h 1 hi0 HBAD.out (by decide) (by decide)
        · have hz : decide ((0 : Int) < ((l.length : Nat) : Int)) = true := by rw [decide_eq_true_iff]; omega
          have hk0 : 0 ≤ byteX r len (nextI len i) (nextH h) % (l.length : Int) := Int.emod_nonneg _ (by omega)
          have hk1 : byteX r len (nextI len i) (nextH h) % (l.length : Int) < (l.length : Int) := Int.emod_lt_of_pos _ (by omega)
          have K := Lib.hid (below_fn w1 B b a len cap r (nextI len i) (nextH h) (l.length : Int) (by omega) H1.out.cur (by omega) (by omega))
          generalize byteX r len (nextI len i) (nextH h) % (l.length : Int) = ff at *
          obtain ⟨f, rfl⟩ := Int.eq_ofNat_of_zero_le hk0
          have hm0 : 0 ≤ byteX r len (nextI len (nextI len i)) (nextH (nextH h)) % 20 := Int.emod_nonneg _ (by decide)
          have hm1 : byteX r len (nextI len (nextI len i)) (nextH (nextH h)) % 20 < 20 := Int.emod_lt_of_pos _ (by decide)
          go_wp2_with fail
          refine K.out.mono ?_
          rintro e w2 ⟨rfl, hC2, hg2⟩
          have H2 := Lib.hid (H1.out.draw hC2 hg2)
          clear H1 hC2 hg2 K
          have K := Lib.hid (below_fn w2 B b a len cap r (nextI len (nextI len i)) (nextH (nextH h)) 20 (by omega) H2.out.cur (by decide) (by decide))
          generalize byteX r len (nextI len (nextI len i)) (nextH (nextH h)) % 20 = kk at *
          obtain ⟨k, rfl⟩ := Int.eq_ofNat_of_zero_le hm0
          go_wp2_with fail
          refine K.out.mono ?_
          rintro e w3 ⟨rfl, hC3, hg3⟩
          have H3 := Lib.hid (H2.out.draw hC3 hg3)
          clear H2 hC3 hg3 K
          clear hz
          go_wp2
          go_loopw [5, 11] (fun v q wq => ∃ (j : Nat) (m : List UInt8), j ≤ k ∧ q = .int .i64 j ∧ m.length = l.length + j ∧ Hid (TI w B b a len cap r m v (nextI len (nextI len (nextI len i))) (nextH (nextH (nextH h))) wq)) (fun _ q _ => k - (intOf q).toNat)
          case atStart => exact ⟨0, l, Nat.zero_le _, rfl, rfl, H3⟩
          case round =>
            obtain ⟨j, m, hj, rfl, hm, HM⟩ := hrel
            clear H3
            obtain ⟨g2, c2, rfl⟩ := HM.out.form
            by_cases hjk : j < k
            · skip
              have hfm : f + j < m.length := by omega
              have q1 : (f : Int) + (j : Int) < (m.length : Int) := by omega
              have hcell : wr.cell? ⟨g2, f + j, none⟩ = some (.int .u8 ((m[f + j].toNat : Nat) : Int)) := by
                have := HM.out.own.cellAt (f + j) (by omega)
                rw [this]
                simp [hfm, byteV]
              generalize m[f + j] = x at *
              go_wp2_with (at_builtin; refine wpList_append_own _ rfl _ _ 22 rfl w.heap.size 5 ib (.int .u8 0) 1 1 Tryd.underlying22 hi hz0 hz1 hz2 rfl (by decide) _ _ _ rfl (HM.out.own.alloc _) ⟨wr.heap.size, 0, none⟩ 1 1 [byteV x] rfl rfl (cell_one_new _ _ _) (by simp [Value.oneCell', byteV]) (by unfold maxLen; omega) (by omega) (by have := HM.out.grown.size; simp; omega) ?_; intro v' wn hown' hgrow _)
              have HN := Lib.hid (HM.out.push hown' hgrow)
              clear HM hown' hgrow hcell
              go_wp2
              go_roundw
              case rel => exact ⟨j + 1, m ++ [x], by omega, by go_num, by simp; omega, HN⟩
              case measure => simp [intOf]; omega
            · obtain rfl : j = k := by omega
              go_wp2
              go_roundw
              case rel => exact ⟨m, _, _, by omega, HM⟩
              case measure =>
                obtain ⟨s1, s2, s3, s4⟩ := HM.out.see
                rw [s1, s2, s3, SI.out, SH.out, SL.out]
                by_cases hj0 : j = 0
                · rw [show m.length = l.length by omega]
                  exact togo_still r n len l.length i h 3 hi0 HBAD.out (by decide) (by decide)
                · exact togo_grow _ _ _ _ _ _ _ _ hln (by omega)
      · rw [hx]
        clear hx
        have hb1 := byteX_bound r len (nextI len i) (nextH h)
        have K := Lib.hid (below_fn w1 B b a len cap r (nextI len i) (nextH h) 26 (by omega) H1.out.cur (by decide) (by decide))
        have hm0 : 0 ≤ byteX r len (nextI len i) (nextH h) % 26 := Int.emod_nonneg _ (by decide)
        have hm1 : byteX r len (nextI len i) (nextH h) % 26 < 26 := Int.emod_lt_of_pos _ (by decide)
        generalize byteX r len (nextI len i) (nextH h) % 26 = y at *
        obtain ⟨x, hx⟩ := to_byte (97 + y)
        have hy : (97 + y) % 256 = 97 + y := by omega
        rw [hy] at hx
        have HX := Lib.hid hx
        clear hx hy
        go_wp2_with fail
        refine K.out.mono ?_
        rintro e w2 ⟨rfl, hC2, hg2⟩
        have H2 := Lib.hid (H1.out.draw hC2 hg2)
        clear H1 hC2 hg2 K
        obtain rfl : y = (x.toNat : Int) - 97 := by have := HX.out; omega
        have hxx : 97 + ((x.toNat : Int) - 97) = (x.toNat : Int) := by omega
        clear HX
        go_wp2_with (at_builtin; refine wpList_append_own _ rfl _ _ 22 rfl w.heap.size 5 ib (.int .u8 0) 1 1 Tryd.underlying22 hi hz0 hz1 hz2 rfl (by decide) _ _ _ rfl (H2.out.own.alloc _) ⟨w2.heap.size, 0, none⟩ 1 1 [byteV x] rfl rfl (cell_one_new _ _ _) (by simp [Value.oneCell', byteV]) (by unfold maxLen; omega) (by omega) (by have := H2.out.grown.size; simp; omega) ?_; intro v' wn hown' hgrow _)
        have HN := Lib.hid (H2.out.push hown' hgrow)
        clear H2 hown' hgrow
        go_wp2
        go_roundw
        case rel => exact ⟨_, _, _, by simp; omega, HN⟩
        case measure =>
          obtain ⟨s1, s2, s3, s4⟩ := HN.out.see
          rw [s1, s2, s3, SI.out, SH.out, SL.out]
          exact togo_grow _ _ _ _ _ _ _ _ hln (by simp)
      · rw [hx]
        clear hx
        have hb1 := byteX_bound r len (nextI len i) (nextH h)
        have K := Lib.hid (below_fn w1 B b a len cap r (nextI len i) (nextH h) 26 (by omega) H1.out.cur (by decide) (by decide))
        have hm0 : 0 ≤ byteX r len (nextI len i) (nextH h) % 26 := Int.emod_nonneg _ (by decide)
        have hm1 : byteX r len (nextI len i) (nextH h) % 26 < 26 := Int.emod_lt_of_pos _ (by decide)
        generalize byteX r len (nextI len i) (nextH h) % 26 = y at *
        obtain ⟨x, hx⟩ := to_byte (97 + y)
        have hy : (97 + y) % 256 = 97 + y := by omega
        rw [hy] at hx
        have HX := Lib.hid hx
        clear hx hy
        go_wp2_with fail
        refine K.out.mono ?_
        rintro e w2 ⟨rfl, hC2, hg2⟩
        have H2 := Lib.hid (H1.out.draw hC2 hg2)
        clear H1 hC2 hg2 K
        obtain rfl : y = (x.toNat : Int) - 97 := by have := HX.out; omega
        have hxx : 97 + ((x.toNat : Int) - 97) = (x.toNat : Int) := by omega
        clear HX
        go_wp2_with (at_builtin; refine wpList_append_own _ rfl _ _ 22 rfl w.heap.size 5 ib (.int .u8 0) 1 1 Tryd.underlying22 hi hz0 hz1 hz2 rfl (by decide) _ _ _ rfl (H2.out.own.alloc _) ⟨w2.heap.size, 0, none⟩ 1 1 [byteV x] rfl rfl (cell_one_new _ _ _) (by simp [Value.oneCell', byteV]) (by unfold maxLen; omega) (by omega) (by have := H2.out.grown.size; simp; omega) ?_; intro v' wn hown' hgrow _)
        have HN := Lib.hid (H2.out.push hown' hgrow)
        clear H2 hown' hgrow
        go_wp2
        go_roundw
        case rel => exact ⟨_, _, _, by simp; omega, HN⟩
        case measure =>
          obtain ⟨s1, s2, s3, s4⟩ := HN.out.see
          rw [s1, s2, s3, SI.out, SH.out, SL.out]
          exact togo_grow _ _ _ _ _ _ _ _ hln (by simp)
    · have hnc : n ≤ c := by
        rcases H.out.own.2 with ⟨hv, _⟩ | ⟨g', cap', cur, hv, hb, hg, hnc, _⟩
        · cases hv
        · cases hv; omega
      have hcv := text_back H.out n (by omega)
      have hnn : (n : Int) ≤ (c : Int) := by omega
      have hsz : (⟨(l.take n).toArray⟩ : ByteArray).size = n := by
        rw [show (⟨(l.take n).toArray⟩ : ByteArray).size = (l.take n).length from rfl, List.length_take]; omega
      have HS := Lib.hid hsz
      clear hsz
      go_wp2
      go_ret
      exact ⟨_, i, h, HS.out, rfl, H.out.cur, H.out.grown⟩

end Go.Proofs.YtkhcdopnohbieaaDoor
