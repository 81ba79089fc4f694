/-
  PROVED HERE: the tied card of 'laws.FnJoined': it returns true at every input, and its argument reads afterwards as it did, where the listed tables of the library hold what the program's text lays (the card ties them). No condition is added to the given statement.
-/
import Derived.Test.YtcphmgdeigbemaaDoorDialSpec
import Derived.Test.YtcphmgdeigbemaaDoorDialImpl
import Derived.Test.YtcphmgdeigbemaaDoorParseImpl
import Derived.Test.YtcphmgdeigbemaaDoorProg
import Derived.Test.YtcphmgdeigbemaaDoorPlain
import Derived.Test.YtcphmgdeigbemaaDoorDraw
import Derived.Test.YtcphmgdeigbemaaDoorDialectRows
import Derived.Test.YtcphmgdeigbemaaDoorBareSpec
import Derived.Test.YtcphmgdeigbemaaDoorPairSpec
import Derived.Test.YtcphmgdeigbemaaDoorRecRows
import Derived.Test.YtcphmgdeigbemaaDoorRows0
import Derived.Test.YtcphmgdeigbemaaDoorIniDraw
import Derived.WalkKit
import Derived.WalkLawsBesides
import Derived.BigQuiet
import Derived.Deep.QuietTactic
import Derived.Deep.RegionHeld3
import Derived.Laws.IdiomStrings
import Derived.Lib.Hide
import Derived.IntWalk
import Derived.Outline
import Derived.Test.YtcphmgdeigbemaaDoorCards
import Derived.Test.YtcphmgdeigbemaaDoorTie
import Derived.ProofKit
import Derived.OpenShut
import Derived.ShutString
import Derived.ChangeOld
import Derived.Below
import Derived.LaidSub
import Derived.Lay
import Derived.Deep.DeepHandedRow
import Derived.Lib.LaidTab
set_option maxRecDepth 100000
namespace Go.Proofs.YtcphmgdeigbemaaDoor

abbrev kB : ByteArray := ⟨#[107]⟩
abbrev oneB : ByteArray := ⟨#[32, 108, 111, 110, 103, 32, 118, 97, 108, 117, 101, 10]⟩
abbrev twoB : ByteArray := ⟨#[32, 108, 111, 110, 103, 32, 92, 10, 32, 9, 32, 118, 97, 108, 117, 101, 10]⟩
abbrev inB : ByteArray := ⟨#[32, 111, 110, 101, 10, 32, 32, 116, 119, 111, 10, 9, 116, 104, 114, 101, 101, 10, 101, 110, 100]⟩
abbrev endB : ByteArray := ⟨#[49, 10]⟩
abbrev outB : ByteArray := ⟨#[32, 111, 110, 101, 10, 32, 32, 116, 119, 111, 10]⟩
abbrev longB : ByteArray := ⟨#[108, 111, 110, 103, 32, 118, 97, 108, 117, 101]⟩
abbrev threeB : ByteArray := ⟨#[111, 110, 101, 10, 116, 119, 111, 10, 116, 104, 114, 101, 101]⟩
def oneT (s : ByteArray) : ByteArray := kB ++ s.extract 0 1 ++ oneB
def twoT (s : ByteArray) : ByteArray := kB ++ s.extract 0 1 ++ twoB
def inT (s : ByteArray) : ByteArray := kB ++ s.extract 0 1 ++ inB ++ s.extract 0 1 ++ endB
def outT (s : ByteArray) : ByteArray := kB ++ s.extract 0 1 ++ outB
def okJ (n s : ByteArray) (i q e : Bool) : Bool :=
  decide ((recsAt ⟨n, s, i, q, e, 1⟩ (linesOf (oneT s)) 0 ⟨#[]⟩).map (fun r => r.value) = [longB]) &&
  decide ((recsAt ⟨n, s, i, q, e, 1⟩ (linesOf (twoT s)) 0 ⟨#[]⟩).map (fun r => r.value) = [longB]) &&
  decide ((recsAt ⟨n, s, i, q, e, 2⟩ (linesOf (inT s)) 0 ⟨#[]⟩).map (fun r => (r.value, r.line)) = [(threeB, 1), (⟨#[49]⟩, 4)]) &&
  decide ((recsAt ⟨n, s, i, q, e, 0⟩ (linesOf (outT s)) 0 ⟨#[]⟩).map (fun r => r.kind) = [3, 4])
theorem map_one {α β : Type} (f : α → β) (l : List α) (b : β) (h : l.map f = [b]) : ∃ r, l = [r] ∧ f r = b := by
  cases l with
  | nil => cases h
  | cons r t =>
    cases t with
    | nil => exact ⟨r, rfl, (List.cons.inj h).1⟩
    | cons _ _ => cases (List.cons.inj h).2
theorem map_two {α β : Type} (f : α → β) (l : List α) (b c : β) (h : l.map f = [b, c]) : ∃ r t, l = [r, t] ∧ f r = b ∧ f t = c := by
  cases l with
  | nil => cases h
  | cons r t =>
    obtain ⟨t1, h1, h2⟩ := map_one f t c (List.cons.inj h).2
    exact ⟨r, t1, by rw [h1], (List.cons.inj h).1, h2⟩
def notesL : List (List UInt8) := [[35], [59], [33], [35, 59], [35, 33], [59, 35], [59, 33], [33, 35], [33, 59], [35, 59, 33], [35, 33, 59], [59, 35, 33], [59, 33, 35], [33, 35, 59], [33, 59, 35]]
def sepsL : List (List UInt8) := [[61], [58], [61, 58], [58, 61]]
theorem mem_notes (l : List UInt8) (h1 : 1 ≤ l.length) (h2 : l.length ≤ 3) (hn : l.Nodup) (hm : ∀ x, x ∈ l → x ∈ ([35, 59, 33] : List UInt8)) : l ∈ notesL := by
  match l, h1, h2, hn, hm with
  | [a], _, _, _, hm =>
    have ha := hm a (by simp)
    simp at ha
    rcases ha with rfl | rfl | rfl <;> decide
  | [a, b], _, _, hn, hm =>
    have ha := hm a (by simp)
    have hb := hm b (by simp)
    simp at ha hb
    rcases ha with rfl | rfl | rfl <;> rcases hb with rfl | rfl | rfl <;> first | decide | (exact absurd hn (by decide))
  | [a, b, c], _, _, hn, hm =>
    have ha := hm a (by simp)
    have hb := hm b (by simp)
    have hc := hm c (by simp)
    simp at ha hb hc
    rcases ha with rfl | rfl | rfl <;> rcases hb with rfl | rfl | rfl <;> rcases hc with rfl | rfl | rfl <;> first | decide | (exact absurd hn (by decide))
theorem mem_seps (l : List UInt8) (h1 : 1 ≤ l.length) (h2 : l.length ≤ 2) (hn : l.Nodup) (hm : ∀ x, x ∈ l → x ∈ ([61, 58] : List UInt8)) : l ∈ sepsL := by
  match l, h1, h2, hn, hm with
  | [a], _, _, _, hm =>
    have ha := hm a (by simp)
    simp at ha
    rcases ha with rfl | rfl <;> decide
  | [a, b], _, _, hn, hm =>
    have ha := hm a (by simp)
    have hb := hm b (by simp)
    simp at ha hb
    rcases ha with rfl | rfl <;> rcases hb with rfl | rfl <;> first | decide | (exact absurd hn (by decide))
/-- the four files, read -/
theorem four_files {n s : ByteArray} {i q e : Bool} (h : okJ n s i q e = true) :
    (∃ r1, recsAt ⟨n, s, i, q, e, 1⟩ (linesOf (oneT s)) 0 ⟨#[]⟩ = [r1] ∧ r1.value = longB) ∧
    (∃ r1, recsAt ⟨n, s, i, q, e, 1⟩ (linesOf (twoT s)) 0 ⟨#[]⟩ = [r1] ∧ r1.value = longB) ∧
    (∃ r1 r2, recsAt ⟨n, s, i, q, e, 2⟩ (linesOf (inT s)) 0 ⟨#[]⟩ = [r1, r2] ∧ r1.value = threeB ∧ r2.line = 4) ∧
    (∃ r1 r2, recsAt ⟨n, s, i, q, e, 0⟩ (linesOf (outT s)) 0 ⟨#[]⟩ = [r1, r2] ∧ r2.kind = 4) := by
  unfold okJ at h
  simp only [Bool.and_eq_true, decide_eq_true_eq] at h
  obtain ⟨⟨⟨h1, h2⟩, h3⟩, h4⟩ := h
  generalize recsAt ⟨n, s, i, q, e, 1⟩ (linesOf (oneT s)) 0 ⟨#[]⟩ = l1 at *
  generalize recsAt ⟨n, s, i, q, e, 1⟩ (linesOf (twoT s)) 0 ⟨#[]⟩ = l2 at *
  generalize recsAt ⟨n, s, i, q, e, 2⟩ (linesOf (inT s)) 0 ⟨#[]⟩ = l3 at *
  generalize recsAt ⟨n, s, i, q, e, 0⟩ (linesOf (outT s)) 0 ⟨#[]⟩ = l4 at *
  obtain ⟨r3, r3b, e3, v3, w3⟩ := map_two _ _ _ _ h3
  obtain ⟨r4, r4b, e4, _, w4⟩ := map_two _ _ _ _ h4
  exact ⟨map_one _ _ _ h1, map_one _ _ _ h2, ⟨r3, r3b, e3, (Prod.mk.inj v3).1, (Prod.mk.inj w3).2⟩, ⟨r4, r4b, e4, w4⟩⟩
theorem four_sizes (s : ByteArray) : (oneT s).size ≤ 100 ∧ (oneT s).size ≠ 0 ∧ (twoT s).size ≤ 100 ∧ (twoT s).size ≠ 0 ∧ (inT s).size ≤ 100 ∧ (inT s).size ≠ 0 ∧ (outT s).size ≤ 100 ∧ (outT s).size ≠ 0 := by
  have h1 : (s.extract 0 1).size ≤ 1 := by rw [ByteArray.size_extract]; omega
  unfold oneT twoT inT outT
  simp only [ByteArray.size_append]
  have k1 : kB.size = 1 := rfl
  have k2 : oneB.size = 12 := rfl
  have k3 : twoB.size = 17 := rfl
  have k4 : inB.size = 21 := rfl
  have k5 : endB.size = 2 := rfl
  have k6 : outB.size = 11 := rfl
  omega
end Go.Proofs.YtcphmgdeigbemaaDoor

/- The four files, read with each right Dialect: part 1. -/
set_option maxRecDepth 100000
namespace Go.Proofs.YtcphmgdeigbemaaDoor
set_option maxHeartbeats 8000000 in
theorem okJ_0 : ∀ s ∈ sepsL, ∀ i q e : Bool, okJ ⟨#[35]⟩ ⟨s.toArray⟩ i q e = true := by decide +kernel
set_option maxHeartbeats 8000000 in
theorem okJ_1 : ∀ s ∈ sepsL, ∀ i q e : Bool, okJ ⟨#[59]⟩ ⟨s.toArray⟩ i q e = true := by decide +kernel
set_option maxHeartbeats 8000000 in
theorem okJ_2 : ∀ s ∈ sepsL, ∀ i q e : Bool, okJ ⟨#[33]⟩ ⟨s.toArray⟩ i q e = true := by decide +kernel
set_option maxHeartbeats 8000000 in
theorem okJ_3 : ∀ s ∈ sepsL, ∀ i q e : Bool, okJ ⟨#[35, 59]⟩ ⟨s.toArray⟩ i q e = true := by decide +kernel
set_option maxHeartbeats 8000000 in
theorem okJ_4 : ∀ s ∈ sepsL, ∀ i q e : Bool, okJ ⟨#[35, 33]⟩ ⟨s.toArray⟩ i q e = true := by decide +kernel
end Go.Proofs.YtcphmgdeigbemaaDoor

/- The four files, read with each right Dialect: part 2. -/
set_option maxRecDepth 100000
namespace Go.Proofs.YtcphmgdeigbemaaDoor
set_option maxHeartbeats 8000000 in
theorem okJ_5 : ∀ s ∈ sepsL, ∀ i q e : Bool, okJ ⟨#[59, 35]⟩ ⟨s.toArray⟩ i q e = true := by decide +kernel
set_option maxHeartbeats 8000000 in
theorem okJ_6 : ∀ s ∈ sepsL, ∀ i q e : Bool, okJ ⟨#[59, 33]⟩ ⟨s.toArray⟩ i q e = true := by decide +kernel
set_option maxHeartbeats 8000000 in
theorem okJ_7 : ∀ s ∈ sepsL, ∀ i q e : Bool, okJ ⟨#[33, 35]⟩ ⟨s.toArray⟩ i q e = true := by decide +kernel
set_option maxHeartbeats 8000000 in
theorem okJ_8 : ∀ s ∈ sepsL, ∀ i q e : Bool, okJ ⟨#[33, 59]⟩ ⟨s.toArray⟩ i q e = true := by decide +kernel
set_option maxHeartbeats 8000000 in
theorem okJ_9 : ∀ s ∈ sepsL, ∀ i q e : Bool, okJ ⟨#[35, 59, 33]⟩ ⟨s.toArray⟩ i q e = true := by decide +kernel
end Go.Proofs.YtcphmgdeigbemaaDoor

/- The four files, read with each right Dialect: part 3. -/
set_option maxRecDepth 100000
namespace Go.Proofs.YtcphmgdeigbemaaDoor
set_option maxHeartbeats 8000000 in
theorem okJ_10 : ∀ s ∈ sepsL, ∀ i q e : Bool, okJ ⟨#[35, 33, 59]⟩ ⟨s.toArray⟩ i q e = true := by decide +kernel
set_option maxHeartbeats 8000000 in
theorem okJ_11 : ∀ s ∈ sepsL, ∀ i q e : Bool, okJ ⟨#[59, 35, 33]⟩ ⟨s.toArray⟩ i q e = true := by decide +kernel
set_option maxHeartbeats 8000000 in
theorem okJ_12 : ∀ s ∈ sepsL, ∀ i q e : Bool, okJ ⟨#[59, 33, 35]⟩ ⟨s.toArray⟩ i q e = true := by decide +kernel
set_option maxHeartbeats 8000000 in
theorem okJ_13 : ∀ s ∈ sepsL, ∀ i q e : Bool, okJ ⟨#[33, 35, 59]⟩ ⟨s.toArray⟩ i q e = true := by decide +kernel
set_option maxHeartbeats 8000000 in
theorem okJ_14 : ∀ s ∈ sepsL, ∀ i q e : Bool, okJ ⟨#[33, 59, 35]⟩ ⟨s.toArray⟩ i q e = true := by decide +kernel
end Go.Proofs.YtcphmgdeigbemaaDoor

/- The four files, read with every right Dialect. -/
set_option maxRecDepth 100000
namespace Go.Proofs.YtcphmgdeigbemaaDoor
theorem okJ_all (n : List UInt8) (hn : n ∈ notesL) : ∀ s ∈ sepsL, ∀ i q e : Bool, okJ ⟨n.toArray⟩ ⟨s.toArray⟩ i q e = true := by
  simp only [notesL, List.mem_cons, List.not_mem_nil, or_false] at hn
  rcases hn with rfl | rfl | rfl | rfl | rfl | rfl | rfl | rfl | rfl | rfl | rfl | rfl | rfl | rfl | rfl
  · exact okJ_0
  · exact okJ_1
  · exact okJ_2
  · exact okJ_3
  · exact okJ_4
  · exact okJ_5
  · exact okJ_6
  · exact okJ_7
  · exact okJ_8
  · exact okJ_9
  · exact okJ_10
  · exact okJ_11
  · exact okJ_12
  · exact okJ_13
  · exact okJ_14
theorem okJ_dial {d : DialectD} (h : dialOk d = true) : okJ d.notes d.seps d.inl d.quo d.esc = true := by
  have hs := dialOk_size h
  unfold dialOk ofWith at h
  simp only [Bool.and_eq_true] at h
  obtain ⟨⟨⟨h1, _⟩, ⟨h2, _⟩⟩, _⟩ := h
  have a1 := ofTo_nodup d.notes notesB d.notes.size (Nat.le_refl _) h1
  have a2 := ofTo_nodup d.seps sepsB d.seps.size (Nat.le_refl _) h2
  have l1 := Lib.size_eq d.notes
  have l2 := Lib.size_eq d.seps
  rw [l1, List.take_length] at a1
  rw [l2, List.take_length] at a2
  have m1 := mem_notes d.notes.data.toList (by omega) (by omega) a1.1 a1.2
  have m2 := mem_seps d.seps.data.toList (by omega) (by omega) a2.1 a2.2
  exact okJ_all _ m1 _ m2 d.inl d.quo d.esc
end Go.Proofs.YtcphmgdeigbemaaDoor

/- The walk of FnJoined. -/
set_option maxRecDepth 100000
namespace Go.Proofs.YtcphmgdeigbemaaDoor
open Go.RowKit Go.Sort
set_option linter.unusedVariables false

/-- the Dialect in its block, over a store of how it joins -/
theorem DialAt.putJoin {w : World} {b : Nat} {d0 d1 : ByteArray} {d2 d3 d4 : Bool} {d5 : Int} (h : DialAt w b ⟨d0, d1, d2, d3, d4, d5⟩) (j : Int) : DialAt (w.setCell ⟨b, 5, none⟩ (.int .i64 j)) b ⟨d0, d1, d2, d3, d4, j⟩ := by
  unfold DialAt at *
  rw [set_cellR _ b 5 _ _ _ _ h]
  rfl
theorem dialOk_join {d0 d1 : ByteArray} {d2 d3 d4 : Bool} {d5 : Int} (h : dialOk ⟨d0, d1, d2, d3, d4, d5⟩ = true) (j : Int) (h0 : 0 ≤ j) (h2 : j ≤ 2) : dialOk ⟨d0, d1, d2, d3, d4, j⟩ = true := by
  unfold dialOk at *
  simp only [Bool.and_eq_true] at h ⊢
  exact ⟨h.1, by simp only [Pl.inB, Bool.and_eq_true, decide_eq_true_eq]; omega⟩

/-- records that a call has made -/
def Got (W : World) (l : List RecD) (n : Nat) (e : Ending) (w4 : World) : Prop := ∃ g cap, e = .returned (.slice (some ⟨g, 0, none⟩) n cap) ∧ RowsRd recS w4 (.slice (some ⟨g, 0, none⟩) n cap) g 0 l ∧ W.heap.size ≤ g ∧ Below W.heap.size W w4
theorem got {W : World} {l : List RecD} {n : Nat} {e : Ending} {w4 : World} (hn : l.length = n) (h0 : 0 < n) (h : NewRows recS W.drew l e w4) : Got W l n e w4 := by
  obtain ⟨v, g, rfl, hR, hg, hb⟩ := h
  obtain ⟨a, cap, hv, ha⟩ := hR.form
  have hne : l ≠ [] := by intro e; subst e; simp at hn; omega
  have := ha hne
  subst this
  subst hv
  subst hn
  exact ⟨g, cap, rfl, hR.toRowsRd, hg, (below_drewN (Below.refl W.heap.size W) 1).trans hb⟩
/-- what the law holds: the Dialect in its block -/
structure JoinH (w W : World) (g0 : Nat) (d : DialectD) : Prop where
  da : DialAt W g0 d
  bl : Below w.heap.size w W
  lt : g0 < W.heap.size
theorem JoinH.over {w W W' : World} {g0 : Nat} {d : DialectD} (h : JoinH w W g0 d) (hb : Below W.heap.size W W') : JoinH w W' g0 d := ⟨h.da.over hb h.lt, h.bl.trans (hb.mono h.bl.size), Nat.lt_of_lt_of_le h.lt hb.size⟩
theorem JoinH.put {w W : World} {g0 : Nat} {d0 d1 : ByteArray} {d2 d3 d4 : Bool} {d5 : Int} (h : JoinH w W g0 ⟨d0, d1, d2, d3, d4, d5⟩) (hg : w.heap.size ≤ g0) (j : Int) : JoinH w (W.setCell ⟨g0, 5, none⟩ (.int .i64 j)) g0 ⟨d0, d1, d2, d3, d4, j⟩ :=
  ⟨h.da.putJoin j, h.bl.setCell (p := ⟨g0, 5, none⟩) hg _, by have := h.lt; simpa [World.setCell] using this⟩
theorem rows_set {w : World} {v : Value} {g g0 : Nat} {l : List RecD} (h : RowsRd recS w v g 0 l) (hne : g ≠ g0) (u : Value) : RowsRd recS (w.setCell ⟨g0, 5, none⟩ u) v g 0 l := h.kept (fun _ => Below.heap_setCell _ _ _ g hne)
set_option maxHeartbeats 3200000 in
theorem fnJoined_walk (a : Option Addr) (len cap : Nat) (w : World) (hB : BytesIn w a len) (hlow : ∀ x, a = some x → len ≠ 0 → x.block < w.heap.size) :
    Calls Tryd.prog 3 #[.slice a len cap] w fun e w' => e = .returned (.bool true) ∧ Below w.heap.size w w' := by
  by_cases hlen : len ≤ 1048576
  · have KD := Lib.hid (drawParseIni w a len cap hlen hB hlow)
    have KG := Lib.hid (big_no w a len cap hlen)
    go_enter Tryd.func3, Tryd.ntmps3
    go_wp2_with fail
    refine KG.out.mono ?_
    rintro e w0 ⟨rfl, rfl⟩
    clear KG
    go_wp2_with fail
    refine KD.out.mono ?_
    rintro e w1 ⟨s, d, hs, hd0, hd1, rfl, hb1⟩
    clear KD
    have K1 := Lib.hid (fun w => dialectOk_spec d w (by omega) (by omega))
    have K2 := Lib.hid (fun w => dialectOk_impl d w (by omega) (by omega))
    have hlt0 := hb1.size
    have HOK : Hid (dialOk d = true → okJ d.notes d.seps d.inl d.quo d.esc = true) := okJ_dial
    have HPJ : Hid (dialOk d = true → ∀ j : Int, 0 ≤ j → j ≤ 2 → dialOk ⟨d.notes, d.seps, d.inl, d.quo, d.esc, j⟩ = true) := fun h j h0 h2 => dialOk_join h j h0 h2
    have HSE : Hid (dialOk d = true → 1 ≤ d.seps.size) := fun h => (dialOk_size h).2.2.1
    have HD : Hid (DialAt (w1.alloc (.cells #[.string d.notes, .string d.seps, .bool d.inl, .bool d.quo, .bool d.esc, .int .i64 d.join] 25)) w1.heap.size d) := dialAt_new w1 d
    have hB2 := hb1.alloc hlt0 (.cells #[.string d.notes, .string d.seps, .bool d.inl, .bool d.quo, .bool d.esc, .int .i64 d.join] 25)
    have hlt2 : w1.heap.size < (w1.alloc (.cells #[.string d.notes, .string d.seps, .bool d.inl, .bool d.quo, .bool d.esc, .int .i64 d.join] 25)).heap.size := by simp
    clear hb1
    generalize dialOk d = ok at *
    obtain ⟨d0, d1, d2, d3, d4, d5⟩ := d
    unfold dialectV at *
    simp only at K1 K2 HOK HPJ HSE HD hB2 hlt2 ⊢
    go_wp2_with fail
    refine (K1.out _).mono ?_
    rintro e w2 ⟨rfl, hb2⟩
    replace HD := Lib.hid (HD.out.over hb2 hlt2)
    replace hB2 := hB2.trans (hb2.mono hB2.size)
    replace hlt2 := Nat.lt_of_lt_of_le hlt2 hb2.size
    clear K1 hb2
    generalize w1.heap.size = g0 at *
    obtain ⟨c0, c1, c2, c3, c4, c5⟩ := HD.out.cells
    simp only at c0 c1 c2 c3 c4 c5
    have f5 := HD.out.free 5
    cases ok
    · go_wp2_with fail
      refine (K2.out _).mono ?_
      rintro e w3 ⟨rfl, hb3⟩
      have hB3 := hB2.trans (hb3.mono hB2.size)
      go_wp2
      go_ret
      exact ⟨rfl, hB3⟩
    · have hok := HOK.out rfl
      have hpj := HPJ.out rfl
      have hse := HSE.out rfl
      obtain ⟨⟨r1, hr1, hr1v⟩, ⟨r2, hr2, hr2v⟩, ⟨r3, r3b, hr3, hr3v, hr3l⟩, ⟨r4, r4b, hr4, hr4k⟩⟩ := four_files hok
      have hz := four_sizes d1
      have P1 := Lib.hid (fun w => parse_mark ⟨d0, d1, d2, d3, d4, 1⟩ (oneT d1) w (hpj 1 (by decide) (by decide)) (by omega) (by omega) rfl (by rw [hr1]; simp))
      have P2 := Lib.hid (fun w => parse_mark ⟨d0, d1, d2, d3, d4, 1⟩ (twoT d1) w (hpj 1 (by decide) (by decide)) (by omega) (by omega) rfl (by rw [hr2]; simp))
      have P3 := Lib.hid (fun w => parse_ind ⟨d0, d1, d2, d3, d4, 2⟩ (inT d1) w (hpj 2 (by decide) (by decide)) (by omega) (by omega) rfl (by rw [hr3]; simp))
      have P4 := Lib.hid (fun w => parse_one ⟨d0, d1, d2, d3, d4, 0⟩ (outT d1) w (hpj 0 (by decide) (by decide)) (by omega) (by omega) rfl (by rw [hr4]; simp))
      rw [hr1] at P1
      rw [hr2] at P2
      rw [hr3] at P3
      rw [hr4] at P4
      unfold dialectV at P1 P2 P3 P4
      unfold oneT at P1
      unfold twoT at P2
      unfold inT at P3
      unfold outT at P4
      simp only at P1 P2 P3 P4
      have R1 := Lib.hid hr1v
      have R2 := Lib.hid hr2v
      have R3 := Lib.hid hr3v
      have R3l := Lib.hid hr3l
      have R4 := Lib.hid hr4k
      have hse1 : (1 : Int) ≤ (d1.size : Int) := by omega
      clear hr1 hr2 hr3 hr4 hr1v hr2v hr3v hr3l hr4k hok hpj HOK HPJ HSE K2 hz
      have H : Hid (JoinH w (w2.setCell ⟨g0, 5, none⟩ (.int .i64 1)) g0 ⟨d0, d1, d2, d3, d4, 1⟩) := JoinH.put ⟨HD.out, hB2, hlt2⟩ hlt0 1
      clear HD hB2 hlt2
      go_wp2_with fail
      clear c0 c1 c2 c3 c4 c5 f5
      generalize w2.setCell ⟨g0, 5, none⟩ (.int .i64 1) = W1 at *
      have K1 : Hid (Calls Tryd.prog 10 #[.string (kB ++ d1.extract 0 1 ++ oneB), .agg #[.string d0, .string d1, .bool d2, .bool d3, .bool d4, .int .i64 1]] W1.drew (Got W1 [r1] 1)) := (P1.out _).mono (fun _ _ h => got rfl (by decide) h)
      obtain ⟨c0, c1, c2, c3, c4, c5⟩ := H.out.da.cells
      simp only at c0 c1 c2 c3 c4 c5
      go_region_held3 (fun w' => w'.cell? ⟨g0, 0, none⟩ = some (.string d0) ∧ w'.cell? ⟨g0, 1, none⟩ = some (.string d1) ∧ w'.cell? ⟨g0, 2, none⟩ = some (.bool d2) ∧ w'.cell? ⟨g0, 3, none⟩ = some (.bool d3) ∧ w'.cell? ⟨g0, 4, none⟩ = some (.bool d4) ∧ w'.cell? ⟨g0, 5, none⟩ = some (.int .i64 1))
        (first | go_keep | exact ⟨m0, m1, m2, m3, m4, m5⟩)
        (((with_reducible refine K1.out.mono ?_); rintro e V1 ⟨g1, cap1, rfl, hR1, hg1, hb1⟩; obtain ⟨m0, m1, m2, m3, m4, m5⟩ := (H.out.over hb1).da.cells; simp only at m0 m1 m2 m3 m4 m5))
      have hgl1 := hR1.lt (by simp)
      have ng1 : g1 ≠ g0 := by have := H.out.lt; omega
      replace H := Lib.hid (H.out.over hb1)
      clear m0 m1 m2 m3 m4 m5 c0 c1 c2 c3 c4 c5 K1 P1
      have S1 := Lib.hid hR1
      clear hR1 hg1 hb1
      go_wp2_with fail
      generalize V1 = W2 at *
      have K2 : Hid (Calls Tryd.prog 10 #[.string (kB ++ d1.extract 0 1 ++ twoB), .agg #[.string d0, .string d1, .bool d2, .bool d3, .bool d4, .int .i64 1]] W2.drew (Got W2 [r2] 1)) := (P2.out _).mono (fun _ _ h => got rfl (by decide) h)
      obtain ⟨c0, c1, c2, c3, c4, c5⟩ := H.out.da.cells
      simp only at c0 c1 c2 c3 c4 c5
      go_region_held3 (fun w' => w'.cell? ⟨g0, 0, none⟩ = some (.string d0) ∧ w'.cell? ⟨g0, 1, none⟩ = some (.string d1) ∧ w'.cell? ⟨g0, 2, none⟩ = some (.bool d2) ∧ w'.cell? ⟨g0, 3, none⟩ = some (.bool d3) ∧ w'.cell? ⟨g0, 4, none⟩ = some (.bool d4) ∧ w'.cell? ⟨g0, 5, none⟩ = some (.int .i64 1))
        (first | go_keep | exact ⟨m0, m1, m2, m3, m4, m5⟩)
        (((with_reducible refine K2.out.mono ?_); rintro e V2 ⟨g2, cap2, rfl, hR2, hg2, hb2⟩; obtain ⟨m0, m1, m2, m3, m4, m5⟩ := (H.out.over hb2).da.cells; simp only at m0 m1 m2 m3 m4 m5))
      have hgl2 := hR2.lt (by simp)
      have ng2 : g2 ≠ g0 := by have := H.out.lt; omega
      replace H := Lib.hid (H.out.over hb2)
      clear m0 m1 m2 m3 m4 m5 c0 c1 c2 c3 c4 c5 K2 P2
      have S2 := Lib.hid hR2
      replace S1 := Lib.hid (S1.out.over hb2)
      clear hR2 hg2 hb2
      have f5 := H.out.da.free 5
      obtain ⟨c0, c1, c2, c3, c4, c5⟩ := H.out.da.cells
      replace H := Lib.hid (H.out.put hlt0 2)
      replace S1 := Lib.hid (rows_set S1.out ng1 (.int .i64 2))
      replace S2 := Lib.hid (rows_set S2.out ng2 (.int .i64 2))
      go_wp2_with fail
      clear c0 c1 c2 c3 c4 c5 f5
      generalize V2.setCell ⟨g0, 5, none⟩ (.int .i64 2) = W3 at *
      have K3 : Hid (Calls Tryd.prog 10 #[.string (kB ++ d1.extract 0 1 ++ inB ++ d1.extract 0 1 ++ endB), .agg #[.string d0, .string d1, .bool d2, .bool d3, .bool d4, .int .i64 2]] W3.drew (Got W3 [r3, r3b] 2)) := (P3.out _).mono (fun _ _ h => got rfl (by decide) h)
      obtain ⟨c0, c1, c2, c3, c4, c5⟩ := H.out.da.cells
      simp only at c0 c1 c2 c3 c4 c5
      go_region_held3 (fun w' => w'.cell? ⟨g0, 0, none⟩ = some (.string d0) ∧ w'.cell? ⟨g0, 1, none⟩ = some (.string d1) ∧ w'.cell? ⟨g0, 2, none⟩ = some (.bool d2) ∧ w'.cell? ⟨g0, 3, none⟩ = some (.bool d3) ∧ w'.cell? ⟨g0, 4, none⟩ = some (.bool d4) ∧ w'.cell? ⟨g0, 5, none⟩ = some (.int .i64 2))
        (first | go_keep | exact ⟨m0, m1, m2, m3, m4, m5⟩)
        (((with_reducible refine K3.out.mono ?_); rintro e V3 ⟨g3, cap3, rfl, hR3, hg3, hb3⟩; obtain ⟨m0, m1, m2, m3, m4, m5⟩ := (H.out.over hb3).da.cells; simp only at m0 m1 m2 m3 m4 m5))
      have hgl3 := hR3.lt (by simp)
      have ng3 : g3 ≠ g0 := by have := H.out.lt; omega
      replace H := Lib.hid (H.out.over hb3)
      clear m0 m1 m2 m3 m4 m5 c0 c1 c2 c3 c4 c5 K3 P3
      have S3 := Lib.hid hR3
      replace S1 := Lib.hid (S1.out.over hb3)
      replace S2 := Lib.hid (S2.out.over hb3)
      clear hR3 hg3 hb3
      have f5 := H.out.da.free 5
      obtain ⟨c0, c1, c2, c3, c4, c5⟩ := H.out.da.cells
      replace H := Lib.hid (H.out.put hlt0 0)
      replace S1 := Lib.hid (rows_set S1.out ng1 (.int .i64 0))
      replace S2 := Lib.hid (rows_set S2.out ng2 (.int .i64 0))
      replace S3 := Lib.hid (rows_set S3.out ng3 (.int .i64 0))
      go_wp2_with fail
      clear c0 c1 c2 c3 c4 c5 f5
      generalize V3.setCell ⟨g0, 5, none⟩ (.int .i64 0) = W4 at *
      have K4 : Hid (Calls Tryd.prog 10 #[.string (kB ++ d1.extract 0 1 ++ outB), .agg #[.string d0, .string d1, .bool d2, .bool d3, .bool d4, .int .i64 0]] W4.drew (Got W4 [r4, r4b] 2)) := (P4.out _).mono (fun _ _ h => got rfl (by decide) h)
      obtain ⟨c0, c1, c2, c3, c4, c5⟩ := H.out.da.cells
      simp only at c0 c1 c2 c3 c4 c5
      go_region_held3 (fun w' => w'.cell? ⟨g0, 0, none⟩ = some (.string d0) ∧ w'.cell? ⟨g0, 1, none⟩ = some (.string d1) ∧ w'.cell? ⟨g0, 2, none⟩ = some (.bool d2) ∧ w'.cell? ⟨g0, 3, none⟩ = some (.bool d3) ∧ w'.cell? ⟨g0, 4, none⟩ = some (.bool d4) ∧ w'.cell? ⟨g0, 5, none⟩ = some (.int .i64 0))
        (first | go_keep | exact ⟨m0, m1, m2, m3, m4, m5⟩)
        (((with_reducible refine K4.out.mono ?_); rintro e V4 ⟨g4, cap4, rfl, hR4, hg4, hb4⟩; obtain ⟨m0, m1, m2, m3, m4, m5⟩ := (H.out.over hb4).da.cells; simp only at m0 m1 m2 m3 m4 m5))
      have hgl4 := hR4.lt (by simp)
      have ng4 : g4 ≠ g0 := by have := H.out.lt; omega
      replace H := Lib.hid (H.out.over hb4)
      clear m0 m1 m2 m3 m4 m5 c0 c1 c2 c3 c4 c5 K4 P4
      replace S1 := Lib.hid (S1.out.over hb4)
      replace S2 := Lib.hid (S2.out.over hb4)
      replace S3 := Lib.hid (S3.out.over hb4)
      have x1 := rec_c4 S1.out 0 (by simp)
      have x2 := rec_c4 S2.out 0 (by simp)
      have x3 := rec_c4 S3.out 0 (by simp)
      have x4 := rec_c5 S3.out 1 (by simp)
      have x5 := rec_c0 hR4 1 (by simp)
      simp only [List.getElem_cons_zero, List.getElem_cons_succ, Nat.zero_add, Nat.zero_mul, Nat.one_mul] at x1 x2 x3 x4 x5
      rw [R1.out] at x1
      rw [R2.out] at x2
      rw [R3.out] at x3
      rw [R3l.out] at x4
      rw [R4.out] at x5
      have HB := Lib.hid H.out.bl
      clear S1 S2 S3 hR4 hg4 hb4 H R1 R2 R3 R3l R4 ng1 ng2 ng3 ng4 hgl1 hgl2 hgl3 hgl4
      have q1 : (longB.toList == longB.toList) = true := by simp
      have q2 : (threeB.toList == threeB.toList) = true := by simp
      go_wp2_with fail
      go_quiet (fail)
      have hB9 := below_drewN HB.out nq
      clear HB
      go_wp2
      go_ret
      exact ⟨rfl, hB9⟩
  · have KG := Lib.hid (big_yes w a len cap (by omega))
    go_enter Tryd.func3, Tryd.ntmps3
    go_wp2_with fail
    refine KG.out.mono ?_
    rintro e w0 ⟨rfl, rfl⟩
    go_wp2
    go_ret
    exact ⟨rfl, Below.refl _ _⟩

end Go.Proofs.YtcphmgdeigbemaaDoor

namespace Go.Proofs.YtcphmgdeigbemaaDoor.fnJoined
open Go.ChangeShapes Go.WideShapes Go.ChangeAt Go.RowKit
open Go.ChangeMaps (open_string shut_string)
set_option linter.unusedVariables false
set_option maxRecDepth 100000

theorem own : ownKnob Tryd.prog.godebug = none := by kernel_rfl
theorem laidOut : laidOutB Tryd.prog = true := by kernel_rfl


theorem contract (H : Type) (enc : TypeId × Value → H) (W : World) (base : Nat) (args : Array Value) (ds gs : List (DataW H)) (before : List MemPlace)
    (hval : ∀ (j : Nat) t v, Tryd.f3.params[j]? = some t → args[j]? = some v → Value.okWide Tryd.prog W .any base t v)
    (hW : DataW.Whole enc Tryd.prog Tryd.f3.params.toList Rows.fnJoinedSpec.vars false W args.toList ds gs before) (hL : laidMetH Tryd.prog Rows.fnJoinedRow.laid W) :
    Calls Tryd.prog 3 args W fun e W' => ∃ v, e = .returned v ∧ Rows.fnJoinedSpec.post enc Tryd.prog Tryd.f3 false true false false W args v W' := by
  have hW' := hW
  obtain ⟨p, q, hA0, hV, rfl, hfz, hnd⟩ := hW
  have hA : DataW.TrodAll enc Tryd.prog W 0 (fun _ => true) true Tryd.f3.params.toList args.toList ds p := hA0
  rw [Tryd.params3] at hA hval
  obtain ⟨v0, vs0, d0, ds0, p0, q0, hargs, rfl, rfl, h0, r0⟩ := trodAll_cons hA
  obtain ⟨rfl, rfl, rfl⟩ := trodAll_nil r0
  obtain rfl : args = #[v0] := by cases args; simp_all
  obtain ⟨rfl, rfl⟩ := trodVars_none hV
  obtain ⟨a0, len0, cap0, rfl⟩ := okWide_slice Tryd.underlying22 (hval 0 22 v0 rfl rfl)
  have k0 := h0
  have lt0 : ∀ x ∈ p0, x.block < W.heap.size := by obtain ⟨m, hm⟩ := k0; exact DataW.trod_lt m _ _ _ hm
  obtain ⟨z0, w0⟩ : ∃ zs, RowU8 W a0 len0 cap0 zs := by
    obtain ⟨fuel, hf⟩ := h0
    rcases open_ints Tryd.underlying22 Tryd.underlying5 (by kernel_rfl) hf with ⟨hcs, _⟩ | ⟨x, l, c, zs, hcs, _, hl, hm, hz, _, hcell, hwz⟩
    · simp [Value.cells] at hcs
      obtain ⟨rfl, rfl, rfl⟩ := hcs
      exact ⟨[], .inl ⟨rfl, rfl, rfl, rfl⟩⟩
    · simp [Value.cells] at hcs
      obtain ⟨rfl, rfl, rfl⟩ := hcs
      exact ⟨zs, .inr ⟨_, rfl, hl, hm, by simpa using hz, hcell, hwz⟩⟩
  clear hA0
  refine (fnJoined_walk a0 len0 cap0 W (row_bytes w0).1 (row_bytes w0).2 ).mono fun e W' ⟨he, bel⟩ => ?_
  subst he
  exact ⟨_, rfl, _, _, _, [], _, [], hW', trodAll_mk1 (shut_bool Tryd.underlying4 _), (trodAll_cons_mk (Below.trod laidOut (by kernel_rfl) (of_decide_eq_true (by kernel_rfl)) k0 bel lt0) trodAll_mk0), rfl, bel.frame _, fun h => by cases h⟩

theorem laid_met (os : Os) : laidMet Tryd.prog Rows.fnJoinedRow.laid ((World.laidAll Tryd.prog os Rows.fnJoinedRow.laid).forCall (fun _ _ => 0) ⟨#[], #[.slice none 0 0], []⟩).memory :=
  laidMet_laidAll #[.slice none 0 0] (by kernel_rfl) (by kernel_rfl)
theorem reads (os : Os) {H : Type} (enc : TypeId × Value → H) : ∃ places, DataW.whole enc Tryd.prog ((World.laidAll Tryd.prog os Rows.fnJoinedRow.laid).forCall (fun _ _ => 0) ⟨#[], #[.slice none 0 0], []⟩).memory Tryd.f3.params.toList Rows.fnJoinedSpec.vars false #[(.slice none 0 0 : Value)].toList 8 = some ([.nil], [], places) :=
  ⟨[], by kernel_rfl⟩

set_option maxRecDepth 100000 in
theorem lifted (os : Os) (started : os.Started) (H : Type) (enc : TypeId × Value → H) (F : Stop.Interp) :
    ReturnsInHanded {} Tryd.checked os 3 .any ((OpenSpec.ofChange Rows.fnJoinedSpec).preRow enc Tryd.prog Tryd.f3 Rows.fnJoinedRow.domain false Rows.fnJoinedRow.laid) (((OpenSpec.ofChange Rows.fnJoinedSpec).at F).post enc Tryd.prog Tryd.f3 false true false false) := by
  obtain ⟨places, hx⟩ := reads os enc
  refine returnsInHanded_of_row (C := Tryd.checked) (s := OpenSpec.ofChange Rows.fnJoinedSpec) own started (by kernel_rfl) Tryd.func3
    (witness_row_at (enc := enc) (C := Tryd.checked) false (World.laidAll Tryd.prog os Rows.fnJoinedRow.laid) #[.slice none 0 0] (World.laidAll_os _ _ _) (by kernel_rfl) (by kernel_rfl) (by kernel_rfl)
      (OpenSpec.preRow_of_cond 8 hx (by kernel_rfl) (fun k hk => by cases hk) (by kernel_rfl) (laid_met os))) ?_
  intro W base args ds gs before hval hW _ _ _ hL _ _
  exact contract H enc W base args ds gs before hval hW hL

theorem said : Rows.FnJoinedSaid :=
  OpenClaim.holds_of_cond 3 Tryd.f3 rfl rfl rfl rfl rfl rfl rfl ⟨rfl, rfl, rfl, rfl, rfl⟩ rfl rfl rfl rfl rfl (by kernel_rfl) Tryd.func3 (by kernel_rfl)
    (of_decide_eq_true (by kernel_rfl)) (by unfold Func.isWrapper; first | (rw [if_pos (by decide +kernel)]; kernel_rfl) | (rw [if_neg (by decide +kernel)]; exact ⟨rfl, rfl⟩))
    (fun os started H enc _ F => by rw [OpenClaim.pre_eq_preRow]; exact lifted os started H enc F)

theorem plain (f : FuncId) (fn : Func) (hf : Tryd.pinned.checked.prog.funcNamed "loop.example/g00727/laws.FnJoined" = some f) (hfn : Tryd.pinned.checked.prog.funcs[f]? = some fn) :
    false = Tryd.pinned.checked.prog.looks [] ∧ ∀ (j : Nat) t, fn.params[j]? = some t → Tryd.pinned.checked.prog.wantsStandIn t = false := by
  obtain rfl : f = 3 := Option.some.inj ((show Tryd.prog.funcNamed "loop.example/g00727/laws.FnJoined" = some 3 by kernel_rfl).symm.trans hf) |>.symm
  obtain rfl : fn = Tryd.f3 := (Option.some.inj (Tryd.func3.symm.trans hfn)).symm
  refine ⟨by kernel_rfl, fun j t ht => ?_⟩
  rw [Tryd.params3] at ht
  obtain rfl : t = 22 := by simpa using Array.mem_of_getElem? ht
  exact (show Tryd.prog.wantsStandIn 22 = false by kernel_rfl)

theorem card : Rows.FnJoinedCardSaid :=
  Claim7.holds_tied_plain_at .later [] _ _ _ _ said (fun _ h => by cases h) (by kernel_rfl) (fun _ h => by cases h) fnJoined_row_tie rfl ⟨rfl, rfl⟩ (by kernel_rfl) rfl plain (by kernel_rfl)
end Go.Proofs.YtcphmgdeigbemaaDoor.fnJoined
