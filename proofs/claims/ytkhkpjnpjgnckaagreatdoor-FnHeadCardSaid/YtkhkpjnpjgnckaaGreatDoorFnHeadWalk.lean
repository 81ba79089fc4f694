/- Headers and a simple pair, read: what the program and the model make of them, as lists. -/
import Derived.Test.YtkhkpjnpjgnckaaGreatDoorProg
import Derived.Test.YtkhkpjnpjgnckaaGreatDoorPlain
import Derived.Test.YtkhkpjnpjgnckaaGreatDoorCut
import Derived.Test.YtkhkpjnpjgnckaaGreatDoorTrim
import Derived.Test.YtkhkpjnpjgnckaaGreatDoorTail
import Derived.Test.YtkhkpjnpjgnckaaGreatDoorLines
import Derived.Test.YtkhkpjnpjgnckaaGreatDoorSplitSpec
import Derived.Test.YtkhkpjnpjgnckaaGreatDoorJoin
import Derived.Test.YtkhkpjnpjgnckaaGreatDoorDialectRows
import Derived.Test.YtkhkpjnpjgnckaaGreatDoorRecRows
import Derived.Test.YtkhkpjnpjgnckaaGreatDoorRecArg
import Derived.Test.YtkhkpjnpjgnckaaGreatDoorQuotSpec
import Derived.Test.YtkhkpjnpjgnckaaGreatDoorDialImpl
import Derived.Test.YtkhkpjnpjgnckaaGreatDoorBareImpl
import Derived.Test.YtkhkpjnpjgnckaaGreatDoorQuotImpl
import Derived.Test.YtkhkpjnpjgnckaaGreatDoorHeadSpec
import Derived.Test.YtkhkpjnpjgnckaaGreatDoorJoinedSpec
import Derived.Test.YtkhkpjnpjgnckaaGreatDoorOneEasy
import Derived.Test.YtkhkpjnpjgnckaaGreatDoorIniSmall
import Derived.Test.YtkhkpjnpjgnckaaGreatDoorRecOf
import Derived.Test.YtkhkpjnpjgnckaaGreatDoorMarkedRec
import Derived.Test.YtkhkpjnpjgnckaaGreatDoorIndentRec
import Derived.Test.YtkhkpjnpjgnckaaGreatDoorParseImpl
import Derived.Test.YtkhkpjnpjgnckaaGreatDoorParseEasy
import Derived.Test.YtkhkpjnpjgnckaaGreatDoorPutImpl
import Derived.Test.YtkhkpjnpjgnckaaGreatDoorIniDraw
import Derived.Test.YtkhkpjnpjgnckaaGreatDoorDraw
import Derived.Test.YtkhkpjnpjgnckaaGreatDoorRows0
import Derived.WalkKit
import Derived.WalkLawsBesides
import Derived.Laws.IdiomStrings
import Derived.Lib.Hide
import Derived.IntWalk
import Derived.Outline
set_option maxRecDepth 100000
namespace Go.Proofs.YtkhkpjnpjgnckaaGreatDoor
open Go.RowKit
set_option linter.unusedVariables false

abbrev nlT : ByteArray := ⟨#[10]⟩
/-- only bytes that may be notes -/
def NotesH (n : ByteArray) : Prop := ∀ c, hasB n c = true → c = 35 ∨ c = 59 ∨ c = 33
theorem notesH_of {d : DialectD} (h : dialOk d = true) : NotesH d.notes := by
  intro c hc
  unfold dialOk ofWith at h
  simp only [Bool.and_eq_true] at h
  obtain ⟨_, h2⟩ := ofTo_nodup d.notes notesB d.notes.size (Nat.le_refl _) h.1.1.1
  have h3 : c ∈ d.notes.data.toList.take d.notes.size := by rw [Pl.take_all]; simpa [hasB] using hc
  have h4 := h2 c h3
  simpa [notesB] using h4
theorem notesH_no {n : ByteArray} (h : NotesH n) (c : UInt8) (h1 : c ≠ 35) (h2 : c ≠ 59) (h3 : c ≠ 33) : hasB n c = false := by
  cases hb : hasB n c with
  | false => rfl
  | true => rcases h c hb with e | e | e <;> contradiction
theorem sepsH_of {d : DialectD} (h : dialOk d = true) : d.seps = ⟨#[61]⟩ ∨ d.seps = ⟨#[58]⟩ ∨ d.seps = ⟨#[61, 58]⟩ ∨ d.seps = ⟨#[58, 61]⟩ := by
  have hs := dialOk_size h
  unfold dialOk ofWith at h
  simp only [Bool.and_eq_true] at h
  obtain ⟨hn, hm⟩ := ofTo_nodup d.seps sepsB d.seps.size (Nat.le_refl _) h.1.2.1
  rw [Pl.take_all] at hn hm
  have hl := Lib.size_eq d.seps
  have he : ∀ l : List UInt8, d.seps.data.toList = l → d.seps = ⟨l.toArray⟩ := fun l e => by
    apply ByteArray.ext
    apply Array.toList_inj.1
    rw [e]
  match hx : d.seps.data.toList, hn, hm with
  | [], _, _ => rw [hx, List.length_nil] at hl; omega
  | [a], _, hm =>
    have ha := hm a (by simp)
    simp [sepsB] at ha
    rcases ha with rfl | rfl
    · exact .inl (he _ hx)
    · exact .inr (.inl (he _ hx))
  | [a, b], hn, hm =>
    have ha := hm a (by simp)
    have hb := hm b (by simp)
    simp [sepsB] at ha hb
    rcases ha with rfl | rfl <;> rcases hb with rfl | rfl
    · exact absurd hn (by decide)
    · exact .inr (.inr (.inl (he _ hx)))
    · exact .inr (.inr (.inr (he _ hx)))
    · exact absurd hn (by decide)
  | a :: b :: c :: t, _, _ => rw [hx, List.length_cons, List.length_cons, List.length_cons] at hl; omega

/-! the number of records -/
theorem recsI_few (d : DialectD) (l : List Ln) : ∀ (f k : Nat) (sec : ByteArray), (recsI d l f k sec).length ≤ l.length - k := by
  intro f
  induction f with
  | zero => intro k sec; exact Nat.zero_le _
  | succ f ih =>
    intro k sec
    unfold recsI
    split
    · next h =>
      have := stepN_le d sec l k h
      have h2 := ih (k + stepN d sec l k h) (stepR d sec l k h).sect
      rw [List.length_cons]
      omega
    · exact Nat.zero_le _
theorem recsAt_few (d : DialectD) (s : ByteArray) : (recsAt d (linesOf s) 0 ⟨#[]⟩).length ≤ s.size := by
  have h1 := recsI_few d (linesOf s) (linesOf s).length 0 ⟨#[]⟩
  have h2 := linesOf_few s
  unfold recsAt
  omega
/-- the program's ParseIni of a short text -/
theorem parse_any (d : DialectD) (s : ByteArray) (w : World) (hok : dialOk d = true) (hs : s.size ≤ 200) (h0 : s.size ≠ 0) :
    Calls Tryz.prog 12 #[.string s, dialectV d] w (NewRows recS w (recsAt d (linesOf s) 0 ⟨#[]⟩)) := by
  have hds := dialOk_size hok
  have hl := recsAt_few d s
  rcases (show d.join = 0 ∨ d.join = 1 ∨ d.join = 2 by omega) with h | h | h
  · exact parse_one d s w hok (by omega) h0 h (by omega)
  · exact parse_mark d s w hok (by omega) h0 h (by omega)
  · exact parse_ind d s w hok (by omega) h0 h (by omega)

/-! a line that is not joined with others -/
theorem jmI_stop {x : Ln} (r : List Ln) (h : tailN (start5 x.1) % 2 = 0) : jmI (x :: r) = ((start5 x.1).data.toList, 1) := by
  unfold jmI
  rw [if_pos (.inr h)]
theorem step_plain {d : DialectD} (hok : dialOk d = true) (sec : ByteArray) (l : List Ln) (k : Nat) (hk : k < l.length) (hs : start5 l[k].1 = l[k].1) (ht : tailN l[k].1 % 2 = 0)
    (hq : indQ d sec l k hk = true ∨ indVs d (l.drop (k + 1)) = []) : stepN d sec l k hk = 1 ∧ stepR d sec l k hk = recI d sec l[k].1 := by
  have hds := dialOk_size hok
  rcases (show d.join = 0 ∨ d.join = 1 ∨ d.join = 2 by omega) with h | h | h
  · exact step_one h sec l k hk
  · obtain ⟨e1, e2⟩ := step_mark h sec l k hk
    rw [e1, e2]
    have hd : l.drop k = l[k] :: l.drop (k + 1) := List.drop_eq_getElem_cons hk
    unfold markN markT
    split
    · exact ⟨rfl, rfl⟩
    · rw [hd]
      unfold jmT
      rw [jmI_stop _ (by rw [hs]; exact ht), hs]
      exact ⟨rfl, rfl⟩
  · obtain ⟨e1, e2⟩ := step_ind h sec l k hk
    rw [e1, e2]
    unfold indN indR
    cases hqq : indQ d sec l k hk with
    | true => exact ⟨rfl, rfl⟩
    | false =>
      rcases hq with h2 | h2
      · rw [h2] at hqq; cases hqq
      · unfold indL
        rw [h2]
        refine ⟨rfl, ?_⟩
        have hj : nlJoin [(recI d sec l[k].1).value] = (recI d sec l[k].1).value.data.toList := by simp [nlJoin, nlTail]
        simp only [Bool.false_eq_true, if_false]
        rw [hj]

/-! headers -/
theorem cut_parts {s u a z : ByteArray} (h : cutT s u = some (a, z)) : cutA s u = a ∧ cutZ s u = z ∧ cutOk s u = true := by
  unfold cutT at h
  split at h
  · next hlt =>
    injection h with h
    injection h with h1 h2
    exact ⟨by unfold cutA; rw [if_pos hlt, h1], by unfold cutZ; rw [if_pos hlt, h2], by unfold cutOk; simpa using hlt⟩
  · cases h
theorem cut_no {s u : ByteArray} (h : cutT s u = none) : cutOk s u = false := by
  unfold cutT at h
  split at h
  · cases h
  · next hlt => unfold cutOk; simpa using hlt
theorem isN_head {d : DialectD} (hn : NotesH d.notes) {t : ByteArray} (h : opensH t = true) : isN d t = false := by
  unfold opensH at h
  unfold isN
  split at h
  · next h0 =>
    rw [dif_pos h0]
    have : t[0] = 91 := by simpa using h
    rw [this]
    exact notesH_no hn 91 (by decide) (by decide) (by decide)
  · cases h
/-- what holds of a header's line, whatever the Dialect -/
structure HeadLn (t a z : ByteArray) : Prop where
  trim : ∀ e, trim5 e t = t
  op : opensH t = true
  start : start5 t = t
  tail : tailN t % 2 = 0
  some : (trimT t).size ≠ 0
  cut : cutT (t.extract 1 t.size) closeB = .some (a, z)
  same : ∀ e, trim5 e a = trimT a
/-- whether it is a header -/
def headB (d : DialectD) (a z : ByteArray) : Bool := decide (0 < (trimT a).size) && behind5 d z
theorem head_size {t : ByteArray} (h : opensH t = true) : t.size ≠ 0 := by
  unfold opensH at h
  split at h
  · omega
  · cases h
theorem recI_head {d : DialectD} (hn : NotesH d.notes) {t a z : ByteArray} (h : HeadLn t a z) (sec : ByteArray) : recI d sec t = if headB d a z = true then ⟨2, ⟨#[]⟩, trimT a, ⟨#[]⟩, ⟨#[]⟩, 0⟩ else ⟨4, ⟨#[]⟩, sec, ⟨#[]⟩, ⟨#[]⟩, 0⟩ := by
  obtain ⟨c1, c2, c3⟩ := cut_parts h.cut
  have hi : innerH t = t.extract 1 t.size := by unfold innerH; rw [h.op]; rfl
  unfold recI headI
  rw [h.trim, if_neg (head_size h.op), isN_head hn h.op, if_neg (by decide), if_pos h.op, hi, c1, c2, c3, h.same]
  unfold headB
  simp only [Bool.true_and]
theorem one5_head {d : DialectD} (hn : NotesH d.notes) {t a z : ByteArray} (h : HeadLn t a z) (sec : ByteArray) (e : ByteArray) (l : List Ln) : one5 d sec (t, e) l = if headB d a z = true then (kindR 2, 1, trimT a) else (kindR 4, 1, sec) := by
  have hj : joined5 d (t, e) l = (t, 1) := by
    unfold joined5
    split
    · rfl
    · exact joinR_stop _ _ (fun hh => by have := h.tail; simp only at hh; omega)
  have hnt : noteT d t = false := isN_head hn h.op
  have hbr : bracket t = true := h.op
  have hh : head5 d t = if headB d a z = true then (trimT a, true) else (⟨#[]⟩, false) := by
    unfold head5
    rw [h.cut]
    unfold headB
    simp only [Bool.and_eq_true, decide_eq_true_eq]
  unfold one5
  rw [hj]
  simp only
  rw [if_neg h.some, h.trim, hnt, if_neg (by decide), if_pos hbr, hh]
  cases headB d a z <;> rfl
theorem easy_head {d : DialectD} (hn : NotesH d.notes) {t a z : ByteArray} (h : HeadLn t a z) (e : ByteArray) (l : List Ln) : easy5 d (joined5 d (t, e) l).1 := by
  have hj : joined5 d (t, e) l = (t, 1) := by
    unfold joined5
    split
    · rfl
    · exact joinR_stop _ _ (fun hh => by have := h.tail; simp only at hh; omega)
  rw [hj]
  exact ⟨h.some, by rw [h.trim]; exact isN_head hn h.op, .inl (by rw [h.trim]; exact h.op)⟩
theorem head_step {d : DialectD} (hok : dialOk d = true) {t a z : ByteArray} (h : HeadLn t a z) (e sec : ByteArray) (l : List Ln) (k : Nat) (hk : k < l.length) (hl : l[k] = (t, e)) :
    stepN d sec l k hk = 1 ∧ stepR d sec l k hk = recI d sec t := by
  have hr := recI_head (notesH_of hok) h sec
  have := step_plain hok sec l k hk (by rw [hl]; exact h.start) (by rw [hl]; exact h.tail) (.inl (by
    unfold indQ
    rw [hl]
    simp only
    rw [hr]
    cases headB d a z <;> rfl))
  rw [hl] at this
  exact this

/-! the nine names -/
theorem head_s : HeadLn (headT ⟨#[115]⟩) ⟨#[115]⟩ ⟨#[]⟩ := ⟨by decide +kernel, by decide +kernel, by decide +kernel, by decide +kernel, by decide +kernel, by decide +kernel, by decide +kernel⟩
theorem head_tu : HeadLn (headT ⟨#[116, 32, 117]⟩) ⟨#[116, 32, 117]⟩ ⟨#[]⟩ := ⟨by decide +kernel, by decide +kernel, by decide +kernel, by decide +kernel, by decide +kernel, by decide +kernel, by decide +kernel⟩
theorem head_none : HeadLn (headT ⟨#[]⟩) ⟨#[]⟩ ⟨#[]⟩ := ⟨by decide +kernel, by decide +kernel, by decide +kernel, by decide +kernel, by decide +kernel, by decide +kernel, by decide +kernel⟩
theorem head_bs : HeadLn (headT ⟨#[32, 115]⟩) ⟨#[32, 115]⟩ ⟨#[]⟩ := ⟨by decide +kernel, by decide +kernel, by decide +kernel, by decide +kernel, by decide +kernel, by decide +kernel, by decide +kernel⟩
theorem head_ab : HeadLn (headT ⟨#[97, 93, 98]⟩) ⟨#[97]⟩ ⟨#[98, 93]⟩ := ⟨by decide +kernel, by decide +kernel, by decide +kernel, by decide +kernel, by decide +kernel, by decide +kernel, by decide +kernel⟩
theorem head_ob : HeadLn (headT ⟨#[97, 91, 98]⟩) ⟨#[97, 91, 98]⟩ ⟨#[]⟩ := ⟨by decide +kernel, by decide +kernel, by decide +kernel, by decide +kernel, by decide +kernel, by decide +kernel, by decide +kernel⟩
theorem head_hash : HeadLn (headT ⟨#[35]⟩) ⟨#[35]⟩ ⟨#[]⟩ := ⟨by decide +kernel, by decide +kernel, by decide +kernel, by decide +kernel, by decide +kernel, by decide +kernel, by decide +kernel⟩
theorem head_as : HeadLn (headT ⟨#[97, 92]⟩) ⟨#[97, 92]⟩ ⟨#[]⟩ := ⟨by decide +kernel, by decide +kernel, by decide +kernel, by decide +kernel, by decide +kernel, by decide +kernel, by decide +kernel⟩
/-- all but the one with a line end -/
theorem names_head (s : ByteArray) (h : s ∈ names6) : (∃ a z, HeadLn (headT s) a z ∧ linesOf (headT s ++ nlT) = [(headT s, nlT)]) ∨ s = ⟨#[97, 10, 98]⟩ := by
  simp only [names6, List.mem_cons, List.not_mem_nil, or_false] at h
  rcases h with rfl | rfl | rfl | rfl | rfl | rfl | rfl | rfl | rfl
  · exact .inl ⟨_, _, head_s, by decide +kernel⟩
  · exact .inl ⟨_, _, head_tu, by decide +kernel⟩
  · exact .inl ⟨_, _, head_none, by decide +kernel⟩
  · exact .inl ⟨_, _, head_bs, by decide +kernel⟩
  · exact .inl ⟨_, _, head_ab, by decide +kernel⟩
  · exact .inl ⟨_, _, head_ob, by decide +kernel⟩
  · exact .inr rfl
  · exact .inl ⟨_, _, head_hash, by decide +kernel⟩
  · exact .inl ⟨_, _, head_as, by decide +kernel⟩

end Go.Proofs.YtkhkpjnpjgnckaaGreatDoor

/- Headers and a simple pair, read: the pair, the two together, and what follows for all nine names. -/
set_option maxRecDepth 100000
namespace Go.Proofs.YtkhkpjnpjgnckaaGreatDoor
open Go.RowKit
set_option linter.unusedVariables false

/-! the pair -/
abbrev keyS : ByteArray := ⟨#[107, 101, 121, 32]⟩
abbrev valS : ByteArray := ⟨#[32, 118, 97, 108, 117, 101]⟩
theorem first_byte {t : ByteArray} {b : UInt8} (h : ∃ r, t.data.toList = b :: r) (n : ByteArray) (hb : hasB n b = false) (d : DialectD) (hd : d.notes = n) : isN d t = false := by
  obtain ⟨r, hr⟩ := h
  unfold isN
  split
  · next h0 =>
    obtain ⟨u, hu⟩ := first_data t h0
    rw [hr] at hu
    have := (List.cons.inj hu).1
    rw [← this, hd]
    exact hb
  · rfl
theorem pair_lines : ∀ u, u = (⟨#[61]⟩ : ByteArray) ∨ u = ⟨#[58]⟩ ∨ u = ⟨#[61, 58]⟩ ∨ u = ⟨#[58, 61]⟩ → (∀ e, trim5 e (pairT u) = pairT u) ∧ opensH (pairT u) = false ∧ start5 (pairT u) = pairT u ∧ tailN (pairT u) % 2 = 0 ∧ (pairT u).size = 11 ∧ (pairT u).data.toList = 107 :: (pairT u).data.toList.tail ∧ cutT (pairT u) u = some (keyS, valS) ∧ linesOf (pairT u ++ nlT) = [(pairT u, nlT)] := by
  intro u hu
  rcases hu with rfl | rfl | rfl | rfl
  · exact ⟨by decide +kernel, by decide +kernel, by decide +kernel, by decide +kernel, by decide +kernel, by decide +kernel, by decide +kernel, by decide +kernel⟩
  · exact ⟨by decide +kernel, by decide +kernel, by decide +kernel, by decide +kernel, by decide +kernel, by decide +kernel, by decide +kernel, by decide +kernel⟩
  · exact ⟨by decide +kernel, by decide +kernel, by decide +kernel, by decide +kernel, by decide +kernel, by decide +kernel, by decide +kernel, by decide +kernel⟩
  · exact ⟨by decide +kernel, by decide +kernel, by decide +kernel, by decide +kernel, by decide +kernel, by decide +kernel, by decide +kernel, by decide +kernel⟩
theorem value_bytes : ∀ i (h : i < valueB.size), valueB[i] ≠ 35 ∧ valueB[i] ≠ 59 ∧ valueB[i] ≠ 33 := by decide +kernel
theorem cut5_value {d : DialectD} (hn : NotesH d.notes) : cut5 d valueB = 5 := by
  unfold cut5
  split
  · refine findIdx_range _ _ _ (by decide) ?_ ?_
    · intro j hj
      unfold note5
      split
      · next h =>
        obtain ⟨h1, h2, h3⟩ := value_bytes j h.2
        rw [notesH_no hn _ h1 h2 h3]
        rfl
      · rfl
    · intro h
      exact absurd h (by decide)
  · rfl
theorem val_value {d : DialectD} (hn : NotesH d.notes) : valI d valueB = (valueB, true) := by
  have hq : isQ d valueB = false := by
    unfold isQ
    rw [show opens valueB = false by decide +kernel, Bool.and_false]
  have he : ∀ e, unT e (trim5 e (valueB.extract 0 5)) = (valueB, true) := by decide +kernel
  unfold valI
  rw [hq, if_neg (by decide)]
  unfold bareT
  rw [cut5_value hn, he]
theorem recI_pair {d : DialectD} (hok : dialOk d = true) (sec : ByteArray) : recI d sec (pairT d.seps) = ⟨3, ⟨#[]⟩, sec, keyB, valueB, 0⟩ := by
  obtain ⟨h1, h2, h3, h4, h5, h6, h7, h8⟩ := pair_lines d.seps (sepsH_of hok)
  have hn := notesH_of hok
  have hN : isN d (pairT d.seps) = false := first_byte ⟨_, h6⟩ d.notes (notesH_no hn 107 (by decide) (by decide) (by decide)) d rfl
  obtain ⟨c1, c2, c3⟩ := cut_parts h7
  have k1 : ∀ e, trim5 e keyS = keyB := by decide +kernel
  have k2 : ∀ e, trim5 e valS = valueB := by decide +kernel
  have hp : pairI d (pairT d.seps) = (keyB, valueB, true) := by
    unfold pairI
    rw [c1, c2, c3, k1, k2, val_value hn, if_pos ⟨rfl, by decide⟩]
  unfold recI
  rw [h1, if_neg (by omega), hN, if_neg (by decide), h2, if_neg (by decide), hp]
  rfl
theorem pair_step {d : DialectD} (hok : dialOk d = true) (sec : ByteArray) (l : List Ln) (k : Nat) (hk : k < l.length) (hl : l[k] = (pairT d.seps, nlT)) (he : l.length ≤ k + 1) :
    stepN d sec l k hk = 1 ∧ stepR d sec l k hk = ⟨3, ⟨#[]⟩, sec, keyB, valueB, 0⟩ := by
  obtain ⟨h1, h2, h3, h4, h5, h6, h7, h8⟩ := pair_lines d.seps (sepsH_of hok)
  have := step_plain hok sec l k hk (by rw [hl]; exact h3) (by rw [hl]; exact h4) (.inr (by rw [List.drop_of_length_le (by omega)]; rfl))
  rw [hl] at this
  rw [this.1, this.2]
  exact ⟨rfl, recI_pair hok sec⟩
theorem raw_one (t e : ByteArray) (l : List Ln) (k : Nat) (hk : k < l.length) (hl : l[k] = (t, e)) : rawI l k 1 = t ++ e := by
  unfold rawI
  rw [List.drop_eq_getElem_cons hk, hl, List.take_succ_cons, List.take_zero]
  apply ByteArray.ext
  apply Array.toList_inj.1
  simp [joinB]
theorem pair_recs {d : DialectD} (hok : dialOk d = true) : recsAt d (linesOf (pairT d.seps ++ nlT)) 0 ⟨#[]⟩ = [pairW d.seps] := by
  obtain ⟨h1, h2, h3, h4, h5, h6, h7, h8⟩ := pair_lines d.seps (sepsH_of hok)
  rw [h8, recsAt_step d _ 0 _ (by simp), recsAt_end d _ _ _ (by
    have := (stepN_le d ⟨#[]⟩ [(pairT d.seps, nlT)] 0 (by simp)).1
    simp only [List.length_cons, List.length_nil]
    omega)]
  obtain ⟨s1, s2⟩ := pair_step hok ⟨#[]⟩ [(pairT d.seps, nlT)] 0 (by simp) rfl (by simp)
  rw [s1, s2]
  unfold takeI
  rw [raw_one (pairT d.seps) nlT _ 0 (by simp) rfl]
  rfl

/-! the header alone, and both -/
theorem head_recs {d : DialectD} (hok : dialOk d = true) {t a z : ByteArray} (h : HeadLn t a z) : recsAt d [(t, nlT)] 0 ⟨#[]⟩ = [takeI [(t, nlT)] 0 1 (recI d ⟨#[]⟩ t)] := by
  rw [recsAt_step d _ 0 _ (by simp), recsAt_end d _ _ _ (by
    have := (stepN_le d ⟨#[]⟩ [(t, nlT)] 0 (by simp)).1
    simp only [List.length_cons, List.length_nil]
    omega)]
  obtain ⟨s1, s2⟩ := head_step hok h nlT ⟨#[]⟩ [(t, nlT)] 0 (by simp) rfl
  rw [s1, s2]
theorem head_recs5 {d : DialectD} (hok : dialOk d = true) {t a z : ByteArray} (h : HeadLn t a z) : recs5At d [(t, nlT)] 0 ⟨#[]⟩ = recsAt d [(t, nlT)] 0 ⟨#[]⟩ := by
  have hn := notesH_of hok
  rw [head_recs hok h, recs5At_step d _ 0 _ (by simp), recs5At_end d _ _ _ (by
    have := (one5_bound d ⟨#[]⟩ (t, nlT) []).1
    simp only [List.getElem_cons_zero, List.length_cons, List.length_nil, Nat.zero_add, List.drop_succ_cons, List.drop_zero]
    omega)]
  simp only [List.getElem_cons_zero, Nat.zero_add, List.drop_succ_cons, List.drop_zero]
  rw [one5_head hn h, recI_head hn h]
  cases headB d a z <;> rfl
theorem two_recs {d : DialectD} (hok : dialOk d = true) {t a z : ByteArray} (h : HeadLn t a z) (hb : headB d a z = true) :
    ∃ r1 r2, recsAt d [(t, nlT), (pairT d.seps, nlT)] 0 ⟨#[]⟩ = [r1, r2] ∧ r1.kind = 2 ∧ r1.sect = trimT a ∧ r2.sect = trimT a ∧ r2.value = valueB := by
  have hn := notesH_of hok
  obtain ⟨s1, s2⟩ := head_step hok h nlT ⟨#[]⟩ [(t, nlT), (pairT d.seps, nlT)] 0 (by simp) rfl
  rw [recsAt_step d _ 0 _ (by simp), s1, s2, recI_head hn h, if_pos hb]
  simp only [Nat.zero_add]
  obtain ⟨p1, p2⟩ := pair_step hok (trimT a) [(t, nlT), (pairT d.seps, nlT)] 1 (by simp) rfl (by simp)
  rw [recsAt_step d _ 1 _ (by simp), p1, p2, recsAt_end d _ _ _ (by simp)]
  exact ⟨_, _, rfl, rfl, rfl, rfl, rfl⟩

/-! the name with a line end -/
abbrev brkT : ByteArray := ⟨#[91, 97]⟩
abbrev endT : ByteArray := ⟨#[98, 93]⟩
theorem brk_lines : linesOf (headT ⟨#[97, 10, 98]⟩ ++ nlT) = [(brkT, nlT), (endT, nlT)] := by decide +kernel
theorem brk_facts : (∀ e, trim5 e brkT = brkT) ∧ opensH brkT = true ∧ start5 brkT = brkT ∧ tailN brkT % 2 = 0 ∧ (trimT brkT).size ≠ 0 ∧ cutT (brkT.extract 1 brkT.size) closeB = none := by
  exact ⟨by decide +kernel, by decide +kernel, by decide +kernel, by decide +kernel, by decide +kernel, by decide +kernel⟩
theorem recI_brk {d : DialectD} (hok : dialOk d = true) (sec : ByteArray) : recI d sec brkT = ⟨4, ⟨#[]⟩, sec, ⟨#[]⟩, ⟨#[]⟩, 0⟩ := by
  obtain ⟨h1, h2, h3, h4, h5, h6⟩ := brk_facts
  have hi : innerH brkT = brkT.extract 1 brkT.size := by unfold innerH; rw [h2]; rfl
  unfold recI headI
  rw [h1, if_neg (by decide), isN_head (notesH_of hok) h2, if_neg (by decide), if_pos h2, hi, cut_no h6]
  rfl
theorem joined_brk (d : DialectD) (t : ByteArray) (ht : tailN t % 2 = 0) (e : ByteArray) (l : List Ln) : joined5 d (t, e) l = (t, 1) := by
  unfold joined5
  split
  · rfl
  · exact joinR_stop _ _ (fun hh => by simp only at hh; omega)
theorem one5_brk {d : DialectD} (hok : dialOk d = true) (sec e : ByteArray) (l : List Ln) : one5 d sec (brkT, e) l = (kindR 4, 1, sec) := by
  obtain ⟨h1, h2, h3, h4, h5, h6⟩ := brk_facts
  have hnt : noteT d brkT = false := isN_head (notesH_of hok) h2
  have hbr : bracket brkT = true := h2
  have hh : head5 d brkT = (⟨#[]⟩, false) := by unfold head5; rw [h6]
  unfold one5
  rw [joined_brk d brkT h4]
  simp only
  rw [if_neg h5, h1, hnt, if_neg (by decide), if_pos hbr, hh]
  rfl
theorem easy_brk {d : DialectD} (hok : dialOk d = true) (e : ByteArray) (l : List Ln) : easy5 d (joined5 d (brkT, e) l).1 := by
  obtain ⟨h1, h2, h3, h4, h5, h6⟩ := brk_facts
  rw [joined_brk d brkT h4]
  exact ⟨h5, by rw [h1]; exact isN_head (notesH_of hok) h2, .inl (by rw [h1]; exact h2)⟩
theorem end_facts : (∀ e, trim5 e endT = endT) ∧ tailN endT % 2 = 0 ∧ (trimT endT).size ≠ 0 ∧ endT.data.toList = 98 :: [93] ∧ (∀ u ∈ [(⟨#[61]⟩ : ByteArray), ⟨#[58]⟩, ⟨#[61, 58]⟩, ⟨#[58, 61]⟩], cutT endT u = none) := by
  exact ⟨by decide +kernel, by decide +kernel, by decide +kernel, by decide +kernel, by decide +kernel⟩
theorem easy_end {d : DialectD} (hok : dialOk d = true) (e : ByteArray) (l : List Ln) : easy5 d (joined5 d (endT, e) l).1 := by
  obtain ⟨h1, h2, h3, h4, h5⟩ := end_facts
  rw [joined_brk d endT h2]
  refine ⟨h3, ?_, .inr ?_⟩
  · rw [h1]
    exact first_byte ⟨_, h4⟩ d.notes (notesH_no (notesH_of hok) 98 (by decide) (by decide) (by decide)) d rfl
  · rw [h1]
    have : cutT endT d.seps = none := h5 d.seps (by rcases sepsH_of hok with h | h | h | h <;> rw [h] <;> simp)
    unfold pair5
    rw [this]

/-! for all nine -/
theorem two_lines : ∀ s ∈ names6, s ≠ (⟨#[97, 10, 98]⟩ : ByteArray) → ∀ u ∈ [(⟨#[61]⟩ : ByteArray), ⟨#[58]⟩, ⟨#[61, 58]⟩, ⟨#[58, 61]⟩], linesOf (headT s ++ nlT ++ pairT u ++ nlT) = [(headT s, nlT), (pairT u, nlT)] := by decide +kernel
theorem names_size : ∀ s ∈ names6, s.size ≤ 3 := by decide +kernel
structure HeadAll (d : DialectD) (s : ByteArray) : Prop where
  few : (linesOf (headT s ++ nlT)).length ≤ 198
  easy : ∀ k (hk : k < (linesOf (headT s ++ nlT)).length), easy5 d (joined5 d (linesOf (headT s ++ nlT))[k] ((linesOf (headT s ++ nlT)).drop (k + 1))).1
  same : headA s (recs5At d (linesOf (headT s ++ nlT)) 0 ⟨#[]⟩) = headA s (recsAt d (linesOf (headT s ++ nlT)) 0 ⟨#[]⟩)
  both : (headA s (recsAt d (linesOf (headT s ++ nlT)) 0 ⟨#[]⟩)).2 = true → ∃ r1 r2, recsAt d (linesOf ((headA s (recsAt d (linesOf (headT s ++ nlT)) 0 ⟨#[]⟩)).1 ++ nlT ++ pairT d.seps ++ nlT)) 0 ⟨#[]⟩ = [r1, r2] ∧ r1.kind = 2 ∧ r1.sect = s ∧ r2.sect = s ∧ r2.value = valueB
theorem headA_no {s : ByteArray} {m : List RecD} (h : ∀ x r, m = x :: r → x.kind ≠ 2) : headA s m = (⟨#[]⟩, false) := by
  unfold headA
  rw [if_neg]
  intro e
  exact h _ _ e rfl
theorem headA_yes {s : ByteArray} {m : List RecD} (h : (headA s m).2 = true) : m = [headW s] ∧ (headA s m).1 = headT s := by
  unfold headA at h ⊢
  split at h
  · next e => exact ⟨e, by rw [if_pos e]⟩
  · cases h
theorem head_all {d : DialectD} (hok : dialOk d = true) {s : ByteArray} (hs : s ∈ names6) : HeadAll d s := by
  have hn := notesH_of hok
  by_cases hne : s = (⟨#[97, 10, 98]⟩ : ByteArray)
  · subst hne
    have hI : ∀ x r, recsAt d (linesOf (headT ⟨#[97, 10, 98]⟩ ++ nlT)) 0 ⟨#[]⟩ = x :: r → x.kind ≠ 2 := by
      intro x r h
      rw [brk_lines, recsAt_step d _ 0 _ (by simp)] at h
      obtain ⟨f1, f2, f3, f4, f5, f6⟩ := brk_facts
      have hst := step_plain hok ⟨#[]⟩ [(brkT, nlT), (endT, nlT)] 0 (by simp) f3 f4 (.inl (by
        unfold indQ
        simp only [List.getElem_cons_zero]
        rw [recI_brk hok]
        rfl))
      have h2 := (List.cons.inj h).1
      rw [hst.2] at h2
      simp only [List.getElem_cons_zero] at h2
      rw [recI_brk hok] at h2
      rw [← h2]
      show (4 : Int) ≠ 2
      decide
    have h5 : ∀ x r, recs5At d (linesOf (headT ⟨#[97, 10, 98]⟩ ++ nlT)) 0 ⟨#[]⟩ = x :: r → x.kind ≠ 2 := by
      intro x r h
      rw [brk_lines, recs5At_step d _ 0 _ (by simp)] at h
      have h2 := (List.cons.inj h).1
      simp only [List.getElem_cons_zero] at h2
      rw [one5_brk hok] at h2
      rw [← h2]
      show (4 : Int) ≠ 2
      decide
    refine ⟨by rw [brk_lines]; simp, ?_, by rw [headA_no hI, headA_no h5], ?_⟩
    · rw [brk_lines]
      intro k hk
      simp only [List.length_cons, List.length_nil] at hk
      rcases (show k = 0 ∨ k = 1 by omega) with rfl | rfl
      · exact easy_brk hok _ _
      · exact easy_end hok _ _
    · rw [headA_no hI]
      intro h
      cases h
  · rcases names_head s hs with ⟨a, z, h, hl⟩ | h
    · refine ⟨by rw [hl]; simp, ?_, by rw [hl, head_recs5 hok h], ?_⟩
      · rw [hl]
        intro k hk
        simp only [List.length_cons, List.length_nil] at hk
        obtain rfl : k = 0 := by omega
        exact easy_head hn h _ _
      · intro hy
        obtain ⟨e1, e2⟩ := headA_yes hy
        rw [e2, two_lines s hs hne d.seps (by rcases sepsH_of hok with h | h | h | h <;> rw [h] <;> simp)]
        rw [hl, head_recs hok h, recI_head hn h] at e1
        have e3 := (List.cons.inj e1).1
        cases hb : headB d a z with
        | false =>
          rw [hb] at e3
          have := congrArg RecD.kind e3
          exact absurd this (by show (4 : Int) ≠ 2; decide)
        | true =>
          rw [hb] at e3
          have e4 : trimT a = s := congrArg RecD.sect e3
          have := two_recs hok h hb
          rw [e4] at this
          exact this
    · exact absurd h hne

end Go.Proofs.YtkhkpjnpjgnckaaGreatDoor

/- The walk of FnHead. -/
set_option maxRecDepth 100000
namespace Go.Proofs.YtkhkpjnpjgnckaaGreatDoor
open Go.RowKit
set_option linter.unusedVariables false

/-- all that the law asks of a name and a Dialect -/
def HeadAsk (d : DialectD) (s : ByteArray) : Prop :=
  ∃ (line : ByteArray) (ok : Bool), line.size ≤ 100 ∧
    (∀ w, Calls Tryz.prog 8 #[.string s, dialectV d] w fun e w' => e = .returned (.tuple #[.string line, .bool ok]) ∧ Below w.heap.size w w') ∧
    (∀ w, Calls Tryz.prog 9 #[.string s, dialectV d] w fun e w' => e = .returned (.tuple #[.string line, .bool ok]) ∧ Below w.heap.size w w') ∧
    (dialOk d = false → ok = false) ∧
    (dialOk d = true → (pairT d.seps).size = 11 ∧
      (∀ w, Calls Tryz.prog 11 #[.string keyB, .string valueB, dialectV d] w fun e w' => e = .returned (.tuple #[.string (pairT d.seps), .bool true]) ∧ Below w.heap.size w w') ∧
      ∃ lst, (∀ w, Calls Tryz.prog 12 #[.string (line ++ nlT ++ pairT d.seps ++ nlT), dialectV d] w (NewRows recS w lst)) ∧
        (ok = true → ∃ r1 r2, lst = [r1, r2] ∧ r1.kind = 2 ∧ r1.sect = s ∧ r2.sect = s ∧ r2.value = valueB))
theorem head_ask (d : DialectD) (s : ByteArray) (hs : s ∈ names6) (h1 : d.notes.size ≤ 12) (h2 : d.seps.size ≤ 12) : HeadAsk d s := by
  have hz := names_size s hs
  have hzt : (headT s ++ nlT).size ≤ 100 := by
    unfold headT
    rw [ByteArray.size_append, ByteArray.size_append, ByteArray.size_append]
    show 1 + s.size + 1 + 1 ≤ _
    omega
  have hz0 : (headT s ++ nlT).size ≠ 0 := by
    rw [ByteArray.size_append]
    show (headT s).size + 1 ≠ 0
    omega
  have hz6 : (headT s ++ nlT).size ≤ 6000 := by omega
  cases hok : dialOk d with
  | false =>
    refine ⟨(headA s []).1, (headA s []).2, by rw [headA_no (by intro x r h; cases h)]; decide, fun w => iniHead_impl d s [] w (by omega) (fun w => parse_badI d _ w hok (by omega) (by omega)) (by simp), fun w => iniHead_spec d s [] w (by omega) (fun w => parse_bad5 d (headT s ++ nlT) w hok hz6 (by omega) (by omega)) (by simp), fun _ => ?_, fun h => by rw [hok] at h; cases h⟩
    rw [headA_no (by intro x r h; cases h)]
  | true =>
    have H := head_all hok hs
    have hlI := recsAt_few d (headT s ++ nlT)
    have hl5 : (recs5At d (linesOf (headT s ++ nlT)) 0 ⟨#[]⟩).length ≤ 1000 := by
      have h3 : ∀ (l : List Ln) (f k : Nat) (sec : ByteArray), (recs5 d l f k sec).length ≤ f := by
        intro l f
        induction f with
        | zero => intro k sec; exact Nat.le_refl _
        | succ f ih =>
          intro k sec
          unfold recs5
          split
          · rw [List.length_cons]
            have := ih (k + (one5 d sec l[k] (l.drop (k + 1))).2.1) (one5 d sec l[k] (l.drop (k + 1))).2.2
            omega
          · exact Nat.zero_le _
      have := h3 (linesOf (headT s ++ nlT)) (linesOf (headT s ++ nlT)).length 0 ⟨#[]⟩
      have h4 := H.few
      unfold recs5At
      omega
    have KI := fun w => iniHead_impl d s _ w (by omega) (fun w => parse_any d (headT s ++ nlT) w hok (by omega) hz0) (by omega)
    have K5 := fun w => iniHead_spec d s _ w (by omega) (fun w => parse_easy d (headT s ++ nlT) w hok (by omega) hz0 H.few H.easy) hl5
    rw [H.same] at K5
    have hz1 : (headA s (recsAt d (linesOf (headT s ++ nlT)) 0 ⟨#[]⟩)).1.size ≤ 100 := by
      have h9 : (headT s).size ≤ 100 := by rw [ByteArray.size_append] at hzt; omega
      unfold headA
      split
      · exact h9
      · exact Nat.zero_le _
    have hz2 : (pairT d.seps).size = 11 := by
      obtain ⟨_, _, _, _, h5, _⟩ := pair_lines d.seps (sepsH_of hok)
      exact h5
    refine ⟨_, _, hz1, KI, K5, (fun h => by rw [hok] at h; cases h), fun _ => ⟨hz2, fun w => iniPair_one d w hok (fun w => by rw [← pair_recs hok]; exact parse_any d _ w hok (by rw [ByteArray.size_append, hz2]; decide) (by rw [ByteArray.size_append, hz2]; decide)), _, fun w => parse_any d _ w hok ?_ ?_, H.both⟩⟩
    · rw [ByteArray.size_append, ByteArray.size_append, ByteArray.size_append, hz2]
      show _ + 1 + 11 + 1 ≤ 200
      omega
    · rw [ByteArray.size_append, ByteArray.size_append, ByteArray.size_append, hz2]
      show _ + 1 + 11 + 1 ≠ 0
      omega

set_option maxHeartbeats 3200000 in
theorem fnHead_walk (a : Option Addr) (len cap : Nat) (w : World) (hB : BytesIn w a len) (hlow : ∀ x, a = some x → len ≠ 0 → x.block < w.heap.size) :
    Calls Tryz.prog 3 #[.slice a len cap] w fun e w' => e = .returned (.bool true) ∧ Below w.heap.size w w' := by
  by_cases hlen : len ≤ 1048576
  · have KD1 := Lib.hid (drawIniHead w a len cap hlen hB hlow)
    have KG := Lib.hid (big_no w a len cap hlen)
    have hB2 := Below.refl w.heap.size w
    clear hB hlow hlen
    go_enter Tryz.func3, Tryz.ntmps3
    go_wp2_with fail
    refine KG.out.mono ?_
    rintro e w0 ⟨rfl, rfl⟩
    clear KG
    go_wp2_with fail
    refine KD1.out.mono ?_
    rintro e w1 ⟨s, d, hs, hd0, hd1, rfl, hbn⟩
    replace hB2 := hB2.trans (hbn.mono hB2.size)
    clear hbn KD1
    obtain ⟨line, ok, hlz, KI, KS, hbad, hgood⟩ := head_ask d s hs hd0 hd1
    have KI := Lib.hid KI
    have KS := Lib.hid KS
    have HBAD := Lib.hid hbad
    have HGOOD := Lib.hid hgood
    have K2 := Lib.hid (fun w => dialectOk_spec d w (by omega) (by omega))
    clear hbad hgood hs hd0 hd1
    generalize dialOk d = dk at *
    have HD : Hid (DialAt (w1.alloc (.cells #[.string d.notes, .string d.seps, .bool d.inl, .bool d.quo, .bool d.esc, .int .i64 d.join] 25)) w1.heap.size d) := dialAt_new w1 d
    replace hB2 := hB2.alloc hB2.size (.cells #[.string d.notes, .string d.seps, .bool d.inl, .bool d.quo, .bool d.esc, .int .i64 d.join] 25)
    have hlt : w1.heap.size < (w1.alloc (.cells #[.string d.notes, .string d.seps, .bool d.inl, .bool d.quo, .bool d.esc, .int .i64 d.join] 25)).heap.size := by simp
    obtain ⟨d0, d1, d2, d3, d4, d5⟩ := d
    unfold dialectV at *
    simp only at KI KS HGOOD K2 HD hB2 hlt ⊢
    have hl0 : (line.toList != line.toList) = false := by simp
    have hl1 : (ok != ok) = false := by simp
    go_wp2_with fail
    refine (KI.out _).mono ?_
    rintro e w2 ⟨rfl, hbn⟩
    replace HD := Lib.hid (HD.out.over hbn hlt)
    replace hB2 := hB2.trans (hbn.mono hB2.size)
    replace hlt := Nat.lt_of_lt_of_le hlt hbn.size
    clear hbn KI
    generalize w1.heap.size = g0 at *
    obtain ⟨c0, c1, c2, c3, c4, c5⟩ := HD.out.cells
    simp only at c0 c1 c2 c3 c4 c5
    go_wp2_with fail
    refine (KS.out _).mono ?_
    rintro e w3 ⟨rfl, hbn⟩
    replace HD := Lib.hid (HD.out.over hbn hlt)
    replace hB2 := hB2.trans (hbn.mono hB2.size)
    replace hlt := Nat.lt_of_lt_of_le hlt hbn.size
    clear hbn KS c0 c1 c2 c3 c4 c5
    obtain ⟨c0, c1, c2, c3, c4, c5⟩ := HD.out.cells
    simp only at c0 c1 c2 c3 c4 c5
    go_wp2_with fail
    refine (K2.out _).mono ?_
    rintro e w4 ⟨rfl, hbn⟩
    replace HD := Lib.hid (HD.out.over hbn hlt)
    replace hB2 := hB2.trans (hbn.mono hB2.size)
    replace hlt := Nat.lt_of_lt_of_le hlt hbn.size
    clear hbn K2 c0 c1 c2 c3 c4 c5 hl0 hl1
    cases dk
    · obtain rfl := HBAD.out rfl
      clear HBAD HGOOD
      go_wp2
      go_ret
      exact ⟨rfl, hB2⟩
    · obtain ⟨hpz, KP, lst, KL, hyes⟩ := HGOOD.out rfl
      have KP := Lib.hid KP
      have KL := Lib.hid KL
      have HY := Lib.hid hyes
      clear HBAD HGOOD hyes
      generalize pairT d1 = pt at *
      obtain ⟨c0, c1, c2, c3, c4, c5⟩ := HD.out.cells
      simp only at c0 c1 c2 c3 c4 c5
      go_wp2_with fail
      refine (KP.out _).mono ?_
      rintro e w5 ⟨rfl, hbn⟩
      replace HD := Lib.hid (HD.out.over hbn hlt)
      replace hB2 := hB2.trans (hbn.mono hB2.size)
      replace hlt := Nat.lt_of_lt_of_le hlt hbn.size
      clear hbn KP c0 c1 c2 c3 c4 c5
      obtain ⟨c0, c1, c2, c3, c4, c5⟩ := HD.out.cells
      simp only at c0 c1 c2 c3 c4 c5
      go_wp2_with fail
      refine (KL.out _).mono ?_
      rintro e w6 ⟨v, g, rfl, hR, hg, hbn⟩
      replace hB2 := hB2.trans (hbn.mono hB2.size)
      obtain ⟨la, lc, rfl, ha⟩ := hR.form
      clear hbn KL c0 c1 c2 c3 c4 c5 HD hlt hg
      cases ok
      · clear HY hR ha
        go_wp2
        go_ret
        exact ⟨rfl, hB2⟩
      · obtain ⟨r1, r2, rfl, e1, e2, e3, e4⟩ := HY.out rfl
        obtain rfl := ha (by simp)
        have x1 := rec_c0 hR.toRowsRd 0 (by simp)
        have x2 := rec_c2 hR.toRowsRd 0 (by simp)
        have x3 := rec_c2 hR.toRowsRd 1 (by simp)
        have x4 := rec_c4 hR.toRowsRd 1 (by simp)
        simp only [List.getElem_cons_zero, List.getElem_cons_succ, Nat.zero_add, Nat.zero_mul, Nat.one_mul] at x1 x2 x3 x4
        rw [e1] at x1
        rw [e2] at x2
        rw [e3] at x3
        rw [e4] at x4
        have hlen : (([r1, r2] : List RecD).length : Int) = 2 := rfl
        have hs1 : (s.toList == s.toList) = true := by simp
        have hv1 : (valueB.toList == [118, 97, 108, 117, 101]) = true := by decide +kernel
        have hv2 : (valueB.toList == valueB.toList) = true := by simp
        clear HY hR ha e1 e2 e3 e4
        go_wp2
        go_ret
        exact ⟨rfl, hB2⟩
  · have KG := Lib.hid (big_yes w a len cap (by omega))
    go_enter Tryz.func3, Tryz.ntmps3
    go_wp2_with fail
    refine KG.out.mono ?_
    rintro e w0 ⟨rfl, rfl⟩
    go_wp2
    go_ret
    exact ⟨rfl, Below.refl _ _⟩

end Go.Proofs.YtkhkpjnpjgnckaaGreatDoor
