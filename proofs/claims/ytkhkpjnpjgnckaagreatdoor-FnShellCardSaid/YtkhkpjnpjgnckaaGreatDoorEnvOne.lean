/- Results that lie in a cell and in slots; a cell of a block turned. -/
import Derived.Test.YtkhkpjnpjgnckaaGreatDoorProg
import Derived.WalkKit
import Derived.WalkLawsBesides
import Derived.Laws.IdiomStrings
import Derived.Test.YtkhkpjnpjgnckaaGreatDoorPlain
import Derived.Test.YtkhkpjnpjgnckaaGreatDoorTrim
import Derived.BigQuiet
import Derived.Deep.QuietTactic
import Derived.Lib.QuietBelow
import Derived.Lib.Hide
import Derived.IntWalk
import Derived.Test.YtkhkpjnpjgnckaaGreatDoorCut
import Derived.OwnWalk
import Derived.Lib.AppendStr
import Derived.Test.YtkhkpjnpjgnckaaGreatDoorTail
import Derived.Test.YtkhkpjnpjgnckaaGreatDoorLines
import Derived.Test.YtkhkpjnpjgnckaaGreatDoorSplitSpec
import Derived.Test.YtkhkpjnpjgnckaaGreatDoorJoin
import Derived.Test.YtkhkpjnpjgnckaaGreatDoorRecRows
namespace Go.Proofs.YtkhkpjnpjgnckaaGreatDoor
open Go.RowKit
set_option linter.unusedVariables false

theorem results_cell2 {P : Program} {fn : Func} {p u v : Tmp} {ty : TypeId} (h : fn.results = #[.cell p ty, .tmp u, .tmp v]) (tmps : Array Value) (w : World) (g : Nat) (t : TypeId) (cs : Array Value) (fr : Nat × Nat) (d : TypeDesc)
    (hp : tmps.getD p undef = .pointer (some ⟨g, 0, none⟩)) (hg : w.heap[g]? = some (.cells cs t fr))
    (hu : P.underlying ty = some d) (hd : (match d with | .struct _ | .array _ _ => true | _ => false) = true) (hi : (P.info? ty).map (·.size) = some cs.size) :
    (results fn tmps).run P w = .ok (.tuple #[.agg cs, tmps.getD u undef, tmps.getD v undef]) w := by
  have hp' : tmps[p]?.getD undef = .pointer (some ⟨g, 0, none⟩) := by simpa using hp
  simp [results, h, hp', asAddr, run_loadVar_row w g t ty cs fr d hg hu hd hi]
theorem results_cell1 {P : Program} {fn : Func} {p u : Tmp} {ty : TypeId} (h : fn.results = #[.cell p ty, .tmp u]) (tmps : Array Value) (w : World) (g : Nat) (t : TypeId) (cs : Array Value) (fr : Nat × Nat) (d : TypeDesc)
    (hp : tmps.getD p undef = .pointer (some ⟨g, 0, none⟩)) (hg : w.heap[g]? = some (.cells cs t fr))
    (hu : P.underlying ty = some d) (hd : (match d with | .struct _ | .array _ _ => true | _ => false) = true) (hi : (P.info? ty).map (·.size) = some cs.size) :
    (results fn tmps).run P w = .ok (.tuple #[.agg cs, tmps.getD u undef]) w := by
  have hp' : tmps[p]?.getD undef = .pointer (some ⟨g, 0, none⟩) := by simpa using hp
  simp [results, h, hp', asAddr, run_loadVar_row w g t ty cs fr d hg hu hd hi]

theorem set_cellR (W : World) (g j : Nat) (cs : Array Value) (t : TypeId) (fr : Nat × Nat) (v : Value) (h : W.heap[g]? = some (.cells cs t fr)) : (W.setCell ⟨g, j, none⟩ v).heap[g]? = some (.cells (cs.setIfInBounds j v) t fr) := by
  obtain ⟨hlt, he⟩ := Array.getElem?_eq_some_iff.1 h
  simp [World.setCell, h, hlt, Array.getElem_modify, he]

end Go.Proofs.YtkhkpjnpjgnckaaGreatDoor

/- Environment files: leading blanks, names. The model's l08Lead, l01Letter, l01Digit, NameOk. -/
set_option maxRecDepth 100000
namespace Go.Proofs.YtkhkpjnpjgnckaaGreatDoor
open Go.RowKit Go.Sort
set_option linter.unusedVariables false
set_option linter.unusedSimpArgs false

theorem text_noneE (x : ByteArray) (h : x.size = 0) : (x.toList == []) = true ∧ x.toList.isEmpty = true := by
  have : x.toList = [] := by
    rw [Lib.toList_data]
    apply List.eq_nil_of_length_eq_zero
    rw [← Lib.size_eq]
    exact h
  rw [this]
  exact ⟨rfl, rfl⟩
theorem text_someE (x : ByteArray) (h : 0 < x.size) : (x.toList == []) = false ∧ x.toList.isEmpty = false := by
  rw [Lib.toList_data]
  cases hl : x.data.toList with
  | nil =>
    have h2 := Lib.size_eq x
    rw [hl, List.length_nil] at h2
    omega
  | cons c t => exact ⟨rfl, rfl⟩
theorem head_tailE (z : ByteArray) (h : 0 < z.size) : z.data.toList = z[0] :: (z.extract 1 z.size).data.toList := by
  have hl : 0 < z.data.toList.length := by rw [← Lib.size_eq]; exact h
  have h1 : (z.extract 1 z.size).data.toList = z.data.toList.drop 1 := by
    rw [Lib.extract_eq]
    simp only [Lib.size_eq]
    rw [List.take_of_length_le (by simp)]
  rw [h1]
  conv => lhs; rw [← List.drop_zero (l := z.data.toList), List.drop_eq_getElem_cons hl]
  rfl
/-- a text without the gaps at its beginning -/
def leadE (s : ByteArray) : ByteArray := ⟨(s.data.toList.dropWhile blankB).toArray⟩
theorem leadE_none (z : ByteArray) (h : z.size = 0) : leadE z = z := by
  have : z.data.toList = [] := by apply List.eq_nil_of_length_eq_zero; rw [← Lib.size_eq]; exact h
  apply ByteArray.ext
  apply Array.toList_inj.1
  show z.data.toList.dropWhile blankB = z.data.toList
  rw [this]
  rfl
theorem leadE_here (z : ByteArray) (h : 0 < z.size) (hb : blankB z[0] = false) : leadE z = z := by
  apply ByteArray.ext
  apply Array.toList_inj.1
  show z.data.toList.dropWhile blankB = z.data.toList
  rw [head_tailE z h, List.dropWhile_cons_of_neg (by simp [hb])]
theorem leadE_on (z : ByteArray) (h : 0 < z.size) (hb : blankB z[0] = true) : leadE (z.extract 1 z.size) = leadE z := by
  apply ByteArray.ext
  apply Array.toList_inj.1
  show (z.extract 1 z.size).data.toList.dropWhile blankB = z.data.toList.dropWhile blankB
  rw [head_tailE z h, List.dropWhile_cons_of_pos hb]
theorem leadE_size (z : ByteArray) : (leadE z).size ≤ z.size := by
  rw [Lib.size_eq, Lib.size_eq]
  exact (List.dropWhile_sublist _).length_le
def textLenE (v : Value) : Nat := match v with | .string z => z.size | _ => 0
set_option maxHeartbeats 1600000 in
theorem leadE_spec (s : ByteArray) (w : World) (hs : s.size ≤ 100000000) :
    Calls Tryz.prog 89 #[.string s] w fun e w' => e = .returned (.string (leadE s)) ∧ w = w' := by
  go_enter Tryz.func89, Tryz.ntmps89
  go_wp2
  go_loopw [0] (fun x wr => ∃ z : ByteArray, x = .string z ∧ z.size ≤ 100000000 ∧ Hid (leadE z = leadE s) ∧ w = wr) (fun x _ => textLenE x)
  case atStart => exact ⟨s, rfl, hs, rfl, rfl⟩
  case round =>
    obtain ⟨z, rfl, hz, hzz, rfl⟩ := hrel
    by_cases hz0 : z.size = 0
    · obtain ⟨f1, f2⟩ := text_noneE z hz0
      have hfin : Hid (z = leadE s) := by unfold Hid; rw [← hzz.out, leadE_none z hz0]
      clear hzz hz0
      go_wp2
      go_ret
      exact ⟨by rw [← hfin.out]; rfl, rfl⟩
    · obtain ⟨f1, f2⟩ := text_someE z (by omega)
      have hz1 : 0 < z.size := by omega
      have hzi : (0 : Int) < (z.size : Int) := by omega
      have KZ := Lib.hid (fun w => blank_any z[0] w)
      cases hbz : blankB z[0]
      · have hfin : Hid (z = leadE s) := by unfold Hid; rw [← hzz.out, leadE_here z hz1 hbz]
        rw [hbz] at KZ
        clear hzz hbz
        go_wp2_with fail
        refine (KZ.out _).mono ?_
        rintro e w4 ⟨rfl, rfl⟩
        clear KZ
        go_wp2
        go_ret
        exact ⟨by rw [← hfin.out]; rfl, rfl⟩
      · have hz2 : Hid (leadE (z.extract 1 z.size) = leadE s) := by unfold Hid; rw [← hzz.out, leadE_on z hz1 hbz]
        have hz3 : (z.extract 1 z.size).size = z.size - 1 := by rw [ByteArray.size_extract]; omega
        have hzo : (1 : Int) ≤ (z.size : Int) := by omega
        rw [hbz] at KZ
        clear hzz hbz
        go_wp2_with fail
        refine (KZ.out _).mono ?_
        rintro e w4 ⟨rfl, rfl⟩
        clear KZ
        go_wp2
        go_roundw
        case rel => exact ⟨z.extract 1 z.size, rfl, by omega, hz2, trivial⟩
        case measure => simp only [textLenE]; omega


/-- letters and digits -/
def letterB (c : UInt8) : Bool := (decide (65 ≤ (c.toNat : Int)) && decide ((c.toNat : Int) ≤ 90)) || (decide (97 ≤ (c.toNat : Int)) && decide ((c.toNat : Int) ≤ 122))
def digitB (c : UInt8) : Bool := decide (48 ≤ (c.toNat : Int)) && decide ((c.toNat : Int) ≤ 57)
theorem in_anyE (x a b : Int) (w : World) :
    Calls Tryz.prog 26 #[.int .i64 x, .int .i64 a, .int .i64 b] w fun e w' => e = .returned (.bool (decide (a ≤ x) && decide (x ≤ b))) ∧ w = w' := by
  by_cases h1 : a ≤ x
  · by_cases h2 : x ≤ b
    · have e1 : decide (a ≤ x) = true := decide_eq_true h1
      have e2 : decide (x ≤ b) = true := decide_eq_true h2
      have hv : Hid ((decide (a ≤ x) && decide (x ≤ b)) = true) := by unfold Hid; rw [e1, e2]; rfl
      go_enter Tryz.func26, Tryz.ntmps26
      go_wp2
      go_ret
      exact ⟨by first | rfl | (rw [hv.out]; rfl), rfl⟩
    · have e1 : decide (a ≤ x) = true := decide_eq_true h1
      have e2 : decide (x ≤ b) = false := decide_eq_false h2
      have hv : Hid ((decide (a ≤ x) && decide (x ≤ b)) = false) := by unfold Hid; rw [e1, e2]; rfl
      go_enter Tryz.func26, Tryz.ntmps26
      go_wp2
      go_ret
      exact ⟨by first | rfl | (rw [hv.out]; rfl), rfl⟩
  · have e1 : decide (a ≤ x) = false := decide_eq_false h1
    have hv : Hid ((decide (a ≤ x) && decide (x ≤ b)) = false) := by unfold Hid; rw [e1]; rfl
    go_enter Tryz.func26, Tryz.ntmps26
    go_wp2
    go_ret
    exact ⟨by first | rfl | (rw [hv.out]; rfl), rfl⟩
theorem digit_anyE (c : UInt8) (w : World) :
    Calls Tryz.prog 45 #[.int .u8 c.toNat] w fun e w' => e = .returned (.bool (digitB c)) ∧ w = w' := by
  have K := Lib.hid (fun w => in_anyE (c.toNat : Int) 48 57 w)
  have hlt := c.toNat_lt
  have hw : IntKind.i64.wrap (c.toNat : Int) = (c.toNat : Int) := IntWalk.i64_in _ (by omega)
  have HV : Hid (digitB c = (decide (48 ≤ (c.toNat : Int)) && decide ((c.toNat : Int) ≤ 57))) := rfl
  go_enter Tryz.func45, Tryz.ntmps45
  go_wp2_with fail
  refine (K.out _).mono ?_
  rintro e w1 ⟨rfl, rfl⟩
  rw [← HV.out]
  go_wp2
  go_ret
  exact ⟨rfl, rfl⟩
theorem letter_anyE (c : UInt8) (w : World) :
    Calls Tryz.prog 44 #[.int .u8 c.toNat] w fun e w' => e = .returned (.bool (letterB c)) ∧ w = w' := by
  have K := Lib.hid (fun w => in_anyE (c.toNat : Int) 65 90 w)
  have K2 := Lib.hid (fun w => in_anyE (c.toNat : Int) 97 122 w)
  have hlt := c.toNat_lt
  have hw : IntKind.i64.wrap (c.toNat : Int) = (c.toNat : Int) := IntWalk.i64_in _ (by omega)
  have HV : Hid (letterB c = ((decide (65 ≤ (c.toNat : Int)) && decide ((c.toNat : Int) ≤ 90)) || (decide (97 ≤ (c.toNat : Int)) && decide ((c.toNat : Int) ≤ 122)))) := rfl
  generalize (decide (65 ≤ (c.toNat : Int)) && decide ((c.toNat : Int) ≤ 90)) = b1 at *
  generalize (decide (97 ≤ (c.toNat : Int)) && decide ((c.toNat : Int) ≤ 122)) = b2 at *
  go_enter Tryz.func44, Tryz.ntmps44
  go_wp2_with fail
  refine (K.out _).mono ?_
  rintro e w1 ⟨rfl, rfl⟩
  cases b1
  · go_wp2_with fail
    refine (K2.out _).mono ?_
    rintro e w1 ⟨rfl, rfl⟩
    go_wp2
    go_ret
    exact ⟨by rw [HV.out]; rfl, rfl⟩
  · go_wp2
    go_ret
    exact ⟨by rw [HV.out]; rfl, rfl⟩

/-- a name's bytes, from a place on -/
def nameAt (s : ByteArray) (k : Nat) : Bool := if h : k < s.size then letterB s[k] || s[k] == 95 || (decide (0 < k) && digitB s[k]) else true
def nameTo (s : ByteArray) : Nat → Bool
  | 0 => true
  | k + 1 => nameTo s k && nameAt s k
theorem nameTo_false {s : ByteArray} {k : Nat} (h : nameTo s (k + 1) = false) : ∀ m, k + 1 ≤ m → nameTo s m = false := by
  intro m hm
  induction m with
  | zero => omega
  | succ m ih =>
    by_cases e : m = k
    · rw [e]; exact h
    · show (nameTo s m && nameAt s m) = false
      rw [ih (by omega)]; rfl
/-- is it a name -/
def nameB (s : ByteArray) : Bool := nameTo s s.size && (decide (1 ≤ (s.size : Int)) && decide ((s.size : Int) ≤ 40))
set_option maxHeartbeats 1600000 in
theorem nameOk_spec (s : ByteArray) (w : World) (hs : s.size ≤ 1048576) :
    Calls Tryz.prog 18 #[.string s] w fun e w' => e = .returned (.bool (nameB s)) ∧ Below w.heap.size w w' := by
  have KI := Lib.hid (fun w => in_anyE (s.size : Int) 1 40 w)
  go_enter Tryz.func18, Tryz.ntmps18
  go_wp2
  go_loopw [3] (fun i wr => ∃ k : Nat, k ≤ s.size ∧ i = .int .i64 k ∧ nameTo s k = true ∧ Below w.heap.size w wr) (fun i _ => s.size - (intOf i).toNat)
  case atStart => exact ⟨0, Nat.zero_le _, rfl, rfl, Below.refl _ _⟩
  case round =>
    obtain ⟨k, hk, rfl, hn, hb⟩ := hrel
    by_cases hlt : k < s.size
    · have hki : (k : Int) < (s.size : Int) := by omega
      have KL := Lib.hid (fun w => letter_anyE s[k] w)
      have KD := Lib.hid (fun w => digit_anyE s[k] w)
      have HN1 : Hid (nameTo s (k + 1) = nameAt s k) := by show (nameTo s k && nameAt s k) = _; rw [hn]; rfl
      have HV : Hid (nameAt s k = (letterB s[k] || s[k] == 95 || (decide (0 < k) && digitB s[k]))) := by unfold Hid nameAt; rw [dif_pos hlt]
      have h95 : ∀ b, (s[k] == 95) = b → ((s[k].toNat : Int) != 95) = !b := by
        intro b h
        rw [← h]
        by_cases e : s[k] = 95
        · rw [e]; rfl
        · have : ((s[k].toNat : Int) == 95) = false := by rw [beq_eq_false_iff_ne]; intro e2; exact e (UInt8.toNat_inj.1 (Int.ofNat_inj.1 e2))
          rw [bne, this]; simp [e]
      have hz : ((k : Int) == 0) = !decide (0 < k) := by
        by_cases e : 0 < k
        · rw [decide_eq_true e, beq_eq_false_iff_ne.2 (by omega)]; rfl
        · have : k = 0 := by omega
          rw [this]; rfl
      obtain ⟨b2, hb2⟩ : ∃ b, (s[k] == 95) = b := ⟨_, rfl⟩
      have h96 := h95 b2 hb2
      rw [hb2] at HV
      generalize letterB s[k] = b1 at *
      generalize digitB s[k] = b4 at *
      obtain ⟨b3, hb3⟩ : ∃ b, decide (0 < k) = b := ⟨_, rfl⟩
      rw [hb3] at HV hz
      generalize hna : nameAt s k = q at *
      have HF : Hid (q = false → nameB s = false) := by
        intro h
        unfold nameB
        rw [nameTo_false (k := k) (by rw [HN1.out, h]) s.size (by omega)]
        rfl
      clear h95 hb2 hna hb3
      cases b1 <;> cases b2 <;> cases b3 <;> cases b4
      all_goals
        have HQ := Lib.hid HV.out
        simp only [Bool.or_true, Bool.or_false, Bool.true_or, Bool.false_or, Bool.and_true, Bool.and_false, Bool.true_and, Bool.false_and, Bool.or_self, Bool.and_self] at HQ
        simp only [Bool.not_true, Bool.not_false] at h96 hz
        clear HV
        go_wp2_with fail
        refine (KL.out _).mono ?_
        rintro e w1 ⟨rfl, rfl⟩
        first
          | (go_wp2_with fail
             refine (KD.out _).mono ?_
             rintro e w2 ⟨rfl, rfl⟩
             first
               | (go_wp2
                  go_roundw
                  case rel => exact ⟨k + 1, by omega, by go_num, by rw [HN1.out, HQ.out], hb⟩
                  case measure => simp [intOf]; omega)
               | (go_wp2
                  go_ret
                  exact ⟨by rw [HF.out HQ.out]; rfl, hb⟩))
          | (go_wp2
             go_roundw
             case rel => exact ⟨k + 1, by omega, by go_num, by rw [HN1.out, HQ.out], hb⟩
             case measure => simp [intOf]; omega)
          | (go_wp2
             go_ret
             exact ⟨by rw [HF.out HQ.out]; rfl, hb⟩)
    · obtain rfl : k = s.size := by omega
      have hki : ¬ (s.size : Int) < (s.size : Int) := by omega
      have HV : Hid (nameB s = (decide (1 ≤ (s.size : Int)) && decide ((s.size : Int) ≤ 40))) := by unfold Hid nameB; rw [hn]; rfl
      go_wp2_with fail
      refine (KI.out _).mono ?_
      rintro e w1 ⟨rfl, rfl⟩
      rw [← HV.out]
      go_wp2
      go_ret
      exact ⟨rfl, hb⟩

end Go.Proofs.YtkhkpjnpjgnckaaGreatDoor

/- Environment files: a text as a template. The model's Plain. -/
set_option maxRecDepth 100000
namespace Go.Proofs.YtkhkpjnpjgnckaaGreatDoor
open Go.RowKit
set_option linter.unusedVariables false

theorem byte_isE {c d : UInt8} (h : c = d) : ((c.toNat : Int) == (d.toNat : Int)) = true := by rw [h]; simp
theorem byte_noE {c d : UInt8} (h : c ≠ d) : ((c.toNat : Int) == (d.toNat : Int)) = false := by
  rw [beq_eq_false_iff_ne]; intro e; exact h (UInt8.toNat_inj.1 (Int.ofNat_inj.1 e))
theorem byte_isE' {c d : UInt8} (h : c = d) : ((c.toNat : Int) != (d.toNat : Int)) = false := by rw [h]; simp
theorem byte_noE' {c d : UInt8} (h : c ≠ d) : ((c.toNat : Int) != (d.toNat : Int)) = true := by
  rw [bne_iff_ne]; intro e; exact h (UInt8.toNat_inj.1 (Int.ofNat_inj.1 e))
theorem own_blockE {w : World} {base e size n : Nat} {v : Value} {xs : List Value} (h : w.ownsRow base e size v n xs) : ∀ j, v.ownBlock = some j → base ≤ j := by
  intro j hj
  rcases h.2 with ⟨rfl, h0⟩ | ⟨g, cap, cur, rfl, hb, hg, hnc, hcm, hcs, htake⟩
  · cases hj
  · simp only [Value.ownBlock] at hj; cases hj; exact hb
theorem cell_one_newV (w : World) (v : Value) (t : Nat) : ∀ j u, [v][j]? = some u → (w.alloc (.cells #[v] t)).cell? ((⟨w.heap.size, 0, none⟩ : Addr).add j) = some u := by
  intro j u hu
  cases j with
  | zero =>
    have ha : (⟨w.heap.size, 0, none⟩ : Addr).add 0 = ⟨w.heap.size, 0, none⟩ := by unfold Addr.add; split <;> simp_all
    rw [ha, Lib.cell_of_heap (heap_alloc_new _ _)]
    simpa using hu
  | succ j => simp at hu
theorem cell_two_newV (w : World) (x y : Value) (t : TypeId) : ∀ j u, [x, y][j]? = some u → (w.alloc (.cells #[x, y] t)).cell? ((⟨w.heap.size, 0, none⟩ : Addr).add j) = some u := by
  intro j u hu
  have ha : ∀ j, (⟨w.heap.size, 0, none⟩ : Addr).add j = ⟨w.heap.size, j, none⟩ := by intro j; unfold Addr.add; split <;> simp_all
  rw [ha, Lib.cell_of_heap (heap_alloc_new _ _)]
  match j, hu with
  | 0, hu => simpa using hu
  | 1, hu => simpa using hu
  | j + 2, hu => simp at hu
theorem own_stepV {B B0 : Nat} {w wr w1 : World} {t : Nat} {v v' : Value} {l m : List UInt8} {n : Nat} {cs : List Value} {o : Obj} (hb : Below B0 w wr) (hBw : B0 ≤ B) (hB0 : B0 ≤ wr.heap.size) (hown : wr.ownsRow B t 1 v l.length (Lib.byteCells l))
    (hown' : w1.ownsRow B t 1 v' (l.length + n) (Lib.byteCells l ++ cs)) (hg : (wr.alloc o).grownBy w1 v.ownBlock) (hn : m.length = n := by rfl) (hm : Lib.byteCells m = cs := by rfl) :
    w1.ownsRow B t 1 v' (l ++ m).length (Lib.byteCells (l ++ m)) ∧ Below B0 w w1 := by
  subst hn
  subst hm
  refine ⟨by simpa [Lib.byteCells] using hown', ?_⟩
  exact (hb.alloc hB0 o).grown hg (by simp; omega) (fun j hj => Nat.le_trans hBw (own_blockE hown j hj))
theorem info_byteV : (Tryz.prog.info? 5).map (fun i => (i.zero, i.size, i.bytes)) = some (some (.int .u8 0), 1, 1) := by kernel_rfl
theorem text_of_ownV (w : World) (base n : Nat) (v : Value) (l : List UInt8) (h : w.ownsRow base 5 1 v n (Lib.byteCells l)) (hn : n = l.length) :
    (convert 22 9 v).run Tryz.prog w = .ok (.string ⟨l.toArray⟩) w := by
  subst hn
  rcases h.2 with ⟨hv, h0⟩ | ⟨g, cap, cur, hv, hb, hg, hnc, hcm, hcs, htake⟩
  · have hl : l = [] := List.eq_nil_of_length_eq_zero h0
    subst hl
    subst hv
    rw [run_convert_bytes_string w 22 9 5 none 0 0 Tryz.underlying22 Tryz.underlying5 Tryz.underlying9]
    rfl
  · subst hv
    refine run_convert_bytes_back w 22 9 5 ⟨g, 0, none⟩ cap l Tryz.underlying22 Tryz.underlying5 Tryz.underlying9 (fun j hj => ?_)
    refine World.ownsRow.cells h (g := g) rfl j _ ?_
    simp [Lib.byteCells, hj]

/-- a byte in a template -/
def plainC (c : UInt8) : List UInt8 := if c = 36 then [c, 36] else [c]
def plainL (l : List UInt8) : List UInt8 := l.flatMap plainC
def plainT (s : ByteArray) : ByteArray := ⟨(plainL s.data.toList).toArray⟩
theorem plainC_len (c : UInt8) : (plainC c).length ≤ 2 := by
  unfold plainC
  split <;> simp
theorem plainL_len (l : List UInt8) : (plainL l).length ≤ 2 * l.length := by
  induction l with
  | nil => simp [plainL]
  | cons c l ih =>
    have := plainC_len c
    simp only [plainL, List.flatMap_cons, List.length_append, List.length_cons] at ih ⊢
    omega
theorem plainT_size (s : ByteArray) : (plainT s).size ≤ 2 * s.size := by
  have := plainL_len s.data.toList
  rw [← Lib.size_eq] at this
  rw [Lib.size_eq]
  simpa [plainT] using this
theorem plainL_succ (s : ByteArray) (k : Nat) (h : k < s.size) : plainL (s.data.toList.take (k + 1)) = plainL (s.data.toList.take k) ++ plainC s[k] := by
  rw [Pl.take_snoc s k h]
  simp [plainL]
set_option maxHeartbeats 1600000 in
theorem plain_spec (s : ByteArray) (w : World) (hs : s.size ≤ 100000000) :
    Calls Tryz.prog 40 #[.string s] w fun e w' => e = .returned (.string (plainT s)) ∧ Below w.heap.size w w' := by
  obtain ⟨i0, hi, hz0, hz1, hz2⟩ := info_parts info_byteV
  have HSL := Lib.hid (Lib.size_eq s)
  have HR : Hid (plainT s = ⟨(plainL s.data.toList).toArray⟩) := rfl
  generalize plainT s = r at *
  go_enter Tryz.func40, Tryz.ntmps40
  go_wp2
  go_loopw [3, 4] (fun v i wr => ∃ (k : Nat) (l : List UInt8), k ≤ s.size ∧ i = .int .i64 k ∧ l.length ≤ 2 * k ∧ Hid (l = plainL (s.data.toList.take k)) ∧ wr.ownsRow w.heap.size 5 1 v l.length (Lib.byteCells l) ∧ Below w.heap.size w wr) (fun _ i _ => s.size - (intOf i).toNat)
  case atStart => exact ⟨0, [], Nat.zero_le _, rfl, Nat.le_refl _, rfl, World.ownsRow_lit w #[] 0 (Nat.le_refl _) (Nat.zero_le _) rfl, (Below.refl _ _).alloc (Nat.le_refl _) _⟩
  case round =>
    obtain ⟨k, l, hk, rfl, hl, hat, hown, hb⟩ := hrel
    have hwr := hb.size
    by_cases hlt : k < s.size
    · have hki : (k : Int) < (s.size : Int) := by omega
      have HA : Hid (∀ m, plainC s[k] = m → l ++ m = plainL (s.data.toList.take (k + 1))) := fun m h => by rw [plainL_succ s k hlt, ← h, ← hat.out]
      by_cases q : s[k] = 36
      · have e1 : ((s[k].toNat : Int) == 36) = true := byte_isE (d := 36) q
        have hat2 := Lib.hid (HA.out [s[k], 36] (by unfold plainC; rw [if_pos q]))
        clear HA q hat
        go_wp2_with (first
          | (at_builtin; refine wpList_append_own _ rfl _ _ 22 rfl w.heap.size 5 i0 (.int .u8 0) 1 1 Tryz.underlying22 hi hz0 hz1 hz2 rfl (by decide) _ _ _ rfl (hown.alloc _) ⟨wr.heap.size, 0, none⟩ 1 1 [.int .u8 (s[k].toNat : Int)] rfl rfl (cell_one_newV _ _ _) (by simp [Value.oneCell']) (by unfold maxLen; omega) (by omega) (by simp; omega) ?_; intro v1 w1 hown' hgrow _; obtain ⟨ho2, hb2⟩ := own_stepV (m := [s[k]]) hb (Nat.le_refl _) hwr hown hown' hgrow; have hw2 : w.heap.size ≤ w1.heap.size := hb2.size; clear hown' hgrow hown hb; have hl1 : (l ++ [s[k]]).length ≤ 2 * k + 1 := (by simp; omega); have hl2 : Hid (l ++ [s[k], 36] = (l ++ [s[k]]) ++ [36]) := (by unfold Hid; simp); generalize l ++ [s[k]] = l1 at *)
          | (at_builtin; refine wpList_append_own _ rfl _ _ 22 rfl w.heap.size 5 i0 (.int .u8 0) 1 1 Tryz.underlying22 hi hz0 hz1 hz2 rfl (by decide) _ _ _ rfl (ho2.alloc _) ⟨w1.heap.size, 0, none⟩ 1 1 [.int .u8 36] rfl rfl (cell_one_newV _ _ _) (by simp [Value.oneCell']) (by unfold maxLen; omega) (by omega) (by simp; omega) ?_; intro v2 w2 hown' hgrow _; obtain ⟨ho3, hb3⟩ := own_stepV (m := [36]) hb2 (Nat.le_refl _) hw2 ho2 hown' hgrow; clear hown' hgrow ho2 hb2))
        go_wp2
        go_roundw
        case rel => exact ⟨k + 1, l1 ++ [36], by omega, by go_num, by simp; omega, by rw [← hl2.out]; exact hat2, ho3, hb3⟩
        case measure => simp [intOf]; omega
      · have e1 : ((s[k].toNat : Int) == 36) = false := byte_noE (d := 36) q
        have hat2 := Lib.hid (HA.out [s[k]] (by unfold plainC; rw [if_neg q]))
        clear HA q hat
        go_wp2_with (at_builtin; refine wpList_append_own _ rfl _ _ 22 rfl w.heap.size 5 i0 (.int .u8 0) 1 1 Tryz.underlying22 hi hz0 hz1 hz2 rfl (by decide) _ _ _ rfl (hown.alloc _) ⟨wr.heap.size, 0, none⟩ 1 1 [.int .u8 (s[k].toNat : Int)] rfl rfl (cell_one_newV _ _ _) (by simp [Value.oneCell']) (by unfold maxLen; omega) (by omega) (by simp; omega) ?_; intro v1 w1 hown' hgrow _)
        obtain ⟨ho2, hb2⟩ := own_stepV (m := [s[k]]) hb (Nat.le_refl _) hwr hown hown' hgrow
        clear hown' hgrow hown hb
        go_wp2
        go_roundw
        case rel => exact ⟨k + 1, l ++ [s[k]], by omega, by go_num, by simp; omega, hat2, ho2, hb2⟩
        case measure => simp [intOf]; omega
    · obtain rfl : k = s.size := by omega
      have hcv := text_of_ownV wr _ _ _ l hown rfl
      have HF : Hid (r = ⟨l.toArray⟩) := by unfold Hid; rw [HR.out, hat.out, HSL.out, List.take_length]
      clear hat hown HR
      go_wp2
      go_ret
      exact ⟨by rw [HF.out]; rfl, hb⟩

end Go.Proofs.YtkhkpjnpjgnckaaGreatDoor

/- Environment files: values without quotes, where a quote closes, what may stand behind it. The model's l08Behind, l08Bare, l08Close. -/
set_option maxRecDepth 100000
namespace Go.Proofs.YtkhkpjnpjgnckaaGreatDoor
open Go.RowKit Go.Sort
set_option linter.unusedVariables false

/-- a text trimmed -/
def trimE (s : ByteArray) : ByteArray := ⟨(trimL s.data.toList).toArray⟩
theorem trimS_lenE (l m : List UInt8) : (Lib.trimS l m).length ≤ l.length := by
  unfold Lib.trimS Lib.trimRightS Lib.trimLeftS
  refine Nat.le_trans (List.dropWhile_sublist _).length_le ?_
  simp only [List.length_reverse]
  have := (List.dropWhile_sublist (fun x => m.contains x) (l := l.reverse)).length_le
  rw [List.length_reverse] at this
  exact this
theorem trimE_size (s : ByteArray) : (trimE s).size ≤ s.size := by
  unfold trimE trimL
  rw [Lib.size_eq, Lib.size_eq]
  simpa using trimS_lenE s.data.toList [32, 9]
theorem trimE_spec (s : ByteArray) (w : World) (hs : s.size ≤ 100000000) :
    Calls Tryz.prog 88 #[.string s] w fun e w' => e = .returned (.string (trimE s)) ∧ w = w' :=
  trim_spec s w (by unfold maxLen; omega)
/-- what may stand behind a quote that closes -/
def behindE (s : ByteArray) : Bool := if h : 0 < (trimE s).size then (if h2 : 0 < s.size then blankB s[0] else false) && (trimE s)[0] == 35 else true
set_option maxHeartbeats 1600000 in
theorem behindE_spec (s : ByteArray) (w : World) (hs : s.size ≤ 100000000) :
    Calls Tryz.prog 125 #[.string s] w fun e w' => e = .returned (.bool (behindE s)) ∧ w = w' := by
  have K0 := Lib.hid (fun w => trimE_spec s w hs)
  have hts := trimE_size s
  have hv : behindE s = (if h : 0 < (trimE s).size then (if h2 : 0 < s.size then blankB s[0] else false) && (trimE s)[0] == 35 else true) := rfl
  generalize behindE s = r at *
  generalize trimE s = t at *
  by_cases ht : 0 < t.size
  · have hss : 0 < s.size := by omega
    have hsz : (0 : Int) < (s.size : Int) := by omega
    have htz : (0 : Int) < (t.size : Int) := by omega
    rw [dif_pos ht, dif_pos hss] at hv
    obtain ⟨e1, e2⟩ := text_someE t ht
    have KB := Lib.hid (fun w => blank_any s[0] w)
    generalize blankB s[0] = b at *
    cases b
    · have HV : Hid (r = false) := hv
      clear hv
      go_enter Tryz.func125, Tryz.ntmps125
      go_wp2_with fail
      refine (K0.out _).mono ?_
      rintro e w1 ⟨rfl, rfl⟩
      go_wp2_with fail
      refine (KB.out _).mono ?_
      rintro e w1 ⟨rfl, rfl⟩
      go_wp2
      go_ret
      exact ⟨by rw [HV.out]; rfl, rfl⟩
    · by_cases h35 : t[0] = 35
      · have q35 : ((t[0].toNat : Int) == 35) = true := byte_isE (d := 35) h35
        have HV : Hid (r = true) := by unfold Hid; rw [hv, h35]; rfl
        clear hv h35
        go_enter Tryz.func125, Tryz.ntmps125
        go_wp2_with fail
        refine (K0.out _).mono ?_
        rintro e w1 ⟨rfl, rfl⟩
        go_wp2_with fail
        refine (KB.out _).mono ?_
        rintro e w1 ⟨rfl, rfl⟩
        go_wp2
        go_ret
        exact ⟨by rw [HV.out]; rfl, rfl⟩
      · have q35 : ((t[0].toNat : Int) == 35) = false := byte_noE (d := 35) h35
        have HV : Hid (r = false) := by unfold Hid; rw [hv]; simp [h35]
        clear hv h35
        go_enter Tryz.func125, Tryz.ntmps125
        go_wp2_with fail
        refine (K0.out _).mono ?_
        rintro e w1 ⟨rfl, rfl⟩
        go_wp2_with fail
        refine (KB.out _).mono ?_
        rintro e w1 ⟨rfl, rfl⟩
        go_wp2
        go_ret
        exact ⟨by rw [HV.out]; rfl, rfl⟩
  · rw [dif_neg ht] at hv
    obtain ⟨e1, e2⟩ := text_noneE t (by omega)
    have HV := Lib.hid hv
    clear hv
    go_enter Tryz.func125, Tryz.ntmps125
    go_wp2_with fail
    refine (K0.out _).mono ?_
    rintro e w1 ⟨rfl, rfl⟩
    go_wp2
    go_ret
    exact ⟨by rw [HV.out]; rfl, rfl⟩

theorem findIdx_rangeE (p : Nat → Bool) (n i : Nat) (hi : i ≤ n) (h1 : ∀ j, j < i → p j = false) (h2 : i < n → p i = true) : (List.range n).findIdx p = i := by
  by_cases h : i < n
  · have hl : i < (List.range n).length := by simpa using h
    rw [List.findIdx_eq hl]
    refine ⟨by simpa using h2 h, fun j hj => by simpa using h1 j hj⟩
  · obtain rfl : i = n := by omega
    have : (List.range i).findIdx p = (List.range i).length := by
      rw [List.findIdx_eq_length]
      intro x hx
      exact h1 x (by simpa using hx)
    simpa using this
theorem extract_allE (s : ByteArray) : s.extract 0 s.size = s := by
  apply ByteArray.ext
  rw [ByteArray.data_extract]
  show s.data.extract 0 s.data.size = s.data
  simp
/-- a note begins at place i -/
def noteE (s : ByteArray) (i : Nat) : Bool := if h : i < s.size then s[i] == 35 && (i == 0 || blankB (s[i - 1]'(by omega))) else false
/-- where a value without quotes ends -/
def cutE (s : ByteArray) : Nat := (List.range s.size).findIdx (noteE s)
/-- a value without quotes; whether it is one -/
def bareE (s : ByteArray) : ByteArray × Bool := (trimE (s.extract 0 (cutE s)), !hasB (trimE (s.extract 0 (cutE s))) 39 && !hasB (trimE (s.extract 0 (cutE s))) 34)
theorem bareE_size (s : ByteArray) : (bareE s).1.size ≤ s.size := by
  refine Nat.le_trans (trimE_size _) ?_
  rw [ByteArray.size_extract]
  omega
set_option maxHeartbeats 400000 in
theorem bareE_spec (s : ByteArray) (w : World) (hs : s.size ≤ 100000000) :
    Calls Tryz.prog 93 #[.string s] w fun e w' => e = .returned (.tuple #[.string (bareE s).1, .bool (bareE s).2]) ∧ w = w' := by
  have HB : Hid (∀ i, i ≤ s.size → (∀ j, j < i → noteE s j = false) → (i < s.size → noteE s i = true) → ∀ t, trimE (s.extract 0 i) = t → bareE s = (t, !hasB t 39 && !hasB t 34)) := by
    intro i hi h1 h2 t ht
    unfold bareE cutE
    rw [findIdx_rangeE _ _ i hi h1 h2, ht]
  have HNA : Hid (∀ i (h : i < s.size), noteE s i = (s[i] == 35 && (i == 0 || blankB (s[i - 1]'(by omega))))) := by
    intro i h
    unfold noteE
    rw [dif_pos h]
  generalize hNN : noteE s = note at *
  clear hNN
  generalize bareE s = r at *
  go_enter Tryz.func93, Tryz.ntmps93
  go_wp2
  go_loopw [0, 4] (fun sv i wr => ∃ k : Nat, k ≤ s.size ∧ sv = .string s ∧ i = .int .i64 k ∧ Hid (∀ j, j < k → note j = false) ∧ w = wr) (fun _ i _ => s.size - (intOf i).toNat)
  case atStart => exact ⟨0, Nat.zero_le _, rfl, rfl, fun j hj => absurd hj (Nat.not_lt_zero j), rfl⟩
  case round =>
    obtain ⟨k, hk, rfl, rfl, hno, rfl⟩ := hrel
    by_cases hlt : k < s.size
    · have hki : (k : Int) < (s.size : Int) := by omega
      have hn := HNA.out k hlt
      by_cases h35 : s[k] = 35
      · have q35 : ((s[k].toNat : Int) == 35) = true := byte_isE (d := 35) h35
        have b35 : (s[k] == 35) = true := by simp [h35]
        rw [b35] at hn
        clear b35 h35
        have hcut : (k : Int) ≤ (s.size : Int) := by omega
        by_cases hk0 : k = 0
        · have hk1 : ((k : Int) == 0) = true := by rw [beq_iff_eq]; omega
          have bk0 : (k == 0) = true := by rw [beq_iff_eq]; exact hk0
          rw [bk0] at hn
          have HF0 := HB.out k (by omega) hno.out (fun _ => by rw [hn]; rfl) _ rfl
          have hxz : (trimE (s.extract 0 k)).size ≤ 100000000 := Nat.le_trans (trimE_size _) (by rw [ByteArray.size_extract]; omega)
          have KT := Lib.hid (fun w => trimE_spec (s.extract 0 k) w (by rw [ByteArray.size_extract]; omega))
          clear hno hn HB HNA hk0 bk0
          generalize trimE (s.extract 0 k) = t at *
          have KH1 := Lib.hid (fun w => has_any t 39 w (by unfold maxLen; omega))
          have KH2 := Lib.hid (fun w => has_any t 34 w (by unfold maxLen; omega))
          have HF := Lib.hid HF0
          clear HF0
          generalize hasB t 39 = b1 at *
          generalize hasB t 34 = b2 at *
          go_wp2_with fail
          refine (KT.out _).mono ?_
          rintro e w1 ⟨rfl, rfl⟩
          cases b1
          · go_wp2_with fail
            refine (KH1.out _).mono ?_
            rintro e w1 ⟨rfl, rfl⟩
            cases b2
            · go_wp2_with fail
              refine (KH2.out _).mono ?_
              rintro e w1 ⟨rfl, rfl⟩
              go_wp2
              go_ret2
              exact ⟨by rw [HF.out]; rfl, rfl⟩
            · go_wp2_with fail
              refine (KH2.out _).mono ?_
              rintro e w1 ⟨rfl, rfl⟩
              go_wp2
              go_ret2
              exact ⟨by rw [HF.out]; rfl, rfl⟩
          · go_wp2_with fail
            refine (KH1.out _).mono ?_
            rintro e w1 ⟨rfl, rfl⟩
            go_wp2
            go_ret2
            exact ⟨by rw [HF.out]; rfl, rfl⟩
        · have hk1 : ((k : Int) == 0) = false := by rw [beq_eq_false_iff_ne]; omega
          have bk0 : (k == 0) = false := by rw [beq_eq_false_iff_ne]; exact hk0
          have hj : k - 1 < s.size := by omega
          have e1 : (k : Int) - 1 = ((k - 1 : Nat) : Int) := by omega
          have hjw : IntKind.i64.wrap ((k : Int) - 1) = ((k - 1 : Nat) : Int) := by rw [e1]; exact IntWalk.i64_in _ (by omega)
          have KB := Lib.hid (fun w => blank_any (s[k - 1]'hj) w)
          rw [bk0] at hn
          generalize blankB (s[k - 1]'hj) = b at *
          cases b
          · have hno2 : Hid (∀ j, j < k + 1 → note j = false) := by
              intro j hj2
              by_cases e : j = k
              · subst e; rw [hn]; rfl
              · exact hno.out j (by omega)
            clear hno hn
            go_wp2_with fail
            refine (KB.out _).mono ?_
            rintro e w1 ⟨rfl, rfl⟩
            go_wp2
            go_roundw
            case rel => exact ⟨k + 1, by omega, rfl, by go_num, hno2, trivial⟩
            case measure => simp [intOf]; omega
          · have HF0 := HB.out k (by omega) hno.out (fun _ => by rw [hn]; rfl) _ rfl
            have hxz : (trimE (s.extract 0 k)).size ≤ 100000000 := Nat.le_trans (trimE_size _) (by rw [ByteArray.size_extract]; omega)
            have KT := Lib.hid (fun w => trimE_spec (s.extract 0 k) w (by rw [ByteArray.size_extract]; omega))
            clear hno hn HB HNA
            generalize trimE (s.extract 0 k) = t at *
            have KH1 := Lib.hid (fun w => has_any t 39 w (by unfold maxLen; omega))
            have KH2 := Lib.hid (fun w => has_any t 34 w (by unfold maxLen; omega))
            have HF := Lib.hid HF0
            clear HF0
            generalize hasB t 39 = b1 at *
            generalize hasB t 34 = b2 at *
            go_wp2_with fail
            refine (KB.out _).mono ?_
            rintro e w1 ⟨rfl, rfl⟩
            go_wp2_with fail
            refine (KT.out _).mono ?_
            rintro e w1 ⟨rfl, rfl⟩
            cases b1
            · go_wp2_with fail
              refine (KH1.out _).mono ?_
              rintro e w1 ⟨rfl, rfl⟩
              cases b2
              · go_wp2_with fail
                refine (KH2.out _).mono ?_
                rintro e w1 ⟨rfl, rfl⟩
                go_wp2
                go_ret2
                exact ⟨by rw [HF.out]; rfl, rfl⟩
              · go_wp2_with fail
                refine (KH2.out _).mono ?_
                rintro e w1 ⟨rfl, rfl⟩
                go_wp2
                go_ret2
                exact ⟨by rw [HF.out]; rfl, rfl⟩
            · go_wp2_with fail
              refine (KH1.out _).mono ?_
              rintro e w1 ⟨rfl, rfl⟩
              go_wp2
              go_ret2
              exact ⟨by rw [HF.out]; rfl, rfl⟩
      · have q35 : ((s[k].toNat : Int) == 35) = false := byte_noE (d := 35) h35
        have b35 : (s[k] == 35) = false := by simp [h35]
        rw [b35] at hn
        have hno2 : Hid (∀ j, j < k + 1 → note j = false) := by
          intro j hj2
          by_cases e : j = k
          · subst e; rw [hn]; rfl
          · exact hno.out j (by omega)
        clear b35 h35 hno hn
        go_wp2
        go_roundw
        case rel => exact ⟨k + 1, by omega, rfl, by go_num, hno2, trivial⟩
        case measure => simp [intOf]; omega
    · obtain rfl : k = s.size := by omega
      have hki : ¬ (s.size : Int) < (s.size : Int) := by omega
      have HF0 := HB.out s.size (Nat.le_refl _) hno.out (fun h => absurd h (Nat.lt_irrefl _)) _ rfl
      rw [extract_allE] at HF0
      have hxz : (trimE s).size ≤ 100000000 := Nat.le_trans (trimE_size _) hs
      have KT := Lib.hid (fun w => trimE_spec s w hs)
      clear hno HB HNA
      generalize trimE s = t at *
      have KH1 := Lib.hid (fun w => has_any t 39 w (by unfold maxLen; omega))
      have KH2 := Lib.hid (fun w => has_any t 34 w (by unfold maxLen; omega))
      have HF := Lib.hid HF0
      clear HF0
      generalize hasB t 39 = b1 at *
      generalize hasB t 34 = b2 at *
      go_wp2_with fail
      refine (KT.out _).mono ?_
      rintro e w1 ⟨rfl, rfl⟩
      cases b1
      · go_wp2_with fail
        refine (KH1.out _).mono ?_
        rintro e w1 ⟨rfl, rfl⟩
        cases b2
        · go_wp2_with fail
          refine (KH2.out _).mono ?_
          rintro e w1 ⟨rfl, rfl⟩
          go_wp2
          go_ret2
          exact ⟨by rw [HF.out]; rfl, rfl⟩
        · go_wp2_with fail
          refine (KH2.out _).mono ?_
          rintro e w1 ⟨rfl, rfl⟩
          go_wp2
          go_ret2
          exact ⟨by rw [HF.out]; rfl, rfl⟩
      · go_wp2_with fail
        refine (KH1.out _).mono ?_
        rintro e w1 ⟨rfl, rfl⟩
        go_wp2
        go_ret2
        exact ⟨by rw [HF.out]; rfl, rfl⟩

/-- a quote that closes, at place i -/
def closE (s : ByteArray) (i : Nat) : Bool := if h : 1 ≤ i ∧ i < s.size then (s[i]'h.2) == (s[0]'(by omega)) && ((s[0]'(by omega)) == 39 || tailN (s.extract 1 i) % 2 == 0) else false
def closN (s : ByteArray) : Nat := (List.range s.size).findIdx (closE s)
/-- where a quote closes -/
def closeE (s : ByteArray) : Int := if closN s < s.size then (closN s : Int) else -1
set_option maxHeartbeats 400000 in
theorem closeE_spec (s : ByteArray) (w : World) (hs : s.size ≤ 100000000) :
    Calls Tryz.prog 124 #[.string s] w fun e w' => e = .returned (.int .i64 (closeE s)) ∧ Below w.heap.size w w' := by
  have HY : Hid (∀ i, i < s.size → (∀ j, j < i → closE s j = false) → closE s i = true → closeE s = (i : Int)) := by
    intro i hi h1 h2
    unfold closeE closN
    rw [findIdx_rangeE _ _ i (by omega) h1 (fun _ => h2), if_pos hi]
  have HZ : Hid ((∀ j, j < s.size → closE s j = false) → closeE s = -1) := by
    intro h1
    unfold closeE closN
    rw [findIdx_rangeE _ _ s.size (Nat.le_refl _) h1 (fun h => absurd h (Nat.lt_irrefl _)), if_neg (Nat.lt_irrefl _)]
  have HC : Hid (∀ i (h1 : 1 ≤ i) (h : i < s.size), closE s i = ((s[i] == (s[0]'(by omega))) && ((s[0]'(by omega)) == 39 || tailN (s.extract 1 i) % 2 == 0))) := by
    intro i h1 h
    unfold closE
    rw [dif_pos ⟨h1, h⟩]
  have HC0 : Hid (closE s 0 = false) := by unfold Hid closE; rw [dif_neg (fun h => by omega)]
  have KT := Lib.hid (fun (i : Nat) (w : World) => tail_spec (s.extract 1 i) w (by rw [ByteArray.size_extract]; unfold maxLen; omega))
  have HTN : Hid (∀ i, tailN (s.extract 1 i) ≤ 100000000) := by
    intro i
    refine Nat.le_trans (tailN_le _) ?_
    rw [ByteArray.size_extract]
    omega
  generalize hCL : closE s = cl at *
  clear hCL
  generalize closeE s = r at *
  go_enter Tryz.func124, Tryz.ntmps124
  go_wp2
  go_loopw [3] (fun i wr => ∃ k : Nat, 1 ≤ k ∧ (k ≤ s.size ∨ k = 1) ∧ i = .int .i64 k ∧ Hid (∀ j, j < k → cl j = false) ∧ Below w.heap.size w wr) (fun i _ => s.size - (intOf i).toNat)
  case atStart => exact ⟨1, Nat.le_refl _, .inr rfl, rfl, fun j hj => (show j = 0 by omega) ▸ HC0.out, Below.refl _ _⟩
  case round =>
    obtain ⟨k, hk1, hks, rfl, hno, hb⟩ := hrel
    by_cases hlt : k < s.size
    · have h0s : 0 < s.size := by omega
      have h0z : (0 : Int) < (s.size : Int) := by omega
      have hkz : (k : Int) < (s.size : Int) := by omega
      have q1 : (1 : Int) ≤ (k : Int) := by omega
      have q2 : (k : Int) ≤ (s.size : Int) := by omega
      have hck := HC.out k hk1 hlt
      have htn := HTN.out k
      have KT2 : Hid (∀ q os, Calls Tryz.prog 151 #[.string (s.extract 1 k)] (grow (redrawn wr q) os) fun e w' => e = .returned (.int .i64 (tailN (s.extract 1 k) : Int)) ∧ ∃ p : Regrown, w' = grow (redrawn wr p.d) p.os) := by
        intro q os
        refine Calls.regrown_of ((KT.out k _).mono ?_)
        rintro e w' ⟨rfl, rfl⟩
        exact ⟨rfl, Below.refl _ _⟩
      clear KT HTN HC HC0
      generalize tailN (s.extract 1 k) = tn at *
      by_cases hsame : s[k] = s[0]
      · have qs : ((s[k].toNat : Int) == (s[0].toNat : Int)) = true := byte_isE hsame
        have bs : (s[k] == s[0]) = true := by simp [hsame]
        rw [bs] at hck
        clear bs hsame
        by_cases h39 : s[0] = 39
        · have q39 : ((s[0].toNat : Int) == 39) = true := byte_isE (d := 39) h39
          have b39 : (s[0] == 39) = true := by simp [h39]
          rw [b39] at hck
          clear b39 h39
          have HF : Hid (r = (k : Int)) := HY.out k hlt hno.out hck
          clear hno hck HY HZ
          go_wp2_with fail
          refine wp_region_quiet_below (by kernel_rfl) (by kernel_rfl) ?_
          repeat (go_big_quiet_step (first | with_reducible exact KT2.out _ _))
          refine wpQuiet_nil ?_
          intro _ hw'
          obtain ⟨⟨dq, osq⟩, hw''⟩ := hw'
          subst hw''
          have hb2 := hb.trans ((below_regrown wr dq osq).mono hb.size)
          go_wp2
          go_ret
          exact ⟨by rw [HF.out]; rfl, hb2⟩
        · have q39 : ((s[0].toNat : Int) == 39) = false := byte_noE (d := 39) h39
          have b39 : (s[0] == 39) = false := by simp [h39]
          rw [b39] at hck
          clear b39 h39
          rcases (show tn % 2 = 0 ∨ tn % 2 = 1 by omega) with hp | hp
          · have hpz : (((tn : Int) % 2) == 0) = true := by rw [beq_iff_eq]; omega
            rw [hp] at hck
            have HF : Hid (r = (k : Int)) := HY.out k hlt hno.out hck
            clear hno hck HY HZ
            go_wp2_with fail
            refine wp_region_quiet_below (by kernel_rfl) (by kernel_rfl) ?_
            repeat (go_big_quiet_step (first | with_reducible exact KT2.out _ _))
            refine wpQuiet_nil ?_
            intro _ hw'
            obtain ⟨⟨dq, osq⟩, hw''⟩ := hw'
            subst hw''
            have hb2 := hb.trans ((below_regrown wr dq osq).mono hb.size)
            go_wp2
            go_ret
            exact ⟨by rw [HF.out]; rfl, hb2⟩
          · have hpz : (((tn : Int) % 2) == 0) = false := by rw [beq_eq_false_iff_ne]; omega
            rw [hp] at hck
            have hno2 : Hid (∀ j, j < k + 1 → cl j = false) := by
              intro j hj2
              by_cases e : j = k
              · subst e; exact hck
              · exact hno.out j (by omega)
            clear hno hck
            go_wp2_with fail
            refine wp_region_quiet_below (by kernel_rfl) (by kernel_rfl) ?_
            repeat (go_big_quiet_step (first | with_reducible exact KT2.out _ _))
            refine wpQuiet_nil ?_
            intro _ hw'
            obtain ⟨⟨dq, osq⟩, hw''⟩ := hw'
            subst hw''
            have hb2 := hb.trans ((below_regrown wr dq osq).mono hb.size)
            go_wp2
            go_roundw
            case rel => exact ⟨k + 1, by omega, by omega, by go_num, hno2, hb2⟩
            case measure => simp [intOf]; omega
      · have qs : ((s[k].toNat : Int) == (s[0].toNat : Int)) = false := byte_noE hsame
        have bs : (s[k] == s[0]) = false := by simp [hsame]
        rw [bs] at hck
        clear bs hsame
        have hno2 : Hid (∀ j, j < k + 1 → cl j = false) := by
          intro j hj2
          by_cases e : j = k
          · subst e; exact hck
          · exact hno.out j (by omega)
        clear hno hck
        go_wp2_with fail
        refine wp_region_quiet_below (by kernel_rfl) (by kernel_rfl) ?_
        repeat (go_big_quiet_step (first | with_reducible exact KT2.out _ _))
        refine wpQuiet_nil ?_
        intro _ hw'
        obtain ⟨⟨dq, osq⟩, hw''⟩ := hw'
        subst hw''
        have hb2 := hb.trans ((below_regrown wr dq osq).mono hb.size)
        go_wp2
        go_roundw
        case rel => exact ⟨k + 1, by omega, by omega, by go_num, hno2, hb2⟩
        case measure => simp [intOf]; omega
    · have HF : Hid (r = -1) := HZ.out (fun j hj => hno.out j (by omega))
      have hkz : ¬ (k : Int) < (s.size : Int) := by omega
      go_wp2
      go_ret
      exact ⟨by rw [HF.out]; rfl, hb⟩

end Go.Proofs.YtkhkpjnpjgnckaaGreatDoor

/- Environment files: what stands between double quotes, as a template. The model's l08Double. -/
set_option maxRecDepth 100000
namespace Go.Proofs.YtkhkpjnpjgnckaaGreatDoor
open Go.RowKit
set_option linter.unusedVariables false

/-- what a backslash and a byte are -/
def doubC (d : UInt8) : List UInt8 := if d = 110 then [10] else if d = 116 then [9] else if d = 114 then [13] else if d = 92 then [d] else if d = 34 then [d] else if d = 36 then [36, 36] else [92, d]
theorem doubC_len (d : UInt8) : (doubC d).length ≤ 2 := by
  unfold doubC
  repeat' split
  all_goals simp
/-- what stands between double quotes -/
def doubL : List UInt8 → List UInt8
  | [] => []
  | [c] => [c]
  | c :: d :: t => if c = 92 then doubC d ++ doubL t else c :: doubL (d :: t)
theorem doubL_byte (c : UInt8) (t : List UInt8) (h : c ≠ 92 ∨ t = []) : doubL (c :: t) = c :: doubL t := by
  cases t with
  | nil => simp [doubL]
  | cons d t =>
    have hc : c ≠ 92 := by
      rcases h with h | h
      · exact h
      · cases h
    conv => lhs; unfold doubL
    rw [if_neg hc]
theorem doubL_esc (d : UInt8) (t : List UInt8) : doubL (92 :: d :: t) = doubC d ++ doubL t := by
  conv => lhs; unfold doubL
  rw [if_pos rfl]
theorem doubL_len : ∀ (n : Nat) (l : List UInt8), l.length ≤ n → (doubL l).length ≤ l.length
  | 0, [], _ => Nat.le_refl _
  | n + 1, [], _ => Nat.le_refl _
  | n + 1, [c], _ => by simp [doubL]
  | n + 1, c :: d :: t, h => by
    simp only [List.length_cons] at h
    by_cases hc : c = 92
    · subst hc
      rw [doubL_esc, List.length_append]
      have h1 := doubC_len d
      have h2 := doubL_len n t (by omega)
      simp only [List.length_cons]
      omega
    · rw [doubL_byte c _ (.inl hc)]
      have h2 := doubL_len n (d :: t) (by simp only [List.length_cons]; omega)
      simp only [List.length_cons] at h2 ⊢
      omega
def doubT (s : ByteArray) : ByteArray := ⟨(doubL s.data.toList).toArray⟩
theorem doubT_size (s : ByteArray) : (doubT s).size ≤ s.size := by
  have := doubL_len _ s.data.toList (Nat.le_refl _)
  rw [← Lib.size_eq] at this
  rw [Lib.size_eq]
  simpa [doubT] using this
/-- how far it has come -/
def DoubAt (L : List UInt8) (k : Nat) (acc : List UInt8) : Prop := doubL L = acc ++ doubL (L.drop k)
theorem doubAt_zero (L : List UInt8) : DoubAt L 0 [] := by unfold DoubAt; simp
theorem doubAt_byte {L : List UInt8} {k : Nat} {acc : List UInt8} {c : UInt8} {t : List UInt8} (h : DoubAt L k acc) (hd : L.drop k = c :: t) (hc : c ≠ 92 ∨ t = []) : DoubAt L (k + 1) (acc ++ [c]) := by
  unfold DoubAt at *
  have ht : L.drop (k + 1) = t := by rw [← List.drop_drop, hd]; rfl
  rw [h, hd, doubL_byte c t hc, ht]
  simp
theorem doubAt_esc {L : List UInt8} {k : Nat} {acc : List UInt8} {d : UInt8} {t : List UInt8} (h : DoubAt L k acc) (hd : L.drop k = 92 :: d :: t) : DoubAt L (k + 2) (acc ++ doubC d) := by
  unfold DoubAt at *
  have ht : L.drop (k + 2) = t := by rw [← List.drop_drop, hd]; rfl
  rw [h, hd, doubL_esc d t, ht]
  simp
theorem drop_atE (s : ByteArray) (k : Nat) (h : k < s.size) : s.data.toList.drop k = s[k] :: s.data.toList.drop (k + 1) := by
  have hl : k < s.data.toList.length := by rw [← Lib.size_eq]; exact h
  rw [List.drop_eq_getElem_cons hl]
  rfl
theorem index_nextE (s : ByteArray) (i : Nat) (h : i + 1 < s.size) (W : World) : (Instr.index 9 (.string s) (.int .i64 ((i : Int) + 1))).run Tryz.prog W = .ok (.int .u8 (s[i + 1].toNat : Int)) W := by
  rw [run_index_string (h := Tryz.underlying9)]
  have e1 : ((i : Int) + 1).toNat = i + 1 := by omega
  rw [dif_pos ⟨by omega, by omega⟩]
  simp only [e1]

set_option maxHeartbeats 1600000 in
theorem doubE_spec (s : ByteArray) (w : World) (hs : s.size ≤ 100000000) :
    Calls Tryz.prog 126 #[.string s] w fun e w' => e = .returned (.string (doubT s)) ∧ Below w.heap.size w w' := by
  obtain ⟨i0, hi, hz0, hz1, hz2⟩ := info_parts info_byteV
  have HSL := Lib.hid (Lib.size_eq s)
  have HR : Hid (doubT s = ⟨(doubL s.data.toList).toArray⟩) := rfl
  generalize doubT s = r at *
  go_enter Tryz.func126, Tryz.ntmps126
  go_wp2
  go_loopw [3, 4] (fun v i wr => ∃ (k : Nat) (acc : List UInt8), k ≤ s.size ∧ i = .int .i64 k ∧ acc.length ≤ k ∧ Hid (DoubAt s.data.toList k acc) ∧ wr.ownsRow w.heap.size 5 1 v acc.length (Lib.byteCells acc) ∧ Below w.heap.size w wr) (fun _ i _ => s.size - (intOf i).toNat)
  case atStart => exact ⟨0, [], Nat.zero_le _, rfl, Nat.le_refl _, doubAt_zero _, World.ownsRow_lit w #[] 0 (Nat.le_refl _) (Nat.zero_le _) rfl, (Below.refl _ _).alloc (Nat.le_refl _) _⟩
  case round =>
    obtain ⟨k, acc, hk, rfl, hak, hat, hown, hb⟩ := hrel
    have hsw := hb.size
    by_cases hlt : k < s.size
    · have hki : (k : Int) < (s.size : Int) := by omega
      by_cases h92 : s[k] = 92
      · have b92 : ((s[k].toNat : Int) != 92) = false := byte_isE' (d := 92) h92
        by_cases hk1 : k + 1 < s.size
        · have hk1z : (k : Int) + 1 < (s.size : Int) := by omega
          have hk1e : ((k : Int) + 1 == (s.size : Int)) = false := by rw [beq_eq_false_iff_ne]; omega
          have hix := index_nextE s k hk1
          have HD : Hid (s.data.toList.drop k = 92 :: s[k + 1] :: s.data.toList.drop (k + 1 + 1)) := by
            unfold Hid
            rw [drop_atE s k hlt, drop_atE s (k + 1) hk1, h92]
          have HA : Hid (∀ m, doubC s[k + 1] = m → DoubAt s.data.toList (k + 2) (acc ++ m)) := fun m h1 => by rw [← h1]; exact doubAt_esc hat.out HD.out
          clear h92 HD hat
          by_cases q1 : s[k + 1] = 110
          · have e_q1 : ((s[k + 1].toNat : Int) == 110) = true := byte_isE (d := 110) q1
            have hat2 := Lib.hid (HA.out [10] (by unfold doubC; rw [if_pos q1]))
            clear HA q1
            go_wp2_with (at_builtin; refine wpList_append_own _ rfl _ _ 22 rfl w.heap.size 5 i0 (.int .u8 0) 1 1 Tryz.underlying22 hi hz0 hz1 hz2 rfl (by decide) _ _ _ rfl (hown.alloc _) ⟨wr.heap.size, 0, none⟩ 1 1 [.int .u8 10] rfl rfl (cell_one_newV _ _ _) (by simp [Value.oneCell']) (by unfold maxLen; omega) (by omega) (by simp; omega) ?_; intro v1 w1 hown' hgrow _)
            obtain ⟨ho2, hb2⟩ := own_stepV (m := [10]) hb (Nat.le_refl _) hsw hown hown' hgrow
            clear hown' hgrow hown hb
            go_wp2
            go_roundw
            case rel => exact ⟨k + 2, acc ++ [10], by omega, by go_num, by simp; omega, hat2, ho2, hb2⟩
            case measure => simp [intOf]; omega
          have e_q1 : ((s[k + 1].toNat : Int) == 110) = false := byte_noE (d := 110) q1
          by_cases q2 : s[k + 1] = 116
          · have e_q2 : ((s[k + 1].toNat : Int) == 116) = true := byte_isE (d := 116) q2
            have hat2 := Lib.hid (HA.out [9] (by unfold doubC; rw [if_neg q1, if_pos q2]))
            clear HA q1 q2
            go_wp2_with (at_builtin; refine wpList_append_own _ rfl _ _ 22 rfl w.heap.size 5 i0 (.int .u8 0) 1 1 Tryz.underlying22 hi hz0 hz1 hz2 rfl (by decide) _ _ _ rfl (hown.alloc _) ⟨wr.heap.size, 0, none⟩ 1 1 [.int .u8 9] rfl rfl (cell_one_newV _ _ _) (by simp [Value.oneCell']) (by unfold maxLen; omega) (by omega) (by simp; omega) ?_; intro v1 w1 hown' hgrow _)
            obtain ⟨ho2, hb2⟩ := own_stepV (m := [9]) hb (Nat.le_refl _) hsw hown hown' hgrow
            clear hown' hgrow hown hb
            go_wp2
            go_roundw
            case rel => exact ⟨k + 2, acc ++ [9], by omega, by go_num, by simp; omega, hat2, ho2, hb2⟩
            case measure => simp [intOf]; omega
          have e_q2 : ((s[k + 1].toNat : Int) == 116) = false := byte_noE (d := 116) q2
          by_cases q3 : s[k + 1] = 114
          · have e_q3 : ((s[k + 1].toNat : Int) == 114) = true := byte_isE (d := 114) q3
            have hat2 := Lib.hid (HA.out [13] (by unfold doubC; rw [if_neg q1, if_neg q2, if_pos q3]))
            clear HA q1 q2 q3
            go_wp2_with (at_builtin; refine wpList_append_own _ rfl _ _ 22 rfl w.heap.size 5 i0 (.int .u8 0) 1 1 Tryz.underlying22 hi hz0 hz1 hz2 rfl (by decide) _ _ _ rfl (hown.alloc _) ⟨wr.heap.size, 0, none⟩ 1 1 [.int .u8 13] rfl rfl (cell_one_newV _ _ _) (by simp [Value.oneCell']) (by unfold maxLen; omega) (by omega) (by simp; omega) ?_; intro v1 w1 hown' hgrow _)
            obtain ⟨ho2, hb2⟩ := own_stepV (m := [13]) hb (Nat.le_refl _) hsw hown hown' hgrow
            clear hown' hgrow hown hb
            go_wp2
            go_roundw
            case rel => exact ⟨k + 2, acc ++ [13], by omega, by go_num, by simp; omega, hat2, ho2, hb2⟩
            case measure => simp [intOf]; omega
          have e_q3 : ((s[k + 1].toNat : Int) == 114) = false := byte_noE (d := 114) q3
          by_cases q4 : s[k + 1] = 92
          · have e_q4 : ((s[k + 1].toNat : Int) == 92) = true := byte_isE (d := 92) q4
            have hat2 := Lib.hid (HA.out [s[k + 1]] (by unfold doubC; rw [if_neg q1, if_neg q2, if_neg q3, if_pos q4]))
            clear HA q1 q2 q3 q4
            go_wp2_with (at_builtin; refine wpList_append_own _ rfl _ _ 22 rfl w.heap.size 5 i0 (.int .u8 0) 1 1 Tryz.underlying22 hi hz0 hz1 hz2 rfl (by decide) _ _ _ rfl (hown.alloc _) ⟨wr.heap.size, 0, none⟩ 1 1 [.int .u8 (s[k + 1].toNat : Int)] rfl rfl (cell_one_newV _ _ _) (by simp [Value.oneCell']) (by unfold maxLen; omega) (by omega) (by simp; omega) ?_; intro v1 w1 hown' hgrow _)
            obtain ⟨ho2, hb2⟩ := own_stepV (m := [s[k + 1]]) hb (Nat.le_refl _) hsw hown hown' hgrow
            clear hown' hgrow hown hb
            go_wp2
            go_roundw
            case rel => exact ⟨k + 2, acc ++ [s[k + 1]], by omega, by go_num, by simp; omega, hat2, ho2, hb2⟩
            case measure => simp [intOf]; omega
          have e_q4 : ((s[k + 1].toNat : Int) == 92) = false := byte_noE (d := 92) q4
          by_cases q5 : s[k + 1] = 34
          · have e_q5 : ((s[k + 1].toNat : Int) == 34) = true := byte_isE (d := 34) q5
            have hat2 := Lib.hid (HA.out [s[k + 1]] (by unfold doubC; rw [if_neg q1, if_neg q2, if_neg q3, if_neg q4, if_pos q5]))
            clear HA q1 q2 q3 q4 q5
            go_wp2_with (at_builtin; refine wpList_append_own _ rfl _ _ 22 rfl w.heap.size 5 i0 (.int .u8 0) 1 1 Tryz.underlying22 hi hz0 hz1 hz2 rfl (by decide) _ _ _ rfl (hown.alloc _) ⟨wr.heap.size, 0, none⟩ 1 1 [.int .u8 (s[k + 1].toNat : Int)] rfl rfl (cell_one_newV _ _ _) (by simp [Value.oneCell']) (by unfold maxLen; omega) (by omega) (by simp; omega) ?_; intro v1 w1 hown' hgrow _)
            obtain ⟨ho2, hb2⟩ := own_stepV (m := [s[k + 1]]) hb (Nat.le_refl _) hsw hown hown' hgrow
            clear hown' hgrow hown hb
            go_wp2
            go_roundw
            case rel => exact ⟨k + 2, acc ++ [s[k + 1]], by omega, by go_num, by simp; omega, hat2, ho2, hb2⟩
            case measure => simp [intOf]; omega
          have e_q5 : ((s[k + 1].toNat : Int) == 34) = false := byte_noE (d := 34) q5
          by_cases q6 : s[k + 1] = 36
          · have e_q6 : ((s[k + 1].toNat : Int) == 36) = true := byte_isE (d := 36) q6
            have hat2 := Lib.hid (HA.out [36, 36] (by unfold doubC; rw [if_neg q1, if_neg q2, if_neg q3, if_neg q4, if_neg q5, if_pos q6]))
            clear HA q1 q2 q3 q4 q5 q6
            go_wp2_with (at_builtin; refine wpList_append_own _ rfl _ _ 22 rfl w.heap.size 5 i0 (.int .u8 0) 1 1 Tryz.underlying22 hi hz0 hz1 hz2 rfl (by decide) _ _ _ rfl (hown.alloc _) ⟨wr.heap.size, 0, none⟩ 2 2 [.int .u8 36, .int .u8 36] rfl rfl (cell_two_newV _ _ _ _) (by simp [Value.oneCell']) (by unfold maxLen; omega) (by omega) (by simp; omega) ?_; intro v1 w1 hown' hgrow _)
            obtain ⟨ho2, hb2⟩ := own_stepV (m := [36, 36]) hb (Nat.le_refl _) hsw hown hown' hgrow
            clear hown' hgrow hown hb
            go_wp2
            go_roundw
            case rel => exact ⟨k + 2, acc ++ [36, 36], by omega, by go_num, by simp; omega, hat2, ho2, hb2⟩
            case measure => simp [intOf]; omega
          have e_q6 : ((s[k + 1].toNat : Int) == 36) = false := byte_noE (d := 36) q6
          have hat2 := Lib.hid (HA.out [92, s[k + 1]] (by unfold doubC; rw [if_neg q1, if_neg q2, if_neg q3, if_neg q4, if_neg q5, if_neg q6]))
          clear HA q1 q2 q3 q4 q5 q6
          go_wp2_with (at_builtin; refine wpList_append_own _ rfl _ _ 22 rfl w.heap.size 5 i0 (.int .u8 0) 1 1 Tryz.underlying22 hi hz0 hz1 hz2 rfl (by decide) _ _ _ rfl (hown.alloc _) ⟨wr.heap.size, 0, none⟩ 2 2 [.int .u8 92, .int .u8 (s[k + 1].toNat : Int)] rfl rfl (cell_two_newV _ _ _ _) (by simp [Value.oneCell']) (by unfold maxLen; omega) (by omega) (by simp; omega) ?_; intro v1 w1 hown' hgrow _)
          obtain ⟨ho2, hb2⟩ := own_stepV (m := [92, s[k + 1]]) hb (Nat.le_refl _) hsw hown hown' hgrow
          clear hown' hgrow hown hb
          go_wp2
          go_roundw
          case rel => exact ⟨k + 2, acc ++ [92, s[k + 1]], by omega, by go_num, by simp; omega, hat2, ho2, hb2⟩
          case measure => simp [intOf]; omega
        · have hk1e : ((k : Int) + 1 == (s.size : Int)) = true := by rw [beq_iff_eq]; omega
          have hat2 := Lib.hid (doubAt_byte hat.out (drop_atE s k hlt) (.inr (List.drop_of_length_le (by rw [← Lib.size_eq]; omega))))
          clear hat h92
          go_wp2_with (at_builtin; refine wpList_append_own _ rfl _ _ 22 rfl w.heap.size 5 i0 (.int .u8 0) 1 1 Tryz.underlying22 hi hz0 hz1 hz2 rfl (by decide) _ _ _ rfl (hown.alloc _) ⟨wr.heap.size, 0, none⟩ 1 1 [.int .u8 (s[k].toNat : Int)] rfl rfl (cell_one_newV _ _ _) (by simp [Value.oneCell']) (by unfold maxLen; omega) (by omega) (by simp; omega) ?_; intro v1 w1 hown' hgrow _)
          obtain ⟨ho2, hb2⟩ := own_stepV (m := [s[k]]) hb (Nat.le_refl _) hsw hown hown' hgrow
          clear hown' hgrow hown hb
          go_wp2
          go_roundw
          case rel => exact ⟨k + 1, acc ++ [s[k]], by omega, by go_num, by simp; omega, hat2, ho2, hb2⟩
          case measure => simp [intOf]; omega
      · have b92 : ((s[k].toNat : Int) != 92) = true := byte_noE' (d := 92) h92
        have hat2 := Lib.hid (doubAt_byte hat.out (drop_atE s k hlt) (.inl h92))
        clear hat h92
        go_wp2_with (at_builtin; refine wpList_append_own _ rfl _ _ 22 rfl w.heap.size 5 i0 (.int .u8 0) 1 1 Tryz.underlying22 hi hz0 hz1 hz2 rfl (by decide) _ _ _ rfl (hown.alloc _) ⟨wr.heap.size, 0, none⟩ 1 1 [.int .u8 (s[k].toNat : Int)] rfl rfl (cell_one_newV _ _ _) (by simp [Value.oneCell']) (by unfold maxLen; omega) (by omega) (by simp; omega) ?_; intro v1 w1 hown' hgrow _)
        obtain ⟨ho2, hb2⟩ := own_stepV (m := [s[k]]) hb (Nat.le_refl _) hsw hown hown' hgrow
        clear hown' hgrow hown hb
        go_wp2
        go_roundw
        case rel => exact ⟨k + 1, acc ++ [s[k]], by omega, by go_num, by simp; omega, hat2, ho2, hb2⟩
        case measure => simp [intOf]; omega
    · obtain rfl : k = s.size := by omega
      have hcv := text_of_ownV wr _ _ _ acc hown rfl
      have HF : Hid (r = ⟨acc.toArray⟩) := by
        unfold Hid
        rw [HR.out, hat.out, List.drop_of_length_le (by rw [← HSL.out]; exact Nat.le_refl _)]
        simp [doubL]
      clear hat hown HR
      go_wp2
      go_ret
      exact ⟨by rw [HF.out]; rfl, hb⟩

end Go.Proofs.YtkhkpjnpjgnckaaGreatDoor

/- Environment files: a quoted value, over lines. The model's l08Quote. -/
set_option maxRecDepth 100000
namespace Go.Proofs.YtkhkpjnpjgnckaaGreatDoor
open Go.RowKit Go.Sort
set_option linter.unusedVariables false

theorem closN_pos (s : ByteArray) (h : closN s < s.size) : 1 ≤ closN s := by
  have hl : closN s < (List.range s.size).length := by simpa using h
  have h1 : closE s ((List.range s.size)[closN s]'hl) = true := List.findIdx_getElem (w := hl)
  rw [List.getElem_range] at h1
  unfold closE at h1
  split at h1
  · next h2 => exact h2.1
  · cases h1
theorem closeE_yes {s : ByteArray} (h : closN s < s.size) : closeE s = (closN s : Int) := by unfold closeE; rw [if_pos h]
theorem closeE_no {s : ByteArray} (h : ¬ closN s < s.size) : closeE s = -1 := by unfold closeE; rw [if_neg h]
/-- the text of a quoted value, over lines; how many; whether it closes -/
def quoteO (t e : ByteArray) : List Ln → Nat → ByteArray × Nat × Bool
  | [], n => (t, n, decide (closN t < t.size))
  | x :: l, n => if closN t < t.size then (t, n, true) else quoteO (t ++ e ++ x.1) x.2 l (n + 1)
theorem quoteO_stop {t e : ByteArray} (l : List Ln) (n : Nat) (h : closN t < t.size) : quoteO t e l n = (t, n, true) := by
  cases l with
  | nil => unfold quoteO; rw [decide_eq_true h]
  | cons x l => unfold quoteO; rw [if_pos h]
theorem quoteO_end {t e : ByteArray} (n : Nat) (h : ¬ closN t < t.size) : quoteO t e [] n = (t, n, false) := by unfold quoteO; rw [decide_eq_false h]
theorem quoteO_on {t e : ByteArray} (x : Ln) (l : List Ln) (n : Nat) (h : ¬ closN t < t.size) : quoteO t e (x :: l) n = quoteO (t ++ e ++ x.1) x.2 l (n + 1) := by
  conv => lhs; unfold quoteO
  rw [if_neg h]
/-- begins with an apostrophe -/
def aposB (t : ByteArray) : Bool := if h : 0 < t.size then t[0] == 39 else false
/-- what stands in it, as a template; how many lines it has, 0 where it is none -/
def quoteR (r : ByteArray × Nat × Bool) : ByteArray × Nat := if r.2.2 then (if behindE (r.1.extract (closN r.1 + 1) r.1.size) then (if aposB r.1 then plainT (r.1.extract 1 (closN r.1)) else doubT (r.1.extract 1 (closN r.1)), r.2.1) else (⟨#[]⟩, 0)) else (⟨#[]⟩, 0)
def quoteE (rest e : ByteArray) (l : List Ln) : ByteArray × Nat := quoteR (quoteO rest e l 1)

set_option maxHeartbeats 1600000 in
theorem quoteE_spec (w : World) (u : Value) (g o : Nat) (l : List Ln) (at_ : Nat) (rest : ByteArray) (hu : LinesRd w u g o l) (hl : costL l ≤ 10000000) (hat : at_ < l.length) (hrest : rest.size ≤ l[at_].1.size) :
    Calls Tryz.prog 92 #[u, .int .i64 (at_ : Int), .string rest] w fun e w' => e = .returned (.tuple #[.string (quoteE rest l[at_].2 (l.drop (at_ + 1))).1, .int .i64 ((quoteE rest l[at_].2 (l.drop (at_ + 1))).2 : Int)]) ∧ Below w.heap.size w w' := by
  obtain ⟨a, cap, rfl, ha⟩ := hu.form
  have hln : l ≠ [] := by intro e; subst e; simp at hat
  obtain rfl := ha hln
  have hgw := hu.lt hln
  have CU := Lib.hid hu
  have hcl := costL_at l at_ hat
  have hlz : (l.length : Int) < 100000001 := by omega
  have hct0 := costL_take_succ l at_ hat
  obtain ⟨J, hJ⟩ : ∃ J, quoteO rest l[at_].2 (l.drop (at_ + 1)) 1 = J := ⟨_, rfl⟩
  have HV : Hid (quoteE rest l[at_].2 (l.drop (at_ + 1)) = quoteR J) := by unfold Hid quoteE; rw [hJ]
  have HJ0 : Hid (J = quoteO rest l[at_].2 (l.drop (at_ + 1)) (at_ + 1 - at_)) := by unfold Hid; rw [← hJ]; congr 1; omega
  have hsz0 : rest.size + l[at_].2.size ≤ costL (l.take (at_ + 1)) := by omega
  clear hJ
  generalize quoteE rest l[at_].2 (l.drop (at_ + 1)) = r at *
  go_enter Tryz.func92, Tryz.ntmps92
  go_wp2
  go_loopw [8, 9] (fun tv nv wr => ∃ (p : Nat) (tx : ByteArray) (hp : p < l.length), at_ ≤ p ∧ tv = .string tx ∧ nv = .int .i64 ((p : Int) + 1 - (at_ : Int)) ∧ tx.size + l[p].2.size ≤ costL (l.take (p + 1)) ∧ Hid (J = quoteO tx l[p].2 (l.drop (p + 1)) (p + 1 - at_)) ∧ Below w.heap.size w wr) (fun _ nv _ => l.length - (intOf nv).toNat)
  case atStart => exact ⟨at_, rest, hat, Nat.le_refl _, rfl, by congr 1; omega, hsz0, HJ0, Below.refl _ _⟩
  case round =>
    obtain ⟨p, tx, hp, hap, rfl, rfl, hsz, hR, hb⟩ := hrel
    clear HJ0 hsz0 hct0
    have hct := costL_take l (p + 1) (by omega)
    have KC := Lib.hid (fun w => closeE_spec tx w (by omega))
    by_cases hc : closN tx < tx.size
    · have hc1 := closN_pos tx hc
      rw [closeE_yes hc] at KC
      have HF : Hid (r = quoteR (tx, p + 1 - at_, true)) := by unfold Hid; rw [HV.out, hR.out, quoteO_stop _ _ hc]
      have hcast : Hid (((p + 1 - at_ : Nat) : Int) = (p : Int) + 1 - (at_ : Int)) := by unfold Hid; omega
      have KB := Lib.hid (fun w => behindE_spec (tx.extract (closN tx + 1) tx.size) w (by rw [ByteArray.size_extract]; omega))
      have KP := Lib.hid (fun w => plain_spec (tx.extract 1 (closN tx)) w (by rw [ByteArray.size_extract]; omega))
      have KD := Lib.hid (fun w => doubE_spec (tx.extract 1 (closN tx)) w (by rw [ByteArray.size_extract]; omega))
      unfold quoteR at HF
      simp only [if_true] at HF
      generalize behindE (tx.extract (closN tx + 1) tx.size) = bh at *
      generalize plainT (tx.extract 1 (closN tx)) = pt at *
      generalize doubT (tx.extract 1 (closN tx)) = dt at *
      generalize closN tx = c at *
      have h0 : 0 < tx.size := by omega
      have h0z : (0 : Int) < (tx.size : Int) := by omega
      have hcz : (c : Int) + 1 ≤ (tx.size : Int) := by omega
      have hc1z : (1 : Int) ≤ (c : Int) := by omega
      have hc2z : (c : Int) ≤ (tx.size : Int) := by omega
      have hcb : (c : Int) ≤ 10000000 := by omega
      have hap39 : aposB tx = (tx[0] == 39) := by unfold aposB; rw [dif_pos h0]
      clear hR hct hsz CU hlz
      cases bh
      · have HF2 : Hid (r = (⟨#[]⟩, 0)) := HF.out
        clear HF KP KD hap39
        go_wp2_with fail
        refine (KC.out _).mono ?_
        rintro e w1 ⟨rfl, hb1⟩
        have hb1' := hb.trans (hb1.mono hb.size)
        clear hb hb1
        go_wp2_with fail
        refine (KC.out _).mono ?_
        rintro e w2 ⟨rfl, hb2⟩
        have hb2' := hb1'.trans (hb2.mono hb1'.size)
        clear hb1' hb2 KC
        go_wp2_with fail
        refine (KB.out _).mono ?_
        rintro e w3 ⟨rfl, rfl⟩
        go_wp2
        go_ret2
        exact ⟨by rw [HF2.out]; rfl, hb2'⟩
      · by_cases h39 : tx[0] = 39
        · have q39 : ((tx[0].toNat : Int) == 39) = true := byte_isE (d := 39) h39
          have HF2 : Hid (r = (pt, p + 1 - at_)) := by unfold Hid; rw [HF.out, hap39, h39]; rfl
          clear HF KD hap39 h39
          go_wp2_with fail
          refine (KC.out _).mono ?_
          rintro e w1 ⟨rfl, hb1⟩
          have hb1' := hb.trans (hb1.mono hb.size)
          clear hb hb1
          go_wp2_with fail
          refine (KC.out _).mono ?_
          rintro e w2 ⟨rfl, hb2⟩
          have hb2' := hb1'.trans (hb2.mono hb1'.size)
          clear hb1' hb2 KC
          go_wp2_with fail
          refine (KB.out _).mono ?_
          rintro e w3 ⟨rfl, rfl⟩
          go_wp2_with fail
          refine (KP.out _).mono ?_
          rintro e w4 ⟨rfl, hb4⟩
          have hb5 := hb2'.trans (hb4.mono hb2'.size)
          clear hb2' hb4
          go_wp2
          go_ret2
          exact ⟨by rw [HF2.out]; simp only; rw [hcast.out]; rfl, hb5⟩
        · have q39 : ((tx[0].toNat : Int) == 39) = false := byte_noE (d := 39) h39
          have HF2 : Hid (r = (dt, p + 1 - at_)) := by unfold Hid; rw [HF.out, hap39]; simp [h39]
          clear HF KP hap39 h39
          go_wp2_with fail
          refine (KC.out _).mono ?_
          rintro e w1 ⟨rfl, hb1⟩
          have hb1' := hb.trans (hb1.mono hb.size)
          clear hb hb1
          go_wp2_with fail
          refine (KC.out _).mono ?_
          rintro e w2 ⟨rfl, hb2⟩
          have hb2' := hb1'.trans (hb2.mono hb1'.size)
          clear hb1' hb2 KC
          go_wp2_with fail
          refine (KB.out _).mono ?_
          rintro e w3 ⟨rfl, rfl⟩
          go_wp2_with fail
          refine (KD.out _).mono ?_
          rintro e w4 ⟨rfl, hb4⟩
          have hb5 := hb2'.trans (hb4.mono hb2'.size)
          clear hb2' hb4
          go_wp2
          go_ret2
          exact ⟨by rw [HF2.out]; simp only; rw [hcast.out]; rfl, hb5⟩
    · rw [closeE_no hc] at KC
      by_cases hlast : p + 1 = l.length
      · have el : ((at_ : Int) + ((p : Int) + 1 - (at_ : Int)) == (l.length : Int)) = true := by rw [beq_iff_eq]; omega
        have el2 : ((p : Int) + 1 == (l.length : Int)) = true := by rw [beq_iff_eq]; omega
        have HF : Hid (r = (⟨#[]⟩, 0)) := by unfold Hid; rw [HV.out, hR.out, List.drop_of_length_le (by omega), quoteO_end _ hc]; rfl
        clear hR hct hsz CU HV
        go_wp2_with fail
        refine (KC.out _).mono ?_
        rintro e w1 ⟨rfl, hb1⟩
        have hb1' := hb.trans (hb1.mono hb.size)
        clear hb hb1
        go_wp2
        go_ret2
        exact ⟨by rw [HF.out]; rfl, hb1'⟩
      · have hp1 : p + 1 < l.length := by omega
        have el : ((at_ : Int) + ((p : Int) + 1 - (at_ : Int)) == (l.length : Int)) = false := by rw [beq_eq_false_iff_ne]; omega
        have ep1 : (at_ : Int) + ((p : Int) + 1 - (at_ : Int)) = ((p + 1 : Nat) : Int) := by omega
        have el2 : ((p : Int) + 1 == (l.length : Int)) = false := by rw [beq_eq_false_iff_ne]; omega
        have hR2 : Hid (J = quoteO (tx ++ l[p].2 ++ l[p + 1].1) l[p + 1].2 (l.drop (p + 1 + 1)) (p + 1 + 1 - at_)) := by
          unfold Hid
          rw [hR.out, List.drop_eq_getElem_cons hp1, quoteO_on _ _ _ hc]
          congr 1
          omega
        have hct2 := costL_take_succ l (p + 1) hp1
        have hsz2 : (tx ++ l[p].2 ++ l[p + 1].1).size + l[p + 1].2.size ≤ costL (l.take (p + 1 + 1)) := by
          rw [ByteArray.size_append, ByteArray.size_append]
          omega
        have c0 := CU.out.c1 p hp
        have c1 := CU.out.c0 (p + 1) hp1
        have HSZ := Lib.hid hsz2
        have hct3 := costL_take l (p + 1 + 1) (by omega)
        have hza : tx.size ≤ 10000000 := by omega
        have hzb : (l[p].2).size ≤ 10000000 := by omega
        have hzc : (l[p + 1].1).size ≤ 10000000 := by omega
        clear hct3
        clear hR hct hsz hct2 hsz2
        generalize l[p].2 = ep at *
        generalize l[p + 1].1 = tn at *
        have hpz : (p : Int) < (l.length : Int) := by omega
        have hp1z : (p : Int) + 1 < (l.length : Int) := by omega
        go_wp2_with fail
        refine (KC.out _).mono ?_
        rintro e w1 ⟨rfl, hb1⟩
        have hb1' := hb.trans (hb1.mono hb.size)
        have y0 := cell_regrown ((hb1'.cell (p := ⟨g, o + p * 2 + 1, none⟩) hgw).trans c0)
        have y1 := cell_regrown ((hb1'.cell (p := ⟨g, o + (p + 1) * 2, none⟩) hgw).trans c1)
        clear hb hb1 c0 c1 KC
        go_wp2_with fail
        refine wp_region_quiet_below (by kernel_rfl) (by kernel_rfl) ?_
        repeat (go_big_quiet_step (fail))
        refine wpQuiet_nil ?_
        intro _ hw'
        obtain ⟨⟨dq, osq⟩, hw''⟩ := hw'
        subst hw''
        have hb2 := hb1'.trans ((below_regrown w1 dq osq).mono hb1'.size)
        clear y0 y1
        generalize grow (redrawn w1 dq) osq = w2 at *
        go_wp2
        go_roundw
        case rel => exact ⟨p + 1, _, hp1, by omega, rfl, by go_num, HSZ.out, hR2, hb2⟩
        case measure => simp [intOf]; omega

end Go.Proofs.YtkhkpjnpjgnckaaGreatDoor

/- Environment files: one record. The model's l08One. -/
set_option maxRecDepth 100000
namespace Go.Proofs.YtkhkpjnpjgnckaaGreatDoor
open Go.RowKit Go.Sort
set_option linter.unusedVariables false

/-- a record that is only its kind -/
def kindP (k : Int) : RecD := ⟨k, ⟨#[]⟩, ⟨#[]⟩, ⟨#[]⟩, ⟨#[]⟩, 0⟩
/-- a record that a call has laid for itself -/
def RecIn (w : World) (b : Nat) (x : RecD) : Prop := w.heap[b]? = some (.cells #[.int .i64 x.kind, .string x.raw, .string x.sect, .string x.key, .string x.value, .int .i64 x.line] 35 (0, 0))
theorem RecIn.over {w w' : World} {b B : Nat} {x : RecD} (h : RecIn w b x) (hb : Below B w w') (hB : b < B) : RecIn w' b x := by
  unfold RecIn at *
  rw [hb.block b hB]
  exact h
theorem RecIn.cells {w : World} {b : Nat} {x : RecD} (h : RecIn w b x) : w.cell? ⟨b, 0, none⟩ = some (.int .i64 x.kind) ∧ w.cell? ⟨b, 1, none⟩ = some (.string x.raw) ∧ w.cell? ⟨b, 2, none⟩ = some (.string x.sect) ∧ w.cell? ⟨b, 3, none⟩ = some (.string x.key) ∧ w.cell? ⟨b, 4, none⟩ = some (.string x.value) ∧ w.cell? ⟨b, 5, none⟩ = some (.int .i64 x.line) := by
  unfold RecIn at h
  refine ⟨?_, ?_, ?_, ?_, ?_, ?_⟩ <;> (rw [Lib.cell_of_heap h]; rfl)
theorem RecIn.free {w : World} {b : Nat} {x : RecD} (h : RecIn w b x) (j : Nat) : w.frozen? ⟨b, j, none⟩ = false := by
  unfold RecIn at h
  simp [World.frozen?, h]
theorem RecIn.put {w : World} {b : Nat} {x : RecD} (h : RecIn w b x) (y : RecD) :
    RecIn ((((((w.setCell ⟨b, 0, none⟩ (.int .i64 y.kind)).setCell ⟨b, 1, none⟩ (.string y.raw)).setCell ⟨b, 2, none⟩ (.string y.sect)).setCell ⟨b, 3, none⟩ (.string y.key)).setCell ⟨b, 4, none⟩ (.string y.value)).setCell ⟨b, 5, none⟩ (.int .i64 y.line)) b y := by
  unfold RecIn at *
  exact set_cellR _ b 5 _ _ _ (.int .i64 y.line) (set_cellR _ b 4 _ _ _ (.string y.value) (set_cellR _ b 3 _ _ _ (.string y.key) (set_cellR _ b 2 _ _ _ (.string y.sect) (set_cellR _ b 1 _ _ _ (.string y.raw) (set_cellR _ b 0 _ _ _ (.int .i64 y.kind) h)))))
theorem below_put {w W : World} {B b : Nat} (hb : Below B w W) (h : B ≤ b) (y : RecD) : Below B w ((((((W.setCell ⟨b, 0, none⟩ (.int .i64 y.kind)).setCell ⟨b, 1, none⟩ (.string y.raw)).setCell ⟨b, 2, none⟩ (.string y.sect)).setCell ⟨b, 3, none⟩ (.string y.key)).setCell ⟨b, 4, none⟩ (.string y.value)).setCell ⟨b, 5, none⟩ (.int .i64 y.line)) :=
  (((((hb.setCell (p := ⟨b, 0, none⟩) h _).setCell (p := ⟨b, 1, none⟩) h _).setCell (p := ⟨b, 2, none⟩) h _).setCell (p := ⟨b, 3, none⟩) h _).setCell (p := ⟨b, 4, none⟩) h _).setCell (p := ⟨b, 5, none⟩) h _

theorem RecIn.set {w : World} {b g j : Nat} {x : RecD} (h : RecIn w b x) (hne : b ≠ g) (v : Value) : RecIn (w.setCell ⟨g, j, none⟩ v) b x := by
  unfold RecIn at *
  rw [Below.heap_setCell _ _ _ b hne]
  exact h
/-- 'export' -/
def expB (s : ByteArray) : Bool := s.toList == [101, 120, 112, 111, 114, 116]
/-- a line without its blanks and 'export' -/
def leadX (t : ByteArray) : ByteArray := if h : 7 < t.size then (if expB (t.extract 0 6) = true ∧ blankB t[6] = true then leadE (t.extract 6 t.size) else t) else t
theorem leadX_size (t : ByteArray) : (leadX t).size ≤ t.size := by
  unfold leadX
  split
  · split
    · refine Nat.le_trans (leadE_size _) ?_
      rw [ByteArray.size_extract]
      omega
    · exact Nat.le_refl _
  · exact Nat.le_refl _
/-- at the first '=' -/
def restO (y : ByteArray) : ByteArray × ByteArray × Bool := if firstIn (hasB ⟨#[61]⟩) y < y.size then (y.extract 0 (firstIn (hasB ⟨#[61]⟩) y), y.extract (firstIn (hasB ⟨#[61]⟩) y + 1) y.size, true) else (y, ⟨#[]⟩, false)
theorem restO_res (y : ByteArray) : cutRes y (firstIn (hasB ⟨#[61]⟩) y) = .tuple #[.string (restO y).1, .string (restO y).2.1, .bool (restO y).2.2] := by
  unfold cutRes restO
  split <;> rfl
theorem restO_size (y : ByteArray) : (restO y).1.size ≤ y.size ∧ (restO y).2.1.size ≤ y.size := by
  unfold restO
  split
  · simp only [ByteArray.size_extract]; omega
  · exact ⟨Nat.le_refl _, Nat.zero_le _⟩
/-- begins with a quote -/
def quotedB (t : ByteArray) : Bool := if h : 0 < t.size then t[0] == 39 || t[0] == 34 else false
def valE (key rest e : ByteArray) (l : List Ln) : RecD × Nat :=
  if quotedB rest then (if (quoteE rest e l).2 = 0 then (kindP 4, 1) else (⟨3, ⟨#[]⟩, ⟨#[]⟩, key, (quoteE rest e l).1, 0⟩, (quoteE rest e l).2))
  else (if (bareE rest).2 then (⟨3, ⟨#[]⟩, ⟨#[]⟩, key, (bareE rest).1, 0⟩, 1) else (kindP 4, 1))
def lineE (y e : ByteArray) (l : List Ln) : RecD × Nat := if (restO y).2.2 = true ∧ nameB (trimE (restO y).1) = true then valE (trimE (restO y).1) (leadE (restO y).2.1) e l else (kindP 4, 1)
/-- the record at a line with those behind it, and how many lines it has -/
def oneE (x : Ln) (l : List Ln) : RecD × Nat :=
  if h : 0 < (trimE x.1).size then (if (trimE x.1)[0] = 35 then (kindP 1, 1) else lineE (leadX (leadE x.1)) x.2 l) else (kindP 0, 1)

set_option maxHeartbeats 3200000 in
theorem oneE_spec (w : World) (u : Value) (g o : Nat) (l : List Ln) (at_ : Nat) (hu : LinesRd w u g o l) (hl : costL l ≤ 1000000) (hat : at_ < l.length) :
    Calls Tryz.prog 60 #[u, .int .i64 (at_ : Int)] w fun e w' => e = .returned (.tuple #[recV (oneE l[at_] (l.drop (at_ + 1))).1, .int .i64 ((oneE l[at_] (l.drop (at_ + 1))).2 : Int)]) ∧ Below w.heap.size w w' := by
  obtain ⟨a, cap, rfl, ha⟩ := hu.form
  have hln : l ≠ [] := by intro e; subst e; simp at hat
  obtain rfl := ha hln
  have hgw := hu.lt hln
  have hcl := costL_at l at_ hat
  have CU := Lib.hid hu
  have q1 := hu.c0 at_ hat
  have haz : (at_ : Int) < (l.length : Int) := by omega
  have KT := Lib.hid (fun w => trimE_spec l[at_].1 w (by omega))
  have KL := Lib.hid (fun w => leadE_spec l[at_].1 w (by omega))
  have hls := leadE_size l[at_].1
  have HV : Hid (oneE l[at_] (l.drop (at_ + 1)) = if h : 0 < (trimE l[at_].1).size then (if (trimE l[at_].1)[0] = 35 then (kindP 1, 1) else lineE (leadX (leadE l[at_].1)) l[at_].2 (l.drop (at_ + 1))) else (kindP 0, 1)) := rfl
  generalize oneE l[at_] (l.drop (at_ + 1)) = r at *
  generalize hld : l.drop (at_ + 1) = ld at *
  generalize hle : l[at_].2 = le at *
  generalize trimE l[at_].1 = t0 at *
  generalize leadE l[at_].1 = t1 at *
  clear hu ha
  have hb0 := (Below.refl w.heap.size w).alloc (Nat.le_refl _) (.cells #[.int .i64 0, .string ⟨#[]⟩, .string ⟨#[]⟩, .string ⟨#[]⟩, .string ⟨#[]⟩, .int .i64 0] 35)
  have HR0 : Hid (RecIn (w.alloc (.cells #[.int .i64 0, .string ⟨#[]⟩, .string ⟨#[]⟩, .string ⟨#[]⟩, .string ⟨#[]⟩, .int .i64 0] 35)) w.heap.size (kindP 0)) := heap_alloc_new _ _
  have hw0 : w.heap.size < (w.alloc (.cells #[.int .i64 0, .string ⟨#[]⟩, .string ⟨#[]⟩, .string ⟨#[]⟩, .string ⟨#[]⟩, .int .i64 0] 35)).heap.size := by simp
  have q2 : (w.alloc (.cells #[.int .i64 0, .string ⟨#[]⟩, .string ⟨#[]⟩, .string ⟨#[]⟩, .string ⟨#[]⟩, .int .i64 0] 35)).cell? ⟨g, o + at_ * 2, none⟩ = some (.string l[at_].1) := (hb0.cell (p := ⟨g, o + at_ * 2, none⟩) hgw).trans q1
  go_enter Tryz.func60, Tryz.ntmps60
  go_wp2_with fail
  refine (KT.out _).mono ?_
  rintro e w1 ⟨rfl, rfl⟩
  clear KT
  generalize w.alloc (.cells #[.int .i64 0, .string ⟨#[]⟩, .string ⟨#[]⟩, .string ⟨#[]⟩, .string ⟨#[]⟩, .int .i64 0] 35) = W0 at *
  by_cases h0 : t0.size = 0
  · obtain ⟨e1, e2⟩ := text_noneE t0 h0
    have HF2 : Hid (r = (kindP 0, 1)) := by unfold Hid; rw [HV.out, dif_neg (by omega)]
    clear HV CU q2 KL
    obtain ⟨z0, z1, z2, z3, z4, z5⟩ := HR0.out.cells
    simp only [kindP] at z0 z1 z2 z3 z4 z5
    have f0 := HR0.out.free 0
    have f1 := HR0.out.free 1
    have f2 := HR0.out.free 2
    have f3 := HR0.out.free 3
    have f4 := HR0.out.free 4
    have f5 := HR0.out.free 5
    go_wp2
    (try simp only [Exit.inBlock, Exit.then])
    have hq7 := HR0.out.put (kindP 0)
    have hq8 := below_put hb0 (Nat.le_refl w.heap.size) (kindP 0)
    try simp only [kindP] at hq7 hq8
    refine bodyPost_ret (results_cell1 rfl _ _ w.heap.size 35 _ (0, 0) _ rfl hq7 Tryz.underlying35 rfl (by kernel_rfl)) rfl ⟨?_, hq8⟩
    rw [HF2.out]; rfl
  · obtain ⟨e1, e2⟩ := text_someE t0 (by omega)
    have h1 : 0 < t0.size := by omega
    have h1i : (0 : Int) < (t0.size : Int) := by omega
    have HV2 : Hid (r = if t0[0] = 35 then (kindP 1, 1) else lineE (leadX t1) le ld) := by unfold Hid; rw [HV.out, dif_pos h1]
    clear HV
    by_cases h35 : t0[0] = 35
    · have b35 : ((t0[0].toNat : Int) == 35) = true := byte_isE (d := 35) h35
      have HF2 : Hid (r = (kindP 1, 1)) := by unfold Hid; rw [HV2.out, if_pos h35]
      clear HV2 CU q2 KL h35
      obtain ⟨z0, z1, z2, z3, z4, z5⟩ := HR0.out.cells
      simp only [kindP] at z0 z1 z2 z3 z4 z5
      have f0 := HR0.out.free 0
      have f1 := HR0.out.free 1
      have f2 := HR0.out.free 2
      have f3 := HR0.out.free 3
      have f4 := HR0.out.free 4
      have f5 := HR0.out.free 5
      go_wp2
      (try simp only [Exit.inBlock, Exit.then])
      have hq7 := HR0.out.put (kindP 1)
      have hq8 := below_put hb0 (Nat.le_refl w.heap.size) (kindP 1)
      try simp only [kindP] at hq7 hq8
      refine bodyPost_ret (results_cell1 rfl _ _ w.heap.size 35 _ (0, 0) _ rfl hq7 Tryz.underlying35 rfl (by kernel_rfl)) rfl ⟨?_, hq8⟩
      rw [HF2.out]; rfl
    · have b35 : ((t0[0].toNat : Int) == 35) = false := byte_noE (d := 35) h35
      have HFX : Hid (r = lineE (leadX t1) le ld) := by unfold Hid; rw [HV2.out, if_neg h35]
      clear HV2 h35
      go_wp2_with fail
      refine (KL.out _).mono ?_
      rintro e w1 ⟨rfl, rfl⟩
      clear KL b35 e1 e2 h0 h1i q2 q1
      by_cases h7 : 7 < t1.size
      · have h7z : (7 : Int) < (t1.size : Int) := by omega
        have h6z : (6 : Int) ≤ (t1.size : Int) := by omega
        have h6y : (6 : Int) < (t1.size : Int) := by omega
        have h6n : 6 < t1.size := by omega
        have hxv : leadX t1 = if expB (t1.extract 0 6) = true ∧ blankB t1[6] = true then leadE (t1.extract 6 t1.size) else t1 := by unfold leadX; rw [dif_pos h7]
        by_cases hex : (((t1.extract 0 6).toList == [101, 120, 112, 111, 114, 116]) = true)
        · have KBL := Lib.hid (fun w => blank_any t1[6] w)
          have hex2 : expB (t1.extract 0 6) = true := hex
          rw [hex2] at hxv
          generalize blankB t1[6] = b6 at *
          clear hex2
          cases b6
          · have HFY : Hid (r = lineE t1 le ld) := by unfold Hid; rw [HFX.out, hxv]; simp
            clear HFX hxv
            go_wp2_with fail
            refine (KBL.out _).mono ?_
            rintro e w1 ⟨rfl, rfl⟩
            clear KBL
            generalize t1 = y at *
            have KCUT := Lib.hid (fun w => cutAt_spec y ⟨#[61]⟩ w (by omega) (by decide))
            rw [restO_res] at KCUT
            have hro := restO_size y
            have HFL : Hid (r = if (restO y).2.2 = true ∧ nameB (trimE (restO y).1) = true then valE (trimE (restO y).1) (leadE (restO y).2.1) le ld else (kindP 4, 1)) := HFY.out
            generalize restO y = ro at *
            obtain ⟨ra, rb, ok⟩ := ro
            simp only at KCUT HFL hro
            have KLD := Lib.hid (fun w => leadE_spec rb w (by omega))
            have KTR := Lib.hid (fun w => trimE_spec ra w (by omega))
            have hl2 := leadE_size rb
            have ht2 := trimE_size ra
            generalize leadE rb = rest at *
            generalize trimE ra = key at *
            have KN := Lib.hid (fun w => nameOk_spec key w (by omega))
            have KQ := Lib.hid (fun (W : World) (hW : Below w.heap.size w W) => quoteE_spec W (.slice (some ⟨g, o, none⟩) l.length cap) g o l at_ rest (CU.out.below hW (fun _ => hgw)) (by omega) hat (by omega))
            rw [hle, hld] at KQ
            have hrz : rest.size ≤ 1048576 := by omega
            clear HFY hro hl2 ht2
            go_wp2_with fail
            refine (KCUT.out _).mono ?_
            rintro e w1 ⟨rfl, nd, rfl⟩
            have hbn : Below W0.heap.size W0 (W0.drewN nd) := _root_.Go.below_drewN (Below.refl _ _) nd
            have HR1 := Lib.hid (HR0.out.over hbn hw0)
            have hb1 := hb0.trans (hbn.mono hb0.size)
            have hw1 := Nat.lt_of_lt_of_le hw0 hbn.size
            clear HR0 hb0 hw0 hbn KCUT
            generalize W0.drewN nd = W1 at *
            go_wp2_with fail
            refine (KLD.out _).mono ?_
            rintro e w2 ⟨rfl, rfl⟩
            clear KLD
            go_wp2_with fail
            refine (KTR.out _).mono ?_
            rintro e w2 ⟨rfl, rfl⟩
            clear KTR
            have hba := ((Below.refl W1.heap.size W1).alloc (Nat.le_refl _) (.cells #[.int .i64 3, .string ⟨#[]⟩, .string ⟨#[]⟩, .string key, .string ⟨#[]⟩, .int .i64 0] 35)).alloc (by simp) (.cells #[.int .i64 4, .string ⟨#[]⟩, .string ⟨#[]⟩, .string ⟨#[]⟩, .string ⟨#[]⟩, .int .i64 0] 35)
            have HR := Lib.hid (HR1.out.over hba hw1)
            have HP : Hid (RecIn ((W1.alloc (.cells #[.int .i64 3, .string ⟨#[]⟩, .string ⟨#[]⟩, .string key, .string ⟨#[]⟩, .int .i64 0] 35)).alloc (.cells #[.int .i64 4, .string ⟨#[]⟩, .string ⟨#[]⟩, .string ⟨#[]⟩, .string ⟨#[]⟩, .int .i64 0] 35)) W1.heap.size ⟨3, ⟨#[]⟩, ⟨#[]⟩, key, ⟨#[]⟩, 0⟩) := RecIn.over (show RecIn (W1.alloc (.cells #[.int .i64 3, .string ⟨#[]⟩, .string ⟨#[]⟩, .string key, .string ⟨#[]⟩, .int .i64 0] 35)) W1.heap.size ⟨3, ⟨#[]⟩, ⟨#[]⟩, key, ⟨#[]⟩, 0⟩ from heap_alloc_new _ _) ((Below.refl (W1.alloc (.cells #[.int .i64 3, .string ⟨#[]⟩, .string ⟨#[]⟩, .string key, .string ⟨#[]⟩, .int .i64 0] 35)).heap.size _).alloc (Nat.le_refl _) (.cells #[.int .i64 4, .string ⟨#[]⟩, .string ⟨#[]⟩, .string ⟨#[]⟩, .string ⟨#[]⟩, .int .i64 0] 35)) (by simp)
            have HO : Hid (RecIn ((W1.alloc (.cells #[.int .i64 3, .string ⟨#[]⟩, .string ⟨#[]⟩, .string key, .string ⟨#[]⟩, .int .i64 0] 35)).alloc (.cells #[.int .i64 4, .string ⟨#[]⟩, .string ⟨#[]⟩, .string ⟨#[]⟩, .string ⟨#[]⟩, .int .i64 0] 35)) (W1.heap.size + 1) (kindP 4)) := by
              have := heap_alloc_new (W1.alloc (.cells #[.int .i64 3, .string ⟨#[]⟩, .string ⟨#[]⟩, .string key, .string ⟨#[]⟩, .int .i64 0] 35)) (.cells #[.int .i64 4, .string ⟨#[]⟩, .string ⟨#[]⟩, .string ⟨#[]⟩, .string ⟨#[]⟩, .int .i64 0] 35)
              rw [World.size_alloc] at this
              exact this
            have HB := Lib.hid (hb1.trans (hba.mono hb1.size))
            have n1 : w.heap.size ≠ W1.heap.size := by omega
            have n2 : W1.heap.size ≠ w.heap.size := by omega
            have n3 : w.heap.size < W1.heap.size := hw1
            have n4 : w.heap.size < ((W1.alloc (.cells #[.int .i64 3, .string ⟨#[]⟩, .string ⟨#[]⟩, .string key, .string ⟨#[]⟩, .int .i64 0] 35)).alloc (.cells #[.int .i64 4, .string ⟨#[]⟩, .string ⟨#[]⟩, .string ⟨#[]⟩, .string ⟨#[]⟩, .int .i64 0] 35)).heap.size := by simp; omega
            have n5 : W1.heap.size < ((W1.alloc (.cells #[.int .i64 3, .string ⟨#[]⟩, .string ⟨#[]⟩, .string key, .string ⟨#[]⟩, .int .i64 0] 35)).alloc (.cells #[.int .i64 4, .string ⟨#[]⟩, .string ⟨#[]⟩, .string ⟨#[]⟩, .string ⟨#[]⟩, .int .i64 0] 35)).heap.size := by simp; omega
            have n6 : W1.heap.size + 1 < ((W1.alloc (.cells #[.int .i64 3, .string ⟨#[]⟩, .string ⟨#[]⟩, .string key, .string ⟨#[]⟩, .int .i64 0] 35)).alloc (.cells #[.int .i64 4, .string ⟨#[]⟩, .string ⟨#[]⟩, .string ⟨#[]⟩, .string ⟨#[]⟩, .int .i64 0] 35)).heap.size := by simp
            have n7 : w.heap.size ≠ W1.heap.size + 1 := by omega
            have n8 : W1.heap.size + 1 ≠ w.heap.size := by omega
            clear hba hw1
            cases ok
            · have HF2 : Hid (r = (kindP 4, 1)) := by unfold Hid; rw [HFL.out, if_neg (by simp)]
              clear HFL KQ KN HP n4 n5 n6
              obtain ⟨zz0, zz1, zz2, zz3, zz4, zz5⟩ := HR1.out.cells
              simp only [kindP] at zz0 zz1 zz2 zz3 zz4 zz5
              have ff0 := HR1.out.free 0
              have ff1 := HR1.out.free 1
              have ff2 := HR1.out.free 2
              have ff3 := HR1.out.free 3
              have ff4 := HR1.out.free 4
              have ff5 := HR1.out.free 5
              obtain ⟨o0, o1, o2, o3, o4, o5⟩ := HO.out.cells
              simp only [kindP] at o0 o1 o2 o3 o4 o5
              obtain ⟨z0, z1, z2, z3, z4, z5⟩ := HR.out.cells
              simp only [kindP] at z0 z1 z2 z3 z4 z5
              have f0 := HR.out.free 0
              have f1 := HR.out.free 1
              have f2 := HR.out.free 2
              have f3 := HR.out.free 3
              have f4 := HR.out.free 4
              have f5 := HR.out.free 5
              go_wp2
              (try simp only [Exit.inBlock, Exit.then])
              have hq0 := HR1.out.put (kindP 4)
              have hp0 := below_put hb1 (Nat.le_refl w.heap.size) (kindP 4)
              have hlt0 := (Array.getElem?_eq_some_iff.1 hq0).1
              have hq8 := (hp0.alloc hp0.size (.cells #[.int .i64 3, .string ⟨#[]⟩, .string ⟨#[]⟩, .string key, .string ⟨#[]⟩, .int .i64 0] 35)).alloc (by have := hp0.size; rw [World.size_alloc]; omega) (.cells #[.int .i64 4, .string ⟨#[]⟩, .string ⟨#[]⟩, .string ⟨#[]⟩, .string ⟨#[]⟩, .int .i64 0] 35)
              have hq7 := hq0.over (((Below.refl _ _).alloc (Nat.le_refl _) (.cells #[.int .i64 3, .string ⟨#[]⟩, .string ⟨#[]⟩, .string key, .string ⟨#[]⟩, .int .i64 0] 35)).alloc (by rw [World.size_alloc]; omega) (.cells #[.int .i64 4, .string ⟨#[]⟩, .string ⟨#[]⟩, .string ⟨#[]⟩, .string ⟨#[]⟩, .int .i64 0] 35)) hlt0
              try simp only [kindP] at hq7 hq8
              refine bodyPost_ret (results_cell1 rfl _ _ w.heap.size 35 _ (0, 0) _ rfl hq7 Tryz.underlying35 rfl (by kernel_rfl)) rfl ⟨?_, hq8⟩
              rw [HF2.out]; rfl
            · clear HR1 hb1
              have p3 := HP.out.cells.2.2.2.1
              simp only at p3
              have HFN : Hid (r = if nameB key = true then valE key rest le ld else (kindP 4, 1)) := by unfold Hid; rw [HFL.out]; simp
              clear HFL
              go_wp2_with fail
              clear p3
              generalize (W1.alloc (.cells #[.int .i64 3, .string ⟨#[]⟩, .string ⟨#[]⟩, .string key, .string ⟨#[]⟩, .int .i64 0] 35)).alloc (.cells #[.int .i64 4, .string ⟨#[]⟩, .string ⟨#[]⟩, .string ⟨#[]⟩, .string ⟨#[]⟩, .int .i64 0] 35) = W3 at *
              generalize W1.heap.size = B1 at *
              refine (KN.out _).mono ?_
              rintro e w4 ⟨rfl, hb4⟩
              replace HR := Lib.hid (HR.out.over hb4 n4)
              replace HP := Lib.hid (HP.out.over hb4 n5)
              replace HO := Lib.hid (HO.out.over hb4 n6)
              replace HB := Lib.hid (HB.out.trans (hb4.mono HB.out.size))
              replace n4 := Nat.lt_of_lt_of_le n4 hb4.size
              replace n5 := Nat.lt_of_lt_of_le n5 hb4.size
              replace n6 := Nat.lt_of_lt_of_le n6 hb4.size
              clear hb4 KN
              generalize nameB key = nk at *
              cases nk
              · have HF2 : Hid (r = (kindP 4, 1)) := HFN.out
                clear HFN KQ HP n4 n5 n6
                obtain ⟨o0, o1, o2, o3, o4, o5⟩ := HO.out.cells
                simp only [kindP] at o0 o1 o2 o3 o4 o5
                obtain ⟨z0, z1, z2, z3, z4, z5⟩ := HR.out.cells
                simp only [kindP] at z0 z1 z2 z3 z4 z5
                have f0 := HR.out.free 0
                have f1 := HR.out.free 1
                have f2 := HR.out.free 2
                have f3 := HR.out.free 3
                have f4 := HR.out.free 4
                have f5 := HR.out.free 5
                go_wp2
                (try simp only [Exit.inBlock, Exit.then])
                have hq7 := HR.out.put (kindP 4)
                have hq8 := below_put HB.out (Nat.le_refl w.heap.size) (kindP 4)
                try simp only [kindP] at hq7 hq8
                refine bodyPost_ret (results_cell1 rfl _ _ w.heap.size 35 _ (0, 0) _ rfl hq7 Tryz.underlying35 rfl (by kernel_rfl)) rfl ⟨?_, hq8⟩
                rw [HF2.out]; rfl
              · have HFV : Hid (r = valE key rest le ld) := HFN.out
                clear HFN
                unfold valE at HFV
                by_cases hr0 : rest.size = 0
                · obtain ⟨e1, e2⟩ := text_noneE rest hr0
                  have hqb : quotedB rest = false := by unfold quotedB; rw [dif_neg (by omega)]
                  have HF : Hid (r = if (bareE rest).2 then (⟨3, ⟨#[]⟩, ⟨#[]⟩, key, (bareE rest).1, 0⟩, 1) else (kindP 4, 1)) := by unfold Hid; rw [HFV.out, hqb]; rfl
                  clear HFV hqb hr0
                  have hbz := bareE_size rest
                  have KB := Lib.hid (fun w => bareE_spec rest w (by omega))
                  have HFB : Hid (r = if (bareE rest).2 then (⟨3, ⟨#[]⟩, ⟨#[]⟩, key, (bareE rest).1, 0⟩, 1) else (kindP 4, 1)) := HF.out
                  generalize bareE rest = be at *
                  obtain ⟨val, bok⟩ := be
                  simp only at KB HFB
                  clear HF KQ
                  cases bok
                  · have HF2 : Hid (r = (kindP 4, 1)) := HFB.out
                    clear HFB
                    go_wp2_with fail
                    refine (KB.out _).mono ?_
                    rintro e w6 ⟨rfl, rfl⟩
                    obtain ⟨o0, o1, o2, o3, o4, o5⟩ := HO.out.cells
                    simp only [kindP] at o0 o1 o2 o3 o4 o5
                    obtain ⟨z0, z1, z2, z3, z4, z5⟩ := HR.out.cells
                    simp only [kindP] at z0 z1 z2 z3 z4 z5
                    have f0 := HR.out.free 0
                    have f1 := HR.out.free 1
                    have f2 := HR.out.free 2
                    have f3 := HR.out.free 3
                    have f4 := HR.out.free 4
                    have f5 := HR.out.free 5
                    go_wp2
                    (try simp only [Exit.inBlock, Exit.then])
                    have hq7 := HR.out.put (kindP 4)
                    have hq8 := below_put HB.out (Nat.le_refl w.heap.size) (kindP 4)
                    try simp only [kindP] at hq7 hq8
                    refine bodyPost_ret (results_cell1 rfl _ _ w.heap.size 35 _ (0, 0) _ rfl hq7 Tryz.underlying35 rfl (by kernel_rfl)) rfl ⟨?_, hq8⟩
                    rw [HF2.out]; rfl
                  · have HF2 : Hid (r = (⟨3, ⟨#[]⟩, ⟨#[]⟩, key, val, 0⟩, 1)) := HFB.out
                    clear HFB
                    go_wp2_with fail
                    refine (KB.out _).mono ?_
                    rintro e w6 ⟨rfl, rfl⟩
                    obtain ⟨p0, p1, p2, p3, p4, p5⟩ := HP.out.cells
                    simp only at p0 p1 p2 p3 p4 p5
                    have pf4 := HP.out.free 4
                    obtain ⟨z0, z1, z2, z3, z4, z5⟩ := HR.out.cells
                    simp only [kindP] at z0 z1 z2 z3 z4 z5
                    have f0 := HR.out.free 0
                    have f1 := HR.out.free 1
                    have f2 := HR.out.free 2
                    have f3 := HR.out.free 3
                    have f4 := HR.out.free 4
                    have f5 := HR.out.free 5
                    go_wp2
                    (try simp only [Exit.inBlock, Exit.then])
                    have hq7 := (HR.out.set (g := B1) (j := 4) n1 (.string val)).put ⟨3, ⟨#[]⟩, ⟨#[]⟩, key, val, 0⟩
                    have hq8 := below_put (HB.out.setCell (p := ⟨B1, 4, none⟩) (Nat.le_of_lt n3) (.string val)) (Nat.le_refl w.heap.size) ⟨3, ⟨#[]⟩, ⟨#[]⟩, key, val, 0⟩
                    try simp only at hq7 hq8
                    refine bodyPost_ret (results_cell1 rfl _ _ w.heap.size 35 _ (0, 0) _ rfl hq7 Tryz.underlying35 rfl (by kernel_rfl)) rfl ⟨?_, hq8⟩
                    rw [HF2.out]; rfl
                · obtain ⟨e1, e2⟩ := text_someE rest (by omega)
                  have hr1 : 0 < rest.size := by omega
                  have hrzi : (0 : Int) < (rest.size : Int) := by omega
                  have hqv : quotedB rest = (rest[0] == 39 || rest[0] == 34) := by unfold quotedB; rw [dif_pos hr1]
                  by_cases h39 : rest[0] = 39
                  · have q39 : ((rest[0].toNat : Int) == 39) = true := byte_isE (d := 39) h39
                    have HF : Hid (r = if (quoteE rest le ld).2 = 0 then (kindP 4, 1) else (⟨3, ⟨#[]⟩, ⟨#[]⟩, key, (quoteE rest le ld).1, 0⟩, (quoteE rest le ld).2)) := by unfold Hid; rw [HFV.out, hqv, h39]; rfl
                    clear HFV hqv h39
                    have HFB : Hid (r = if (quoteE rest le ld).2 = 0 then (kindP 4, 1) else (⟨3, ⟨#[]⟩, ⟨#[]⟩, key, (quoteE rest le ld).1, 0⟩, (quoteE rest le ld).2)) := HF.out
                    generalize quoteE rest le ld = qe at *
                    obtain ⟨val, cnt⟩ := qe
                    simp only at KQ HFB
                    clear HF
                    by_cases hcnt : cnt = 0
                    · have HF2 : Hid (r = (kindP 4, 1)) := by unfold Hid; rw [HFB.out, if_pos hcnt]
                      have hcz : ((cnt : Int) == 0) = true := by rw [beq_iff_eq]; omega
                      clear HFB hcnt
                      go_wp2_with fail
                      refine (KQ.out _ HB.out).mono ?_
                      rintro e w6 ⟨rfl, hb6⟩
                      replace HR := Lib.hid (HR.out.over hb6 n4)
                      replace HO := Lib.hid (HO.out.over hb6 n6)
                      replace HB := Lib.hid (HB.out.trans (hb6.mono HB.out.size))
                      clear KQ hb6 n4 n5 n6 HP
                      obtain ⟨o0, o1, o2, o3, o4, o5⟩ := HO.out.cells
                      simp only [kindP] at o0 o1 o2 o3 o4 o5
                      obtain ⟨z0, z1, z2, z3, z4, z5⟩ := HR.out.cells
                      simp only [kindP] at z0 z1 z2 z3 z4 z5
                      have f0 := HR.out.free 0
                      have f1 := HR.out.free 1
                      have f2 := HR.out.free 2
                      have f3 := HR.out.free 3
                      have f4 := HR.out.free 4
                      have f5 := HR.out.free 5
                      go_wp2
                      (try simp only [Exit.inBlock, Exit.then])
                      have hq7 := HR.out.put (kindP 4)
                      have hq8 := below_put HB.out (Nat.le_refl w.heap.size) (kindP 4)
                      try simp only [kindP] at hq7 hq8
                      refine bodyPost_ret (results_cell1 rfl _ _ w.heap.size 35 _ (0, 0) _ rfl hq7 Tryz.underlying35 rfl (by kernel_rfl)) rfl ⟨?_, hq8⟩
                      rw [HF2.out]; rfl
                    · have HF2 : Hid (r = (⟨3, ⟨#[]⟩, ⟨#[]⟩, key, val, 0⟩, cnt)) := by unfold Hid; rw [HFB.out, if_neg hcnt]
                      have hcz : ((cnt : Int) == 0) = false := by rw [beq_eq_false_iff_ne]; omega
                      clear HFB hcnt
                      go_wp2_with fail
                      refine (KQ.out _ HB.out).mono ?_
                      rintro e w6 ⟨rfl, hb6⟩
                      replace HR := Lib.hid (HR.out.over hb6 n4)
                      replace HP := Lib.hid (HP.out.over hb6 n5)
                      replace HB := Lib.hid (HB.out.trans (hb6.mono HB.out.size))
                      clear KQ hb6 n4 n5 n6 HO
                      obtain ⟨p0, p1, p2, p3, p4, p5⟩ := HP.out.cells
                      simp only at p0 p1 p2 p3 p4 p5
                      have pf4 := HP.out.free 4
                      obtain ⟨z0, z1, z2, z3, z4, z5⟩ := HR.out.cells
                      simp only [kindP] at z0 z1 z2 z3 z4 z5
                      have f0 := HR.out.free 0
                      have f1 := HR.out.free 1
                      have f2 := HR.out.free 2
                      have f3 := HR.out.free 3
                      have f4 := HR.out.free 4
                      have f5 := HR.out.free 5
                      go_wp2
                      (try simp only [Exit.inBlock, Exit.then])
                      have hq7 := (HR.out.set (g := B1) (j := 4) n1 (.string val)).put ⟨3, ⟨#[]⟩, ⟨#[]⟩, key, val, 0⟩
                      have hq8 := below_put (HB.out.setCell (p := ⟨B1, 4, none⟩) (Nat.le_of_lt n3) (.string val)) (Nat.le_refl w.heap.size) ⟨3, ⟨#[]⟩, ⟨#[]⟩, key, val, 0⟩
                      try simp only at hq7 hq8
                      refine bodyPost_ret (results_cell1 rfl _ _ w.heap.size 35 _ (0, 0) _ rfl hq7 Tryz.underlying35 rfl (by kernel_rfl)) rfl ⟨?_, hq8⟩
                      rw [HF2.out]; rfl
                  · have q39 : ((rest[0].toNat : Int) == 39) = false := byte_noE (d := 39) h39
                    by_cases h34 : rest[0] = 34
                    · have q34 : ((rest[0].toNat : Int) == 34) = true := byte_isE (d := 34) h34
                      have HF : Hid (r = if (quoteE rest le ld).2 = 0 then (kindP 4, 1) else (⟨3, ⟨#[]⟩, ⟨#[]⟩, key, (quoteE rest le ld).1, 0⟩, (quoteE rest le ld).2)) := by unfold Hid; rw [HFV.out, hqv, h34]; rfl
                      clear HFV hqv h39 h34
                      have HFB : Hid (r = if (quoteE rest le ld).2 = 0 then (kindP 4, 1) else (⟨3, ⟨#[]⟩, ⟨#[]⟩, key, (quoteE rest le ld).1, 0⟩, (quoteE rest le ld).2)) := HF.out
                      generalize quoteE rest le ld = qe at *
                      obtain ⟨val, cnt⟩ := qe
                      simp only at KQ HFB
                      clear HF
                      by_cases hcnt : cnt = 0
                      · have HF2 : Hid (r = (kindP 4, 1)) := by unfold Hid; rw [HFB.out, if_pos hcnt]
                        have hcz : ((cnt : Int) == 0) = true := by rw [beq_iff_eq]; omega
                        clear HFB hcnt
                        go_wp2_with fail
                        refine (KQ.out _ HB.out).mono ?_
                        rintro e w6 ⟨rfl, hb6⟩
                        replace HR := Lib.hid (HR.out.over hb6 n4)
                        replace HO := Lib.hid (HO.out.over hb6 n6)
                        replace HB := Lib.hid (HB.out.trans (hb6.mono HB.out.size))
                        clear KQ hb6 n4 n5 n6 HP
                        obtain ⟨o0, o1, o2, o3, o4, o5⟩ := HO.out.cells
                        simp only [kindP] at o0 o1 o2 o3 o4 o5
                        obtain ⟨z0, z1, z2, z3, z4, z5⟩ := HR.out.cells
                        simp only [kindP] at z0 z1 z2 z3 z4 z5
                        have f0 := HR.out.free 0
                        have f1 := HR.out.free 1
                        have f2 := HR.out.free 2
                        have f3 := HR.out.free 3
                        have f4 := HR.out.free 4
                        have f5 := HR.out.free 5
                        go_wp2
                        (try simp only [Exit.inBlock, Exit.then])
                        have hq7 := HR.out.put (kindP 4)
                        have hq8 := below_put HB.out (Nat.le_refl w.heap.size) (kindP 4)
                        try simp only [kindP] at hq7 hq8
                        refine bodyPost_ret (results_cell1 rfl _ _ w.heap.size 35 _ (0, 0) _ rfl hq7 Tryz.underlying35 rfl (by kernel_rfl)) rfl ⟨?_, hq8⟩
                        rw [HF2.out]; rfl
                      · have HF2 : Hid (r = (⟨3, ⟨#[]⟩, ⟨#[]⟩, key, val, 0⟩, cnt)) := by unfold Hid; rw [HFB.out, if_neg hcnt]
                        have hcz : ((cnt : Int) == 0) = false := by rw [beq_eq_false_iff_ne]; omega
                        clear HFB hcnt
                        go_wp2_with fail
                        refine (KQ.out _ HB.out).mono ?_
                        rintro e w6 ⟨rfl, hb6⟩
                        replace HR := Lib.hid (HR.out.over hb6 n4)
                        replace HP := Lib.hid (HP.out.over hb6 n5)
                        replace HB := Lib.hid (HB.out.trans (hb6.mono HB.out.size))
                        clear KQ hb6 n4 n5 n6 HO
                        obtain ⟨p0, p1, p2, p3, p4, p5⟩ := HP.out.cells
                        simp only at p0 p1 p2 p3 p4 p5
                        have pf4 := HP.out.free 4
                        obtain ⟨z0, z1, z2, z3, z4, z5⟩ := HR.out.cells
                        simp only [kindP] at z0 z1 z2 z3 z4 z5
                        have f0 := HR.out.free 0
                        have f1 := HR.out.free 1
                        have f2 := HR.out.free 2
                        have f3 := HR.out.free 3
                        have f4 := HR.out.free 4
                        have f5 := HR.out.free 5
                        go_wp2
                        (try simp only [Exit.inBlock, Exit.then])
                        have hq7 := (HR.out.set (g := B1) (j := 4) n1 (.string val)).put ⟨3, ⟨#[]⟩, ⟨#[]⟩, key, val, 0⟩
                        have hq8 := below_put (HB.out.setCell (p := ⟨B1, 4, none⟩) (Nat.le_of_lt n3) (.string val)) (Nat.le_refl w.heap.size) ⟨3, ⟨#[]⟩, ⟨#[]⟩, key, val, 0⟩
                        try simp only at hq7 hq8
                        refine bodyPost_ret (results_cell1 rfl _ _ w.heap.size 35 _ (0, 0) _ rfl hq7 Tryz.underlying35 rfl (by kernel_rfl)) rfl ⟨?_, hq8⟩
                        rw [HF2.out]; rfl
                    · have q34 : ((rest[0].toNat : Int) == 34) = false := byte_noE (d := 34) h34
                      have HF : Hid (r = if (bareE rest).2 then (⟨3, ⟨#[]⟩, ⟨#[]⟩, key, (bareE rest).1, 0⟩, 1) else (kindP 4, 1)) := by unfold Hid; rw [HFV.out, hqv]; simp [h39, h34]
                      clear HFV hqv h39 h34
                      have hbz := bareE_size rest
                      have KB := Lib.hid (fun w => bareE_spec rest w (by omega))
                      have HFB : Hid (r = if (bareE rest).2 then (⟨3, ⟨#[]⟩, ⟨#[]⟩, key, (bareE rest).1, 0⟩, 1) else (kindP 4, 1)) := HF.out
                      generalize bareE rest = be at *
                      obtain ⟨val, bok⟩ := be
                      simp only at KB HFB
                      clear HF KQ
                      cases bok
                      · have HF2 : Hid (r = (kindP 4, 1)) := HFB.out
                        clear HFB
                        go_wp2_with fail
                        refine (KB.out _).mono ?_
                        rintro e w6 ⟨rfl, rfl⟩
                        obtain ⟨o0, o1, o2, o3, o4, o5⟩ := HO.out.cells
                        simp only [kindP] at o0 o1 o2 o3 o4 o5
                        obtain ⟨z0, z1, z2, z3, z4, z5⟩ := HR.out.cells
                        simp only [kindP] at z0 z1 z2 z3 z4 z5
                        have f0 := HR.out.free 0
                        have f1 := HR.out.free 1
                        have f2 := HR.out.free 2
                        have f3 := HR.out.free 3
                        have f4 := HR.out.free 4
                        have f5 := HR.out.free 5
                        go_wp2
                        (try simp only [Exit.inBlock, Exit.then])
                        have hq7 := HR.out.put (kindP 4)
                        have hq8 := below_put HB.out (Nat.le_refl w.heap.size) (kindP 4)
                        try simp only [kindP] at hq7 hq8
                        refine bodyPost_ret (results_cell1 rfl _ _ w.heap.size 35 _ (0, 0) _ rfl hq7 Tryz.underlying35 rfl (by kernel_rfl)) rfl ⟨?_, hq8⟩
                        rw [HF2.out]; rfl
                      · have HF2 : Hid (r = (⟨3, ⟨#[]⟩, ⟨#[]⟩, key, val, 0⟩, 1)) := HFB.out
                        clear HFB
                        go_wp2_with fail
                        refine (KB.out _).mono ?_
                        rintro e w6 ⟨rfl, rfl⟩
                        obtain ⟨p0, p1, p2, p3, p4, p5⟩ := HP.out.cells
                        simp only at p0 p1 p2 p3 p4 p5
                        have pf4 := HP.out.free 4
                        obtain ⟨z0, z1, z2, z3, z4, z5⟩ := HR.out.cells
                        simp only [kindP] at z0 z1 z2 z3 z4 z5
                        have f0 := HR.out.free 0
                        have f1 := HR.out.free 1
                        have f2 := HR.out.free 2
                        have f3 := HR.out.free 3
                        have f4 := HR.out.free 4
                        have f5 := HR.out.free 5
                        go_wp2
                        (try simp only [Exit.inBlock, Exit.then])
                        have hq7 := (HR.out.set (g := B1) (j := 4) n1 (.string val)).put ⟨3, ⟨#[]⟩, ⟨#[]⟩, key, val, 0⟩
                        have hq8 := below_put (HB.out.setCell (p := ⟨B1, 4, none⟩) (Nat.le_of_lt n3) (.string val)) (Nat.le_refl w.heap.size) ⟨3, ⟨#[]⟩, ⟨#[]⟩, key, val, 0⟩
                        try simp only at hq7 hq8
                        refine bodyPost_ret (results_cell1 rfl _ _ w.heap.size 35 _ (0, 0) _ rfl hq7 Tryz.underlying35 rfl (by kernel_rfl)) rfl ⟨?_, hq8⟩
                        rw [HF2.out]; rfl
          · have KL2 := Lib.hid (fun w => leadE_spec (t1.extract 6 t1.size) w (by rw [ByteArray.size_extract]; omega))
            have hz2 := leadE_size (t1.extract 6 t1.size)
            rw [ByteArray.size_extract] at hz2
            have HFY : Hid (r = lineE (leadE (t1.extract 6 t1.size)) le ld) := by unfold Hid; rw [HFX.out, hxv]; simp
            clear HFX hxv
            generalize leadE (t1.extract 6 t1.size) = y at *
            go_wp2_with fail
            refine (KBL.out _).mono ?_
            rintro e w1 ⟨rfl, rfl⟩
            clear KBL
            go_wp2_with fail
            refine (KL2.out _).mono ?_
            rintro e w1 ⟨rfl, rfl⟩
            have hyz : y.size ≤ t1.size := by omega
            clear KL2 hz2
            have KCUT := Lib.hid (fun w => cutAt_spec y ⟨#[61]⟩ w (by omega) (by decide))
            rw [restO_res] at KCUT
            have hro := restO_size y
            have HFL : Hid (r = if (restO y).2.2 = true ∧ nameB (trimE (restO y).1) = true then valE (trimE (restO y).1) (leadE (restO y).2.1) le ld else (kindP 4, 1)) := HFY.out
            generalize restO y = ro at *
            obtain ⟨ra, rb, ok⟩ := ro
            simp only at KCUT HFL hro
            have KLD := Lib.hid (fun w => leadE_spec rb w (by omega))
            have KTR := Lib.hid (fun w => trimE_spec ra w (by omega))
            have hl2 := leadE_size rb
            have ht2 := trimE_size ra
            generalize leadE rb = rest at *
            generalize trimE ra = key at *
            have KN := Lib.hid (fun w => nameOk_spec key w (by omega))
            have KQ := Lib.hid (fun (W : World) (hW : Below w.heap.size w W) => quoteE_spec W (.slice (some ⟨g, o, none⟩) l.length cap) g o l at_ rest (CU.out.below hW (fun _ => hgw)) (by omega) hat (by omega))
            rw [hle, hld] at KQ
            have hrz : rest.size ≤ 1048576 := by omega
            clear HFY hro hl2 ht2
            go_wp2_with fail
            refine (KCUT.out _).mono ?_
            rintro e w1 ⟨rfl, nd, rfl⟩
            have hbn : Below W0.heap.size W0 (W0.drewN nd) := _root_.Go.below_drewN (Below.refl _ _) nd
            have HR1 := Lib.hid (HR0.out.over hbn hw0)
            have hb1 := hb0.trans (hbn.mono hb0.size)
            have hw1 := Nat.lt_of_lt_of_le hw0 hbn.size
            clear HR0 hb0 hw0 hbn KCUT
            generalize W0.drewN nd = W1 at *
            go_wp2_with fail
            refine (KLD.out _).mono ?_
            rintro e w2 ⟨rfl, rfl⟩
            clear KLD
            go_wp2_with fail
            refine (KTR.out _).mono ?_
            rintro e w2 ⟨rfl, rfl⟩
            clear KTR
            have hba := ((Below.refl W1.heap.size W1).alloc (Nat.le_refl _) (.cells #[.int .i64 3, .string ⟨#[]⟩, .string ⟨#[]⟩, .string key, .string ⟨#[]⟩, .int .i64 0] 35)).alloc (by simp) (.cells #[.int .i64 4, .string ⟨#[]⟩, .string ⟨#[]⟩, .string ⟨#[]⟩, .string ⟨#[]⟩, .int .i64 0] 35)
            have HR := Lib.hid (HR1.out.over hba hw1)
            have HP : Hid (RecIn ((W1.alloc (.cells #[.int .i64 3, .string ⟨#[]⟩, .string ⟨#[]⟩, .string key, .string ⟨#[]⟩, .int .i64 0] 35)).alloc (.cells #[.int .i64 4, .string ⟨#[]⟩, .string ⟨#[]⟩, .string ⟨#[]⟩, .string ⟨#[]⟩, .int .i64 0] 35)) W1.heap.size ⟨3, ⟨#[]⟩, ⟨#[]⟩, key, ⟨#[]⟩, 0⟩) := RecIn.over (show RecIn (W1.alloc (.cells #[.int .i64 3, .string ⟨#[]⟩, .string ⟨#[]⟩, .string key, .string ⟨#[]⟩, .int .i64 0] 35)) W1.heap.size ⟨3, ⟨#[]⟩, ⟨#[]⟩, key, ⟨#[]⟩, 0⟩ from heap_alloc_new _ _) ((Below.refl (W1.alloc (.cells #[.int .i64 3, .string ⟨#[]⟩, .string ⟨#[]⟩, .string key, .string ⟨#[]⟩, .int .i64 0] 35)).heap.size _).alloc (Nat.le_refl _) (.cells #[.int .i64 4, .string ⟨#[]⟩, .string ⟨#[]⟩, .string ⟨#[]⟩, .string ⟨#[]⟩, .int .i64 0] 35)) (by simp)
            have HO : Hid (RecIn ((W1.alloc (.cells #[.int .i64 3, .string ⟨#[]⟩, .string ⟨#[]⟩, .string key, .string ⟨#[]⟩, .int .i64 0] 35)).alloc (.cells #[.int .i64 4, .string ⟨#[]⟩, .string ⟨#[]⟩, .string ⟨#[]⟩, .string ⟨#[]⟩, .int .i64 0] 35)) (W1.heap.size + 1) (kindP 4)) := by
              have := heap_alloc_new (W1.alloc (.cells #[.int .i64 3, .string ⟨#[]⟩, .string ⟨#[]⟩, .string key, .string ⟨#[]⟩, .int .i64 0] 35)) (.cells #[.int .i64 4, .string ⟨#[]⟩, .string ⟨#[]⟩, .string ⟨#[]⟩, .string ⟨#[]⟩, .int .i64 0] 35)
              rw [World.size_alloc] at this
              exact this
            have HB := Lib.hid (hb1.trans (hba.mono hb1.size))
            have n1 : w.heap.size ≠ W1.heap.size := by omega
            have n2 : W1.heap.size ≠ w.heap.size := by omega
            have n3 : w.heap.size < W1.heap.size := hw1
            have n4 : w.heap.size < ((W1.alloc (.cells #[.int .i64 3, .string ⟨#[]⟩, .string ⟨#[]⟩, .string key, .string ⟨#[]⟩, .int .i64 0] 35)).alloc (.cells #[.int .i64 4, .string ⟨#[]⟩, .string ⟨#[]⟩, .string ⟨#[]⟩, .string ⟨#[]⟩, .int .i64 0] 35)).heap.size := by simp; omega
            have n5 : W1.heap.size < ((W1.alloc (.cells #[.int .i64 3, .string ⟨#[]⟩, .string ⟨#[]⟩, .string key, .string ⟨#[]⟩, .int .i64 0] 35)).alloc (.cells #[.int .i64 4, .string ⟨#[]⟩, .string ⟨#[]⟩, .string ⟨#[]⟩, .string ⟨#[]⟩, .int .i64 0] 35)).heap.size := by simp; omega
            have n6 : W1.heap.size + 1 < ((W1.alloc (.cells #[.int .i64 3, .string ⟨#[]⟩, .string ⟨#[]⟩, .string key, .string ⟨#[]⟩, .int .i64 0] 35)).alloc (.cells #[.int .i64 4, .string ⟨#[]⟩, .string ⟨#[]⟩, .string ⟨#[]⟩, .string ⟨#[]⟩, .int .i64 0] 35)).heap.size := by simp
            have n7 : w.heap.size ≠ W1.heap.size + 1 := by omega
            have n8 : W1.heap.size + 1 ≠ w.heap.size := by omega
            clear hba hw1
            cases ok
            · have HF2 : Hid (r = (kindP 4, 1)) := by unfold Hid; rw [HFL.out, if_neg (by simp)]
              clear HFL KQ KN HP n4 n5 n6
              obtain ⟨zz0, zz1, zz2, zz3, zz4, zz5⟩ := HR1.out.cells
              simp only [kindP] at zz0 zz1 zz2 zz3 zz4 zz5
              have ff0 := HR1.out.free 0
              have ff1 := HR1.out.free 1
              have ff2 := HR1.out.free 2
              have ff3 := HR1.out.free 3
              have ff4 := HR1.out.free 4
              have ff5 := HR1.out.free 5
              obtain ⟨o0, o1, o2, o3, o4, o5⟩ := HO.out.cells
              simp only [kindP] at o0 o1 o2 o3 o4 o5
              obtain ⟨z0, z1, z2, z3, z4, z5⟩ := HR.out.cells
              simp only [kindP] at z0 z1 z2 z3 z4 z5
              have f0 := HR.out.free 0
              have f1 := HR.out.free 1
              have f2 := HR.out.free 2
              have f3 := HR.out.free 3
              have f4 := HR.out.free 4
              have f5 := HR.out.free 5
              go_wp2
              (try simp only [Exit.inBlock, Exit.then])
              have hq0 := HR1.out.put (kindP 4)
              have hp0 := below_put hb1 (Nat.le_refl w.heap.size) (kindP 4)
              have hlt0 := (Array.getElem?_eq_some_iff.1 hq0).1
              have hq8 := (hp0.alloc hp0.size (.cells #[.int .i64 3, .string ⟨#[]⟩, .string ⟨#[]⟩, .string key, .string ⟨#[]⟩, .int .i64 0] 35)).alloc (by have := hp0.size; rw [World.size_alloc]; omega) (.cells #[.int .i64 4, .string ⟨#[]⟩, .string ⟨#[]⟩, .string ⟨#[]⟩, .string ⟨#[]⟩, .int .i64 0] 35)
              have hq7 := hq0.over (((Below.refl _ _).alloc (Nat.le_refl _) (.cells #[.int .i64 3, .string ⟨#[]⟩, .string ⟨#[]⟩, .string key, .string ⟨#[]⟩, .int .i64 0] 35)).alloc (by rw [World.size_alloc]; omega) (.cells #[.int .i64 4, .string ⟨#[]⟩, .string ⟨#[]⟩, .string ⟨#[]⟩, .string ⟨#[]⟩, .int .i64 0] 35)) hlt0
              try simp only [kindP] at hq7 hq8
              refine bodyPost_ret (results_cell1 rfl _ _ w.heap.size 35 _ (0, 0) _ rfl hq7 Tryz.underlying35 rfl (by kernel_rfl)) rfl ⟨?_, hq8⟩
              rw [HF2.out]; rfl
            · clear HR1 hb1
              have p3 := HP.out.cells.2.2.2.1
              simp only at p3
              have HFN : Hid (r = if nameB key = true then valE key rest le ld else (kindP 4, 1)) := by unfold Hid; rw [HFL.out]; simp
              clear HFL
              go_wp2_with fail
              clear p3
              generalize (W1.alloc (.cells #[.int .i64 3, .string ⟨#[]⟩, .string ⟨#[]⟩, .string key, .string ⟨#[]⟩, .int .i64 0] 35)).alloc (.cells #[.int .i64 4, .string ⟨#[]⟩, .string ⟨#[]⟩, .string ⟨#[]⟩, .string ⟨#[]⟩, .int .i64 0] 35) = W3 at *
              generalize W1.heap.size = B1 at *
              refine (KN.out _).mono ?_
              rintro e w4 ⟨rfl, hb4⟩
              replace HR := Lib.hid (HR.out.over hb4 n4)
              replace HP := Lib.hid (HP.out.over hb4 n5)
              replace HO := Lib.hid (HO.out.over hb4 n6)
              replace HB := Lib.hid (HB.out.trans (hb4.mono HB.out.size))
              replace n4 := Nat.lt_of_lt_of_le n4 hb4.size
              replace n5 := Nat.lt_of_lt_of_le n5 hb4.size
              replace n6 := Nat.lt_of_lt_of_le n6 hb4.size
              clear hb4 KN
              generalize nameB key = nk at *
              cases nk
              · have HF2 : Hid (r = (kindP 4, 1)) := HFN.out
                clear HFN KQ HP n4 n5 n6
                obtain ⟨o0, o1, o2, o3, o4, o5⟩ := HO.out.cells
                simp only [kindP] at o0 o1 o2 o3 o4 o5
                obtain ⟨z0, z1, z2, z3, z4, z5⟩ := HR.out.cells
                simp only [kindP] at z0 z1 z2 z3 z4 z5
                have f0 := HR.out.free 0
                have f1 := HR.out.free 1
                have f2 := HR.out.free 2
                have f3 := HR.out.free 3
                have f4 := HR.out.free 4
                have f5 := HR.out.free 5
                go_wp2
                (try simp only [Exit.inBlock, Exit.then])
                have hq7 := HR.out.put (kindP 4)
                have hq8 := below_put HB.out (Nat.le_refl w.heap.size) (kindP 4)
                try simp only [kindP] at hq7 hq8
                refine bodyPost_ret (results_cell1 rfl _ _ w.heap.size 35 _ (0, 0) _ rfl hq7 Tryz.underlying35 rfl (by kernel_rfl)) rfl ⟨?_, hq8⟩
                rw [HF2.out]; rfl
              · have HFV : Hid (r = valE key rest le ld) := HFN.out
                clear HFN
                unfold valE at HFV
                by_cases hr0 : rest.size = 0
                · obtain ⟨e1, e2⟩ := text_noneE rest hr0
                  have hqb : quotedB rest = false := by unfold quotedB; rw [dif_neg (by omega)]
                  have HF : Hid (r = if (bareE rest).2 then (⟨3, ⟨#[]⟩, ⟨#[]⟩, key, (bareE rest).1, 0⟩, 1) else (kindP 4, 1)) := by unfold Hid; rw [HFV.out, hqb]; rfl
                  clear HFV hqb hr0
                  have hbz := bareE_size rest
                  have KB := Lib.hid (fun w => bareE_spec rest w (by omega))
                  have HFB : Hid (r = if (bareE rest).2 then (⟨3, ⟨#[]⟩, ⟨#[]⟩, key, (bareE rest).1, 0⟩, 1) else (kindP 4, 1)) := HF.out
                  generalize bareE rest = be at *
                  obtain ⟨val, bok⟩ := be
                  simp only at KB HFB
                  clear HF KQ
                  cases bok
                  · have HF2 : Hid (r = (kindP 4, 1)) := HFB.out
                    clear HFB
                    go_wp2_with fail
                    refine (KB.out _).mono ?_
                    rintro e w6 ⟨rfl, rfl⟩
                    obtain ⟨o0, o1, o2, o3, o4, o5⟩ := HO.out.cells
                    simp only [kindP] at o0 o1 o2 o3 o4 o5
                    obtain ⟨z0, z1, z2, z3, z4, z5⟩ := HR.out.cells
                    simp only [kindP] at z0 z1 z2 z3 z4 z5
                    have f0 := HR.out.free 0
                    have f1 := HR.out.free 1
                    have f2 := HR.out.free 2
                    have f3 := HR.out.free 3
                    have f4 := HR.out.free 4
                    have f5 := HR.out.free 5
                    go_wp2
                    (try simp only [Exit.inBlock, Exit.then])
                    have hq7 := HR.out.put (kindP 4)
                    have hq8 := below_put HB.out (Nat.le_refl w.heap.size) (kindP 4)
                    try simp only [kindP] at hq7 hq8
                    refine bodyPost_ret (results_cell1 rfl _ _ w.heap.size 35 _ (0, 0) _ rfl hq7 Tryz.underlying35 rfl (by kernel_rfl)) rfl ⟨?_, hq8⟩
                    rw [HF2.out]; rfl
                  · have HF2 : Hid (r = (⟨3, ⟨#[]⟩, ⟨#[]⟩, key, val, 0⟩, 1)) := HFB.out
                    clear HFB
                    go_wp2_with fail
                    refine (KB.out _).mono ?_
                    rintro e w6 ⟨rfl, rfl⟩
                    obtain ⟨p0, p1, p2, p3, p4, p5⟩ := HP.out.cells
                    simp only at p0 p1 p2 p3 p4 p5
                    have pf4 := HP.out.free 4
                    obtain ⟨z0, z1, z2, z3, z4, z5⟩ := HR.out.cells
                    simp only [kindP] at z0 z1 z2 z3 z4 z5
                    have f0 := HR.out.free 0
                    have f1 := HR.out.free 1
                    have f2 := HR.out.free 2
                    have f3 := HR.out.free 3
                    have f4 := HR.out.free 4
                    have f5 := HR.out.free 5
                    go_wp2
                    (try simp only [Exit.inBlock, Exit.then])
                    have hq7 := (HR.out.set (g := B1) (j := 4) n1 (.string val)).put ⟨3, ⟨#[]⟩, ⟨#[]⟩, key, val, 0⟩
                    have hq8 := below_put (HB.out.setCell (p := ⟨B1, 4, none⟩) (Nat.le_of_lt n3) (.string val)) (Nat.le_refl w.heap.size) ⟨3, ⟨#[]⟩, ⟨#[]⟩, key, val, 0⟩
                    try simp only at hq7 hq8
                    refine bodyPost_ret (results_cell1 rfl _ _ w.heap.size 35 _ (0, 0) _ rfl hq7 Tryz.underlying35 rfl (by kernel_rfl)) rfl ⟨?_, hq8⟩
                    rw [HF2.out]; rfl
                · obtain ⟨e1, e2⟩ := text_someE rest (by omega)
                  have hr1 : 0 < rest.size := by omega
                  have hrzi : (0 : Int) < (rest.size : Int) := by omega
                  have hqv : quotedB rest = (rest[0] == 39 || rest[0] == 34) := by unfold quotedB; rw [dif_pos hr1]
                  by_cases h39 : rest[0] = 39
                  · have q39 : ((rest[0].toNat : Int) == 39) = true := byte_isE (d := 39) h39
                    have HF : Hid (r = if (quoteE rest le ld).2 = 0 then (kindP 4, 1) else (⟨3, ⟨#[]⟩, ⟨#[]⟩, key, (quoteE rest le ld).1, 0⟩, (quoteE rest le ld).2)) := by unfold Hid; rw [HFV.out, hqv, h39]; rfl
                    clear HFV hqv h39
                    have HFB : Hid (r = if (quoteE rest le ld).2 = 0 then (kindP 4, 1) else (⟨3, ⟨#[]⟩, ⟨#[]⟩, key, (quoteE rest le ld).1, 0⟩, (quoteE rest le ld).2)) := HF.out
                    generalize quoteE rest le ld = qe at *
                    obtain ⟨val, cnt⟩ := qe
                    simp only at KQ HFB
                    clear HF
                    by_cases hcnt : cnt = 0
                    · have HF2 : Hid (r = (kindP 4, 1)) := by unfold Hid; rw [HFB.out, if_pos hcnt]
                      have hcz : ((cnt : Int) == 0) = true := by rw [beq_iff_eq]; omega
                      clear HFB hcnt
                      go_wp2_with fail
                      refine (KQ.out _ HB.out).mono ?_
                      rintro e w6 ⟨rfl, hb6⟩
                      replace HR := Lib.hid (HR.out.over hb6 n4)
                      replace HO := Lib.hid (HO.out.over hb6 n6)
                      replace HB := Lib.hid (HB.out.trans (hb6.mono HB.out.size))
                      clear KQ hb6 n4 n5 n6 HP
                      obtain ⟨o0, o1, o2, o3, o4, o5⟩ := HO.out.cells
                      simp only [kindP] at o0 o1 o2 o3 o4 o5
                      obtain ⟨z0, z1, z2, z3, z4, z5⟩ := HR.out.cells
                      simp only [kindP] at z0 z1 z2 z3 z4 z5
                      have f0 := HR.out.free 0
                      have f1 := HR.out.free 1
                      have f2 := HR.out.free 2
                      have f3 := HR.out.free 3
                      have f4 := HR.out.free 4
                      have f5 := HR.out.free 5
                      go_wp2
                      (try simp only [Exit.inBlock, Exit.then])
                      have hq7 := HR.out.put (kindP 4)
                      have hq8 := below_put HB.out (Nat.le_refl w.heap.size) (kindP 4)
                      try simp only [kindP] at hq7 hq8
                      refine bodyPost_ret (results_cell1 rfl _ _ w.heap.size 35 _ (0, 0) _ rfl hq7 Tryz.underlying35 rfl (by kernel_rfl)) rfl ⟨?_, hq8⟩
                      rw [HF2.out]; rfl
                    · have HF2 : Hid (r = (⟨3, ⟨#[]⟩, ⟨#[]⟩, key, val, 0⟩, cnt)) := by unfold Hid; rw [HFB.out, if_neg hcnt]
                      have hcz : ((cnt : Int) == 0) = false := by rw [beq_eq_false_iff_ne]; omega
                      clear HFB hcnt
                      go_wp2_with fail
                      refine (KQ.out _ HB.out).mono ?_
                      rintro e w6 ⟨rfl, hb6⟩
                      replace HR := Lib.hid (HR.out.over hb6 n4)
                      replace HP := Lib.hid (HP.out.over hb6 n5)
                      replace HB := Lib.hid (HB.out.trans (hb6.mono HB.out.size))
                      clear KQ hb6 n4 n5 n6 HO
                      obtain ⟨p0, p1, p2, p3, p4, p5⟩ := HP.out.cells
                      simp only at p0 p1 p2 p3 p4 p5
                      have pf4 := HP.out.free 4
                      obtain ⟨z0, z1, z2, z3, z4, z5⟩ := HR.out.cells
                      simp only [kindP] at z0 z1 z2 z3 z4 z5
                      have f0 := HR.out.free 0
                      have f1 := HR.out.free 1
                      have f2 := HR.out.free 2
                      have f3 := HR.out.free 3
                      have f4 := HR.out.free 4
                      have f5 := HR.out.free 5
                      go_wp2
                      (try simp only [Exit.inBlock, Exit.then])
                      have hq7 := (HR.out.set (g := B1) (j := 4) n1 (.string val)).put ⟨3, ⟨#[]⟩, ⟨#[]⟩, key, val, 0⟩
                      have hq8 := below_put (HB.out.setCell (p := ⟨B1, 4, none⟩) (Nat.le_of_lt n3) (.string val)) (Nat.le_refl w.heap.size) ⟨3, ⟨#[]⟩, ⟨#[]⟩, key, val, 0⟩
                      try simp only at hq7 hq8
                      refine bodyPost_ret (results_cell1 rfl _ _ w.heap.size 35 _ (0, 0) _ rfl hq7 Tryz.underlying35 rfl (by kernel_rfl)) rfl ⟨?_, hq8⟩
                      rw [HF2.out]; rfl
                  · have q39 : ((rest[0].toNat : Int) == 39) = false := byte_noE (d := 39) h39
                    by_cases h34 : rest[0] = 34
                    · have q34 : ((rest[0].toNat : Int) == 34) = true := byte_isE (d := 34) h34
                      have HF : Hid (r = if (quoteE rest le ld).2 = 0 then (kindP 4, 1) else (⟨3, ⟨#[]⟩, ⟨#[]⟩, key, (quoteE rest le ld).1, 0⟩, (quoteE rest le ld).2)) := by unfold Hid; rw [HFV.out, hqv, h34]; rfl
                      clear HFV hqv h39 h34
                      have HFB : Hid (r = if (quoteE rest le ld).2 = 0 then (kindP 4, 1) else (⟨3, ⟨#[]⟩, ⟨#[]⟩, key, (quoteE rest le ld).1, 0⟩, (quoteE rest le ld).2)) := HF.out
                      generalize quoteE rest le ld = qe at *
                      obtain ⟨val, cnt⟩ := qe
                      simp only at KQ HFB
                      clear HF
                      by_cases hcnt : cnt = 0
                      · have HF2 : Hid (r = (kindP 4, 1)) := by unfold Hid; rw [HFB.out, if_pos hcnt]
                        have hcz : ((cnt : Int) == 0) = true := by rw [beq_iff_eq]; omega
                        clear HFB hcnt
                        go_wp2_with fail
                        refine (KQ.out _ HB.out).mono ?_
                        rintro e w6 ⟨rfl, hb6⟩
                        replace HR := Lib.hid (HR.out.over hb6 n4)
                        replace HO := Lib.hid (HO.out.over hb6 n6)
                        replace HB := Lib.hid (HB.out.trans (hb6.mono HB.out.size))
                        clear KQ hb6 n4 n5 n6 HP
                        obtain ⟨o0, o1, o2, o3, o4, o5⟩ := HO.out.cells
                        simp only [kindP] at o0 o1 o2 o3 o4 o5
                        obtain ⟨z0, z1, z2, z3, z4, z5⟩ := HR.out.cells
                        simp only [kindP] at z0 z1 z2 z3 z4 z5
                        have f0 := HR.out.free 0
                        have f1 := HR.out.free 1
                        have f2 := HR.out.free 2
                        have f3 := HR.out.free 3
                        have f4 := HR.out.free 4
                        have f5 := HR.out.free 5
                        go_wp2
                        (try simp only [Exit.inBlock, Exit.then])
                        have hq7 := HR.out.put (kindP 4)
                        have hq8 := below_put HB.out (Nat.le_refl w.heap.size) (kindP 4)
                        try simp only [kindP] at hq7 hq8
                        refine bodyPost_ret (results_cell1 rfl _ _ w.heap.size 35 _ (0, 0) _ rfl hq7 Tryz.underlying35 rfl (by kernel_rfl)) rfl ⟨?_, hq8⟩
                        rw [HF2.out]; rfl
                      · have HF2 : Hid (r = (⟨3, ⟨#[]⟩, ⟨#[]⟩, key, val, 0⟩, cnt)) := by unfold Hid; rw [HFB.out, if_neg hcnt]
                        have hcz : ((cnt : Int) == 0) = false := by rw [beq_eq_false_iff_ne]; omega
                        clear HFB hcnt
                        go_wp2_with fail
                        refine (KQ.out _ HB.out).mono ?_
                        rintro e w6 ⟨rfl, hb6⟩
                        replace HR := Lib.hid (HR.out.over hb6 n4)
                        replace HP := Lib.hid (HP.out.over hb6 n5)
                        replace HB := Lib.hid (HB.out.trans (hb6.mono HB.out.size))
                        clear KQ hb6 n4 n5 n6 HO
                        obtain ⟨p0, p1, p2, p3, p4, p5⟩ := HP.out.cells
                        simp only at p0 p1 p2 p3 p4 p5
                        have pf4 := HP.out.free 4
                        obtain ⟨z0, z1, z2, z3, z4, z5⟩ := HR.out.cells
                        simp only [kindP] at z0 z1 z2 z3 z4 z5
                        have f0 := HR.out.free 0
                        have f1 := HR.out.free 1
                        have f2 := HR.out.free 2
                        have f3 := HR.out.free 3
                        have f4 := HR.out.free 4
                        have f5 := HR.out.free 5
                        go_wp2
                        (try simp only [Exit.inBlock, Exit.then])
                        have hq7 := (HR.out.set (g := B1) (j := 4) n1 (.string val)).put ⟨3, ⟨#[]⟩, ⟨#[]⟩, key, val, 0⟩
                        have hq8 := below_put (HB.out.setCell (p := ⟨B1, 4, none⟩) (Nat.le_of_lt n3) (.string val)) (Nat.le_refl w.heap.size) ⟨3, ⟨#[]⟩, ⟨#[]⟩, key, val, 0⟩
                        try simp only at hq7 hq8
                        refine bodyPost_ret (results_cell1 rfl _ _ w.heap.size 35 _ (0, 0) _ rfl hq7 Tryz.underlying35 rfl (by kernel_rfl)) rfl ⟨?_, hq8⟩
                        rw [HF2.out]; rfl
                    · have q34 : ((rest[0].toNat : Int) == 34) = false := byte_noE (d := 34) h34
                      have HF : Hid (r = if (bareE rest).2 then (⟨3, ⟨#[]⟩, ⟨#[]⟩, key, (bareE rest).1, 0⟩, 1) else (kindP 4, 1)) := by unfold Hid; rw [HFV.out, hqv]; simp [h39, h34]
                      clear HFV hqv h39 h34
                      have hbz := bareE_size rest
                      have KB := Lib.hid (fun w => bareE_spec rest w (by omega))
                      have HFB : Hid (r = if (bareE rest).2 then (⟨3, ⟨#[]⟩, ⟨#[]⟩, key, (bareE rest).1, 0⟩, 1) else (kindP 4, 1)) := HF.out
                      generalize bareE rest = be at *
                      obtain ⟨val, bok⟩ := be
                      simp only at KB HFB
                      clear HF KQ
                      cases bok
                      · have HF2 : Hid (r = (kindP 4, 1)) := HFB.out
                        clear HFB
                        go_wp2_with fail
                        refine (KB.out _).mono ?_
                        rintro e w6 ⟨rfl, rfl⟩
                        obtain ⟨o0, o1, o2, o3, o4, o5⟩ := HO.out.cells
                        simp only [kindP] at o0 o1 o2 o3 o4 o5
                        obtain ⟨z0, z1, z2, z3, z4, z5⟩ := HR.out.cells
                        simp only [kindP] at z0 z1 z2 z3 z4 z5
                        have f0 := HR.out.free 0
                        have f1 := HR.out.free 1
                        have f2 := HR.out.free 2
                        have f3 := HR.out.free 3
                        have f4 := HR.out.free 4
                        have f5 := HR.out.free 5
                        go_wp2
                        (try simp only [Exit.inBlock, Exit.then])
                        have hq7 := HR.out.put (kindP 4)
                        have hq8 := below_put HB.out (Nat.le_refl w.heap.size) (kindP 4)
                        try simp only [kindP] at hq7 hq8
                        refine bodyPost_ret (results_cell1 rfl _ _ w.heap.size 35 _ (0, 0) _ rfl hq7 Tryz.underlying35 rfl (by kernel_rfl)) rfl ⟨?_, hq8⟩
                        rw [HF2.out]; rfl
                      · have HF2 : Hid (r = (⟨3, ⟨#[]⟩, ⟨#[]⟩, key, val, 0⟩, 1)) := HFB.out
                        clear HFB
                        go_wp2_with fail
                        refine (KB.out _).mono ?_
                        rintro e w6 ⟨rfl, rfl⟩
                        obtain ⟨p0, p1, p2, p3, p4, p5⟩ := HP.out.cells
                        simp only at p0 p1 p2 p3 p4 p5
                        have pf4 := HP.out.free 4
                        obtain ⟨z0, z1, z2, z3, z4, z5⟩ := HR.out.cells
                        simp only [kindP] at z0 z1 z2 z3 z4 z5
                        have f0 := HR.out.free 0
                        have f1 := HR.out.free 1
                        have f2 := HR.out.free 2
                        have f3 := HR.out.free 3
                        have f4 := HR.out.free 4
                        have f5 := HR.out.free 5
                        go_wp2
                        (try simp only [Exit.inBlock, Exit.then])
                        have hq7 := (HR.out.set (g := B1) (j := 4) n1 (.string val)).put ⟨3, ⟨#[]⟩, ⟨#[]⟩, key, val, 0⟩
                        have hq8 := below_put (HB.out.setCell (p := ⟨B1, 4, none⟩) (Nat.le_of_lt n3) (.string val)) (Nat.le_refl w.heap.size) ⟨3, ⟨#[]⟩, ⟨#[]⟩, key, val, 0⟩
                        try simp only at hq7 hq8
                        refine bodyPost_ret (results_cell1 rfl _ _ w.heap.size 35 _ (0, 0) _ rfl hq7 Tryz.underlying35 rfl (by kernel_rfl)) rfl ⟨?_, hq8⟩
                        rw [HF2.out]; rfl
        · have hexf : ((t1.extract 0 6).toList == [101, 120, 112, 111, 114, 116]) = false := by simpa using hex
          have HFY : Hid (r = lineE t1 le ld) := by
            unfold Hid
            rw [HFX.out, hxv, if_neg (fun h => hex h.1)]
          clear HFX hxv hex
          go_wp2_with fail
          generalize t1 = y at *
          have KCUT := Lib.hid (fun w => cutAt_spec y ⟨#[61]⟩ w (by omega) (by decide))
          rw [restO_res] at KCUT
          have hro := restO_size y
          have HFL : Hid (r = if (restO y).2.2 = true ∧ nameB (trimE (restO y).1) = true then valE (trimE (restO y).1) (leadE (restO y).2.1) le ld else (kindP 4, 1)) := HFY.out
          generalize restO y = ro at *
          obtain ⟨ra, rb, ok⟩ := ro
          simp only at KCUT HFL hro
          have KLD := Lib.hid (fun w => leadE_spec rb w (by omega))
          have KTR := Lib.hid (fun w => trimE_spec ra w (by omega))
          have hl2 := leadE_size rb
          have ht2 := trimE_size ra
          generalize leadE rb = rest at *
          generalize trimE ra = key at *
          have KN := Lib.hid (fun w => nameOk_spec key w (by omega))
          have KQ := Lib.hid (fun (W : World) (hW : Below w.heap.size w W) => quoteE_spec W (.slice (some ⟨g, o, none⟩) l.length cap) g o l at_ rest (CU.out.below hW (fun _ => hgw)) (by omega) hat (by omega))
          rw [hle, hld] at KQ
          have hrz : rest.size ≤ 1048576 := by omega
          clear HFY hro hl2 ht2
          go_wp2_with fail
          refine (KCUT.out _).mono ?_
          rintro e w1 ⟨rfl, nd, rfl⟩
          have hbn : Below W0.heap.size W0 (W0.drewN nd) := _root_.Go.below_drewN (Below.refl _ _) nd
          have HR1 := Lib.hid (HR0.out.over hbn hw0)
          have hb1 := hb0.trans (hbn.mono hb0.size)
          have hw1 := Nat.lt_of_lt_of_le hw0 hbn.size
          clear HR0 hb0 hw0 hbn KCUT
          generalize W0.drewN nd = W1 at *
          go_wp2_with fail
          refine (KLD.out _).mono ?_
          rintro e w2 ⟨rfl, rfl⟩
          clear KLD
          go_wp2_with fail
          refine (KTR.out _).mono ?_
          rintro e w2 ⟨rfl, rfl⟩
          clear KTR
          have hba := ((Below.refl W1.heap.size W1).alloc (Nat.le_refl _) (.cells #[.int .i64 3, .string ⟨#[]⟩, .string ⟨#[]⟩, .string key, .string ⟨#[]⟩, .int .i64 0] 35)).alloc (by simp) (.cells #[.int .i64 4, .string ⟨#[]⟩, .string ⟨#[]⟩, .string ⟨#[]⟩, .string ⟨#[]⟩, .int .i64 0] 35)
          have HR := Lib.hid (HR1.out.over hba hw1)
          have HP : Hid (RecIn ((W1.alloc (.cells #[.int .i64 3, .string ⟨#[]⟩, .string ⟨#[]⟩, .string key, .string ⟨#[]⟩, .int .i64 0] 35)).alloc (.cells #[.int .i64 4, .string ⟨#[]⟩, .string ⟨#[]⟩, .string ⟨#[]⟩, .string ⟨#[]⟩, .int .i64 0] 35)) W1.heap.size ⟨3, ⟨#[]⟩, ⟨#[]⟩, key, ⟨#[]⟩, 0⟩) := RecIn.over (show RecIn (W1.alloc (.cells #[.int .i64 3, .string ⟨#[]⟩, .string ⟨#[]⟩, .string key, .string ⟨#[]⟩, .int .i64 0] 35)) W1.heap.size ⟨3, ⟨#[]⟩, ⟨#[]⟩, key, ⟨#[]⟩, 0⟩ from heap_alloc_new _ _) ((Below.refl (W1.alloc (.cells #[.int .i64 3, .string ⟨#[]⟩, .string ⟨#[]⟩, .string key, .string ⟨#[]⟩, .int .i64 0] 35)).heap.size _).alloc (Nat.le_refl _) (.cells #[.int .i64 4, .string ⟨#[]⟩, .string ⟨#[]⟩, .string ⟨#[]⟩, .string ⟨#[]⟩, .int .i64 0] 35)) (by simp)
          have HO : Hid (RecIn ((W1.alloc (.cells #[.int .i64 3, .string ⟨#[]⟩, .string ⟨#[]⟩, .string key, .string ⟨#[]⟩, .int .i64 0] 35)).alloc (.cells #[.int .i64 4, .string ⟨#[]⟩, .string ⟨#[]⟩, .string ⟨#[]⟩, .string ⟨#[]⟩, .int .i64 0] 35)) (W1.heap.size + 1) (kindP 4)) := by
            have := heap_alloc_new (W1.alloc (.cells #[.int .i64 3, .string ⟨#[]⟩, .string ⟨#[]⟩, .string key, .string ⟨#[]⟩, .int .i64 0] 35)) (.cells #[.int .i64 4, .string ⟨#[]⟩, .string ⟨#[]⟩, .string ⟨#[]⟩, .string ⟨#[]⟩, .int .i64 0] 35)
            rw [World.size_alloc] at this
            exact this
          have HB := Lib.hid (hb1.trans (hba.mono hb1.size))
          have n1 : w.heap.size ≠ W1.heap.size := by omega
          have n2 : W1.heap.size ≠ w.heap.size := by omega
          have n3 : w.heap.size < W1.heap.size := hw1
          have n4 : w.heap.size < ((W1.alloc (.cells #[.int .i64 3, .string ⟨#[]⟩, .string ⟨#[]⟩, .string key, .string ⟨#[]⟩, .int .i64 0] 35)).alloc (.cells #[.int .i64 4, .string ⟨#[]⟩, .string ⟨#[]⟩, .string ⟨#[]⟩, .string ⟨#[]⟩, .int .i64 0] 35)).heap.size := by simp; omega
          have n5 : W1.heap.size < ((W1.alloc (.cells #[.int .i64 3, .string ⟨#[]⟩, .string ⟨#[]⟩, .string key, .string ⟨#[]⟩, .int .i64 0] 35)).alloc (.cells #[.int .i64 4, .string ⟨#[]⟩, .string ⟨#[]⟩, .string ⟨#[]⟩, .string ⟨#[]⟩, .int .i64 0] 35)).heap.size := by simp; omega
          have n6 : W1.heap.size + 1 < ((W1.alloc (.cells #[.int .i64 3, .string ⟨#[]⟩, .string ⟨#[]⟩, .string key, .string ⟨#[]⟩, .int .i64 0] 35)).alloc (.cells #[.int .i64 4, .string ⟨#[]⟩, .string ⟨#[]⟩, .string ⟨#[]⟩, .string ⟨#[]⟩, .int .i64 0] 35)).heap.size := by simp
          have n7 : w.heap.size ≠ W1.heap.size + 1 := by omega
          have n8 : W1.heap.size + 1 ≠ w.heap.size := by omega
          clear hba hw1
          cases ok
          · have HF2 : Hid (r = (kindP 4, 1)) := by unfold Hid; rw [HFL.out, if_neg (by simp)]
            clear HFL KQ KN HP n4 n5 n6
            obtain ⟨zz0, zz1, zz2, zz3, zz4, zz5⟩ := HR1.out.cells
            simp only [kindP] at zz0 zz1 zz2 zz3 zz4 zz5
            have ff0 := HR1.out.free 0
            have ff1 := HR1.out.free 1
            have ff2 := HR1.out.free 2
            have ff3 := HR1.out.free 3
            have ff4 := HR1.out.free 4
            have ff5 := HR1.out.free 5
            obtain ⟨o0, o1, o2, o3, o4, o5⟩ := HO.out.cells
            simp only [kindP] at o0 o1 o2 o3 o4 o5
            obtain ⟨z0, z1, z2, z3, z4, z5⟩ := HR.out.cells
            simp only [kindP] at z0 z1 z2 z3 z4 z5
            have f0 := HR.out.free 0
            have f1 := HR.out.free 1
            have f2 := HR.out.free 2
            have f3 := HR.out.free 3
            have f4 := HR.out.free 4
            have f5 := HR.out.free 5
            go_wp2
            (try simp only [Exit.inBlock, Exit.then])
            have hq0 := HR1.out.put (kindP 4)
            have hp0 := below_put hb1 (Nat.le_refl w.heap.size) (kindP 4)
            have hlt0 := (Array.getElem?_eq_some_iff.1 hq0).1
            have hq8 := (hp0.alloc hp0.size (.cells #[.int .i64 3, .string ⟨#[]⟩, .string ⟨#[]⟩, .string key, .string ⟨#[]⟩, .int .i64 0] 35)).alloc (by have := hp0.size; rw [World.size_alloc]; omega) (.cells #[.int .i64 4, .string ⟨#[]⟩, .string ⟨#[]⟩, .string ⟨#[]⟩, .string ⟨#[]⟩, .int .i64 0] 35)
            have hq7 := hq0.over (((Below.refl _ _).alloc (Nat.le_refl _) (.cells #[.int .i64 3, .string ⟨#[]⟩, .string ⟨#[]⟩, .string key, .string ⟨#[]⟩, .int .i64 0] 35)).alloc (by rw [World.size_alloc]; omega) (.cells #[.int .i64 4, .string ⟨#[]⟩, .string ⟨#[]⟩, .string ⟨#[]⟩, .string ⟨#[]⟩, .int .i64 0] 35)) hlt0
            try simp only [kindP] at hq7 hq8
            refine bodyPost_ret (results_cell1 rfl _ _ w.heap.size 35 _ (0, 0) _ rfl hq7 Tryz.underlying35 rfl (by kernel_rfl)) rfl ⟨?_, hq8⟩
            rw [HF2.out]; rfl
          · clear HR1 hb1
            have p3 := HP.out.cells.2.2.2.1
            simp only at p3
            have HFN : Hid (r = if nameB key = true then valE key rest le ld else (kindP 4, 1)) := by unfold Hid; rw [HFL.out]; simp
            clear HFL
            go_wp2_with fail
            clear p3
            generalize (W1.alloc (.cells #[.int .i64 3, .string ⟨#[]⟩, .string ⟨#[]⟩, .string key, .string ⟨#[]⟩, .int .i64 0] 35)).alloc (.cells #[.int .i64 4, .string ⟨#[]⟩, .string ⟨#[]⟩, .string ⟨#[]⟩, .string ⟨#[]⟩, .int .i64 0] 35) = W3 at *
            generalize W1.heap.size = B1 at *
            refine (KN.out _).mono ?_
            rintro e w4 ⟨rfl, hb4⟩
            replace HR := Lib.hid (HR.out.over hb4 n4)
            replace HP := Lib.hid (HP.out.over hb4 n5)
            replace HO := Lib.hid (HO.out.over hb4 n6)
            replace HB := Lib.hid (HB.out.trans (hb4.mono HB.out.size))
            replace n4 := Nat.lt_of_lt_of_le n4 hb4.size
            replace n5 := Nat.lt_of_lt_of_le n5 hb4.size
            replace n6 := Nat.lt_of_lt_of_le n6 hb4.size
            clear hb4 KN
            generalize nameB key = nk at *
            cases nk
            · have HF2 : Hid (r = (kindP 4, 1)) := HFN.out
              clear HFN KQ HP n4 n5 n6
              obtain ⟨o0, o1, o2, o3, o4, o5⟩ := HO.out.cells
              simp only [kindP] at o0 o1 o2 o3 o4 o5
              obtain ⟨z0, z1, z2, z3, z4, z5⟩ := HR.out.cells
              simp only [kindP] at z0 z1 z2 z3 z4 z5
              have f0 := HR.out.free 0
              have f1 := HR.out.free 1
              have f2 := HR.out.free 2
              have f3 := HR.out.free 3
              have f4 := HR.out.free 4
              have f5 := HR.out.free 5
              go_wp2
              (try simp only [Exit.inBlock, Exit.then])
              have hq7 := HR.out.put (kindP 4)
              have hq8 := below_put HB.out (Nat.le_refl w.heap.size) (kindP 4)
              try simp only [kindP] at hq7 hq8
              refine bodyPost_ret (results_cell1 rfl _ _ w.heap.size 35 _ (0, 0) _ rfl hq7 Tryz.underlying35 rfl (by kernel_rfl)) rfl ⟨?_, hq8⟩
              rw [HF2.out]; rfl
            · have HFV : Hid (r = valE key rest le ld) := HFN.out
              clear HFN
              unfold valE at HFV
              by_cases hr0 : rest.size = 0
              · obtain ⟨e1, e2⟩ := text_noneE rest hr0
                have hqb : quotedB rest = false := by unfold quotedB; rw [dif_neg (by omega)]
                have HF : Hid (r = if (bareE rest).2 then (⟨3, ⟨#[]⟩, ⟨#[]⟩, key, (bareE rest).1, 0⟩, 1) else (kindP 4, 1)) := by unfold Hid; rw [HFV.out, hqb]; rfl
                clear HFV hqb hr0
                have hbz := bareE_size rest
                have KB := Lib.hid (fun w => bareE_spec rest w (by omega))
                have HFB : Hid (r = if (bareE rest).2 then (⟨3, ⟨#[]⟩, ⟨#[]⟩, key, (bareE rest).1, 0⟩, 1) else (kindP 4, 1)) := HF.out
                generalize bareE rest = be at *
                obtain ⟨val, bok⟩ := be
                simp only at KB HFB
                clear HF KQ
                cases bok
                · have HF2 : Hid (r = (kindP 4, 1)) := HFB.out
                  clear HFB
                  go_wp2_with fail
                  refine (KB.out _).mono ?_
                  rintro e w6 ⟨rfl, rfl⟩
                  obtain ⟨o0, o1, o2, o3, o4, o5⟩ := HO.out.cells
                  simp only [kindP] at o0 o1 o2 o3 o4 o5
                  obtain ⟨z0, z1, z2, z3, z4, z5⟩ := HR.out.cells
                  simp only [kindP] at z0 z1 z2 z3 z4 z5
                  have f0 := HR.out.free 0
                  have f1 := HR.out.free 1
                  have f2 := HR.out.free 2
                  have f3 := HR.out.free 3
                  have f4 := HR.out.free 4
                  have f5 := HR.out.free 5
                  go_wp2
                  (try simp only [Exit.inBlock, Exit.then])
                  have hq7 := HR.out.put (kindP 4)
                  have hq8 := below_put HB.out (Nat.le_refl w.heap.size) (kindP 4)
                  try simp only [kindP] at hq7 hq8
                  refine bodyPost_ret (results_cell1 rfl _ _ w.heap.size 35 _ (0, 0) _ rfl hq7 Tryz.underlying35 rfl (by kernel_rfl)) rfl ⟨?_, hq8⟩
                  rw [HF2.out]; rfl
                · have HF2 : Hid (r = (⟨3, ⟨#[]⟩, ⟨#[]⟩, key, val, 0⟩, 1)) := HFB.out
                  clear HFB
                  go_wp2_with fail
                  refine (KB.out _).mono ?_
                  rintro e w6 ⟨rfl, rfl⟩
                  obtain ⟨p0, p1, p2, p3, p4, p5⟩ := HP.out.cells
                  simp only at p0 p1 p2 p3 p4 p5
                  have pf4 := HP.out.free 4
                  obtain ⟨z0, z1, z2, z3, z4, z5⟩ := HR.out.cells
                  simp only [kindP] at z0 z1 z2 z3 z4 z5
                  have f0 := HR.out.free 0
                  have f1 := HR.out.free 1
                  have f2 := HR.out.free 2
                  have f3 := HR.out.free 3
                  have f4 := HR.out.free 4
                  have f5 := HR.out.free 5
                  go_wp2
                  (try simp only [Exit.inBlock, Exit.then])
                  have hq7 := (HR.out.set (g := B1) (j := 4) n1 (.string val)).put ⟨3, ⟨#[]⟩, ⟨#[]⟩, key, val, 0⟩
                  have hq8 := below_put (HB.out.setCell (p := ⟨B1, 4, none⟩) (Nat.le_of_lt n3) (.string val)) (Nat.le_refl w.heap.size) ⟨3, ⟨#[]⟩, ⟨#[]⟩, key, val, 0⟩
                  try simp only at hq7 hq8
                  refine bodyPost_ret (results_cell1 rfl _ _ w.heap.size 35 _ (0, 0) _ rfl hq7 Tryz.underlying35 rfl (by kernel_rfl)) rfl ⟨?_, hq8⟩
                  rw [HF2.out]; rfl
              · obtain ⟨e1, e2⟩ := text_someE rest (by omega)
                have hr1 : 0 < rest.size := by omega
                have hrzi : (0 : Int) < (rest.size : Int) := by omega
                have hqv : quotedB rest = (rest[0] == 39 || rest[0] == 34) := by unfold quotedB; rw [dif_pos hr1]
                by_cases h39 : rest[0] = 39
                · have q39 : ((rest[0].toNat : Int) == 39) = true := byte_isE (d := 39) h39
                  have HF : Hid (r = if (quoteE rest le ld).2 = 0 then (kindP 4, 1) else (⟨3, ⟨#[]⟩, ⟨#[]⟩, key, (quoteE rest le ld).1, 0⟩, (quoteE rest le ld).2)) := by unfold Hid; rw [HFV.out, hqv, h39]; rfl
                  clear HFV hqv h39
                  have HFB : Hid (r = if (quoteE rest le ld).2 = 0 then (kindP 4, 1) else (⟨3, ⟨#[]⟩, ⟨#[]⟩, key, (quoteE rest le ld).1, 0⟩, (quoteE rest le ld).2)) := HF.out
                  generalize quoteE rest le ld = qe at *
                  obtain ⟨val, cnt⟩ := qe
                  simp only at KQ HFB
                  clear HF
                  by_cases hcnt : cnt = 0
                  · have HF2 : Hid (r = (kindP 4, 1)) := by unfold Hid; rw [HFB.out, if_pos hcnt]
                    have hcz : ((cnt : Int) == 0) = true := by rw [beq_iff_eq]; omega
                    clear HFB hcnt
                    go_wp2_with fail
                    refine (KQ.out _ HB.out).mono ?_
                    rintro e w6 ⟨rfl, hb6⟩
                    replace HR := Lib.hid (HR.out.over hb6 n4)
                    replace HO := Lib.hid (HO.out.over hb6 n6)
                    replace HB := Lib.hid (HB.out.trans (hb6.mono HB.out.size))
                    clear KQ hb6 n4 n5 n6 HP
                    obtain ⟨o0, o1, o2, o3, o4, o5⟩ := HO.out.cells
                    simp only [kindP] at o0 o1 o2 o3 o4 o5
                    obtain ⟨z0, z1, z2, z3, z4, z5⟩ := HR.out.cells
                    simp only [kindP] at z0 z1 z2 z3 z4 z5
                    have f0 := HR.out.free 0
                    have f1 := HR.out.free 1
                    have f2 := HR.out.free 2
                    have f3 := HR.out.free 3
                    have f4 := HR.out.free 4
                    have f5 := HR.out.free 5
                    go_wp2
                    (try simp only [Exit.inBlock, Exit.then])
                    have hq7 := HR.out.put (kindP 4)
                    have hq8 := below_put HB.out (Nat.le_refl w.heap.size) (kindP 4)
                    try simp only [kindP] at hq7 hq8
                    refine bodyPost_ret (results_cell1 rfl _ _ w.heap.size 35 _ (0, 0) _ rfl hq7 Tryz.underlying35 rfl (by kernel_rfl)) rfl ⟨?_, hq8⟩
                    rw [HF2.out]; rfl
                  · have HF2 : Hid (r = (⟨3, ⟨#[]⟩, ⟨#[]⟩, key, val, 0⟩, cnt)) := by unfold Hid; rw [HFB.out, if_neg hcnt]
                    have hcz : ((cnt : Int) == 0) = false := by rw [beq_eq_false_iff_ne]; omega
                    clear HFB hcnt
                    go_wp2_with fail
                    refine (KQ.out _ HB.out).mono ?_
                    rintro e w6 ⟨rfl, hb6⟩
                    replace HR := Lib.hid (HR.out.over hb6 n4)
                    replace HP := Lib.hid (HP.out.over hb6 n5)
                    replace HB := Lib.hid (HB.out.trans (hb6.mono HB.out.size))
                    clear KQ hb6 n4 n5 n6 HO
                    obtain ⟨p0, p1, p2, p3, p4, p5⟩ := HP.out.cells
                    simp only at p0 p1 p2 p3 p4 p5
                    have pf4 := HP.out.free 4
                    obtain ⟨z0, z1, z2, z3, z4, z5⟩ := HR.out.cells
                    simp only [kindP] at z0 z1 z2 z3 z4 z5
                    have f0 := HR.out.free 0
                    have f1 := HR.out.free 1
                    have f2 := HR.out.free 2
                    have f3 := HR.out.free 3
                    have f4 := HR.out.free 4
                    have f5 := HR.out.free 5
                    go_wp2
                    (try simp only [Exit.inBlock, Exit.then])
                    have hq7 := (HR.out.set (g := B1) (j := 4) n1 (.string val)).put ⟨3, ⟨#[]⟩, ⟨#[]⟩, key, val, 0⟩
                    have hq8 := below_put (HB.out.setCell (p := ⟨B1, 4, none⟩) (Nat.le_of_lt n3) (.string val)) (Nat.le_refl w.heap.size) ⟨3, ⟨#[]⟩, ⟨#[]⟩, key, val, 0⟩
                    try simp only at hq7 hq8
                    refine bodyPost_ret (results_cell1 rfl _ _ w.heap.size 35 _ (0, 0) _ rfl hq7 Tryz.underlying35 rfl (by kernel_rfl)) rfl ⟨?_, hq8⟩
                    rw [HF2.out]; rfl
                · have q39 : ((rest[0].toNat : Int) == 39) = false := byte_noE (d := 39) h39
                  by_cases h34 : rest[0] = 34
                  · have q34 : ((rest[0].toNat : Int) == 34) = true := byte_isE (d := 34) h34
                    have HF : Hid (r = if (quoteE rest le ld).2 = 0 then (kindP 4, 1) else (⟨3, ⟨#[]⟩, ⟨#[]⟩, key, (quoteE rest le ld).1, 0⟩, (quoteE rest le ld).2)) := by unfold Hid; rw [HFV.out, hqv, h34]; rfl
                    clear HFV hqv h39 h34
                    have HFB : Hid (r = if (quoteE rest le ld).2 = 0 then (kindP 4, 1) else (⟨3, ⟨#[]⟩, ⟨#[]⟩, key, (quoteE rest le ld).1, 0⟩, (quoteE rest le ld).2)) := HF.out
                    generalize quoteE rest le ld = qe at *
                    obtain ⟨val, cnt⟩ := qe
                    simp only at KQ HFB
                    clear HF
                    by_cases hcnt : cnt = 0
                    · have HF2 : Hid (r = (kindP 4, 1)) := by unfold Hid; rw [HFB.out, if_pos hcnt]
                      have hcz : ((cnt : Int) == 0) = true := by rw [beq_iff_eq]; omega
                      clear HFB hcnt
                      go_wp2_with fail
                      refine (KQ.out _ HB.out).mono ?_
                      rintro e w6 ⟨rfl, hb6⟩
                      replace HR := Lib.hid (HR.out.over hb6 n4)
                      replace HO := Lib.hid (HO.out.over hb6 n6)
                      replace HB := Lib.hid (HB.out.trans (hb6.mono HB.out.size))
                      clear KQ hb6 n4 n5 n6 HP
                      obtain ⟨o0, o1, o2, o3, o4, o5⟩ := HO.out.cells
                      simp only [kindP] at o0 o1 o2 o3 o4 o5
                      obtain ⟨z0, z1, z2, z3, z4, z5⟩ := HR.out.cells
                      simp only [kindP] at z0 z1 z2 z3 z4 z5
                      have f0 := HR.out.free 0
                      have f1 := HR.out.free 1
                      have f2 := HR.out.free 2
                      have f3 := HR.out.free 3
                      have f4 := HR.out.free 4
                      have f5 := HR.out.free 5
                      go_wp2
                      (try simp only [Exit.inBlock, Exit.then])
                      have hq7 := HR.out.put (kindP 4)
                      have hq8 := below_put HB.out (Nat.le_refl w.heap.size) (kindP 4)
                      try simp only [kindP] at hq7 hq8
                      refine bodyPost_ret (results_cell1 rfl _ _ w.heap.size 35 _ (0, 0) _ rfl hq7 Tryz.underlying35 rfl (by kernel_rfl)) rfl ⟨?_, hq8⟩
                      rw [HF2.out]; rfl
                    · have HF2 : Hid (r = (⟨3, ⟨#[]⟩, ⟨#[]⟩, key, val, 0⟩, cnt)) := by unfold Hid; rw [HFB.out, if_neg hcnt]
                      have hcz : ((cnt : Int) == 0) = false := by rw [beq_eq_false_iff_ne]; omega
                      clear HFB hcnt
                      go_wp2_with fail
                      refine (KQ.out _ HB.out).mono ?_
                      rintro e w6 ⟨rfl, hb6⟩
                      replace HR := Lib.hid (HR.out.over hb6 n4)
                      replace HP := Lib.hid (HP.out.over hb6 n5)
                      replace HB := Lib.hid (HB.out.trans (hb6.mono HB.out.size))
                      clear KQ hb6 n4 n5 n6 HO
                      obtain ⟨p0, p1, p2, p3, p4, p5⟩ := HP.out.cells
                      simp only at p0 p1 p2 p3 p4 p5
                      have pf4 := HP.out.free 4
                      obtain ⟨z0, z1, z2, z3, z4, z5⟩ := HR.out.cells
                      simp only [kindP] at z0 z1 z2 z3 z4 z5
                      have f0 := HR.out.free 0
                      have f1 := HR.out.free 1
                      have f2 := HR.out.free 2
                      have f3 := HR.out.free 3
                      have f4 := HR.out.free 4
                      have f5 := HR.out.free 5
                      go_wp2
                      (try simp only [Exit.inBlock, Exit.then])
                      have hq7 := (HR.out.set (g := B1) (j := 4) n1 (.string val)).put ⟨3, ⟨#[]⟩, ⟨#[]⟩, key, val, 0⟩
                      have hq8 := below_put (HB.out.setCell (p := ⟨B1, 4, none⟩) (Nat.le_of_lt n3) (.string val)) (Nat.le_refl w.heap.size) ⟨3, ⟨#[]⟩, ⟨#[]⟩, key, val, 0⟩
                      try simp only at hq7 hq8
                      refine bodyPost_ret (results_cell1 rfl _ _ w.heap.size 35 _ (0, 0) _ rfl hq7 Tryz.underlying35 rfl (by kernel_rfl)) rfl ⟨?_, hq8⟩
                      rw [HF2.out]; rfl
                  · have q34 : ((rest[0].toNat : Int) == 34) = false := byte_noE (d := 34) h34
                    have HF : Hid (r = if (bareE rest).2 then (⟨3, ⟨#[]⟩, ⟨#[]⟩, key, (bareE rest).1, 0⟩, 1) else (kindP 4, 1)) := by unfold Hid; rw [HFV.out, hqv]; simp [h39, h34]
                    clear HFV hqv h39 h34
                    have hbz := bareE_size rest
                    have KB := Lib.hid (fun w => bareE_spec rest w (by omega))
                    have HFB : Hid (r = if (bareE rest).2 then (⟨3, ⟨#[]⟩, ⟨#[]⟩, key, (bareE rest).1, 0⟩, 1) else (kindP 4, 1)) := HF.out
                    generalize bareE rest = be at *
                    obtain ⟨val, bok⟩ := be
                    simp only at KB HFB
                    clear HF KQ
                    cases bok
                    · have HF2 : Hid (r = (kindP 4, 1)) := HFB.out
                      clear HFB
                      go_wp2_with fail
                      refine (KB.out _).mono ?_
                      rintro e w6 ⟨rfl, rfl⟩
                      obtain ⟨o0, o1, o2, o3, o4, o5⟩ := HO.out.cells
                      simp only [kindP] at o0 o1 o2 o3 o4 o5
                      obtain ⟨z0, z1, z2, z3, z4, z5⟩ := HR.out.cells
                      simp only [kindP] at z0 z1 z2 z3 z4 z5
                      have f0 := HR.out.free 0
                      have f1 := HR.out.free 1
                      have f2 := HR.out.free 2
                      have f3 := HR.out.free 3
                      have f4 := HR.out.free 4
                      have f5 := HR.out.free 5
                      go_wp2
                      (try simp only [Exit.inBlock, Exit.then])
                      have hq7 := HR.out.put (kindP 4)
                      have hq8 := below_put HB.out (Nat.le_refl w.heap.size) (kindP 4)
                      try simp only [kindP] at hq7 hq8
                      refine bodyPost_ret (results_cell1 rfl _ _ w.heap.size 35 _ (0, 0) _ rfl hq7 Tryz.underlying35 rfl (by kernel_rfl)) rfl ⟨?_, hq8⟩
                      rw [HF2.out]; rfl
                    · have HF2 : Hid (r = (⟨3, ⟨#[]⟩, ⟨#[]⟩, key, val, 0⟩, 1)) := HFB.out
                      clear HFB
                      go_wp2_with fail
                      refine (KB.out _).mono ?_
                      rintro e w6 ⟨rfl, rfl⟩
                      obtain ⟨p0, p1, p2, p3, p4, p5⟩ := HP.out.cells
                      simp only at p0 p1 p2 p3 p4 p5
                      have pf4 := HP.out.free 4
                      obtain ⟨z0, z1, z2, z3, z4, z5⟩ := HR.out.cells
                      simp only [kindP] at z0 z1 z2 z3 z4 z5
                      have f0 := HR.out.free 0
                      have f1 := HR.out.free 1
                      have f2 := HR.out.free 2
                      have f3 := HR.out.free 3
                      have f4 := HR.out.free 4
                      have f5 := HR.out.free 5
                      go_wp2
                      (try simp only [Exit.inBlock, Exit.then])
                      have hq7 := (HR.out.set (g := B1) (j := 4) n1 (.string val)).put ⟨3, ⟨#[]⟩, ⟨#[]⟩, key, val, 0⟩
                      have hq8 := below_put (HB.out.setCell (p := ⟨B1, 4, none⟩) (Nat.le_of_lt n3) (.string val)) (Nat.le_refl w.heap.size) ⟨3, ⟨#[]⟩, ⟨#[]⟩, key, val, 0⟩
                      try simp only at hq7 hq8
                      refine bodyPost_ret (results_cell1 rfl _ _ w.heap.size 35 _ (0, 0) _ rfl hq7 Tryz.underlying35 rfl (by kernel_rfl)) rfl ⟨?_, hq8⟩
                      rw [HF2.out]; rfl
      · have h7z : ¬ (7 : Int) < (t1.size : Int) := by omega
        have HFY : Hid (r = lineE t1 le ld) := by unfold Hid; rw [HFX.out]; unfold leadX; rw [dif_neg h7]
        clear HFX
        go_wp2_with fail
        generalize t1 = y at *
        have KCUT := Lib.hid (fun w => cutAt_spec y ⟨#[61]⟩ w (by omega) (by decide))
        rw [restO_res] at KCUT
        have hro := restO_size y
        have HFL : Hid (r = if (restO y).2.2 = true ∧ nameB (trimE (restO y).1) = true then valE (trimE (restO y).1) (leadE (restO y).2.1) le ld else (kindP 4, 1)) := HFY.out
        generalize restO y = ro at *
        obtain ⟨ra, rb, ok⟩ := ro
        simp only at KCUT HFL hro
        have KLD := Lib.hid (fun w => leadE_spec rb w (by omega))
        have KTR := Lib.hid (fun w => trimE_spec ra w (by omega))
        have hl2 := leadE_size rb
        have ht2 := trimE_size ra
        generalize leadE rb = rest at *
        generalize trimE ra = key at *
        have KN := Lib.hid (fun w => nameOk_spec key w (by omega))
        have KQ := Lib.hid (fun (W : World) (hW : Below w.heap.size w W) => quoteE_spec W (.slice (some ⟨g, o, none⟩) l.length cap) g o l at_ rest (CU.out.below hW (fun _ => hgw)) (by omega) hat (by omega))
        rw [hle, hld] at KQ
        have hrz : rest.size ≤ 1048576 := by omega
        clear HFY hro hl2 ht2
        go_wp2_with fail
        refine (KCUT.out _).mono ?_
        rintro e w1 ⟨rfl, nd, rfl⟩
        have hbn : Below W0.heap.size W0 (W0.drewN nd) := _root_.Go.below_drewN (Below.refl _ _) nd
        have HR1 := Lib.hid (HR0.out.over hbn hw0)
        have hb1 := hb0.trans (hbn.mono hb0.size)
        have hw1 := Nat.lt_of_lt_of_le hw0 hbn.size
        clear HR0 hb0 hw0 hbn KCUT
        generalize W0.drewN nd = W1 at *
        go_wp2_with fail
        refine (KLD.out _).mono ?_
        rintro e w2 ⟨rfl, rfl⟩
        clear KLD
        go_wp2_with fail
        refine (KTR.out _).mono ?_
        rintro e w2 ⟨rfl, rfl⟩
        clear KTR
        have hba := ((Below.refl W1.heap.size W1).alloc (Nat.le_refl _) (.cells #[.int .i64 3, .string ⟨#[]⟩, .string ⟨#[]⟩, .string key, .string ⟨#[]⟩, .int .i64 0] 35)).alloc (by simp) (.cells #[.int .i64 4, .string ⟨#[]⟩, .string ⟨#[]⟩, .string ⟨#[]⟩, .string ⟨#[]⟩, .int .i64 0] 35)
        have HR := Lib.hid (HR1.out.over hba hw1)
        have HP : Hid (RecIn ((W1.alloc (.cells #[.int .i64 3, .string ⟨#[]⟩, .string ⟨#[]⟩, .string key, .string ⟨#[]⟩, .int .i64 0] 35)).alloc (.cells #[.int .i64 4, .string ⟨#[]⟩, .string ⟨#[]⟩, .string ⟨#[]⟩, .string ⟨#[]⟩, .int .i64 0] 35)) W1.heap.size ⟨3, ⟨#[]⟩, ⟨#[]⟩, key, ⟨#[]⟩, 0⟩) := RecIn.over (show RecIn (W1.alloc (.cells #[.int .i64 3, .string ⟨#[]⟩, .string ⟨#[]⟩, .string key, .string ⟨#[]⟩, .int .i64 0] 35)) W1.heap.size ⟨3, ⟨#[]⟩, ⟨#[]⟩, key, ⟨#[]⟩, 0⟩ from heap_alloc_new _ _) ((Below.refl (W1.alloc (.cells #[.int .i64 3, .string ⟨#[]⟩, .string ⟨#[]⟩, .string key, .string ⟨#[]⟩, .int .i64 0] 35)).heap.size _).alloc (Nat.le_refl _) (.cells #[.int .i64 4, .string ⟨#[]⟩, .string ⟨#[]⟩, .string ⟨#[]⟩, .string ⟨#[]⟩, .int .i64 0] 35)) (by simp)
        have HO : Hid (RecIn ((W1.alloc (.cells #[.int .i64 3, .string ⟨#[]⟩, .string ⟨#[]⟩, .string key, .string ⟨#[]⟩, .int .i64 0] 35)).alloc (.cells #[.int .i64 4, .string ⟨#[]⟩, .string ⟨#[]⟩, .string ⟨#[]⟩, .string ⟨#[]⟩, .int .i64 0] 35)) (W1.heap.size + 1) (kindP 4)) := by
          have := heap_alloc_new (W1.alloc (.cells #[.int .i64 3, .string ⟨#[]⟩, .string ⟨#[]⟩, .string key, .string ⟨#[]⟩, .int .i64 0] 35)) (.cells #[.int .i64 4, .string ⟨#[]⟩, .string ⟨#[]⟩, .string ⟨#[]⟩, .string ⟨#[]⟩, .int .i64 0] 35)
          rw [World.size_alloc] at this
          exact this
        have HB := Lib.hid (hb1.trans (hba.mono hb1.size))
        have n1 : w.heap.size ≠ W1.heap.size := by omega
        have n2 : W1.heap.size ≠ w.heap.size := by omega
        have n3 : w.heap.size < W1.heap.size := hw1
        have n4 : w.heap.size < ((W1.alloc (.cells #[.int .i64 3, .string ⟨#[]⟩, .string ⟨#[]⟩, .string key, .string ⟨#[]⟩, .int .i64 0] 35)).alloc (.cells #[.int .i64 4, .string ⟨#[]⟩, .string ⟨#[]⟩, .string ⟨#[]⟩, .string ⟨#[]⟩, .int .i64 0] 35)).heap.size := by simp; omega
        have n5 : W1.heap.size < ((W1.alloc (.cells #[.int .i64 3, .string ⟨#[]⟩, .string ⟨#[]⟩, .string key, .string ⟨#[]⟩, .int .i64 0] 35)).alloc (.cells #[.int .i64 4, .string ⟨#[]⟩, .string ⟨#[]⟩, .string ⟨#[]⟩, .string ⟨#[]⟩, .int .i64 0] 35)).heap.size := by simp; omega
        have n6 : W1.heap.size + 1 < ((W1.alloc (.cells #[.int .i64 3, .string ⟨#[]⟩, .string ⟨#[]⟩, .string key, .string ⟨#[]⟩, .int .i64 0] 35)).alloc (.cells #[.int .i64 4, .string ⟨#[]⟩, .string ⟨#[]⟩, .string ⟨#[]⟩, .string ⟨#[]⟩, .int .i64 0] 35)).heap.size := by simp
        have n7 : w.heap.size ≠ W1.heap.size + 1 := by omega
        have n8 : W1.heap.size + 1 ≠ w.heap.size := by omega
        clear hba hw1
        cases ok
        · have HF2 : Hid (r = (kindP 4, 1)) := by unfold Hid; rw [HFL.out, if_neg (by simp)]
          clear HFL KQ KN HP n4 n5 n6
          obtain ⟨zz0, zz1, zz2, zz3, zz4, zz5⟩ := HR1.out.cells
          simp only [kindP] at zz0 zz1 zz2 zz3 zz4 zz5
          have ff0 := HR1.out.free 0
          have ff1 := HR1.out.free 1
          have ff2 := HR1.out.free 2
          have ff3 := HR1.out.free 3
          have ff4 := HR1.out.free 4
          have ff5 := HR1.out.free 5
          obtain ⟨o0, o1, o2, o3, o4, o5⟩ := HO.out.cells
          simp only [kindP] at o0 o1 o2 o3 o4 o5
          obtain ⟨z0, z1, z2, z3, z4, z5⟩ := HR.out.cells
          simp only [kindP] at z0 z1 z2 z3 z4 z5
          have f0 := HR.out.free 0
          have f1 := HR.out.free 1
          have f2 := HR.out.free 2
          have f3 := HR.out.free 3
          have f4 := HR.out.free 4
          have f5 := HR.out.free 5
          go_wp2
          (try simp only [Exit.inBlock, Exit.then])
          have hq0 := HR1.out.put (kindP 4)
          have hp0 := below_put hb1 (Nat.le_refl w.heap.size) (kindP 4)
          have hlt0 := (Array.getElem?_eq_some_iff.1 hq0).1
          have hq8 := (hp0.alloc hp0.size (.cells #[.int .i64 3, .string ⟨#[]⟩, .string ⟨#[]⟩, .string key, .string ⟨#[]⟩, .int .i64 0] 35)).alloc (by have := hp0.size; rw [World.size_alloc]; omega) (.cells #[.int .i64 4, .string ⟨#[]⟩, .string ⟨#[]⟩, .string ⟨#[]⟩, .string ⟨#[]⟩, .int .i64 0] 35)
          have hq7 := hq0.over (((Below.refl _ _).alloc (Nat.le_refl _) (.cells #[.int .i64 3, .string ⟨#[]⟩, .string ⟨#[]⟩, .string key, .string ⟨#[]⟩, .int .i64 0] 35)).alloc (by rw [World.size_alloc]; omega) (.cells #[.int .i64 4, .string ⟨#[]⟩, .string ⟨#[]⟩, .string ⟨#[]⟩, .string ⟨#[]⟩, .int .i64 0] 35)) hlt0
          try simp only [kindP] at hq7 hq8
          refine bodyPost_ret (results_cell1 rfl _ _ w.heap.size 35 _ (0, 0) _ rfl hq7 Tryz.underlying35 rfl (by kernel_rfl)) rfl ⟨?_, hq8⟩
          rw [HF2.out]; rfl
        · clear HR1 hb1
          have p3 := HP.out.cells.2.2.2.1
          simp only at p3
          have HFN : Hid (r = if nameB key = true then valE key rest le ld else (kindP 4, 1)) := by unfold Hid; rw [HFL.out]; simp
          clear HFL
          go_wp2_with fail
          clear p3
          generalize (W1.alloc (.cells #[.int .i64 3, .string ⟨#[]⟩, .string ⟨#[]⟩, .string key, .string ⟨#[]⟩, .int .i64 0] 35)).alloc (.cells #[.int .i64 4, .string ⟨#[]⟩, .string ⟨#[]⟩, .string ⟨#[]⟩, .string ⟨#[]⟩, .int .i64 0] 35) = W3 at *
          generalize W1.heap.size = B1 at *
          refine (KN.out _).mono ?_
          rintro e w4 ⟨rfl, hb4⟩
          replace HR := Lib.hid (HR.out.over hb4 n4)
          replace HP := Lib.hid (HP.out.over hb4 n5)
          replace HO := Lib.hid (HO.out.over hb4 n6)
          replace HB := Lib.hid (HB.out.trans (hb4.mono HB.out.size))
          replace n4 := Nat.lt_of_lt_of_le n4 hb4.size
          replace n5 := Nat.lt_of_lt_of_le n5 hb4.size
          replace n6 := Nat.lt_of_lt_of_le n6 hb4.size
          clear hb4 KN
          generalize nameB key = nk at *
          cases nk
          · have HF2 : Hid (r = (kindP 4, 1)) := HFN.out
            clear HFN KQ HP n4 n5 n6
            obtain ⟨o0, o1, o2, o3, o4, o5⟩ := HO.out.cells
            simp only [kindP] at o0 o1 o2 o3 o4 o5
            obtain ⟨z0, z1, z2, z3, z4, z5⟩ := HR.out.cells
            simp only [kindP] at z0 z1 z2 z3 z4 z5
            have f0 := HR.out.free 0
            have f1 := HR.out.free 1
            have f2 := HR.out.free 2
            have f3 := HR.out.free 3
            have f4 := HR.out.free 4
            have f5 := HR.out.free 5
            go_wp2
            (try simp only [Exit.inBlock, Exit.then])
            have hq7 := HR.out.put (kindP 4)
            have hq8 := below_put HB.out (Nat.le_refl w.heap.size) (kindP 4)
            try simp only [kindP] at hq7 hq8
            refine bodyPost_ret (results_cell1 rfl _ _ w.heap.size 35 _ (0, 0) _ rfl hq7 Tryz.underlying35 rfl (by kernel_rfl)) rfl ⟨?_, hq8⟩
            rw [HF2.out]; rfl
          · have HFV : Hid (r = valE key rest le ld) := HFN.out
            clear HFN
            unfold valE at HFV
            by_cases hr0 : rest.size = 0
            · obtain ⟨e1, e2⟩ := text_noneE rest hr0
              have hqb : quotedB rest = false := by unfold quotedB; rw [dif_neg (by omega)]
              have HF : Hid (r = if (bareE rest).2 then (⟨3, ⟨#[]⟩, ⟨#[]⟩, key, (bareE rest).1, 0⟩, 1) else (kindP 4, 1)) := by unfold Hid; rw [HFV.out, hqb]; rfl
              clear HFV hqb hr0
              have hbz := bareE_size rest
              have KB := Lib.hid (fun w => bareE_spec rest w (by omega))
              have HFB : Hid (r = if (bareE rest).2 then (⟨3, ⟨#[]⟩, ⟨#[]⟩, key, (bareE rest).1, 0⟩, 1) else (kindP 4, 1)) := HF.out
              generalize bareE rest = be at *
              obtain ⟨val, bok⟩ := be
              simp only at KB HFB
              clear HF KQ
              cases bok
              · have HF2 : Hid (r = (kindP 4, 1)) := HFB.out
                clear HFB
                go_wp2_with fail
                refine (KB.out _).mono ?_
                rintro e w6 ⟨rfl, rfl⟩
                obtain ⟨o0, o1, o2, o3, o4, o5⟩ := HO.out.cells
                simp only [kindP] at o0 o1 o2 o3 o4 o5
                obtain ⟨z0, z1, z2, z3, z4, z5⟩ := HR.out.cells
                simp only [kindP] at z0 z1 z2 z3 z4 z5
                have f0 := HR.out.free 0
                have f1 := HR.out.free 1
                have f2 := HR.out.free 2
                have f3 := HR.out.free 3
                have f4 := HR.out.free 4
                have f5 := HR.out.free 5
                go_wp2
                (try simp only [Exit.inBlock, Exit.then])
                have hq7 := HR.out.put (kindP 4)
                have hq8 := below_put HB.out (Nat.le_refl w.heap.size) (kindP 4)
                try simp only [kindP] at hq7 hq8
                refine bodyPost_ret (results_cell1 rfl _ _ w.heap.size 35 _ (0, 0) _ rfl hq7 Tryz.underlying35 rfl (by kernel_rfl)) rfl ⟨?_, hq8⟩
                rw [HF2.out]; rfl
              · have HF2 : Hid (r = (⟨3, ⟨#[]⟩, ⟨#[]⟩, key, val, 0⟩, 1)) := HFB.out
                clear HFB
                go_wp2_with fail
                refine (KB.out _).mono ?_
                rintro e w6 ⟨rfl, rfl⟩
                obtain ⟨p0, p1, p2, p3, p4, p5⟩ := HP.out.cells
                simp only at p0 p1 p2 p3 p4 p5
                have pf4 := HP.out.free 4
                obtain ⟨z0, z1, z2, z3, z4, z5⟩ := HR.out.cells
                simp only [kindP] at z0 z1 z2 z3 z4 z5
                have f0 := HR.out.free 0
                have f1 := HR.out.free 1
                have f2 := HR.out.free 2
                have f3 := HR.out.free 3
                have f4 := HR.out.free 4
                have f5 := HR.out.free 5
                go_wp2
                (try simp only [Exit.inBlock, Exit.then])
                have hq7 := (HR.out.set (g := B1) (j := 4) n1 (.string val)).put ⟨3, ⟨#[]⟩, ⟨#[]⟩, key, val, 0⟩
                have hq8 := below_put (HB.out.setCell (p := ⟨B1, 4, none⟩) (Nat.le_of_lt n3) (.string val)) (Nat.le_refl w.heap.size) ⟨3, ⟨#[]⟩, ⟨#[]⟩, key, val, 0⟩
                try simp only at hq7 hq8
                refine bodyPost_ret (results_cell1 rfl _ _ w.heap.size 35 _ (0, 0) _ rfl hq7 Tryz.underlying35 rfl (by kernel_rfl)) rfl ⟨?_, hq8⟩
                rw [HF2.out]; rfl
            · obtain ⟨e1, e2⟩ := text_someE rest (by omega)
              have hr1 : 0 < rest.size := by omega
              have hrzi : (0 : Int) < (rest.size : Int) := by omega
              have hqv : quotedB rest = (rest[0] == 39 || rest[0] == 34) := by unfold quotedB; rw [dif_pos hr1]
              by_cases h39 : rest[0] = 39
              · have q39 : ((rest[0].toNat : Int) == 39) = true := byte_isE (d := 39) h39
                have HF : Hid (r = if (quoteE rest le ld).2 = 0 then (kindP 4, 1) else (⟨3, ⟨#[]⟩, ⟨#[]⟩, key, (quoteE rest le ld).1, 0⟩, (quoteE rest le ld).2)) := by unfold Hid; rw [HFV.out, hqv, h39]; rfl
                clear HFV hqv h39
                have HFB : Hid (r = if (quoteE rest le ld).2 = 0 then (kindP 4, 1) else (⟨3, ⟨#[]⟩, ⟨#[]⟩, key, (quoteE rest le ld).1, 0⟩, (quoteE rest le ld).2)) := HF.out
                generalize quoteE rest le ld = qe at *
                obtain ⟨val, cnt⟩ := qe
                simp only at KQ HFB
                clear HF
                by_cases hcnt : cnt = 0
                · have HF2 : Hid (r = (kindP 4, 1)) := by unfold Hid; rw [HFB.out, if_pos hcnt]
                  have hcz : ((cnt : Int) == 0) = true := by rw [beq_iff_eq]; omega
                  clear HFB hcnt
                  go_wp2_with fail
                  refine (KQ.out _ HB.out).mono ?_
                  rintro e w6 ⟨rfl, hb6⟩
                  replace HR := Lib.hid (HR.out.over hb6 n4)
                  replace HO := Lib.hid (HO.out.over hb6 n6)
                  replace HB := Lib.hid (HB.out.trans (hb6.mono HB.out.size))
                  clear KQ hb6 n4 n5 n6 HP
                  obtain ⟨o0, o1, o2, o3, o4, o5⟩ := HO.out.cells
                  simp only [kindP] at o0 o1 o2 o3 o4 o5
                  obtain ⟨z0, z1, z2, z3, z4, z5⟩ := HR.out.cells
                  simp only [kindP] at z0 z1 z2 z3 z4 z5
                  have f0 := HR.out.free 0
                  have f1 := HR.out.free 1
                  have f2 := HR.out.free 2
                  have f3 := HR.out.free 3
                  have f4 := HR.out.free 4
                  have f5 := HR.out.free 5
                  go_wp2
                  (try simp only [Exit.inBlock, Exit.then])
                  have hq7 := HR.out.put (kindP 4)
                  have hq8 := below_put HB.out (Nat.le_refl w.heap.size) (kindP 4)
                  try simp only [kindP] at hq7 hq8
                  refine bodyPost_ret (results_cell1 rfl _ _ w.heap.size 35 _ (0, 0) _ rfl hq7 Tryz.underlying35 rfl (by kernel_rfl)) rfl ⟨?_, hq8⟩
                  rw [HF2.out]; rfl
                · have HF2 : Hid (r = (⟨3, ⟨#[]⟩, ⟨#[]⟩, key, val, 0⟩, cnt)) := by unfold Hid; rw [HFB.out, if_neg hcnt]
                  have hcz : ((cnt : Int) == 0) = false := by rw [beq_eq_false_iff_ne]; omega
                  clear HFB hcnt
                  go_wp2_with fail
                  refine (KQ.out _ HB.out).mono ?_
                  rintro e w6 ⟨rfl, hb6⟩
                  replace HR := Lib.hid (HR.out.over hb6 n4)
                  replace HP := Lib.hid (HP.out.over hb6 n5)
                  replace HB := Lib.hid (HB.out.trans (hb6.mono HB.out.size))
                  clear KQ hb6 n4 n5 n6 HO
                  obtain ⟨p0, p1, p2, p3, p4, p5⟩ := HP.out.cells
                  simp only at p0 p1 p2 p3 p4 p5
                  have pf4 := HP.out.free 4
                  obtain ⟨z0, z1, z2, z3, z4, z5⟩ := HR.out.cells
                  simp only [kindP] at z0 z1 z2 z3 z4 z5
                  have f0 := HR.out.free 0
                  have f1 := HR.out.free 1
                  have f2 := HR.out.free 2
                  have f3 := HR.out.free 3
                  have f4 := HR.out.free 4
                  have f5 := HR.out.free 5
                  go_wp2
                  (try simp only [Exit.inBlock, Exit.then])
                  have hq7 := (HR.out.set (g := B1) (j := 4) n1 (.string val)).put ⟨3, ⟨#[]⟩, ⟨#[]⟩, key, val, 0⟩
                  have hq8 := below_put (HB.out.setCell (p := ⟨B1, 4, none⟩) (Nat.le_of_lt n3) (.string val)) (Nat.le_refl w.heap.size) ⟨3, ⟨#[]⟩, ⟨#[]⟩, key, val, 0⟩
                  try simp only at hq7 hq8
                  refine bodyPost_ret (results_cell1 rfl _ _ w.heap.size 35 _ (0, 0) _ rfl hq7 Tryz.underlying35 rfl (by kernel_rfl)) rfl ⟨?_, hq8⟩
                  rw [HF2.out]; rfl
              · have q39 : ((rest[0].toNat : Int) == 39) = false := byte_noE (d := 39) h39
                by_cases h34 : rest[0] = 34
                · have q34 : ((rest[0].toNat : Int) == 34) = true := byte_isE (d := 34) h34
                  have HF : Hid (r = if (quoteE rest le ld).2 = 0 then (kindP 4, 1) else (⟨3, ⟨#[]⟩, ⟨#[]⟩, key, (quoteE rest le ld).1, 0⟩, (quoteE rest le ld).2)) := by unfold Hid; rw [HFV.out, hqv, h34]; rfl
                  clear HFV hqv h39 h34
                  have HFB : Hid (r = if (quoteE rest le ld).2 = 0 then (kindP 4, 1) else (⟨3, ⟨#[]⟩, ⟨#[]⟩, key, (quoteE rest le ld).1, 0⟩, (quoteE rest le ld).2)) := HF.out
                  generalize quoteE rest le ld = qe at *
                  obtain ⟨val, cnt⟩ := qe
                  simp only at KQ HFB
                  clear HF
                  by_cases hcnt : cnt = 0
                  · have HF2 : Hid (r = (kindP 4, 1)) := by unfold Hid; rw [HFB.out, if_pos hcnt]
                    have hcz : ((cnt : Int) == 0) = true := by rw [beq_iff_eq]; omega
                    clear HFB hcnt
                    go_wp2_with fail
                    refine (KQ.out _ HB.out).mono ?_
                    rintro e w6 ⟨rfl, hb6⟩
                    replace HR := Lib.hid (HR.out.over hb6 n4)
                    replace HO := Lib.hid (HO.out.over hb6 n6)
                    replace HB := Lib.hid (HB.out.trans (hb6.mono HB.out.size))
                    clear KQ hb6 n4 n5 n6 HP
                    obtain ⟨o0, o1, o2, o3, o4, o5⟩ := HO.out.cells
                    simp only [kindP] at o0 o1 o2 o3 o4 o5
                    obtain ⟨z0, z1, z2, z3, z4, z5⟩ := HR.out.cells
                    simp only [kindP] at z0 z1 z2 z3 z4 z5
                    have f0 := HR.out.free 0
                    have f1 := HR.out.free 1
                    have f2 := HR.out.free 2
                    have f3 := HR.out.free 3
                    have f4 := HR.out.free 4
                    have f5 := HR.out.free 5
                    go_wp2
                    (try simp only [Exit.inBlock, Exit.then])
                    have hq7 := HR.out.put (kindP 4)
                    have hq8 := below_put HB.out (Nat.le_refl w.heap.size) (kindP 4)
                    try simp only [kindP] at hq7 hq8
                    refine bodyPost_ret (results_cell1 rfl _ _ w.heap.size 35 _ (0, 0) _ rfl hq7 Tryz.underlying35 rfl (by kernel_rfl)) rfl ⟨?_, hq8⟩
                    rw [HF2.out]; rfl
                  · have HF2 : Hid (r = (⟨3, ⟨#[]⟩, ⟨#[]⟩, key, val, 0⟩, cnt)) := by unfold Hid; rw [HFB.out, if_neg hcnt]
                    have hcz : ((cnt : Int) == 0) = false := by rw [beq_eq_false_iff_ne]; omega
                    clear HFB hcnt
                    go_wp2_with fail
                    refine (KQ.out _ HB.out).mono ?_
                    rintro e w6 ⟨rfl, hb6⟩
                    replace HR := Lib.hid (HR.out.over hb6 n4)
                    replace HP := Lib.hid (HP.out.over hb6 n5)
                    replace HB := Lib.hid (HB.out.trans (hb6.mono HB.out.size))
                    clear KQ hb6 n4 n5 n6 HO
                    obtain ⟨p0, p1, p2, p3, p4, p5⟩ := HP.out.cells
                    simp only at p0 p1 p2 p3 p4 p5
                    have pf4 := HP.out.free 4
                    obtain ⟨z0, z1, z2, z3, z4, z5⟩ := HR.out.cells
                    simp only [kindP] at z0 z1 z2 z3 z4 z5
                    have f0 := HR.out.free 0
                    have f1 := HR.out.free 1
                    have f2 := HR.out.free 2
                    have f3 := HR.out.free 3
                    have f4 := HR.out.free 4
                    have f5 := HR.out.free 5
                    go_wp2
                    (try simp only [Exit.inBlock, Exit.then])
                    have hq7 := (HR.out.set (g := B1) (j := 4) n1 (.string val)).put ⟨3, ⟨#[]⟩, ⟨#[]⟩, key, val, 0⟩
                    have hq8 := below_put (HB.out.setCell (p := ⟨B1, 4, none⟩) (Nat.le_of_lt n3) (.string val)) (Nat.le_refl w.heap.size) ⟨3, ⟨#[]⟩, ⟨#[]⟩, key, val, 0⟩
                    try simp only at hq7 hq8
                    refine bodyPost_ret (results_cell1 rfl _ _ w.heap.size 35 _ (0, 0) _ rfl hq7 Tryz.underlying35 rfl (by kernel_rfl)) rfl ⟨?_, hq8⟩
                    rw [HF2.out]; rfl
                · have q34 : ((rest[0].toNat : Int) == 34) = false := byte_noE (d := 34) h34
                  have HF : Hid (r = if (bareE rest).2 then (⟨3, ⟨#[]⟩, ⟨#[]⟩, key, (bareE rest).1, 0⟩, 1) else (kindP 4, 1)) := by unfold Hid; rw [HFV.out, hqv]; simp [h39, h34]
                  clear HFV hqv h39 h34
                  have hbz := bareE_size rest
                  have KB := Lib.hid (fun w => bareE_spec rest w (by omega))
                  have HFB : Hid (r = if (bareE rest).2 then (⟨3, ⟨#[]⟩, ⟨#[]⟩, key, (bareE rest).1, 0⟩, 1) else (kindP 4, 1)) := HF.out
                  generalize bareE rest = be at *
                  obtain ⟨val, bok⟩ := be
                  simp only at KB HFB
                  clear HF KQ
                  cases bok
                  · have HF2 : Hid (r = (kindP 4, 1)) := HFB.out
                    clear HFB
                    go_wp2_with fail
                    refine (KB.out _).mono ?_
                    rintro e w6 ⟨rfl, rfl⟩
                    obtain ⟨o0, o1, o2, o3, o4, o5⟩ := HO.out.cells
                    simp only [kindP] at o0 o1 o2 o3 o4 o5
                    obtain ⟨z0, z1, z2, z3, z4, z5⟩ := HR.out.cells
                    simp only [kindP] at z0 z1 z2 z3 z4 z5
                    have f0 := HR.out.free 0
                    have f1 := HR.out.free 1
                    have f2 := HR.out.free 2
                    have f3 := HR.out.free 3
                    have f4 := HR.out.free 4
                    have f5 := HR.out.free 5
                    go_wp2
                    (try simp only [Exit.inBlock, Exit.then])
                    have hq7 := HR.out.put (kindP 4)
                    have hq8 := below_put HB.out (Nat.le_refl w.heap.size) (kindP 4)
                    try simp only [kindP] at hq7 hq8
                    refine bodyPost_ret (results_cell1 rfl _ _ w.heap.size 35 _ (0, 0) _ rfl hq7 Tryz.underlying35 rfl (by kernel_rfl)) rfl ⟨?_, hq8⟩
                    rw [HF2.out]; rfl
                  · have HF2 : Hid (r = (⟨3, ⟨#[]⟩, ⟨#[]⟩, key, val, 0⟩, 1)) := HFB.out
                    clear HFB
                    go_wp2_with fail
                    refine (KB.out _).mono ?_
                    rintro e w6 ⟨rfl, rfl⟩
                    obtain ⟨p0, p1, p2, p3, p4, p5⟩ := HP.out.cells
                    simp only at p0 p1 p2 p3 p4 p5
                    have pf4 := HP.out.free 4
                    obtain ⟨z0, z1, z2, z3, z4, z5⟩ := HR.out.cells
                    simp only [kindP] at z0 z1 z2 z3 z4 z5
                    have f0 := HR.out.free 0
                    have f1 := HR.out.free 1
                    have f2 := HR.out.free 2
                    have f3 := HR.out.free 3
                    have f4 := HR.out.free 4
                    have f5 := HR.out.free 5
                    go_wp2
                    (try simp only [Exit.inBlock, Exit.then])
                    have hq7 := (HR.out.set (g := B1) (j := 4) n1 (.string val)).put ⟨3, ⟨#[]⟩, ⟨#[]⟩, key, val, 0⟩
                    have hq8 := below_put (HB.out.setCell (p := ⟨B1, 4, none⟩) (Nat.le_of_lt n3) (.string val)) (Nat.le_refl w.heap.size) ⟨3, ⟨#[]⟩, ⟨#[]⟩, key, val, 0⟩
                    try simp only at hq7 hq8
                    refine bodyPost_ret (results_cell1 rfl _ _ w.heap.size 35 _ (0, 0) _ rfl hq7 Tryz.underlying35 rfl (by kernel_rfl)) rfl ⟨?_, hq8⟩
                    rw [HF2.out]; rfl

end Go.Proofs.YtkhkpjnpjgnckaaGreatDoor
