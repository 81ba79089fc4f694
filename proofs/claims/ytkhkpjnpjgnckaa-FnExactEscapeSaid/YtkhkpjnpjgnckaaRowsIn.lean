/- A list of structs of plain fields that comes in as an argument, as it lies in memory. -/
import Derived.Test.YtkhkpjnpjgnckaaProg
import Derived.Test.YtkhkpjnpjgnckaaRows0
import Derived.WalkKit
import Derived.ProofKit
import Derived.OpenShut
import Derived.ShutString
import Derived.Deep.Slices
import Derived.Below
namespace Go.Proofs.Ytkhkpjnpjgnckaa
open Go.ChangeShapes Go.WideShapes Go.ChangeAt Go.RowKit
set_option linter.unusedVariables false

theorem addr_plainR (b off j : Nat) : (⟨b, off, none⟩ : Addr).add j = ⟨b, off + j, none⟩ := by unfold Addr.add; split <;> simp_all

theorem rows_arg {α : Type} (S : Shape α) (Ok : α → Prop) {H : Type} {enc : TypeId × Value → H} {P : Program} {W : World} {base : Nat} {v : Value} {d : DataW H} {ps : List MemPlace} {t e : TypeId} (ht : P.underlying t = some (.slice e)) (hce : P.cellsOf e = S.n)
    (each : ∀ (n : Nat) (cs : List Value) (x : DataW H × List MemPlace), DataW.trod enc P W 0 (fun _ => true) true n e cs = some x → cs.length = S.n → ∃ y, cs = S.cs y ∧ Ok y)
    (hv : Value.okWide P W .any base t v) (h : DataW.Trod enc P W 0 (fun _ => true) true t v d ps) :
    ∃ (g o : Nat) (l : List α), RowsRd S W v g o l ∧ l.length ≤ maxLen ∧ ∀ i (h : i < l.length), Ok l[i] := by
  obtain ⟨a, len, cap, rfl⟩ := okWide_slice ht hv
  obtain ⟨fuel, hf⟩ := h
  rcases Go.Deep.open_slice ht hf with ⟨hcs, _⟩ | ⟨x, l, c, m, n, D, Pl, hcs, _, hl, hm, hmm, _, hc⟩
  · simp [Value.cells] at hcs
    obtain ⟨rfl, rfl, rfl⟩ := hcs
    exact ⟨0, 0, [], RowsRd.nil _ _ rfl, Nat.zero_le _, fun i hi => by simp at hi⟩
  · simp [Value.cells] at hcs
    obtain ⟨rfl, rfl, rfl⟩ := hcs
    have hmc : m = cap := by rw [hmm]; rfl
    subst hmc
    by_cases h0 : len = 0
    · subst h0
      exact ⟨0, 0, [], RowsRd.nil _ _ rfl, Nat.zero_le _, fun i hi => by simp at hi⟩
    · have one : ∀ i, i < len → ∃ y, Ok y ∧ ∀ j u, (S.cs y)[j]? = some u → W.cell? (x.add (i * S.n + j)) = some u := by
        intro i hi
        obtain ⟨cs', h1, h2⟩ := hc i (by omega)
        obtain ⟨_, hlen, hcell⟩ := World.cells?_some h1
        rw [hce] at hlen hcell
        obtain ⟨y, rfl, hy⟩ := each _ _ _ h2 hlen
        refine ⟨y, hy, fun j u hu => ?_⟩
        have hj : j < S.n := by rw [← hlen]; exact (List.getElem?_eq_some_iff.1 hu).1
        have := hcell j hj
        rw [Go.Deep.add_add, hu] at this
        exact this
      obtain ⟨y0, _, hy0⟩ := one 0 (by omega)
      have all : ∀ i, ∃ y, i < len → Ok y ∧ ∀ j u, (S.cs y)[j]? = some u → W.cell? (x.add (i * S.n + j)) = some u := by
        intro i
        by_cases hi : i < len
        · obtain ⟨y, hy⟩ := one i hi
          exact ⟨y, fun _ => hy⟩
        · exact ⟨y0, fun h => absurd h hi⟩
      obtain ⟨f, hf2⟩ := Classical.axiomOfChoice all
      obtain ⟨b, off, spot⟩ := x
      have hpos : 0 < (S.cs y0).length := by rw [S.len]; exact S.pos
      have hspot : spot = none := by
        have := World.cell?_spot (hy0 0 (S.cs y0)[0] (List.getElem?_eq_getElem hpos))
        simpa [Addr.add] using this
      subst hspot
      refine ⟨b, off, (List.range len).map f, ⟨⟨_, m, by simp, fun _ => rfl⟩, fun i hi j u hu => ?_⟩, by simp; omega, fun i hi => ?_⟩
      · simp only [List.length_map, List.length_range] at hi
        simp only [List.getElem_map, List.getElem_range] at hu
        have := (hf2 i hi).2 j u hu
        rw [addr_plainR, ← Nat.add_assoc] at this
        exact this
      · simp only [List.length_map, List.length_range] at hi
        simp only [List.getElem_map, List.getElem_range]
        exact (hf2 i hi).1

/-- one cell's field of a struct, opened -/
theorem field_of {H : Type} {enc : TypeId × Value → H} {P : Program} {W : World} {fuel : Nat} {t : TypeId} {cs : List Value} {x : DataW H × List MemPlace} {fs : Array Field} (ht : P.underlying t = some (.struct fs)) (h : DataW.trod enc P W 0 (fun _ => true) true fuel t cs = some x)
    (i : Nat) (f : Field) (hf : fs[i]? = some f) (hc : P.cellsOf f.type = 1) (ho : f.offset = i) (u : Value) (hu : cs[i]? = some u) : ∃ n y, DataW.trod enc P W 0 (fun _ => true) true n f.type [u] = some y := by
  obtain ⟨xs, n, _, rfl, hl, hlen, hfs⟩ := DataW.trod_struct ht h
  have h1 := hfs i f hf
  have hi : i < xs.length := by rw [hlen]; exact (Array.getElem?_eq_some_iff.1 hf).1
  rw [List.getElem?_eq_getElem hi, hc, ho] at h1
  have hd : (cs.drop i).take 1 = [u] := by
    have := (List.getElem?_eq_some_iff.1 hu)
    obtain ⟨h2, h3⟩ := this
    rw [List.drop_eq_getElem_cons h2, h3]
    rfl
  rw [hd] at h1
  exact ⟨n, _, h1⟩
theorem field_string {H : Type} {enc : TypeId × Value → H} {P : Program} {W : World} {n : Nat} {t : TypeId} {u : Value} {y : DataW H × List MemPlace} (ht : P.underlying t = some .string) (h : DataW.trod enc P W 0 (fun _ => true) true n t [u] = some y) : ∃ s : ByteArray, u = .string s ∧ s.size ≤ maxLen := by
  obtain ⟨s, hs, _, hb⟩ := DataW.trod_string ht h
  exact ⟨s, by simpa using hs, hb⟩
theorem field_int {H : Type} {enc : TypeId × Value → H} {P : Program} {W : World} {n : Nat} {t : TypeId} {u : Value} {y : DataW H × List MemPlace} (ht : P.underlying t = some (.int .i64)) (h : DataW.trod enc P W 0 (fun _ => true) true n t [u] = some y) : ∃ z : Int, u = .int .i64 z ∧ -9223372036854775808 ≤ z ∧ z ≤ 9223372036854775807 := by
  obtain ⟨z, hs, _, hb⟩ := DataW.trod_int ht h
  exact ⟨z, by simpa using hs, by simpa [Lit.wf, IntKind.min, IntKind.max, IntKind.signed, IntKind.bits] using hb⟩
theorem field_bool {H : Type} {enc : TypeId × Value → H} {P : Program} {W : World} {n : Nat} {t : TypeId} {u : Value} {y : DataW H × List MemPlace} (ht : P.underlying t = some .bool) (h : DataW.trod enc P W 0 (fun _ => true) true n t [u] = some y) : ∃ z : Bool, u = .bool z := by
  obtain ⟨z, hs, _⟩ := DataW.trod_bool ht h
  exact ⟨z, by simpa using hs⟩
/-- a row of so many cells -/
theorem cells_of_length {cs : List Value} {n : Nat} (h : cs.length = n) (i : Nat) (hi : i < n) : ∃ u, cs[i]? = some u := ⟨cs[i], List.getElem?_eq_getElem (by omega)⟩

end Go.Proofs.Ytkhkpjnpjgnckaa
