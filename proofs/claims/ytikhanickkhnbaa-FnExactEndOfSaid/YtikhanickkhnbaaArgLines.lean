/- A list of lines that comes in as an argument, as it lies in memory. -/
import Derived.Test.YtikhanickkhnbaaProg
import Derived.Test.YtikhanickkhnbaaLines
import Derived.WalkKit
import Derived.ProofKit
import Derived.OpenShut
import Derived.ShutString
import Derived.Deep.SlicePairs
import Derived.Below
namespace Go.Proofs.Ytikhanickkhnbaa
open Go.ChangeShapes Go.WideShapes Go.ChangeAt Go.RowKit
set_option linter.unusedVariables false

def textV : Value → ByteArray
  | .string s => s
  | _ => ByteArray.empty

theorem addr_plain (b off j : Nat) : (⟨b, off, none⟩ : Addr).add j = ⟨b, off + j, none⟩ := by unfold Addr.add; split <;> simp_all

theorem lines_arg {H : Type} {enc : TypeId × Value → H} {W : World} {base : Nat} {v : Value} {d : DataW H} {ps : List MemPlace} (hv : Value.okWide Try.prog W .any base 35 v)
    (h : DataW.Trod enc Try.prog W 0 (fun _ => true) true 35 v d ps) :
    ∃ (g o : Nat) (l : List Ln), LinesRd W v g o l ∧ l.length ≤ maxLen ∧ ∀ i (h : i < l.length), l[i].1.size ≤ maxLen ∧ l[i].2.size ≤ maxLen := by
  obtain ⟨a, len, cap, rfl⟩ := okWide_slice Try.underlying35 hv
  obtain ⟨fuel, hf⟩ := h
  rcases Go.Deep.open_slice_pairs Try.underlying35 Try.underlying56 (by kernel_rfl) rfl rfl (by kernel_rfl) (by kernel_rfl) hf with ⟨hcs, _⟩ | ⟨x, l, c, m, n, V0, V1, D0, D1, P0, P1, hcs, _, hl, hm, hmm, _, hc⟩
  · simp [Value.cells] at hcs
    obtain ⟨rfl, rfl, rfl⟩ := hcs
    exact ⟨0, 0, [], ⟨⟨none, 0, rfl, fun h => absurd rfl h⟩, fun i hi => by simp at hi, fun i hi => by simp at hi⟩, Nat.zero_le _, fun i hi => by simp at hi⟩
  · simp [Value.cells] at hcs
    obtain ⟨rfl, rfl, rfl⟩ := hcs
    have hmc : m = cap := by rw [hmm]; rfl
    subst hmc
    have each : ∀ i, i < m → (∃ s, V0 i = .string s ∧ s.size ≤ maxLen) ∧ (∃ s, V1 i = .string s ∧ s.size ≤ maxLen) := by
      intro i hi
      obtain ⟨_, _, h3, h4⟩ := hc i hi
      obtain ⟨s, hs, _, hb⟩ := DataW.trod_string Try.underlying9 h3
      obtain ⟨s', hs', _, hb'⟩ := DataW.trod_string Try.underlying9 h4
      exact ⟨⟨s, by simpa using hs, hb⟩, ⟨s', by simpa using hs', hb'⟩⟩
    by_cases h0 : len = 0
    · subst h0
      exact ⟨0, 0, [], ⟨⟨_, m, rfl, fun h => absurd rfl h⟩, fun i hi => by simp at hi, fun i hi => by simp at hi⟩, Nat.zero_le _, fun i hi => by simp at hi⟩
    · obtain ⟨b, off, spot⟩ := x
      have hspot : spot = none := by simpa [Addr.add] using World.cell?_spot (hc 0 (by omega)).1
      subst hspot
      refine ⟨b, off, (List.range len).map (fun i => (textV (V0 i), textV (V1 i))), ⟨⟨_, m, by simp, fun _ => rfl⟩, fun i hi => ?_, fun i hi => ?_⟩, by simp; omega, fun i hi => ?_⟩
      all_goals
        simp only [List.length_map, List.length_range] at hi
        obtain ⟨⟨s, e1, b1⟩, ⟨s', e2, b2⟩⟩ := each i (by omega)
        obtain ⟨k1, k2, _, _⟩ := hc i (by omega)
        rw [addr_plain] at k1 k2
        simp only [List.getElem_map, List.getElem_range, e1, e2, textV] at *
      · exact k1
      · exact k2
      · exact ⟨b1, b2⟩

end Go.Proofs.Ytikhanickkhnbaa
