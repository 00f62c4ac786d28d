/- A slice of strings that comes in as an argument reads as a list of strings. -/
import Derived.Test.YtanfolfopalbeaaDoorLaid
import Derived.ProofKit
import Derived.OpenShut
import Derived.SliceStrings
import Derived.Carry
import Derived.Deep.DeepHandedRow
import Derived.Lib.LaidTab
import Derived.Stop.LaidErr
namespace Go.Proofs.YtanfolfopalbeaaDoor
open Go.ChangeShapes Go.WideShapes Go.ChangeAt Go.RowKit

set_option maxRecDepth 100000 in
theorem strs_of_arg {H : Type} {enc : TypeId × Value → H} {W : World} {v : Value} {d : DataW H} {ps : List MemPlace} {base : Nat} (hval : Value.okWide Tryd.prog W .any base 34 v)
    (h : DataW.Trod enc Tryd.prog W 0 (fun _ => true) true 34 v d ps) : ∃ ss, Strs W v ss ∧ ∀ i, i < ss.length → (ss.getD i ByteArray.empty).size ≤ maxLen := by
  obtain ⟨a0, len, cap, rfl⟩ := okWide_slice Tryd.underlying34 hval
  obtain ⟨fuel, hf⟩ := h
  rcases open_strings Tryd.underlying34 Tryd.underlying9 cellsStr hf with ⟨hcs, hx⟩ | ⟨a, len', cap', ss, hcs, _, hl, hm, hz, hx, hcell, hws⟩
  · have e : Value.slice a0 len cap = .slice none 0 0 := by simpa [Value.cells] using hcs
    rw [e]
    exact ⟨[], ⟨none, 0, rfl, Nat.le_refl _, Nat.zero_le _, .inl rfl⟩, fun i h => absurd h (Nat.not_lt_zero i)⟩
  · have e : Value.slice a0 len cap = .slice (some a) len' cap' := by simpa [Value.cells] using hcs
    rw [e]
    simp only [if_true] at hz
    have htl : (ss.take len').length = len' := by rw [List.length_take]; omega
    have hgd : ∀ i, i < len' → (ss.take len').getD i ByteArray.empty = ss.getD i ByteArray.empty := fun i hi => by
      simp only [List.getD]
      rw [List.getElem?_take_of_lt hi]
    refine ⟨ss.take len', ⟨some a, cap', by rw [htl], by omega, hm, ?_⟩, fun i hi => ?_⟩
    · by_cases h0 : len' = 0
      · left
        rw [h0, List.take_zero]
      · right
        obtain ⟨b, off, spot⟩ := a
        have hspot : spot = none := by simpa [Addr.add] using World.cell?_spot (hcell 0 (by omega))
        subst hspot
        refine ⟨b, off, rfl, fun i hi => ?_⟩
        rw [htl] at hi
        rw [hgd i hi, ← add_plain]
        exact hcell i (by omega)
    · rw [htl] at hi
      rw [hgd i hi]
      have hi2 : i < ss.length := by omega
      rw [List.getD, List.getElem?_eq_getElem hi2]
      exact hws _ (List.getElem_mem hi2)
end Go.Proofs.YtanfolfopalbeaaDoor
