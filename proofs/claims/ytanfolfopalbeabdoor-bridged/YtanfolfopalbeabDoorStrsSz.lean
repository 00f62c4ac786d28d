/- A slice of strings among the arguments: what it reads as, how many there are, how long each is. -/
import Derived.Test.YtanfolfopalbeabDoorRows
import Derived.Test.YtanfolfopalbeabDoorStrs
import Derived.ProofKit
import Derived.OpenShut
import Derived.SliceStrings
import Derived.Carry
import Derived.SizedLaws
import Derived.ChangeMaps5
namespace Go.Proofs.YtanfolfopalbeabDoor
open Go.ChangeShapes Go.WideShapes Go.ChangeAt Go.RowKit

theorem weightsAll_mem {H : Type} {P : Program} {e : TypeId} {d : DataW H} {n : Nat} (hn : n ∈ d.weights P e) : ∀ {l : List (DataW H)}, d ∈ l → n ∈ DataW.weightsAll P e l := by
  intro l
  induction l with
  | nil => intro h; cases h
  | cons a r ih =>
    intro h
    simp only [DataW.weightsAll, List.mem_append]
    rcases List.mem_cons.1 h with rfl | h
    · exact .inl hn
    · exact .inr (ih h)
set_option maxRecDepth 100000 in
theorem cellsStrZ : Tryd.prog.cellsOf 9 = 1 := by kernel_rfl
set_option maxRecDepth 100000 in
theorem bytesStrZ : Tryd.prog.bytesOf 9 = 16 := by kernel_rfl
set_option maxRecDepth 100000 in
theorem strs_of_argZ {H : Type} {enc : TypeId × Value → H} {W : World} {v : Value} {d : DataW H} {ps : List MemPlace} {base : Nat} (hval : Value.okWide Tryd.prog W .any base 23 v)
    (h : DataW.Trod enc Tryd.prog W 0 (fun _ => true) true 23 v d ps) {ts : List TypeId} {ds : List (DataW H)} (hsz : (DataW.weightsEach Tryd.prog ts ds).all (· ≤ reachBytes) = true) {j : Nat} (hj : ts[j]? = some 23) (hdj : ds[j]? = some d) :
    ∃ ss, Strs W v ss ∧ ss.length * 16 ≤ 140737488351232 ∧ ∀ i, i < ss.length → (ss.getD i ByteArray.empty).size ≤ 140737488351232 := by
  obtain ⟨a0, len, cap, rfl⟩ := okWide_slice Tryd.underlying23 hval
  obtain ⟨fuel, hf⟩ := h
  rcases open_strings Tryd.underlying23 Tryd.underlying9 cellsStrZ hf with ⟨hcs, hx⟩ | ⟨a, len', cap', ss, hcs, _, hl, hm, hz, hx, hcell, hws⟩
  · have e : Value.slice a0 len cap = .slice none 0 0 := by simpa [Value.cells] using hcs
    rw [e]
    exact ⟨[], ⟨none, 0, rfl, Nat.le_refl _, Nat.zero_le _, .inl rfl⟩, by simp, fun i hi => by cases hi⟩
  · have e : Value.slice a0 len cap = .slice (some a) len' cap' := by simpa [Value.cells] using hcs
    rw [e]
    simp only [if_true] at hz
    have hd : d = .slice (strs (ss.take len')) (strs (ss.drop len')) := congrArg Prod.fst hx
    have htl : (ss.take len').length = len' := by rw [List.length_take]; omega
    have hgd : ∀ i, i < len' → (ss.take len').getD i ByteArray.empty = ss.getD i ByteArray.empty := fun i hi => by
      simp only [List.getD]
      rw [List.getElem?_take_of_lt hi]
    have hmem := fun n hn => List.all_eq_true.1 hsz n (DataW.weights_mem_each hj hdj n hn)
    subst hd
    refine ⟨ss.take len', ⟨some a, cap', by rw [htl], by omega, hm, ?_⟩, ?_, fun i hi => ?_⟩
    · by_cases h0 : len' = 0
      · left
        rw [h0, List.take_zero]
      · right
        obtain ⟨b, off, spot⟩ := a
        have hspot : spot = none := by simpa [Addr.add] using World.cell?_spot (hcell 0 (by omega))
        subst hspot
        refine ⟨b, off, rfl, fun i hi => ?_⟩
        rw [htl] at hi
        rw [hgd i hi, ← add_plain]
        exact hcell i (by omega)
    · have := hmem (((strs (H := H) (ss.take len')).length + (strs (H := H) (ss.drop len')).length) * Tryd.prog.bytesOf 9) (by simp [DataW.weights, Tryd.underlying23])
      rw [bytesStrZ] at this
      simp only [strs, List.length_map, reachBytes, decide_eq_true_eq] at this
      omega
    · have hm2 : (.lit (.string (((ss.take len').getD i ByteArray.empty).data.toList)) : DataW H) ∈ strs (ss.take len') := by
        unfold strs
        refine List.mem_map.2 ⟨(ss.take len').getD i ByteArray.empty, ?_, rfl⟩
        rw [List.getD_eq_getElem?_getD, List.getElem?_eq_getElem hi, Option.getD_some]
        exact List.getElem_mem hi
      have := hmem ((ss.take len').getD i ByteArray.empty).data.toList.length (by
        simp only [DataW.weights, Tryd.underlying23, List.mem_cons, List.mem_append]
        exact .inr (.inl (weightsAll_mem (by simp [DataW.weights]) hm2)))
      have e2 : ((ss.take len').getD i ByteArray.empty).data.toList.length = ((ss.take len').getD i ByteArray.empty).size := rfl
      rw [e2] at this
      exact of_decide_eq_true this
end Go.Proofs.YtanfolfopalbeabDoor
