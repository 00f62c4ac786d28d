/- The book inside an object: what its lists and marks read as. -/
import Derived.Test.YtanfolfopalbeaaDoorBookG2
namespace Go.Proofs.YtanfolfopalbeaaDoor
open Go.RowKit

theorem fl_at {sz : Nat} (l : List (List Value)) (h : ∀ d ∈ l, d.length = sz) (k : Nat) (hk : k < l.length) (j : Nat) (hj : j < sz) : (fl l)[k * sz + j]? = l[k][j]? := by
  have e : l = l.take k ++ (l[k] :: l.drop (k + 1)) := by rw [List.getElem_cons_drop, List.take_append_drop]
  have e2 : fl l = fl (l.take k) ++ (l[k] ++ fl (l.drop (k + 1))) := (congrArg fl e).trans (by unfold fl; rw [List.flatten_append, List.flatten_cons])
  have hl : (fl (l.take k)).length = k * sz := by
    rw [fl_length (sz := sz) _ (fun d hd => h d (List.mem_of_mem_take hd)), List.length_take, Nat.min_eq_left (by omega)]
  have hkl := h l[k] (List.getElem_mem hk)
  rw [e2, List.getElem?_append_right (by omega), hl, show k * sz + j - k * sz = j by omega, List.getElem?_append_left (by omega)]
/-- The shapes: the lists, their marks, the list at k. -/
theorem StG.look {K : Kd} {P : Nat → Prop} {B : Nat} {w0 w : World} {G : Nat} {cs : Array Value} {tv xv : Value} {recs : List (Value × List Value)} {lv : Value} {nl : Nat} {ls : List (List Value)} (S : StG K P B w0 w G cs tv xv (recs.map (·.1)) (recs.map (·.2)) recs lv nl ls) (k : Nat) (hk : k < recs.length) :
    ∃ gt ct gx cx ao n cap, tv = .slice (some ⟨gt, 0, none⟩) recs.length ct ∧ xv = .slice (some ⟨gx, 0, none⟩) recs.length cx ∧ recs[k].1 = .slice ao n cap ∧ n ≤ cap ∧ cap ≤ maxLen := by
  obtain ⟨gt, ct, ht⟩ : ∃ gt ct, tv = .slice (some ⟨gt, 0, none⟩) recs.length ct := by
    rcases S.ht.2 with ⟨_, h0⟩ | ⟨g, cap, cur, h, _⟩
    · rw [List.length_map] at h0; omega
    · rw [List.length_map] at h; exact ⟨g, cap, h⟩
  obtain ⟨gx, cx, hx⟩ : ∃ gx cx, xv = .slice (some ⟨gx, 0, none⟩) recs.length cx := by
    rcases S.hx.2 with ⟨_, h0⟩ | ⟨g, cap, cur, h, _⟩
    · rw [List.length_map] at h0; omega
    · rw [List.length_map] at h; exact ⟨g, cap, h⟩
  obtain ⟨_, ao, n, cap, h1, h2, h3, _⟩ := S.hf recs[k] (List.getElem_mem hk)
  exact ⟨gt, ct, gx, cx, ao, n, cap, ht, hx, h1, h2, h3⟩
theorem StG.head {K : Kd} {P : Nat → Prop} {B : Nat} {w0 w : World} {G : Nat} {cs : Array Value} {tv xv : Value} {recs : List (Value × List Value)} {lv : Value} {nl : Nat} {ls : List (List Value)} (S : StG K P B w0 w G cs tv xv (recs.map (·.1)) (recs.map (·.2)) recs lv nl ls) : ∃ ao cap, tv = .slice ao recs.length cap := by
  obtain ⟨ao, cap, h⟩ := own_shape S.ht
  rw [List.length_map] at h
  exact ⟨ao, cap, h⟩
/-- What is read of the list at k, and of its mark. -/
theorem StG.read {K : Kd} {P : Nat → Prop} {B : Nat} {w0 w : World} {G : Nat} {cs : Array Value} {gt ct gx cx : Nat} {recs : List (Value × List Value)} {lv : Value} {nl : Nat} {ls : List (List Value)} (S : StG K P B w0 w G cs (.slice (some ⟨gt, 0, none⟩) recs.length ct) (.slice (some ⟨gx, 0, none⟩) recs.length cx) (recs.map (·.1)) (recs.map (·.2)) recs lv nl ls) (k : Nat) (hk : k < recs.length) {ao : Option Addr} {n cap : Nat} {mk : List Value} (hl : recs[k] = (.slice ao n cap, mk)) :
    w.cell? ⟨gt, k, none⟩ = some (.slice ao n cap) ∧ w.rangeAt gx (k * K.sz) mk ∧ (0 < n → ∃ g, ao = some ⟨g, 0, none⟩ ∧ ∀ i, i < n → w.rangeAt g (i * K.sz) mk) := by
  refine ⟨?_, ?_, ?_⟩
  · have := S.ht.cells (g := gt) rfl k (.slice ao n cap) (by rw [List.getElem?_map, List.getElem?_eq_getElem hk, hl]; rfl)
    rwa [Addr.add_lit, Nat.zero_add] at this
  · have h32 : ∀ d ∈ recs.map (·.2), d.length = K.sz := fun d hd => by
      obtain ⟨r, hr, rfl⟩ := List.mem_map.1 hd
      exact (S.hf r hr).1
    have hm : mk.length = K.sz := by
      have := (S.hf recs[k] (List.getElem_mem hk)).1
      rwa [hl] at this
    intro j u hu
    have hj : j < K.sz := by
      have := (List.getElem?_eq_some_iff.1 hu).1
      omega
    have hk2 : k < (recs.map (·.2)).length := by rw [List.length_map]; exact hk
    have := S.hx.cells (g := gx) rfl (k * K.sz + j) u (by rw [fl_at _ h32 k hk2 j hj, List.getElem_map, hl]; exact hu)
    rwa [Addr.add_lit, Nat.zero_add] at this
  · obtain ⟨_, ao', n', cap', he, _, _, h3⟩ := S.hf recs[k] (List.getElem_mem hk)
    rw [hl] at he h3
    injection he with he1 he2 he3
    subst he1 he2 he3
    exact h3
end Go.Proofs.YtanfolfopalbeaaDoor
