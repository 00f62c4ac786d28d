/- lend, over the strong sum's texts. -/
import Derived.Test.YtanfolfopalbeabDoorKeep
import Derived.Laws.CopyOwn
namespace Go.Proofs.YtanfolfopalbeabDoor
open Go.RowKit

/-- What lend lays behind a list. -/
def cl : ByteArray := ⟨#[116, 104, 101, 32, 99, 97, 108, 108, 101, 114, 39, 115]⟩
def lentL (ss : List ByteArray) : List ByteArray := ss ++ [cl, cl]

/-- Is the next operation a copy? (to be met by 'with_reducible refine') -/
theorem at_copy {P : Program} {ops : Array Oper} {rest : List Oper} {Q : Exit → Act → World → Prop} {a : Act} {w : World} {ar : Array Operand} {ts : Array TypeId} {d : Option Tmp} {t : TypeId} {pos : String} {af : Array Edge} {g : Option (Nat × Bool)}
    (h : wpList P ops Q ({ dst := d, op := .call { callee := .builtin .copy, args := ar, argTypes := ts }, type := t, pos := pos, after := af, guard := g } :: rest) a w) : wpList P ops Q ({ dst := d, op := .call { callee := .builtin .copy, args := ar, argTypes := ts }, type := t, pos := pos, after := af, guard := g } :: rest) a w := h

set_option maxRecDepth 100000 in
set_option maxHeartbeats 800000 in
theorem lend_some (ao : Option Addr) (cap : Nat) (ss : List ByteArray) (w : World) (hm : ss.length * 16 ≤ 140737488351232)
    (hc : ss = [] ∨ ∃ b off, ao = some ⟨b, off, none⟩ ∧ ∀ i, i < ss.length → w.cell? ⟨b, off + i, none⟩ = some (.string (ss.getD i ByteArray.empty))) :
    Calls Tryd.prog 23 #[.slice ao ss.length cap] w fun e w' => ∃ g, e = .returned (.slice (some ⟨g, 0, none⟩) (ss.length + 2) (ss.length + 2)) ∧
      w'.ownsRow w.heap.size 9 1 (.slice (some ⟨g, 0, none⟩) (ss.length + 2) (ss.length + 2)) (ss.length + 2) ((lentL ss).map Value.string) ∧ Below w.heap.size w w' := by
  obtain ⟨i0, hi, hz0, hz1, hz2⟩ := info_parts info_str
  have HC := hide hc
  clear hc
  go_enter Tryd.func23, Tryd.ntmps23
  go_wp2_with (at_make; go_must (refine wpList_make_full _ rfl _ _ 23 rfl w.heap.size 9 i0 (.string ⟨#[]⟩) 1 Tryd.underlying23 hi hz0 hz1 _ _ _ _ (ss.length + 2) rfl rfl (by omega) (by omega) (by rw [hz2]; omega) (by unfold maxLen; omega) (Nat.le_refl _) ?_))
  intro w1 hown1 hgrow1
  have hbel1 : Below w.heap.size w w1 := (Below.refl _ _).grown hgrow1 (Nat.le_refl _) (fun k h => by cases h)
  obtain ⟨hl1, h1⟩ := hown1
  rcases h1 with ⟨h1, _⟩ | ⟨g, cap1, cur, hv, hg1, hg2, hg3, hg4, hg5, hg6⟩
  · simp at h1
  simp only [Value.slice.injEq, Option.some.injEq, Addr.mk.injEq, and_true, true_and] at hv
  obtain ⟨hgB, hcap1⟩ := hv
  rw [← hcap1, Nat.mul_one] at hg5
  rw [← hgB] at hg2
  have hcl : cur.toList.length = ss.length + 2 := by rw [Array.length_toList]; exact hg5
  have hsrc : 0 < (ss.map Value.string).length → some (⟨w.heap.size, 0, none⟩ : Addr) = some ⟨w.heap.size, 0, none⟩ ∧ ∃ ad, ao = some ad ∧ ∀ j v, (ss.map Value.string)[j]? = some v → w1.cell? (ad.add j) = some v := by
    intro hp
    refine ⟨rfl, ?_⟩
    rcases unhide HC with rfl | ⟨b, off, rfl, hcc⟩
    · simp at hp
    · refine ⟨_, rfl, fun j v hj => ?_⟩
      have hjl : j < ss.length := by
        have := (List.getElem?_eq_some_iff.1 hj).1
        simpa using this
      rw [Addr.add_lit, hbel1.cell (p := ⟨b, off + j, none⟩) (cell_lt (hcc j hjl)), hcc j hjl]
      rw [List.getElem?_map, List.getElem?_eq_getElem hjl] at hj
      simpa [List.getD, List.getElem?_eq_getElem hjl] using hj
  have HG : Hid (w1.heap[w.heap.size]? = some (.cells cur.toList.toArray 9 (0, 0))) := hide (by rw [Array.toArray_toList]; exact hg2)
  have HSRC := hide hsrc
  have HCL := hide hcl
  have hinf : (Tryd.prog.info? 9).map (·.size) = some 1 := by rw [hi]; simp [hz1]
  have HINF := hide hinf
  clear hsrc hcl hg1 hg2 hg3 hg4 hg5 hg6 hl1 hgB hcap1 hinf hgrow1
  go_wp2_with ((with_reducible refine at_copy ?_); go_must (refine wpList_copy_splice rfl (.tmp 9) (.tmp 10) 23 23 rfl 9 Tryd.underlying23 (unhide HINF) _ _ _ _ _ _ rfl rfl w.heap.size 0 cur.toList 9 (unhide HG) (ss.map Value.string) ?c1 (unhide HSRC) ?c2 ?c3 w.heap.size w hbel1 (Nat.le_refl _) ?_))
  case c2 => have := unhide HCL; rw [Array.length_toList] at this; omega
  case c3 => first | (intro v hv; simp only [List.mem_map] at hv; obtain ⟨x, _, rfl⟩ := hv; rfl) | (intro x _; rfl)
  intro w2 HG2 hbel2
  have hsp : splice cur.toList 0 (ss.map Value.string) = ss.map Value.string ++ cur.toList.drop ss.length := by simp [splice]
  rw [hsp] at HG2
  have hdl : (cur.toList.drop ss.length).length = 2 := by rw [List.length_drop, unhide HCL]; omega
  obtain ⟨y0, y1, hy⟩ : ∃ y0 y1, cur.toList.drop ss.length = [y0, y1] := by
    match hd : cur.toList.drop ss.length, hdl with
    | [y0, y1], _ => exact ⟨y0, y1, rfl⟩
  rw [hy] at HG2
  clear hsp hdl hy HSRC HG
  have hrow : ∀ t : Nat, t = ss.length ∨ t = ss.length + 1 → t ≤ ss.length + 2 := by omega
  go_wp2
  go_loopw [4] (fun i wr => ∃ (k : Nat) (l2 : List Value), ss.length ≤ k ∧ k ≤ ss.length + 2 ∧ i = .int .i64 k ∧ l2.length = ss.length + 2 ∧ l2.take k = ((lentL ss).map Value.string).take k ∧ wr.heap[w.heap.size]? = some (.cells l2.toArray 9 (0, 0)) ∧ Below w.heap.size w wr) (fun i _ => ss.length + 2 - (intOf i).toNat)
  case atStart =>
    refine ⟨ss.length, ss.map Value.string ++ [y0, y1], Nat.le_refl _, by omega, rfl, by simp, ?_, unhide HG2, hbel2⟩
    rw [List.take_left' (by simp)]
    simp [lentL]
  case round =>
    obtain ⟨k, l2, hk0, hk2, rfl, hl2, htk, hg, hbel⟩ := hrel
    by_cases hlt : k < ss.length + 2
    · have hcl : (l2.toArray)[k]? = some (l2[k]'(by omega)) := by simp [List.getElem?_eq_getElem (show k < l2.length by omega)]
      have hck := cell_of_row wr w.heap.size k _ _ _ hg
      rw [hcl] at hck
      have hfk := frozen_of_row wr w.heap.size k _ _ hg
      go_wp2
      go_roundw
      case rel =>
        refine ⟨k + 1, l2.set k (.string cl), by omega, by omega, by go_num, by rw [List.length_set]; exact hl2, ?_, ?_, hbel.setCell (Nat.le_refl _) _⟩
        · rw [List.take_succ_eq_append_getElem (by rw [List.length_set]; omega), List.take_set_of_le (Nat.le_refl _), List.getElem_set_self, htk,
            List.take_succ_eq_append_getElem (by simp [lentL]; omega)]
          congr 2
          rw [List.getElem_map]
          congr 1
          unfold lentL
          rw [List.getElem_append_right hk0]
          have : k - ss.length = 0 ∨ k - ss.length = 1 := by omega
          rcases this with h | h <;> simp [h]
        · rw [heap_setCell_same wr w.heap.size k _ _ _ hg]
          congr 2
          apply Array.ext'
          rw [Array.toList_setIfInBounds]
          rfl
      case measure => simp [intOf]; omega
    · have hke : k = ss.length + 2 := by omega
      have hll : ((lentL ss).map Value.string).length = ss.length + 2 := by simp [lentL]
      have hle : l2 = (lentL ss).map Value.string := by
        rw [List.take_of_length_le (by omega), List.take_of_length_le (by omega)] at htk
        exact htk
      have hd1 : decide ((k : Int) < (ss.length : Int) + 2) = false := by simp; omega
      have HO := hide (show wr.ownsRow w.heap.size 9 1 (.slice (some ⟨w.heap.size, 0, none⟩) (ss.length + 2) (ss.length + 2)) (ss.length + 2) ((lentL ss).map Value.string) from
        ⟨by rw [hll]; omega, .inr ⟨w.heap.size, ss.length + 2, _, rfl, Nat.le_refl _, hg, Nat.le_refl _, by unfold maxLen; omega, by simp [hl2], by rw [hle, List.take_of_length_le (by simp [lentL])]⟩⟩)
      clear hke hle hll htk hg
      go_wp2
      go_ret
      exact ⟨w.heap.size, rfl, unhide HO, hbel⟩

theorem lend_any (v : Value) (ss : List ByteArray) (w : World) (h : Strs w v ss) (hm : ss.length * 16 ≤ 140737488351232) :
    Calls Tryd.prog 23 #[v] w fun e w' => ∃ g, e = .returned (.slice (some ⟨g, 0, none⟩) (ss.length + 2) (ss.length + 2)) ∧
      w'.ownsRow w.heap.size 9 1 (.slice (some ⟨g, 0, none⟩) (ss.length + 2) (ss.length + 2)) (ss.length + 2) ((lentL ss).map Value.string) ∧ Below w.heap.size w w' := by
  obtain ⟨ao, cap, rfl, h1, h2, h3⟩ := h
  exact lend_some ao cap ss w hm h3
end Go.Proofs.YtanfolfopalbeabDoor
