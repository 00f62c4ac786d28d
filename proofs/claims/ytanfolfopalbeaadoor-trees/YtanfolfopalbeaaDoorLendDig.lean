/- lendDigests, sameDigests: the contracts. -/
import Derived.Test.YtanfolfopalbeaaDoorRefTree
import Derived.Test.YtanfolfopalbeaaDoorCopyBig
import Derived.Laws.CopyRow
import Derived.Laws.CopyOwn
import Derived.OwnWalk
namespace Go.Proofs.YtanfolfopalbeaaDoor
open Go.RowKit

/-- What lendDigests lays behind a list. -/
def d7 : List UInt8 := [7, 7, 7] ++ List.replicate 29 0
theorem d7_length : d7.length = 32 := rfl
theorem d7_cells : (bcells d7).toArray = #[.int .u8 7, .int .u8 7, .int .u8 7, .int .u8 0, .int .u8 0, .int .u8 0, .int .u8 0, .int .u8 0, .int .u8 0, .int .u8 0, .int .u8 0, .int .u8 0, .int .u8 0, .int .u8 0, .int .u8 0, .int .u8 0, .int .u8 0, .int .u8 0, .int .u8 0, .int .u8 0, .int .u8 0, .int .u8 0, .int .u8 0, .int .u8 0, .int .u8 0, .int .u8 0, .int .u8 0, .int .u8 0, .int .u8 0, .int .u8 0, .int .u8 0, .int .u8 0] := rfl
def lentD (ps : List (List UInt8)) : List (List UInt8) := ps ++ [d7, d7]
theorem lentD_length (ps : List (List UInt8)) : (lentD ps).length = ps.length + 2 := by simp [lentD]
theorem lentD_elem (ps : List (List UInt8)) (h : ∀ d ∈ ps, d.length = 32) : ∀ d ∈ lentD ps, d.length = 32 := by
  intro d hd
  simp only [lentD, List.mem_append, List.mem_cons, List.not_mem_nil, or_false, or_self] at hd
  rcases hd with hd | rfl
  · exact h d hd
  · rfl
theorem lentD_at (ps : List (List UInt8)) (k : Nat) (h0 : ps.length ≤ k) (h1 : k < ps.length + 2) : (lentD ps).getD k [] = d7 := by
  unfold lentD
  rw [List.getD, List.getElem?_append_right h0]
  have : k - ps.length = 0 ∨ k - ps.length = 1 := by omega
  rcases this with h | h <;> simp [h]

set_option maxRecDepth 100000 in
set_option maxHeartbeats 1600000 in
theorem lendD_any (v : Value) (ps : List (List UInt8)) (w : World) (h : Digs w v ps) (hm : ps.length ≤ 1048576) :
    Calls Tryd.prog 28 #[v] w fun e w' => e = .returned (.slice (some ⟨w.heap.size, 0, none⟩) (ps.length + 2) (ps.length + 2)) ∧
      w'.ownsRow w.heap.size 31 32 (.slice (some ⟨w.heap.size, 0, none⟩) (ps.length + 2) (ps.length + 2)) (ps.length + 2) (dcells (lentD ps)) ∧ Below w.heap.size w w' := by
  obtain ⟨i0, hi, hz0, hz1, hz2⟩ := info_parts info_dig
  obtain ⟨h0, ao, cap, rfl, hc1, hc2, hc⟩ := h
  have HC := hide hc
  have H0 := hide h0
  have HDL := hide (dcells_length ps h0)
  clear hc h0
  go_enter Tryd.func28, Tryd.ntmps28
  go_wp2_with (at_make; go_must (refine wpList_make_full _ rfl _ _ 50 rfl w.heap.size 31 i0 (.agg (bcells z32).toArray) 32 Tryd.underlying50 hi hz0 hz1 _ _ _ _ (ps.length + 2) rfl rfl (by omega) (by omega) (by rw [hz2]; omega) (by unfold maxLen; omega) (Nat.le_refl _) ?_))
  intro w1 hown1 hgrow1
  have hbel1 : Below w.heap.size w w1 := (Below.refl _ _).grown hgrow1 (Nat.le_refl _) (fun k h => by cases h)
  obtain ⟨hl1, h1⟩ := hown1
  rcases h1 with ⟨h1, _⟩ | ⟨g, cap1, cur, hv, hg1, hg2, hg3, hg4, hg5, hg6⟩
  · simp at h1
  simp only [Value.slice.injEq, Option.some.injEq, Addr.mk.injEq, and_true, true_and] at hv
  obtain ⟨hgB, hcap1⟩ := hv
  rw [← hcap1] at hg5
  rw [← hgB] at hg2
  have hcl : cur.toList.length = (ps.length + 2) * 32 := by rw [Array.length_toList]; exact hg5
  have hsrc : 0 < ps.length → ∃ ad, ao = some ad ∧ ∀ j v, (dcells ps)[j]? = some v → w1.cell? (ad.add j) = some v := by
    intro hp
    rcases unhide HC with rfl | ⟨b, off, rfl, hcc⟩
    · cases hp
    · refine ⟨_, rfl, fun j v hj => ?_⟩
      rw [add_none, hbel1.cell (p := ⟨b, off + j, none⟩) (cell_lt (hcc j v hj))]
      exact hcc j v hj
  have HG : Hid (w1.heap[w.heap.size]? = some (.cells cur.toList.toArray 31 (0, 0))) := hide (by rw [Array.toArray_toList]; exact hg2)
  have HSRC := hide hsrc
  have HCL := hide hcl
  have HINF := hide (show (Tryd.prog.info? 31).map (·.size) = some 32 from info_dg)
  clear hsrc hcl hg1 hg2 hg3 hg4 hg5 hg6 hl1 hgB hcap1 hgrow1
  go_wp2_with ((with_reducible refine at_copyD ?_); go_must (refine wpList_copy_big rfl (.tmp 9) (.tmp 10) 50 50 rfl 31 Tryd.underlying50 32 (unhide HINF) _ _ _ _ _ w.heap.size rfl rfl cur.toList 31 (unhide HG) (dcells ps) (by omega) ?c1 (unhide HSRC) ?c2 (dcells_one2 ps) w.heap.size w hbel1 (Nat.le_refl _) ?_))
  case c1 => have := unhide HDL; omega
  case c2 => have h5 := unhide HCL; have h6 := unhide HDL; omega
  intro w2 HG2 hbel2
  have hl0 : (dcells ps ++ cur.toList.drop (dcells ps).length).length = (ps.length + 2) * 32 := by
    rw [List.length_append, List.length_drop]
    have h5 := unhide HCL
    have h6 := unhide HDL
    omega
  have ht0 : (dcells ps ++ cur.toList.drop (dcells ps).length).take (ps.length * 32) = (dcells (lentD ps)).take (ps.length * 32) := by
    have h6 := unhide HDL
    have e : dcells (lentD ps) = dcells ps ++ dcells [d7, d7] := by simp [dcells, lentD]
    rw [e, List.take_left' (by omega), List.take_left' (by omega)]
  have hLe := lentD_elem ps (unhide H0)
  have hLl := lentD_length ps
  have hLa := lentD_at ps
  have hdL := dcells_length (lentD ps) hLe
  generalize dcells ps ++ cur.toList.drop (dcells ps).length = l0 at hl0 ht0 HG2
  generalize hLE : lentD ps = L at hLe hLl hLa hdL ht0
  have HLE := hide hLE
  clear hLE
  rw [hLl] at hdL
  have HDAT := hide (fun k hk => dcells_at L k hk)
  have HDTK := hide (fun k => dcells_length (L.take k) (fun d hd => hLe d (List.mem_of_mem_take hd)))
  have H7 := hide (v_dg d7 rfl)
  have HLA := hide hLa
  have HDL2 := hide hdL
  clear HC HSRC HG HCL hLe hLa hdL hbel1 HDL
  go_wp2_with fail
  go_loopw [4] (fun i wr => ∃ (k : Nat) (l2 : List Value), ps.length ≤ k ∧ k ≤ ps.length + 2 ∧ i = .int .i64 k ∧ l2.length = (ps.length + 2) * 32 ∧ l2.take (k * 32) = (dcells L).take (k * 32) ∧ wr.heap[w.heap.size]? = some (.cells l2.toArray 31 (0, 0)) ∧ Below w.heap.size w wr) (fun i _ => ps.length + 2 - (intOf i).toNat)
  case atStart => exact ⟨ps.length, l0, Nat.le_refl _, by omega, rfl, hl0, ht0, unhide HG2, hbel2⟩
  case round =>
    obtain ⟨k, l2, hk0, hk2, rfl, hl2, htk, hg, hbel⟩ := hrel
    have HGK := hide hg
    have HTK := hide htk
    clear hg htk
    by_cases hlt : k < ps.length + 2
    · have hthere : wr.there w.heap.size (k * 32) (bcells d7).toArray.size := fun j hj => by
        rw [bcells_size, d7_length] at hj
        refine ⟨?_, frozen_of_row wr w.heap.size _ _ _ (unhide HGK)⟩
        rw [cell_of_row wr w.heap.size _ _ _ _ (unhide HGK), List.getElem?_toArray, List.getElem?_eq_getElem (by omega)]
        rfl
      have HTH := hide hthere
      clear hthere
      have hd1 : decide ((k : Int) < (ps.length : Int) + 2) = true := by simp; omega
      have hka : (0 : Int) ≤ (k : Int) := by omega
      have hkb : (k : Int) < (ps.length : Int) + 2 := by omega
      go_wp2_with ((with_reducible refine at_store ?_); rw [← d7_cells]; refine wpList_store_mid rfl 31 _ _ rfl w.heap.size (k * 32) (bcells d7).toArray (by rfl) (by rfl) (unhide HTH) (unhide H7) (bcells_one d7) ?_)
      refine ⟨⟨k + 1, l2.take (k * 32) ++ bcells d7 ++ l2.drop (k * 32 + 32), by omega, by omega, by go_num, ?_, ?_, ?_, below_setCells (Nat.le_refl _) _ _ hbel⟩, by simp [intOf]; omega⟩
      · simp [bcells, d7_length]
        omega
      · have h6 := unhide HDTK k
        rw [List.length_take] at h6
        have e1 := unhide HDAT k (by omega)
        rw [unhide HLA k hk0 hlt] at e1
        have e2 : (dcells L).take (k * 32) = dcells (L.take k) := by
          rw [e1, List.append_assoc, List.take_left' (by omega)]
        rw [unhide HTK, e2]
        have hb7 : (bcells d7).length = 32 := rfl
        rw [List.take_left' (by rw [List.length_append]; omega)]
        rw [e1, List.take_left' (by rw [List.length_append]; omega)]
      · rw [setCells_row w.heap.size 31 (bcells d7) (k * 32) wr _ (unhide HGK) (by simp [bcells, d7_length]; omega)]
        rfl
    · have hd1 : decide ((k : Int) < (ps.length : Int) + 2) = false := by simp; omega
      have hle : l2 = dcells L := by
        have h5 := unhide HTK
        have h6 := unhide HDL2
        rw [List.take_of_length_le (by omega), List.take_of_length_le (by omega)] at h5
        exact h5
      have HO := hide (show wr.ownsRow w.heap.size 31 32 (.slice (some ⟨w.heap.size, 0, none⟩) (ps.length + 2) (ps.length + 2)) (ps.length + 2) (dcells (lentD ps)) from
        ⟨by rw [unhide HLE, unhide HDL2]; omega, .inr ⟨w.heap.size, ps.length + 2, _, rfl, Nat.le_refl _, unhide HGK, Nat.le_refl _, by unfold maxLen; omega, by simp [hl2], by rw [unhide HLE, ← hle, List.take_of_length_le (by simp [hl2])]⟩⟩)
      clear hle
      go_wp2
      go_ret
      exact ⟨rfl, unhide HO, hbel⟩

set_option maxRecDepth 100000 in
set_option maxHeartbeats 400000 in
theorem sameD_empty (ao ao' : Option Addr) (cap cap' : Nat) (w : World) :
    Calls Tryd.prog 31 #[.slice ao 0 cap, .slice ao' 0 cap'] w fun e w' => e = .returned (.bool true) ∧ Below w.heap.size w w' := by
  go_enter Tryd.func31, Tryd.ntmps31
  go_wp2
  refine wp_loop_rounds 1 ?_
  rw [rounds_succ]
  go_wp2
  go_ret
  exact ⟨rfl, Below.refl _ _⟩

set_option maxRecDepth 100000 in
set_option maxHeartbeats 1600000 in
theorem sameD_some (b off cap b' off' cap' : Nat) (ps : List (List UInt8)) (w : World) (hm : ps.length ≤ 2097152) (hD : Digs w (.slice (some ⟨b, off, none⟩) ps.length cap) ps) (hD' : Digs w (.slice (some ⟨b', off', none⟩) ps.length cap') ps) :
    Calls Tryd.prog 31 #[.slice (some ⟨b, off, none⟩) ps.length cap, .slice (some ⟨b', off', none⟩) ps.length cap'] w fun e w' => e = .returned (.bool true) ∧ Below w.heap.size w w' := by
  have HD := hide hD
  have HD' := hide hD'
  clear hD hD'
  have hne : ((ps.length : Int) != (ps.length : Int)) = false := by simp
  have hu31 := Tryd.underlying31
  go_enter Tryd.func31, Tryd.ntmps31
  go_wp2
  go_loopw [5] (fun i wr => ∃ k : Nat, k ≤ ps.length ∧ i = .int .i64 k ∧ Below w.heap.size w wr) (fun i _ => ps.length - (intOf i).toNat)
  case atStart => exact ⟨0, Nat.zero_le _, rfl, Below.refl _ _⟩
  case round =>
    obtain ⟨k, hk, rfl, hbel⟩ := hrel
    by_cases hlt : k < ps.length
    · have hr1 := rangeAt_below (digs_at (unhide HD) k hlt) hbel (Nat.le_refl _)
      have hr2 := rangeAt_below (digs_at (unhide HD') k hlt) hbel (Nat.le_refl _)
      have hdl := digs_len (unhide HD) k hlt
      generalize ps.getD k [] = d at hr1 hr2 hdl
      have hmi := v_mid d hdl
      have hsame := fun wq => digest_same d hdl wq
      have hlti : (k : Int) < (ps.length : Int) := by omega
      have hk0 : (0 : Int) ≤ (k : Int) := by omega
      have hr8 : wr.drew.rangeAt b (off + k * 32) (bcells d) ∧ wr.drew.rangeAt b' (off' + k * 32) (bcells d) := ⟨hr1, hr2⟩
      clear hr1 hr2
      go_wp2_with fail
      refine wp_region_held_drew (S := fun w' => w'.rangeAt b (off + k * 32) (bcells d) ∧ w'.rangeAt b' (off' + k * 32) (bcells d)) (by kernel_rfl) hr8 (fun hHeld => ?_)
      refine wpAnyH_take (i := 0) (v := .slice (some ⟨b, off, none⟩) ps.length cap) rfl (by kernel_rfl) (by kernel_rfl) (by kernel_rfl) (fun _ _ _ h => h) (Or.inl ⟨by rfl, fun _ _ => by go_simp⟩) hHeld ?_
      simp only [List.getElem_toArray, List.getElem_cons_zero, Act.put, List.setIfInBounds_toArray, List.set_cons_zero, List.set_cons_succ]
      refine wpAnyH_take (i := 1) (v := .int .i64 k) rfl (by kernel_rfl) (by kernel_rfl) (by kernel_rfl) (fun _ _ _ h => h) (Or.inl ⟨by rfl, fun _ _ => by go_simp⟩) hHeld ?_
      simp only [List.getElem_toArray, List.getElem_cons_zero, List.getElem_cons_succ, Act.put, List.setIfInBounds_toArray, List.set_cons_zero, List.set_cons_succ]
      refine wpAnyH_take (i := 2) (v := .pointer (some ⟨b, off + k * 32, none⟩)) rfl (by kernel_rfl) (by kernel_rfl) (by kernel_rfl) (fun _ _ _ h => h) (Or.inl ⟨by rfl, fun _ _ => by go_simp⟩) hHeld ?_
      simp only [List.getElem_toArray, List.getElem_cons_zero, List.getElem_cons_succ, Act.put, List.setIfInBounds_toArray, List.set_cons_zero, List.set_cons_succ]
      refine wpAnyH_take (i := 3) rfl (by kernel_rfl) (by kernel_rfl) (by kernel_rfl) (fun _ _ _ h => h) (yieldsIf_load_mid (by rfl) 31 _ rfl b (off + k * 32) rfl (bcells d) _ (fun _ h => h.1) Tryd.underlying31 rfl hmi) hHeld ?_
      simp only [List.getElem_toArray, List.getElem_cons_zero, List.getElem_cons_succ, Act.put, List.setIfInBounds_toArray, List.set_cons_zero, List.set_cons_succ]
      refine wpAnyH_take (i := 4) (v := .slice (some ⟨b', off', none⟩) ps.length cap') rfl (by kernel_rfl) (by kernel_rfl) (by kernel_rfl) (fun _ _ _ h => h) (Or.inl ⟨by rfl, fun _ _ => by go_simp⟩) hHeld ?_
      simp only [List.getElem_toArray, List.getElem_cons_zero, List.getElem_cons_succ, Act.put, List.setIfInBounds_toArray, List.set_cons_zero, List.set_cons_succ]
      refine wpAnyH_take (i := 5) (v := .int .i64 k) rfl (by kernel_rfl) (by kernel_rfl) (by kernel_rfl) (fun _ _ _ h => h) (Or.inl ⟨by rfl, fun _ _ => by go_simp⟩) hHeld ?_
      simp only [List.getElem_toArray, List.getElem_cons_zero, List.getElem_cons_succ, Act.put, List.setIfInBounds_toArray, List.set_cons_zero, List.set_cons_succ]
      refine wpAnyH_take (i := 6) (v := .pointer (some ⟨b', off' + k * 32, none⟩)) rfl (by kernel_rfl) (by kernel_rfl) (by kernel_rfl) (fun _ _ _ h => h) (Or.inl ⟨by rfl, fun _ _ => by go_simp⟩) hHeld ?_
      simp only [List.getElem_toArray, List.getElem_cons_zero, List.getElem_cons_succ, Act.put, List.setIfInBounds_toArray, List.set_cons_zero, List.set_cons_succ]
      refine wpAnyH_take (i := 7) rfl (by kernel_rfl) (by kernel_rfl) (by kernel_rfl) (fun _ _ _ h => h) (yieldsIf_load_mid (by rfl) 31 _ rfl b' (off' + k * 32) rfl (bcells d) _ (fun _ h => h.2) Tryd.underlying31 rfl hmi) hHeld ?_
      simp only [List.getElem_toArray, List.getElem_cons_zero, List.getElem_cons_succ, Act.put, List.setIfInBounds_toArray, List.set_cons_zero, List.set_cons_succ]
      refine wpAnyH_take (i := 8) (v := .bool false) rfl (by kernel_rfl) (by kernel_rfl) (by kernel_rfl) (fun _ _ _ h => h) (Or.inl ⟨by rfl, fun _ _ => by go_simp⟩) hHeld ?_
      simp only [List.getElem_toArray, List.getElem_cons_zero, List.getElem_cons_succ, Act.put, List.setIfInBounds_toArray, List.set_cons_zero, List.set_cons_succ]
      refine wpAnyH_done (by kernel_rfl) ?_ _
      clear hsame hr8 hHeld hu31
      go_wp2_with fail
      go_roundw
      case rel => exact ⟨k + 1, by omega, by go_num, hbel.drew⟩
      case measure => simp [intOf]; omega
    · go_wp2
      go_ret
      exact ⟨rfl, hbel⟩
theorem sameD_any (v v' : Value) (ps : List (List UInt8)) (w : World) (h : Digs w v ps) (h' : Digs w v' ps) (hm : ps.length ≤ 2097152) :
    Calls Tryd.prog 31 #[v, v'] w fun e w' => e = .returned (.bool true) ∧ Below w.heap.size w w' := by
  by_cases h0 : ps.length = 0
  · obtain ⟨_, ao, cap, rfl, _⟩ := h
    obtain ⟨_, ao', cap', rfl, _⟩ := h'
    rw [h0]
    exact sameD_empty ao ao' cap cap' w
  · obtain ⟨b, off, cap, rfl, _, _⟩ := digs_shape h (by omega)
    obtain ⟨b', off', cap', rfl, _, _⟩ := digs_shape h' (by omega)
    exact sameD_some b off cap b' off' cap' ps w hm h h'
end Go.Proofs.YtanfolfopalbeaaDoor
