/- Whatever the slice of sectors, the text and the number: the call of ferrylaw.Junk returns true, and each argument reads afterwards as it read before. Conditions: the two package-level tables of the strong sum (startWords, roundWords) read as the program's own text lays them when the call begins; the card ties them to that text (that nothing else writes them is the translator's report, over the pruned copy of the project). ferrylaw's lendDisk, lentDisk; ferryref's Planned: the contracts. ferrylaw.Junk. Whatever the slice of sectors, the text and the number: the call of ferrylaw.Junk returns true, and each argument reads afterwards as it read before. Conditions: the two package-level tables of the strong sum (startWords, roundWords) read as the program's own text lays them when the call begins; the card ties them to that text (that nothing else writes them is the translator's report, over the pruned copy of the project). -/
import Derived.Test.YtanfolfopalbeaaDoorCommK
import Derived.Test.YtanfolfopalbeaaDoorLendDig
import Derived.Test.YtanfolfopalbeaaDoorRefHeap
import Derived.Test.YtanfolfopalbeaaDoorLent
import Derived.Test.YtanfolfopalbeaaDoorCards
import Derived.Test.YtanfolfopalbeaaDoorTie
import Derived.Test.YtanfolfopalbeaaDoorLaid
import Derived.ProofKit
import Derived.OpenShut
import Derived.SliceStrings
import Derived.Carry
import Derived.SizedLaws
import Derived.Deep.Slices
import Derived.Deep.DeepHandedRow
import Derived.Lib.LaidTab
import Derived.Stop.LaidErr
namespace Go.Proofs.YtanfolfopalbeaaDoor
open Go.RowKit

set_option maxRecDepth 100000 in
set_option maxHeartbeats 1600000 in
theorem lendK_any (v : Value) (ps : List (List UInt8)) (w : World) (h : Digs w v ps) (hm : ps.length * 32 ≤ 140737488351232) :
    Calls Tryd.prog 39 #[v] w fun e w' => e = .returned (.slice (some ⟨w.heap.size, 0, none⟩) (ps.length + 2) (ps.length + 2)) ∧
      w'.ownsRow w.heap.size 126 32 (.slice (some ⟨w.heap.size, 0, none⟩) (ps.length + 2) (ps.length + 2)) (ps.length + 2) (dcells (lentD ps)) ∧ Below w.heap.size w w' := by
  obtain ⟨i0, hi, hz0, hz1, hz2⟩ := info_parts info_sec
  obtain ⟨h0, ao, cap, rfl, hc1, hc2, hc⟩ := h
  have HC := hide hc
  have H0 := hide h0
  have HDL := hide (dcells_length ps h0)
  clear hc h0
  go_enter Tryd.func39, Tryd.ntmps39
  go_wp2_with (at_make; go_must (refine wpList_make_full _ rfl _ _ 52 rfl w.heap.size 126 i0 (.agg (bcells z32).toArray) 32 Tryd.underlying52 hi hz0 hz1 _ _ _ _ (ps.length + 2) rfl rfl (by omega) (by omega) (by rw [hz2]; omega) (by unfold maxLen; omega) (Nat.le_refl _) ?_))
  intro w1 hown1 hgrow1
  have hbel1 : Below w.heap.size w w1 := (Below.refl _ _).grown hgrow1 (Nat.le_refl _) (fun k h => by cases h)
  obtain ⟨hl1, h1⟩ := hown1
  rcases h1 with ⟨h1, _⟩ | ⟨g, cap1, cur, hv, hg1, hg2, hg3, hg4, hg5, hg6⟩
  · simp at h1
  simp only [Value.slice.injEq, Option.some.injEq, Addr.mk.injEq, and_true, true_and] at hv
  obtain ⟨hgB, hcap1⟩ := hv
  rw [← hcap1] at hg5
  rw [← hgB] at hg2
  have hcl : cur.toList.length = (ps.length + 2) * 32 := by rw [Array.length_toList]; exact hg5
  have hsrc : 0 < ps.length → ∃ ad, ao = some ad ∧ ∀ j v, (dcells ps)[j]? = some v → w1.cell? (ad.add j) = some v := by
    intro hp
    rcases unhide HC with rfl | ⟨b, off, rfl, hcc⟩
    · cases hp
    · refine ⟨_, rfl, fun j v hj => ?_⟩
      rw [add_none, hbel1.cell (p := ⟨b, off + j, none⟩) (cell_lt (hcc j v hj))]
      exact hcc j v hj
  have HG : Hid (w1.heap[w.heap.size]? = some (.cells cur.toList.toArray 126 (0, 0))) := hide (by rw [Array.toArray_toList]; exact hg2)
  have HSRC := hide hsrc
  have HCL := hide hcl
  have HINF := hide (show (Tryd.prog.info? 126).map (·.size) = some 32 from info_sc)
  clear hsrc hcl hg1 hg2 hg3 hg4 hg5 hg6 hl1 hgB hcap1 hgrow1
  go_wp2_with ((with_reducible refine at_copyD ?_); go_must (refine wpList_copy_big rfl (.tmp 9) (.tmp 10) 52 52 rfl 126 Tryd.underlying52 32 (unhide HINF) _ _ _ _ _ w.heap.size rfl rfl cur.toList 126 (unhide HG) (dcells ps) (by omega) ?c1 (unhide HSRC) ?c2 (dcells_one2 ps) w.heap.size w hbel1 (Nat.le_refl _) ?_))
  case c1 => have := unhide HDL; omega
  case c2 => have h5 := unhide HCL; have h6 := unhide HDL; omega
  intro w2 HG2 hbel2
  have hl0 : (dcells ps ++ cur.toList.drop (dcells ps).length).length = (ps.length + 2) * 32 := by
    rw [List.length_append, List.length_drop]
    have h5 := unhide HCL
    have h6 := unhide HDL
    omega
  have ht0 : (dcells ps ++ cur.toList.drop (dcells ps).length).take (ps.length * 32) = (dcells (lentD ps)).take (ps.length * 32) := by
    have h6 := unhide HDL
    have e : dcells (lentD ps) = dcells ps ++ dcells [d7, d7] := by simp [dcells, lentD]
    rw [e, List.take_left' (by omega), List.take_left' (by omega)]
  have hLe := lentD_elem ps (unhide H0)
  have hLl := lentD_length ps
  have hLa := lentD_at ps
  have hdL := dcells_length (lentD ps) hLe
  generalize dcells ps ++ cur.toList.drop (dcells ps).length = l0 at hl0 ht0 HG2
  generalize hLE : lentD ps = L at hLe hLl hLa hdL ht0
  have HLE := hide hLE
  clear hLE
  rw [hLl] at hdL
  have HDAT := hide (fun k hk => dcells_at L k hk)
  have HDTK := hide (fun k => dcells_length (L.take k) (fun d hd => hLe d (List.mem_of_mem_take hd)))
  have H7 := hide (v_sc d7 rfl)
  have HLA := hide hLa
  have HDL2 := hide hdL
  clear HC HSRC HG HCL hLe hLa hdL hbel1 HDL
  go_wp2_with fail
  go_loopw [4] (fun i wr => ∃ (k : Nat) (l2 : List Value), ps.length ≤ k ∧ k ≤ ps.length + 2 ∧ i = .int .i64 k ∧ l2.length = (ps.length + 2) * 32 ∧ l2.take (k * 32) = (dcells L).take (k * 32) ∧ wr.heap[w.heap.size]? = some (.cells l2.toArray 126 (0, 0)) ∧ Below w.heap.size w wr) (fun i _ => ps.length + 2 - (intOf i).toNat)
  case atStart => exact ⟨ps.length, l0, Nat.le_refl _, by omega, rfl, hl0, ht0, unhide HG2, hbel2⟩
  case round =>
    obtain ⟨k, l2, hk0, hk2, rfl, hl2, htk, hg, hbel⟩ := hrel
    have HGK := hide hg
    have HTK := hide htk
    clear hg htk
    by_cases hlt : k < ps.length + 2
    · have hthere : wr.there w.heap.size (k * 32) (bcells d7).toArray.size := fun j hj => by
        rw [bcells_size, d7_length] at hj
        refine ⟨?_, frozen_of_row wr w.heap.size _ _ _ (unhide HGK)⟩
        rw [cell_of_row wr w.heap.size _ _ _ _ (unhide HGK), List.getElem?_toArray, List.getElem?_eq_getElem (by omega)]
        rfl
      have HTH := hide hthere
      clear hthere
      have hd1 : decide ((k : Int) < (ps.length : Int) + 2) = true := by simp; omega
      have hka : (0 : Int) ≤ (k : Int) := by omega
      have hkb : (k : Int) < (ps.length : Int) + 2 := by omega
      go_wp2_with ((with_reducible refine at_store ?_); rw [← d7_cells]; refine wpList_store_mid rfl 126 _ _ rfl w.heap.size (k * 32) (bcells d7).toArray (by rfl) (by rfl) (unhide HTH) (unhide H7) (bcells_one d7) ?_)
      refine ⟨⟨k + 1, l2.take (k * 32) ++ bcells d7 ++ l2.drop (k * 32 + 32), by omega, by omega, by go_num, ?_, ?_, ?_, below_setC (Nat.le_refl _) _ _ hbel⟩, by simp [intOf]; omega⟩
      · simp [bcells, d7_length]
        omega
      · have h6 := unhide HDTK k
        rw [List.length_take] at h6
        have e1 := unhide HDAT k (by omega)
        rw [unhide HLA k hk0 hlt] at e1
        have e2 : (dcells L).take (k * 32) = dcells (L.take k) := by
          rw [e1, List.append_assoc, List.take_left' (by omega)]
        rw [unhide HTK, e2]
        have hb7 : (bcells d7).length = 32 := rfl
        rw [List.take_left' (by rw [List.length_append]; omega)]
        rw [e1, List.take_left' (by rw [List.length_append]; omega)]
      · rw [setC_row w.heap.size 126 (bcells d7) (k * 32) wr _ (unhide HGK) (by simp [bcells, d7_length]; omega)]
        rfl
    · have hd1 : decide ((k : Int) < (ps.length : Int) + 2) = false := by simp; omega
      have hle : l2 = dcells L := by
        have h5 := unhide HTK
        have h6 := unhide HDL2
        rw [List.take_of_length_le (by omega), List.take_of_length_le (by omega)] at h5
        exact h5
      have HO := hide (show wr.ownsRow w.heap.size 126 32 (.slice (some ⟨w.heap.size, 0, none⟩) (ps.length + 2) (ps.length + 2)) (ps.length + 2) (dcells (lentD ps)) from
        ⟨by rw [unhide HLE, unhide HDL2]; omega, .inr ⟨w.heap.size, ps.length + 2, _, rfl, Nat.le_refl _, unhide HGK, Nat.le_refl _, by unfold maxLen; omega, by simp [hl2], by rw [unhide HLE, ← hle, List.take_of_length_le (by simp [hl2])]⟩⟩)
      clear hle
      go_wp2
      go_ret
      exact ⟨rfl, unhide HO, hbel⟩

theorem sector_same (d : List UInt8) (hd : d.length = 32) (w : World) : Sem.run Tryd.prog (Op.equalIn 10000 126 (.agg (bcells d).toArray) (.agg (bcells d).toArray)) w = .ok true w := by
  rw [sector_eq d d hd hd]
  simp
set_option maxRecDepth 100000 in
set_option maxHeartbeats 1600000 in
theorem lentK_any (x v : Value) (ds : List (List UInt8)) (w : World) (hx : Digs w x (lentD ds)) (h : Digs w v ds) (hm : ds.length * 32 ≤ 140737488351232) :
    Calls Tryd.prog 43 #[x, v] w fun e w' => e = .returned (.bool true) ∧ Below w.heap.size w w' := by
  have hLl := lentD_length ds
  obtain ⟨b, off, cap, hvx, hcap, _⟩ := digs_shape hx (by omega)
  subst hvx
  have HLD := hide (lendK_any v ds w h hm)
  have HX := hide hx
  have HLE := hide (lentD_elem ds h.1)
  generalize hps : lentD ds = ps at *
  clear hps hx
  have hu31 := Tryd.underlying126
  go_enter Tryd.func43, Tryd.ntmps43
  go_wp2_with fail
  refine (unhide HLD).mono ?_
  rintro e w1 ⟨rfl, hown1, hb1⟩
  have hD1 := (unhide HX).below hb1 (Nat.le_refl _)
  have hD1' := digs_of_own (unhide HLE) hown1 (by omega)
  rw [← hLl] at hD1' ⊢
  have HD := hide hD1
  have HD' := hide hD1'
  obtain ⟨b', hb'⟩ : ∃ b', b' = w.heap.size := ⟨_, rfl⟩
  rw [← hb'] at HD' ⊢
  have hbel1 := hb1
  clear hown1 hb1 HLD HX hD1 hD1' h
  go_wp2_with fail
  go_loopw [6] (fun i wr => ∃ k : Nat, k ≤ ps.length ∧ i = .int .i64 k ∧ Below w1.heap.size w1 wr) (fun i _ => ps.length - (intOf i).toNat)
  case atStart => exact ⟨0, Nat.zero_le _, rfl, Below.refl _ _⟩
  case round =>
    obtain ⟨k, hk, rfl, hbel⟩ := hrel
    by_cases hlt : k < ps.length
    · have hr1 := rangeAt_below (digs_at (unhide HD) k hlt) hbel (Nat.le_refl _)
      have hr2 := rangeAt_below (digs_at (unhide HD') k hlt) hbel (Nat.le_refl _)
      have hdl := digs_len (unhide HD) k hlt
      generalize ps.getD k [] = d at hr1 hr2 hdl
      have hmi := v_scm d hdl
      have hsame := fun wq => sector_same d hdl wq
      have hlti : (k : Int) < (ps.length : Int) := by omega
      have hk0 : (0 : Int) ≤ (k : Int) := by omega
      have hr8 : wr.drew.rangeAt b (off + k * 32) (bcells d) ∧ wr.drew.rangeAt b' (0 + k * 32) (bcells d) := ⟨hr1, hr2⟩
      clear hr1 hr2
      go_wp2_with fail
      refine wp_region_held_drew (S := fun w' => w'.rangeAt b (off + k * 32) (bcells d) ∧ w'.rangeAt b' (0 + k * 32) (bcells d)) (by kernel_rfl) hr8 (fun hHeld => ?_)
      refine wpAnyH_take (i := 0) (v := .slice (some ⟨b, off, none⟩) ps.length cap) rfl (by kernel_rfl) (by kernel_rfl) (by kernel_rfl) (fun _ _ _ h => h) (Or.inl ⟨by rfl, fun _ _ => by go_simp⟩) hHeld ?_
      simp only [List.getElem_toArray, List.getElem_cons_zero, Act.put, List.setIfInBounds_toArray, List.set_cons_zero, List.set_cons_succ]
      refine wpAnyH_take (i := 1) (v := .int .i64 k) rfl (by kernel_rfl) (by kernel_rfl) (by kernel_rfl) (fun _ _ _ h => h) (Or.inl ⟨by rfl, fun _ _ => by go_simp⟩) hHeld ?_
      simp only [List.getElem_toArray, List.getElem_cons_zero, List.getElem_cons_succ, Act.put, List.setIfInBounds_toArray, List.set_cons_zero, List.set_cons_succ]
      refine wpAnyH_take (i := 2) (v := .pointer (some ⟨b, off + k * 32, none⟩)) rfl (by kernel_rfl) (by kernel_rfl) (by kernel_rfl) (fun _ _ _ h => h) (Or.inl ⟨by rfl, fun _ _ => by go_simp⟩) hHeld ?_
      simp only [List.getElem_toArray, List.getElem_cons_zero, List.getElem_cons_succ, Act.put, List.setIfInBounds_toArray, List.set_cons_zero, List.set_cons_succ]
      refine wpAnyH_take (i := 3) rfl (by kernel_rfl) (by kernel_rfl) (by kernel_rfl) (fun _ _ _ h => h) (yieldsIf_load_mid (by rfl) 126 _ rfl b (off + k * 32) rfl (bcells d) _ (fun _ h => h.1) Tryd.underlying126 rfl hmi) hHeld ?_
      simp only [List.getElem_toArray, List.getElem_cons_zero, List.getElem_cons_succ, Act.put, List.setIfInBounds_toArray, List.set_cons_zero, List.set_cons_succ]
      refine wpAnyH_take (i := 4) (v := .slice (some ⟨b', 0, none⟩) ps.length ps.length) rfl (by kernel_rfl) (by kernel_rfl) (by kernel_rfl) (fun _ _ _ h => h) (Or.inl ⟨by rfl, fun _ _ => by go_simp⟩) hHeld ?_
      simp only [List.getElem_toArray, List.getElem_cons_zero, List.getElem_cons_succ, Act.put, List.setIfInBounds_toArray, List.set_cons_zero, List.set_cons_succ]
      refine wpAnyH_take (i := 5) (v := .int .i64 k) rfl (by kernel_rfl) (by kernel_rfl) (by kernel_rfl) (fun _ _ _ h => h) (Or.inl ⟨by rfl, fun _ _ => by go_simp⟩) hHeld ?_
      simp only [List.getElem_toArray, List.getElem_cons_zero, List.getElem_cons_succ, Act.put, List.setIfInBounds_toArray, List.set_cons_zero, List.set_cons_succ]
      refine wpAnyH_take (i := 6) (v := .pointer (some ⟨b', 0 + k * 32, none⟩)) rfl (by kernel_rfl) (by kernel_rfl) (by kernel_rfl) (fun _ _ _ h => h) (Or.inl ⟨by rfl, fun _ _ => by go_simp⟩) hHeld ?_
      simp only [List.getElem_toArray, List.getElem_cons_zero, List.getElem_cons_succ, Act.put, List.setIfInBounds_toArray, List.set_cons_zero, List.set_cons_succ]
      refine wpAnyH_take (i := 7) rfl (by kernel_rfl) (by kernel_rfl) (by kernel_rfl) (fun _ _ _ h => h) (yieldsIf_load_mid (by rfl) 126 _ rfl b' (0 + k * 32) rfl (bcells d) _ (fun _ h => h.2) Tryd.underlying126 rfl hmi) hHeld ?_
      simp only [List.getElem_toArray, List.getElem_cons_zero, List.getElem_cons_succ, Act.put, List.setIfInBounds_toArray, List.set_cons_zero, List.set_cons_succ]
      refine wpAnyH_take (i := 8) (v := .bool false) rfl (by kernel_rfl) (by kernel_rfl) (by kernel_rfl) (fun _ _ _ h => h) (Or.inl ⟨by rfl, fun _ _ => by go_simp⟩) hHeld ?_
      simp only [List.getElem_toArray, List.getElem_cons_zero, List.getElem_cons_succ, Act.put, List.setIfInBounds_toArray, List.set_cons_zero, List.set_cons_succ]
      refine wpAnyH_done (by kernel_rfl) ?_ _
      clear hsame hr8 hHeld hu31
      go_wp2_with fail
      go_roundw
      case rel => exact ⟨k + 1, by omega, by go_num, hbel.drew⟩
      case measure => simp [intOf]; omega
    · go_wp2
      go_ret
      exact ⟨rfl, hbel1.trans (hbel.mono hbel1.size)⟩

set_option maxRecDepth 100000 in
set_option maxHeartbeats 400000 in
theorem planned_nil (ao : Option Addr) (cap n : Nat) (w : World) :
    Calls Tryd.prog 46 #[.slice ao 0 cap, .int .i64 n] w fun e w' => e = .returned (.bool true) ∧ w' = w := by
  go_enter Tryd.func46, Tryd.ntmps46
  go_wp2
  refine wp_loop_rounds 1 ?_
  rw [rounds_succ]
  go_wp2
  go_ret
  exact ⟨rfl, rfl⟩
def itAtL (l : List It) (k : Nat) : It := l.getD k fIt0
theorem itAtL_mem (l : List It) (k : Nat) (h : k < l.length) : itAtL l k ∈ l := by
  unfold itAtL
  rw [List.getD, List.getElem?_eq_getElem h]
  exact List.getElem_mem h
theorem pcellsL_at (l : List It) (h : ∀ x ∈ l, x.data.length = 32) (k : Nat) (hk : k < l.length) : ∀ j, j < 34 → (pcells l)[k * 34 + j]? = (itcells (itAtL l k))[j]? := by
  intro j hj
  have e : l = l.take k ++ (itAtL l k :: l.drop (k + 1)) := by
    unfold itAtL
    rw [List.getD, List.getElem?_eq_getElem hk, Option.getD_some, List.getElem_cons_drop, List.take_append_drop]
  have hl : (pcells (l.take k)).length = k * 34 := by
    rw [pcells_length _ (fun x hx => h x (List.mem_of_mem_take hx)), List.length_take]
    rw [Nat.min_eq_left (by omega)]
    omega
  have hc : pcells l = pcells (l.take k) ++ (itcells (itAtL l k) ++ pcells (l.drop (k + 1))) := by
    conv => lhs; rw [e]
    simp [pcells]
  rw [hc, List.getElem?_append_right (by omega), hl, show k * 34 + j - k * 34 = j by omega, List.getElem?_append_left (by rw [itcells_length _ (h _ (itAtL_mem l k hk))]; exact hj)]
theorem plan_cell {w : World} {B gp cp n : Nat} {its : List It} (h : w.ownsRow B 131 34 (.slice (some ⟨gp, 0, none⟩) n cp) n (pcells its)) (hn : n = its.length) (hd : ∀ x ∈ its, x.data.length = 32) : ∀ k, k < its.length → ∀ j, j < 34 → w.cell? ⟨gp, k * 34 + j, none⟩ = (itcells (itAtL its k))[j]? := by
  intro k hk j hj
  obtain ⟨hpl, hp⟩ := h
  rcases hp with ⟨hp, _⟩ | ⟨g, c, cur, hv, _, hg, hp1, hp2, hp3, hp4⟩
  · simp at hp
  simp only [Value.slice.injEq, Option.some.injEq, Addr.mk.injEq, and_true, true_and] at hv
  obtain ⟨rfl, rfl⟩ := hv
  subst hn
  rw [cell_of_row w gp _ _ _ _ hg, ← pcellsL_at its hd k hk j hj, ← hp4]
  rw [List.getElem?_take_of_lt (by omega)]
  simp
set_option maxRecDepth 100000 in
set_option maxHeartbeats 800000 in
theorem planned_some (gp cp B : Nat) (its : List It) (n : Nat) (w : World) (h : w.ownsRow B 131 34 (.slice (some ⟨gp, 0, none⟩) its.length cp) its.length (pcells its)) (hl : its.length ≤ 1000) (hi : ∀ x ∈ its, x.data.length = 32 ∧ x.at_ < n) :
    Calls Tryd.prog 46 #[.slice (some ⟨gp, 0, none⟩) its.length cp, .int .i64 n] w fun e w' => e = .returned (.bool true) ∧ w' = w := by
  have HC := hide (plan_cell h rfl (fun x hx => (hi x hx).1))
  have HI := hide hi
  have hd0 : decide ((1000 : Int) < (its.length : Int)) = false := by simp; omega
  clear h hi
  go_enter Tryd.func46, Tryd.ntmps46
  go_wp2
  go_loop [5] (fun i => ∃ k : Nat, k ≤ its.length ∧ i = .int .i64 k) (fun i => its.length - (intOf i).toNat)
  case atStart => exact ⟨0, Nat.zero_le _, rfl⟩
  case round =>
    obtain ⟨k, hk, rfl⟩ := hrel
    by_cases hlt : k < its.length
    · have hd1 : decide ((k : Int) < (its.length : Int)) = true := by simp; omega
      have hx := unhide HI _ (itAtL_mem its k hlt)
      have c0 := unhide HC k hlt 0 (by omega)
      have c1 := unhide HC k hlt 1 (by omega)
      generalize itAtL its k = x at hx c0 c1
      rw [Nat.add_zero] at c0
      have c0' : w.cell? ⟨gp, k * 34, none⟩ = some (.bool x.fl) := c0
      have c1' : w.cell? ⟨gp, k * 34 + 1, none⟩ = some (.int .i64 (x.at_ : Int)) := c1
      have hk0 : (0 : Int) ≤ (k : Int) := by omega
      have hk1 : (k : Int) < (its.length : Int) := by omega
      have hd3 : decide ((x.at_ : Int) < 0) = false := by simp
      have hd4 : decide ((n : Int) ≤ (x.at_ : Int)) = false := by simp; omega
      have hd5 : ¬ n ≤ x.at_ := by omega
      clear c0 c1 hx
      cases hf : x.fl with
      | true =>
        rw [hf] at c0'
        go_wp2
        go_round
        case rel => exact ⟨k + 1, by omega, by go_num⟩
        case measure => simp [intOf]; omega
      | false =>
        rw [hf] at c0'
        go_wp2
        go_round
        case rel => exact ⟨k + 1, by omega, by go_num⟩
        case measure => simp [intOf]; omega
    · have hd1 : decide ((k : Int) < (its.length : Int)) = false := by simp; omega
      go_wp2
      go_ret
      exact ⟨rfl, rfl⟩
theorem planned_any (v : Value) (B : Nat) (its : List It) (n : Nat) (w : World) (h : w.ownsRow B 131 34 v its.length (pcells its)) (hl : its.length ≤ 1000) (hi : ∀ x ∈ its, x.data.length = 32 ∧ x.at_ < n) :
    Calls Tryd.prog 46 #[v, .int .i64 n] w fun e w' => e = .returned (.bool true) ∧ w' = w := by
  have h' := h
  rcases h.2 with ⟨rfl, h0⟩ | ⟨g, c, cur, hv, _⟩
  · rw [h0] at *
    exact planned_nil none 0 n w
  · subst hv
    exact planned_some g c B its n w h' hl hi
end Go.Proofs.YtanfolfopalbeaaDoor
namespace Go.Proofs.YtanfolfopalbeaaDoor
open Go.RowKit

theorem brow_kept {w w' : World} {g : Nat} {t : TypeId} {d : List UInt8} (h : BRow w g t d) (hb : Below w.heap.size w w') : BRow w' g t d := (hb.block _ (lt_of_block h)).trans h
theorem urow_kept {w w' : World} {g : Nat} {t : TypeId} {d : List Nat} (h : URow w g t d) (hb : Below w.heap.size w w') : URow w' g t d := (hb.block _ (lt_of_block h)).trans h
theorem lentD_take (ds : List (List UInt8)) : (lentD ds).take ds.length = ds := by unfold lentD; rw [List.take_left' rfl]
theorem below_putq (w : World) (c d : Array Value) (t : TypeId) : Below w.heap.size w ((w.alloc (.cells c t)).setRow w.heap.size d) := below_row ((Below.refl _ _).alloc (Nat.le_refl _) _) (Nat.le_refl _) _
theorem fmt9_dEnt : dEnt (fmt 9) = ([], 0) := by unfold dEnt; rw [(fmt_std 9 (by omega) (by omega)).ok]
theorem fmt9_root : staRoot (fmt 9) = rootL [] := by unfold staRoot; rw [fmt9_dEnt, if_pos rfl]; rfl

set_option maxRecDepth 100000 in
set_option maxHeartbeats 1600000 in
theorem fresh_any (tb : List Nat) (ht : TabOk tb) (w : World) (hT : Tabs w) :
    Calls Tryd.prog 38 #[.agg (ucells tb).toArray, .int .i64 9] w fun e w' => e = .returned (.bool true) ∧ Below w.heap.size w w' := by
  have htl := ht.1
  have VT := hide (v_tab tb htl)
  have HTT := hide (fun wq hb => hT.below (w' := wq) (B := w.heap.size) hb (Nat.le_refl _))
  have hST := fun wq vq hd ht => Status_any vq (fmt 9) wq hd ht
  have hEN := fun wq vq hd => Entries_any vq (fmt 9) wq hd
  rw [fmt9_dEnt, fmt9_root] at hST
  rw [fmt9_dEnt] at hEN
  have hRT := fun wq hs => rtree_any tb ht (.slice none 0 0) [] wq hs (by simp) (by simp)
  have dr : (rootL []).length = 32 := rootL_length []
  generalize rootL [] = r at hST hRT dr
  have V2 := hide (v_dg r dr)
  have V3 := hide (v_z32 r dr)
  have hE := fun wq => digest_same r dr wq
  have HST := hide hST
  have HEN := hide hEN
  have HRT := hide hRT
  have hbel0 : Below w.heap.size w (w.alloc (.cells (ucells tb).toArray 26)) := (Below.refl _ _).alloc (Nat.le_refl _) _
  have K0 := hide hbel0
  have G0 := hide (show URow (w.alloc (.cells (ucells tb).toArray 26)) w.heap.size 26 tb from heap_alloc_new w _)
  have hnu := fun wq => num_any 0 wq
  clear hST hEN hRT hbel0 hT ht
  go_enter Tryd.func38, Tryd.ntmps38
  go_upto_region 1 with fail
  generalize (w.alloc (.cells (ucells tb).toArray 26)) = W0 at K0 G0 ⊢
  go_wp2_with fail
  refine (Format_in 9 _ (by omega) (by omega)).mono ?_
  rintro e w1 ⟨rfl, hown1, hb1⟩
  have hbel1 := (unhide K0).trans (hb1.mono (unhide K0).size)
  have G1 := hide (urow_kept (unhide G0) hb1)
  have D1 := hide (digs_of_own (fmt_elem 9) hown1 (by rw [fmt_length 9 (by omega)]))
  generalize W0.heap.size = g0 at D1 ⊢
  clear hown1 hb1 K0 G0
  go_wp2_with fail
  refine (unhide HST _ _ (unhide D1) (unhide HTT _ hbel1)).mono ?_
  rintro e w2 ⟨rfl, hb2⟩
  have hbel2 := hbel1.trans (hb2.mono hbel1.size)
  go_upto_region 3 with ((with_reducible refine at_store ?_); go_must (refine wpList_store_row rfl 31 _ _ rfl w2.heap.size (bcells r).toArray rfl rfl 31 _ (heap_alloc_new w2 _) (unhide V2) (unhide V3) (bcells_one r) ?_))
  rw [← z32_cells]
  have hbp := below_putq w2 (bcells z32).toArray (bcells r).toArray 31
  have hbel3 := hbel2.trans (hbp.mono hbel2.size)
  have G3 := hide (urow_kept (urow_kept (unhide G1) hb2) hbp)
  have D3 := hide (((unhide D1).below hb2 (Nat.le_refl _)).below hbp (Nat.le_refl _))
  have R3 : Hid (BRow ((w2.alloc (.cells (bcells z32).toArray 31)).setRow w2.heap.size (bcells r).toArray) w2.heap.size 31 r) := hide (heap_put_new _ _ _ _)
  clear G1 D1 hbp hb2 hbel1 hbel2
  generalize ((w2.alloc (.cells (bcells z32).toArray 31)).setRow w2.heap.size (bcells r).toArray) = W3 at G3 D3 R3 hbel3 ⊢
  generalize w2.heap.size = g8 at R3 ⊢
  go_wp2_with fail
  refine (unhide HEN _ _ (unhide D3)).mono ?_
  rintro e w4 ⟨v4, rfl, hown4, hb4⟩
  obtain ⟨a4, c4, hv4⟩ := own_shape hown4
  subst hv4
  have hbel4 := hbel3.trans (hb4.mono hbel3.size)
  have G4 := hide (urow_kept (unhide G3) hb4)
  have R4 := hide (brow_kept (unhide R3) hb4)
  clear hown4 hb4 G3 D3 R3 hbel3
  go_wp2_with ((with_reducible refine at_load ?_); go_must (refine wpList_load_row rfl 26 _ rfl w.heap.size (by rfl) 26 (ucells tb).toArray (0, 0) _ (unhide G4) Tryd.underlying26 rfl (unhide VT) ?_))
  refine (unhide HRT _ ⟨none, 0, rfl, Nat.le_refl _, Nat.zero_le _, .inl rfl⟩).mono ?_
  rintro e w5 ⟨rfl, hb5⟩
  have hbel5 := hbel4.trans (hb5.mono hbel4.size)
  have hl5 := lt_of_block (brow_kept (unhide R4) hb5)
  go_upto_region 5 with ((with_reducible refine at_store ?_); go_must (refine wpList_store_row rfl 31 _ _ rfl w5.heap.size (bcells r).toArray rfl rfl 31 _ (heap_alloc_new w5 _) (unhide V2) (unhide V3) (bcells_one r) ?_))
  rw [← z32_cells]
  have hbp := below_putq w5 (bcells z32).toArray (bcells r).toArray 31
  have hbel6 := hbel5.trans (hbp.mono hbel5.size)
  have R6 := hide (brow_kept (brow_kept (unhide R4) hb5) hbp)
  have F6 : Hid (BRow ((w5.alloc (.cells (bcells z32).toArray 31)).setRow w5.heap.size (bcells r).toArray) w5.heap.size 31 r) := hide (heap_put_new _ _ _ _)
  clear G4 R4 hbp hb5 hbel4 hbel5
  generalize ((w5.alloc (.cells (bcells z32).toArray 31)).setRow w5.heap.size (bcells r).toArray) = W6 at R6 F6 hbel6 ⊢
  generalize w5.heap.size = g12 at F6 hl5 ⊢
  go_wp2_with (first | ((with_reducible refine at_load2 ?_); first | refine wpList_load_row_w (by rfl) 31 _ rfl g8 (by rfl) 31 (bcells r).toArray (0, 0) _ (unhide R6) Tryd.underlying31 rfl (unhide V2) ?_ | refine wpList_load_row_w (by rfl) 31 _ rfl g12 (by rfl) 31 (bcells r).toArray (0, 0) _ (unhide F6) Tryd.underlying31 rfl (unhide V2) ?_) | (go_at_call 44; refine (hnu _).mono ?_; rintro e w7 ⟨rfl, he⟩; cases he))
  go_ret
  exact ⟨rfl, hbel6⟩

theorem digest_zero (w : World) : Sem.run Tryd.prog (Op.equalIn 10000 31 (.agg (bcells z32).toArray) (.agg #[.int .u8 0, .int .u8 0, .int .u8 0, .int .u8 0, .int .u8 0, .int .u8 0, .int .u8 0, .int .u8 0, .int .u8 0, .int .u8 0, .int .u8 0, .int .u8 0, .int .u8 0, .int .u8 0, .int .u8 0, .int .u8 0, .int .u8 0, .int .u8 0, .int .u8 0, .int .u8 0, .int .u8 0, .int .u8 0, .int .u8 0, .int .u8 0, .int .u8 0, .int .u8 0, .int .u8 0, .int .u8 0, .int .u8 0, .int .u8 0, .int .u8 0, .int .u8 0])) w = .ok true w := by
  rw [← z32_cells]
  exact digest_same z32 rfl w
theorem stepOf_facts (L : List UInt8) (ds es : List (List UInt8)) (b : Nat) (h : Std ds es) : (stepOf (rdOld L) ds es b).1.length ≤ 1000 ∧ (∀ x ∈ (stepOf (rdOld L) ds es b).1, x.data.length = 32 ∧ x.at_ < ds.length) ∧ ((stepOf (rdOld L) ds es b).1 = [] ∨ (stepOf (rdOld L) ds es b).2.1 = 0) ∧ (stepOf (rdOld L) ds es b).2.1 ≠ 6 := by
  have hr := rdOld_facts L
  unfold stepOf
  split
  · exact ⟨by simp, (fun x hx => nomatch hx), .inl rfl, show (rdOld L).2.1 ≠ 6 by omega⟩
  · split
    · exact ⟨by simp, (fun x hx => nomatch hx), .inl rfl, by simp⟩
    · split
      · exact ⟨by simp, (fun x hx => nomatch hx), .inl rfl, by simp⟩
      · rename_i hf
        have hn := h.n300
        refine ⟨?_, plan_items ds _ _ _ h.elem h.n2 (by rw [List.length_append]; omega), .inr rfl, by simp⟩
        show (planL ds _ _ _).length ≤ 1000
        rw [planL_length, List.length_append]
        unfold nW
        omega
theorem stepR_facts (L : List UInt8) (ds : List (List UInt8)) (b : Int) (h : Std ds (dEnt ds).1) (h0 : (dEnt ds).2 = 0) : (stepR L ds b).1.length ≤ 1000 ∧ (∀ x ∈ (stepR L ds b).1, x.data.length = 32 ∧ x.at_ < ds.length) ∧ ((stepR L ds b).1 = [] ∨ (stepR L ds b).2.1 = 0) ∧ (stepR L ds b).2.1 ≠ 6 := by
  unfold stepR
  rw [if_neg (by omega)]
  split
  · exact ⟨by simp, (fun x hx => nomatch hx), .inl rfl, by simp⟩
  · exact stepOf_facts L ds _ _ h

set_option maxRecDepth 100000 in
set_option maxHeartbeats 3200000 in
theorem junk_any (v : Value) (ds : List (List UInt8)) (s : ByteArray) (bt : Int) (w : World) (hD : Digs w v ds) (hs : s.size ≤ maxLen) (hm : ds.length * 32 ≤ 140737488351232) (hT : Tabs w) :
    Calls Tryd.prog 10 #[v, .string s, .int .i64 bt] w fun e w' => e = .returned (.bool true) ∧ Below w.heap.size w w' := by
  have hzt := zero_tab
  have hzl := z72_length
  have hns := newsums_any
  have hok := tabOk
  unfold tabV at hns
  generalize z72 = z7 at hzt hzl
  generalize Hl ++ Kl = tb at hns hok
  have htl := hok.1
  have VT := hide (v_tab tb htl)
  have ZT := hide (show (ucells z7).toArray.size = (ucells tb).toArray.size by rw [ucells_size, ucells_size, htl, hzl])
  have HD := hide (fun wq hb => hD.below (w' := wq) (B := w.heap.size) hb (Nat.le_refl _))
  have HTT := hide (fun wq hb => hT.below (w' := wq) (B := w.heap.size) hb (Nat.le_refl _))
  have HFR := hide (fun wq ht => fresh_any tb hok wq ht)
  have HLD := hide (fun wq hd => lendK_any v ds wq hd hm)
  have HLT := hide (fun x wq hx hd => lentK_any x v ds wq hx hd hm)
  have hST := fun wq vq hd ht => Status_any vq ds wq hd ht
  have hEN := fun wq vq hd => Entries_any vq ds wq hd
  have hSP := fun wq vq hd => Step_any s vq ds bt wq hs hd
  have HLE := hide (lentD_elem ds hD.1)
  have HSPEC := hide (dEnt_spec hD.1)
  have HSF := hide (fun h h0 => stepR_facts s.data.toList ds bt h h0)
  have HS6 := hide (show (dEnt ds).2 ≠ 0 → stepR s.data.toList ds bt = ([], 6, 0) from fun h => by unfold stepR; rw [if_pos h])
  have dr := staRoot_length ds
  have HSR := hide (show ((dEnt ds).2 = 0 → staRoot ds = rootL ((dEnt ds).1.map mk)) ∧ ((dEnt ds).2 ≠ 0 → staRoot ds = z32) from ⟨fun h => by unfold staRoot; rw [if_pos h], fun h => by unfold staRoot; rw [if_neg h]⟩)
  have HRT := hide (fun vq es wq hs h1 h2 => rtree_any tb hok vq es wq hs h1 h2)
  obtain ⟨_, ao, cap, hv, hl1, hl2, _⟩ := hD
  subst hv
  unfold maxLen at hl2
  generalize staRoot ds = r at hST dr HSR
  generalize dEnt ds = de at hST hEN HSPEC HSF HS6 HSR
  generalize stepR s.data.toList ds bt = sr at hSP HSF HS6
  obtain ⟨es, ec⟩ := de
  obtain ⟨pl, pe, pn⟩ := sr
  simp only at hST hEN hSP HSPEC HSF HS6 HSR
  have V2 := hide (v_dg r dr)
  have V3 := hide (v_z32 r dr)
  have HST := hide hST
  have HEN := hide hEN
  have HSP := hide hSP
  clear hST hEN hSP hT hok
  go_enter Tryd.func10, Tryd.ntmps10
  go_upto_region 2 with (first | (go_at_call 13; (with_reducible refine (hns _).mono ?_); rintro e w1 ⟨rfl, hb1⟩) | ((with_reducible refine at_store ?_); refine wpList_store_row rfl 26 _ _ rfl w1.heap.size (ucells tb).toArray rfl rfl 26 _ (heap_alloc_new w1 _) (unhide VT) (unhide ZT) (ucells_one tb) ?_))
  have hbp := below_putq w1 (ucells z7).toArray (ucells tb).toArray 26
  have hbel2 := hb1.trans (hbp.mono hb1.size)
  have G2 : Hid (URow ((w1.alloc (.cells (ucells z7).toArray 26)).setRow w1.heap.size (ucells tb).toArray) w1.heap.size 26 tb) := hide (heap_put_new _ _ _ _)
  clear hbp hb1
  generalize ((w1.alloc (.cells (ucells z7).toArray 26)).setRow w1.heap.size (ucells tb).toArray) = W2 at G2 hbel2 ⊢
  generalize w1.heap.size = gt at G2 ⊢
  clear hns hzt hzl ZT
  go_wp2_with ((with_reducible refine at_load ?_); go_must (refine wpList_load_row rfl 26 _ rfl gt (by rfl) 26 (ucells tb).toArray (0, 0) _ (unhide G2) Tryd.underlying26 rfl (unhide VT) ?_))
  refine (unhide HFR _ (unhide HTT _ hbel2)).mono ?_
  rintro e w3 ⟨rfl, hb3⟩
  have hbel3 := hbel2.trans (hb3.mono hbel2.size)
  have G3 := hide (urow_kept (unhide G2) hb3)
  clear hb3 G2 hbel2 HFR
  go_wp2_with fail
  refine (unhide HLD _ (unhide HD _ hbel3)).mono ?_
  rintro e w4 ⟨rfl, hown4, hb4⟩
  have hbel4 := hbel3.trans (hb4.mono hbel3.size)
  have G4 := hide (urow_kept (unhide G3) hb4)
  have hX4 := digs_of_own (unhide HLE) hown4 (by rw [lentD_length])
  have hF4 := hX4.front ds.length (by omega)
  rw [lentD_take] at hF4
  have X4 := hide hX4
  have F4 := hide hF4
  generalize w3.heap.size = gx at X4 F4 ⊢
  have f0 : (0 : Int) ≤ (ds.length : Int) := by omega
  have f1 : (ds.length : Int) ≤ (ds.length : Int) + 2 := by omega
  clear hown4 hb4 G3 hbel3 HLD hX4 hF4 HLE
  go_wp2_with fail
  refine (unhide HST _ _ (unhide F4) (unhide HTT _ hbel4)).mono ?_
  rintro e w5 ⟨rfl, hb5⟩
  have hbel5 := hbel4.trans (hb5.mono hbel4.size)
  go_upto_region 8 with ((with_reducible refine at_store ?_); go_must (refine wpList_store_row rfl 31 _ _ rfl w5.heap.size (bcells r).toArray rfl rfl 31 _ (heap_alloc_new w5 _) (unhide V2) (unhide V3) (bcells_one r) ?_))
  rw [← z32_cells]
  have hbp := below_putq w5 (bcells z32).toArray (bcells r).toArray 31
  have hbel6 := hbel5.trans (hbp.mono hbel5.size)
  have G6 := hide (urow_kept (urow_kept (unhide G4) hb5) hbp)
  have X6 := hide (((unhide X4).below hb5 (Nat.le_refl _)).below hbp (Nat.le_refl _))
  have F6 := hide (((unhide F4).below hb5 (Nat.le_refl _)).below hbp (Nat.le_refl _))
  have R6 : Hid (BRow ((w5.alloc (.cells (bcells z32).toArray 31)).setRow w5.heap.size (bcells r).toArray) w5.heap.size 31 r) := hide (heap_put_new _ _ _ _)
  clear G4 X4 F4 hb5 hbp hbel4 hbel5 HST
  generalize ((w5.alloc (.cells (bcells z32).toArray 31)).setRow w5.heap.size (bcells r).toArray) = W6 at G6 X6 F6 R6 hbel6 ⊢
  generalize w5.heap.size = g12 at R6 ⊢
  go_wp2_with fail
  refine (unhide HEN _ _ (unhide F6)).mono ?_
  rintro e w7 ⟨v7, rfl, hown7, hb7⟩
  obtain ⟨a7, c7, hv7⟩ := own_shape hown7
  subst hv7
  have hbel7 := hbel6.trans (hb7.mono hbel6.size)
  have G7 := hide (urow_kept (unhide G6) hb7)
  have R7 := hide (brow_kept (unhide R6) hb7)
  have X7 := hide ((unhide X6).below hb7 (Nat.le_refl _))
  have F7 := hide ((unhide F6).below hb7 (Nat.le_refl _))
  have L7 := hide (strs_of_own (ss := es.map mk) (by simpa using hown7))
  clear G6 R6 X6 F6 hb7 hown7 hbel6 HEN
  go_wp2_with fail
  refine (unhide HSP _ _ (unhide F7)).mono ?_
  rintro e w8 ⟨v8, rfl, hown8, hb8⟩
  obtain ⟨a8, c8, hv8⟩ := own_shape hown8
  subst hv8
  have hbel8 := hbel7.trans (hb8.mono hbel7.size)
  have G8 := hide (urow_kept (unhide G7) hb8)
  have R8 := hide (brow_kept (unhide R7) hb8)
  have X8 := hide ((unhide X7).below hb8 (Nat.le_refl _))
  have L8 := hide ((unhide L7).below hb8 (Nat.le_refl _))
  have P8 := hide hown8
  clear G7 R7 X7 F7 L7 hb8 hown8 hbel7 HSP
  go_wp2_with fail
  refine (unhide HLT _ _ (unhide X8) (unhide HD _ hbel8)).mono ?_
  rintro e w9 ⟨rfl, hb9⟩
  have hbel9 := hbel8.trans (hb9.mono hbel8.size)
  have G9 := hide (urow_kept (unhide G8) hb9)
  have R9 := hide (brow_kept (unhide R8) hb9)
  have L9 := hide ((unhide L8).below hb9 (Nat.le_refl _))
  have P9 := hide (own_keep (unhide P8) hb9)
  clear G8 R8 X8 L8 P8 hb9 hbel8 HLT HD
  rcases unhide HSPEC with ⟨h6, hes, _⟩ | ⟨h0, hstd, _⟩
  · subst h6
    subst hes
    have hz := (unhide HSR).2 (by decide)
    have hp := unhide HS6 (by decide)
    simp only [Prod.mk.injEq] at hp
    obtain ⟨rfl, rfl, rfl⟩ := hp
    subst hz
    have hsame := digest_zero
    have hnu := fun wq => num_any 6 wq
    clear HSPEC HSF HS6 HSR HRT L9 P9 G9
    go_wp2_with (first | ((with_reducible refine at_load ?_); go_must (refine wpList_load_row rfl 31 _ rfl g12 (by rfl) 31 (bcells z32).toArray (0, 0) _ (unhide R9) Tryd.underlying31 rfl (unhide V2) ?_)) | (go_at_call 44; refine (hnu _).mono ?_; rintro e w10 ⟨rfl, he⟩; cases he))
    go_ret
    exact ⟨rfl, hbel9⟩
  · subst h0
    have hz := (unhide HSR).1 rfl
    obtain ⟨hf1, hf2, hf3, hf4⟩ := unhide HSF hstd rfl
    have hn2 := hstd.n2
    have hn3 := hstd.n300
    have hfew := hstd.few
    have hE := fun wq => digest_same r dr wq
    have hRT := fun wq hs => unhide HRT (.slice a7 es.length c7) (es.map mk) wq hs (by simpa using hfew) (mk_small hstd.small)
    rw [← hz] at hRT
    have HRT2 := hide hRT
    have hnu0 := fun wq => num_any 0 wq
    have hnuP := fun wq => num_any (pe : Int) wq
    have hd1 : decide ((ds.length : Int) < 2) = false := by simp; omega
    have hd2 : decide ((300 : Int) < (ds.length : Int)) = false := by simp; omega
    have hd3 : ((pe : Int) == 6) = false := by rw [beq_eq_false_iff_ne]; omega
    have hd4 : ((es.length : Int) == (es.length : Int)) = true := by simp
    have HF2 := hide hf2
    clear HSPEC HSF HS6 HSR HRT hRT hstd hz hf2
    go_wp2_with (first | ((with_reducible refine at_load ?_); go_must (refine wpList_load_row rfl 26 _ rfl gt (by rfl) 26 (ucells tb).toArray (0, 0) _ (unhide G9) Tryd.underlying26 rfl (unhide VT) ?_)) | (go_at_call 44; first | ((with_reducible refine (hnu0 _).mono ?_); rintro e w10 ⟨rfl, he⟩; cases he) | ((with_reducible refine (hnuP _).mono ?_); rintro e w10 ⟨rfl, he⟩; cases he)))
    refine (unhide HRT2 _ (unhide L9)).mono ?_
    rintro e w10 ⟨rfl, hb10⟩
    have hbel10 := hbel9.trans (hb10.mono hbel9.size)
    have hl10 := lt_of_block (brow_kept (unhide R9) hb10)
    go_upto_region 19 with ((with_reducible refine at_store ?_); go_must (refine wpList_store_row rfl 31 _ _ rfl w10.heap.size (bcells r).toArray rfl rfl 31 _ (heap_alloc_new w10 _) (unhide V2) (unhide V3) (bcells_one r) ?_))
    rw [← z32_cells]
    have hbp := below_putq w10 (bcells z32).toArray (bcells r).toArray 31
    have hbel11 := hbel10.trans (hbp.mono hbel10.size)
    have R11 := hide (brow_kept (brow_kept (unhide R9) hb10) hbp)
    have P11 := hide (own_keep (own_keep (unhide P9) hb10) hbp)
    have F11 : Hid (BRow ((w10.alloc (.cells (bcells z32).toArray 31)).setRow w10.heap.size (bcells r).toArray) w10.heap.size 31 r) := hide (heap_put_new _ _ _ _)
    clear G9 R9 L9 P9 hb10 hbp hbel9 hbel10 HRT2
    generalize hW11 : ((w10.alloc (.cells (bcells z32).toArray 31)).setRow w10.heap.size (bcells r).toArray) = w11 at R11 P11 F11 hbel11 ⊢
    generalize w10.heap.size = g21 at F11 hl10 ⊢
    clear hW11
    by_cases hp0 : pl.length = 0
    · have hpl := List.eq_nil_of_length_eq_zero hp0
      subst hpl
      have hf2 := unhide HF2
      simp only [List.length_nil] at P11
      have HPL := hide (planned_any _ _ [] ds.length w11 (unhide P11) hf1 hf2)
      go_wp2_with fail
      refine (unhide HPL).mono ?_
      rintro e w12 ⟨rfl, rfl⟩
      go_wp2_with (first | ((with_reducible refine at_load2 ?_); first | refine wpList_load_row_w (by rfl) 31 _ rfl g12 (by rfl) 31 (bcells r).toArray (0, 0) _ (unhide R11) Tryd.underlying31 rfl (unhide V2) ?_ | refine wpList_load_row_w (by rfl) 31 _ rfl g21 (by rfl) 31 (bcells r).toArray (0, 0) _ (unhide F11) Tryd.underlying31 rfl (unhide V2) ?_) | (go_at_call 44; refine (hnuP _).mono ?_; rintro e w13 ⟨rfl, he⟩; cases he))
      go_ret
      exact ⟨rfl, hbel11⟩
    · have hx1 : ((pl.length : Int) == 0) = false := by rw [beq_eq_false_iff_ne]; omega
      have hpe : pe = 0 := by
        rcases hf3 with h | h
        · rw [h] at hp0; simp at hp0
        · exact h
      subst hpe
      have hf2 := unhide HF2
      have HPL := hide (planned_any _ _ pl ds.length w11 (unhide P11) hf1 hf2)
      go_wp2_with fail
      refine (unhide HPL).mono ?_
      rintro e w12 ⟨rfl, rfl⟩
      go_wp2_with (first | ((with_reducible refine at_load2 ?_); first | refine wpList_load_row_w (by rfl) 31 _ rfl g12 (by rfl) 31 (bcells r).toArray (0, 0) _ (unhide R11) Tryd.underlying31 rfl (unhide V2) ?_ | refine wpList_load_row_w (by rfl) 31 _ rfl g21 (by rfl) 31 (bcells r).toArray (0, 0) _ (unhide F11) Tryd.underlying31 rfl (unhide V2) ?_) | (go_at_call 44; refine (hnuP _).mono ?_; rintro e w13 ⟨rfl, he⟩; cases he))
      go_ret
      exact ⟨rfl, hbel11⟩
end Go.Proofs.YtanfolfopalbeaaDoor
namespace Go.Proofs.YtanfolfopalbeaaDoor
open Go.ChangeShapes Go.WideShapes Go.ChangeAt Go.RowKit

set_option maxRecDepth 100000 in
theorem cellsU8' : Tryd.prog.cellsOf 5 = 1 := by kernel_rfl
set_option maxRecDepth 100000 in
theorem cellsSc : Tryd.prog.cellsOf 126 = 32 := by kernel_rfl
set_option maxRecDepth 100000 in
theorem bytesSc : Tryd.prog.bytesOf 126 = 32 := by kernel_rfl
theorem wf_u8' {z : Int} (h : (Lit.int .u8 z).wf = true) : 0 ≤ z ∧ z < 256 := by
  simp [Lit.wf] at h
  have h1 : IntKind.u8.min = 0 := rfl
  have h2 : IntKind.u8.max = 255 := rfl
  omega
theorem sec_of_trod {H : Type} {enc : TypeId × Value → H} {w : World} {base : Nat} {sp : Nat → Bool} {held : Bool} {fuel : Nat} {cs : List Value} {x : DataW H × List MemPlace}
    (h : DataW.trod enc Tryd.prog w base sp held fuel 126 cs = some x) : ∃ d : List UInt8, d.length = 32 ∧ cs = bcells d := by
  obtain ⟨xs, m, _, _, hl, hxl, hat⟩ := DataW.trod_array Tryd.underlying126 h
  rw [cellsSc] at hl
  rw [cellsU8'] at hat
  have hz : ∀ i, i < 32 → ∃ z : Int, cs[i]? = some (.int .u8 z) ∧ 0 ≤ z ∧ z < 256 := by
    intro i hi
    have h1 := hat i hi
    rw [List.getElem?_eq_getElem (by omega)] at h1
    obtain ⟨z, hc, _, hwf⟩ := DataW.trod_int Tryd.underlying5 h1
    refine ⟨z, ?_, wf_u8' hwf⟩
    have := congrArg (·[0]?) hc
    simpa [List.getElem?_take, List.getElem?_drop] using this
  obtain ⟨f, hf⟩ := Deep.choose_lt hz
  refine ⟨(List.range 32).map fun i => UInt8.ofNat (f i).toNat, by simp, ?_⟩
  apply List.ext_getElem?
  intro i
  by_cases hi : i < 32
  · obtain ⟨h1, h2, h3⟩ := hf i hi
    rw [h1]
    simp only [bcells, List.getElem?_map, List.getElem?_range hi, Option.map_some]
    rw [UInt8.toNat_ofNat', Nat.mod_eq_of_lt (by omega), Int.toNat_of_nonneg h2]
  · rw [List.getElem?_eq_none (by omega), List.getElem?_eq_none (by simp [bcells]; omega)]

set_option maxRecDepth 100000 in
theorem secs_of_arg {H : Type} {enc : TypeId × Value → H} {W : World} {v : Value} {d : DataW H} {ps : List MemPlace} {base : Nat} (hval : Value.okWide Tryd.prog W .any base 52 v)
    (h : DataW.Trod enc Tryd.prog W 0 (fun _ => true) true 52 v d ps) : ∃ qs, Digs W v qs ∧ (qs = [] ∨ ∃ el sp, d = .slice el sp ∧ qs.length ≤ el.length + sp.length) := by
  obtain ⟨a0, len, cap, rfl⟩ := okWide_slice Tryd.underlying52 hval
  obtain ⟨fuel, hf⟩ := h
  rcases Deep.open_slice Tryd.underlying52 hf with ⟨hcs, _⟩ | ⟨a, len', cap', m, n, D, Pl, hcs, _, hl, hm, hmm, hx, hat⟩
  · have e : Value.slice a0 len cap = .slice none 0 0 := by simpa [Value.cells] using hcs
    rw [e]
    exact ⟨[], ⟨(fun d h => by cases h), none, 0, rfl, Nat.le_refl _, Nat.zero_le _, .inl rfl⟩, .inl rfl⟩
  · have e : Value.slice a0 len cap = .slice (some a) len' cap' := by simpa [Value.cells] using hcs
    rw [e]
    have hd := congrArg Prod.fst hx
    simp only at hd
    have hlm : len' ≤ m := by rw [hmm]; split <;> omega
    rw [cellsSc] at hat
    have hds : ∀ i, i < len' → ∃ r : List UInt8, r.length = 32 ∧ ∀ j, j < 32 → W.cell? ((a.add (i * 32)).add j) = (bcells r)[j]? := by
      intro i hi
      obtain ⟨cs', h1, h2⟩ := hat i (by omega)
      obtain ⟨r, hr, rfl⟩ := sec_of_trod h2
      obtain ⟨_, _, h3⟩ := World.cells?_some h1
      exact ⟨r, hr, h3⟩
    obtain ⟨f, hfx⟩ := Deep.choose_lt hds
    have hql : ((List.range len').map f).length = len' := by simp
    have hqe : ∀ d ∈ (List.range len').map f, d.length = 32 := by
      intro d hd
      simp only [List.mem_map, List.mem_range] at hd
      obtain ⟨i, hi, rfl⟩ := hd
      exact (hfx i hi).1
    refine ⟨(List.range len').map f, ⟨hqe, some a, cap', by rw [hql], by omega, hm, ?_⟩, .inr ⟨_, _, hd, ?_⟩⟩
    · by_cases h0 : len' = 0
      · left
        rw [h0]
        rfl
      · right
        obtain ⟨b, off, spot⟩ := a
        have hspot : spot = none := by
          have h1 := (hfx 0 (by omega)).2 0 (by omega)
          have hlen := (hfx 0 (by omega)).1
          rw [Nat.zero_mul] at h1
          have h2 : W.cell? ⟨b, off, spot⟩ = some ((bcells (f 0))[0]'(by simp [bcells, hlen])) := by
            rw [← List.getElem?_eq_getElem]
            simpa [Addr.add] using h1
          exact World.cell?_spot h2
        subst hspot
        refine ⟨b, off, rfl, fun j u hu => ?_⟩
        have hj : j < 32 * len' := by
          have h1 := (List.getElem?_eq_some_iff.1 hu).1
          rw [dcells_length _ hqe, hql] at h1
          exact h1
        have hk : j / 32 < ((List.range len').map f).length := by rw [hql]; omega
        rw [dcells_at _ (j / 32) hk] at hu
        have hgd : ((List.range len').map f).getD (j / 32) [] = f (j / 32) := by
          rw [List.getD, List.getElem?_eq_getElem hk]
          simp
        rw [hgd] at hu
        have htl : (dcells (((List.range len').map f).take (j / 32))).length = 32 * (j / 32) := by
          rw [dcells_length _ (fun d hd => hqe d (List.mem_of_mem_take hd)), List.length_take, hql]
          congr 1
          omega
        have hfl := (hfx (j / 32) (by omega)).1
        have hbl : (bcells (f (j / 32))).length = 32 := by simp [bcells, hfl]
        rw [List.append_assoc, List.getElem?_append_right (by omega), htl, List.getElem?_append_left (by omega)] at hu
        have h4 := (hfx (j / 32) (by omega)).2 (j - 32 * (j / 32)) (by omega)
        rw [hu, add_none, add_none] at h4
        rw [← h4]
        congr 2
        omega
    · rw [hql]
      simp

set_option maxRecDepth 100000 in
theorem junk_contract (H : Type) (enc : TypeId × Value → H) (W : World) (base : Nat) (args : Array Value) (ds gs : List (DataW H)) (before : List MemPlace)
    (hval : ∀ (j : Nat) t v, Tryd.f10.params[j]? = some t → args[j]? = some v → Value.okWide Tryd.prog W .any base t v)
    (hW : DataW.Whole enc Tryd.prog Tryd.f10.params.toList Rows.junkSpec.vars false W args.toList ds gs before)
    (hsz0 : (DataW.weightsEach Tryd.prog (Tryd.f10.params.toList ++ Rows.junkSpec.plain.varTypes Tryd.prog) (ds ++ gs)).all (· ≤ reachBytes) = true) (hL : laidMetH Tryd.prog Rows.junkRow.laid W) :
    Calls Tryd.prog 10 args W fun e W' => ∃ v, e = .returned v ∧ Rows.junkSpec.post enc Tryd.prog Tryd.f10 false true false false W args v W' := by
  have hW' := hW
  obtain ⟨p, q, hA0, hV, rfl, hfz, hnd⟩ := hW
  have hA : DataW.TrodAll enc Tryd.prog W 0 (fun _ => true) true Tryd.f10.params.toList args.toList ds p := hA0
  rw [Tryd.params10] at hA hval hsz0
  obtain ⟨v0, vs0, d0, ds0, p0, q0, hargs, rfl, rfl, h0, r0⟩ := trodAll_cons hA
  obtain ⟨v1, vs1, d1, ds1, p1, q1, rfl, rfl, rfl, h1, r1⟩ := trodAll_cons r0
  obtain ⟨v2, vs2, d2, ds2, p2, q2, rfl, rfl, rfl, h2, r2⟩ := trodAll_cons r1
  obtain ⟨rfl, rfl, rfl⟩ := trodAll_nil r2
  obtain rfl : args = #[v0, v1, v2] := by cases args; simp_all
  obtain ⟨rfl, rfl⟩ := trodVars_none hV
  obtain ⟨c2, rfl, rfl, rfl, wc2⟩ := open_int Tryd.underlying3 (hval 2 3 v2 rfl rfl) h2
  obtain ⟨s, rfl, rfl, rfl, hs⟩ := Go.ChangeMaps.open_string Tryd.underlying9 (hval 1 9 v1 rfl rfl) h1
  obtain ⟨qs, hD, hlen⟩ := secs_of_arg (hval 0 52 v0 rfl rfl) h0
  have hm : qs.length * 32 ≤ 140737488351232 := by
    rcases hlen with rfl | ⟨el, sp, hd, hl⟩
    · simp
    · have := sized_slice hsz0 (j := 0) (t := 52) (e := 126) (elems := el) (spare := sp) rfl (by rw [hd]; rfl) Tryd.underlying52
      rw [bytesSc] at this
      simp only [reachBytes] at this
      omega
  refine (junk_any v0 qs s c2 W hD hs hm (tables hL)).mono fun e W' ⟨he, hb⟩ => ?_
  subst he
  have hlt : ∀ x ∈ p0, x.block < W.heap.size := fun x hx => by
    have := hW'.lt x (by simp [hx])
    simpa using this
  refine ⟨_, rfl, _, _, _, [], p0 ++ ([] ++ ([] ++ [])), [], hW', trodAll_cons_mk (shut_bool Tryd.underlying4 _) trodAll_mk0, ?_, rfl, hb.frame _, fun h => by cases h⟩
  exact trodAll_cons_mk (Below.trod laidOutP (by kernel_rfl) (of_decide_eq_true (by kernel_rfl)) h0 hb hlt) (trodAll_cons_mk (Go.ChangeMaps.shut_string Tryd.underlying9 hs) (trodAll_cons_mk (shut_int Tryd.underlying3 wc2) trodAll_mk0))
end Go.Proofs.YtanfolfopalbeaaDoor
namespace Go.Proofs.YtanfolfopalbeaaDoor
open Go.ChangeShapes Go.WideShapes Go.ChangeAt Go.RowKit

set_option maxRecDepth 100000 in
theorem junk_laid_met (os : Os) : laidMet Tryd.prog Rows.junkRow.laid ((laidWorld os).forCall (fun _ _ => 0) ⟨#[], #[.slice none 0 0, .string ⟨#[]⟩, .int .i64 0], []⟩).memory :=
  laidMet_of_run' 8 (by kernel_rfl) (by kernel_rfl)
set_option maxRecDepth 100000 in
theorem junk_reads (os : Os) {H : Type} (enc : TypeId × Value → H) : ∃ places, DataW.whole enc Tryd.prog ((laidWorld os).forCall (fun _ _ => 0) ⟨#[], #[.slice none 0 0, .string ⟨#[]⟩, .int .i64 0], []⟩).memory Tryd.f10.params.toList Rows.junkSpec.vars false #[Value.slice none 0 0, Value.string ⟨#[]⟩, Value.int .i64 0].toList 8 = some ([.nil, .lit (.string []), .lit (.int .i64 0)], [], places) :=
  ⟨[], by kernel_rfl⟩

set_option maxRecDepth 100000 in
theorem junk_lifted (os : Os) (started : os.Started) (H : Type) (enc : TypeId × Value → H) (F : Stop.Interp) :
    ReturnsInHanded {} Tryd.checked os 10 .any ((OpenSpec.ofChange Rows.junkSpec).preRow enc Tryd.prog Tryd.f10 Rows.junkRow.domain false Rows.junkRow.laid) (((OpenSpec.ofChange Rows.junkSpec).at F).post enc Tryd.prog Tryd.f10 false true false false) := by
  obtain ⟨places, hx⟩ := junk_reads os enc
  refine returnsInHanded_of_row (C := Tryd.checked) (s := OpenSpec.ofChange Rows.junkSpec) own started (by kernel_rfl) Tryd.func10
    (witness_row_at (enc := enc) (C := Tryd.checked) false (laidWorld os) #[.slice none 0 0, .string ⟨#[]⟩, .int .i64 0] rfl (by kernel_rfl) (by kernel_rfl) (by kernel_rfl)
      (OpenSpec.preRow_of_cond 8 hx (by kernel_rfl) (fun k hk => by cases hk) (by kernel_rfl) (junk_laid_met os))) ?_
  intro W base args ds gs before hval hW _ _ hsz hL _ _
  exact junk_contract H enc W base args ds gs before hval hW hsz hL

set_option maxRecDepth 100000 in
theorem junk_said : Rows.JunkSaid :=
  OpenClaim.holds_of_cond 10 Tryd.f10 rfl rfl rfl rfl rfl rfl rfl ⟨rfl, rfl, rfl, rfl, rfl⟩ rfl rfl rfl rfl rfl (by kernel_rfl) Tryd.func10 (by kernel_rfl)
    (of_decide_eq_true (by kernel_rfl)) (by unfold Func.isWrapper; first | (rw [if_pos (by decide +kernel)]; kernel_rfl) | (rw [if_neg (by decide +kernel)]; exact ⟨rfl, rfl⟩))
    (fun os started H enc _ F => by rw [OpenClaim.pre_eq_preRow]; exact junk_lifted os started H enc F)

set_option maxRecDepth 100000 in
theorem junk_plain (f : FuncId) (fn : Func) (hf : Tryd.pinned.checked.prog.funcNamed "ferry/ferrylaw.Junk" = some f) (hfn : Tryd.pinned.checked.prog.funcs[f]? = some fn) :
    false = Tryd.pinned.checked.prog.looks [] ∧ ∀ (j : Nat) t, fn.params[j]? = some t → Tryd.pinned.checked.prog.wantsStandIn t = false := by
  obtain rfl : f = 10 := Option.some.inj ((show Tryd.prog.funcNamed "ferry/ferrylaw.Junk" = some 10 by kernel_rfl).symm.trans hf) |>.symm
  obtain rfl : fn = Tryd.f10 := (Option.some.inj (Tryd.func10.symm.trans hfn)).symm
  refine ⟨by kernel_rfl, fun j t ht => ?_⟩
  rw [Tryd.params10] at ht
  have hm := Array.mem_of_getElem? ht
  have hor : t = 52 ∨ t = 9 ∨ t = 3 := by simpa using hm
  rcases hor with rfl | rfl | rfl
  · exact (show Tryd.prog.wantsStandIn 52 = false by kernel_rfl)
  · exact (show Tryd.prog.wantsStandIn 9 = false by kernel_rfl)
  · exact (show Tryd.prog.wantsStandIn 3 = false by kernel_rfl)

set_option maxRecDepth 100000 in
/-- The card. -/
theorem junk_card : Rows.JunkCardSaid :=
  Claim7.holds_tied_plain_at .later [] _ _ _ _ junk_said (fun _ h => by cases h) (by kernel_rfl) (fun _ h => by cases h) junk_row_tie rfl ⟨rfl, rfl⟩ (by kernel_rfl) rfl junk_plain (by kernel_rfl)
end Go.Proofs.YtanfolfopalbeaaDoor
