/- The root of a log. -/
import Derived.Test.YtanfolfopalbeaaDoorTreeLeaf
import Derived.Test.YtanfolfopalbeaaDoorLinked
namespace Go.Proofs.YtanfolfopalbeaaDoor
open Go.RowKit

/-- The back of a slice of strings. -/
theorem Strs.back {w : World} {b off cap n : Nat} {ss : List ByteArray} (h : Strs w (.slice (some ⟨b, off, none⟩) n cap) ss) (k : Nat) (hk : k ≤ n) : Strs w (.slice (some ⟨b, off + k, none⟩) (n - k) (cap - k)) (ss.drop k) := by
  obtain ⟨ao, cap', he, h1, h2, h3⟩ := h
  simp only [Value.slice.injEq] at he
  obtain ⟨rfl, rfl, rfl⟩ := he
  have hl : (ss.drop k).length = ss.length - k := List.length_drop
  refine ⟨some ⟨b, off + k, none⟩, cap - k, by rw [hl], by omega, by omega, ?_⟩
  rcases h3 with rfl | ⟨b', off', he, hc⟩
  · left; simp
  · simp only [Option.some.injEq, Addr.mk.injEq, and_true] at he
    obtain ⟨rfl, rfl⟩ := he
    refine .inr ⟨b, off + k, rfl, fun i hi => ?_⟩
    rw [Nat.add_assoc, hc (k + i) (by omega)]
    simp only [List.getD]
    rw [List.getElem?_drop]
theorem v_dg (d : List UInt8) (h : d.length = 32) : (Tryd.prog.info? 31).map (·.size) = some (bcells d).toArray.size := by rw [bcells_size, h]; exact info_dg
theorem v_z32 (d : List UInt8) (h : d.length = 32) : (bcells z32).toArray.size = (bcells d).toArray.size := by rw [bcells_size, bcells_size, h]; rfl

set_option maxRecDepth 100000 in
set_option maxHeartbeats 400000 in
theorem rootOf_zero (ao : Option Addr) (cap : Nat) (w : World) (hT : Tabs w) :
    Calls Tryd.prog 103 #[.slice ao 0 cap] w fun e w' => e = .returned (.agg (bcells (shaL [])).toArray) ∧ Below w.heap.size w w' := by
  have HT := hide hT
  clear hT
  have hst := fun wq h => strong_any (ByteArray.mk #[]) wq (by decide) h
  rw [show (ByteArray.mk #[]).data.toList = [] from rfl] at hst
  have hdl : (shaL []).length = 32 := sha_length _
  generalize shaL [] = d8 at hst hdl ⊢
  have V2 := hide (v_dg d8 hdl)
  have V3 := hide (v_z32 d8 hdl)
  have hbel0 : Below w.heap.size w (w.alloc (.cells (bcells z32).toArray 31)) := (Below.refl _ _).alloc (Nat.le_refl _) _
  have hres0 : (w.alloc (.cells (bcells z32).toArray 31)).heap[w.heap.size]? = some (.cells (bcells z32).toArray 31 (0, 0)) := heap_alloc_new w _
  have HB := hide hbel0
  have HR := hide hres0
  clear hbel0 hres0
  go_enter Tryd.func103, Tryd.ntmps103
  go_wp2_with fail
  rw [← z32_cells]
  refine (hst _ ((unhide HT).below (unhide HB) (Nat.le_refl _))).mono ?_
  rintro e w1 ⟨rfl, hb1⟩
  have hbel1 := (unhide HB).trans (hb1.mono (unhide HB).size)
  have V1 := hide (show w1.heap[w.heap.size]? = some (.cells (bcells z32).toArray 31 (0, 0)) by rw [hb1.block _ (lt_of_block (unhide HR))]; exact unhide HR)
  clear hst hb1 HR HB
  go_wp2_with ((with_reducible refine at_store ?_); refine wpList_store_row rfl 31 _ _ rfl w.heap.size (bcells d8).toArray rfl rfl 31 _ (unhide V1) (unhide V2) (unhide V3) (bcells_one d8) ?_)
  refine bodyPost_ret (v := .agg (bcells d8).toArray) ?_ rfl ⟨rfl, below_row hbel1 (Nat.le_refl _) _⟩
  exact results_cell_row Tryd.results103 _ _ w.heap.size 31 _ (0, 0) _ rfl (setRow_heap _ _ _ _ _ _ (unhide V1)) Tryd.underlying31 rfl (unhide V2)

set_option maxRecDepth 100000 in
set_option maxHeartbeats 400000 in
theorem rootOf_one (b off cap : Nat) (x : ByteArray) (w : World) (hx : x.size ≤ 20) (hc : w.cell? ⟨b, off, none⟩ = some (.string x)) (hT : Tabs w) :
    Calls Tryd.prog 103 #[.slice (some ⟨b, off, none⟩) 1 cap] w fun e w' => e = .returned (.agg (bcells (lf x)).toArray) ∧ Below w.heap.size w w' := by
  have HT := hide hT
  clear hT
  have hst := fun wq h => leaf_any x wq (by omega) h
  have hdl : (lf x).length = 32 := sha_length _
  generalize lf x = d8 at hst hdl ⊢
  have V2 := hide (v_dg d8 hdl)
  have V3 := hide (v_z32 d8 hdl)
  have hbel0 : Below w.heap.size w (w.alloc (.cells (bcells z32).toArray 31)) := (Below.refl _ _).alloc (Nat.le_refl _) _
  have hres0 : (w.alloc (.cells (bcells z32).toArray 31)).heap[w.heap.size]? = some (.cells (bcells z32).toArray 31 (0, 0)) := heap_alloc_new w _
  have hc0 : (w.alloc (.cells (bcells z32).toArray 31)).cell? ⟨b, off, none⟩ = some (.string x) := by rw [hbel0.cell (p := ⟨b, off, none⟩) (cell_lt hc)]; exact hc
  have HB := hide hbel0
  have HR := hide hres0
  clear hbel0 hres0
  rw [z32_cells] at hc0
  go_enter Tryd.func103, Tryd.ntmps103
  go_wp2_with fail
  rw [← z32_cells]
  refine (hst _ ((unhide HT).below (unhide HB) (Nat.le_refl _))).mono ?_
  rintro e w1 ⟨rfl, hb1⟩
  have hbel1 := (unhide HB).trans (hb1.mono (unhide HB).size)
  have V1 := hide (show w1.heap[w.heap.size]? = some (.cells (bcells z32).toArray 31 (0, 0)) by rw [hb1.block _ (lt_of_block (unhide HR))]; exact unhide HR)
  clear hst hb1 HR HB
  go_wp2_with ((with_reducible refine at_store ?_); refine wpList_store_row rfl 31 _ _ rfl w.heap.size (bcells d8).toArray rfl rfl 31 _ (unhide V1) (unhide V2) (unhide V3) (bcells_one d8) ?_)
  refine bodyPost_ret (v := .agg (bcells d8).toArray) ?_ rfl ⟨rfl, below_row hbel1 (Nat.le_refl _) _⟩
  exact results_cell_row Tryd.results103 _ _ w.heap.size 31 _ (0, 0) _ rfl (setRow_heap _ _ _ _ _ _ (unhide V1)) Tryd.underlying31 rfl (unhide V2)

set_option maxRecDepth 100000 in
set_option maxHeartbeats 1600000 in
theorem rootOf_any (k : Nat) : ∀ (v : Value) (ss : List ByteArray) (w : World), ss.length ≤ k → ss.length ≤ 100 → (∀ s ∈ ss, s.size ≤ 20) → Strs w v ss → Tabs w →
    Calls Tryd.prog 103 #[v] w fun e w' => e = .returned (.agg (bcells (rootL ss)).toArray) ∧ Below w.heap.size w w' := by
  induction k with
  | zero =>
    intro v ss w hk _ _ hS hT
    obtain rfl : ss = [] := List.eq_nil_of_length_eq_zero (by omega)
    obtain ⟨ao, cap, rfl, _⟩ := hS
    rw [rootL_nil]
    exact rootOf_zero ao cap w hT
  | succ k ih =>
    intro v ss w hk hm hz hS hT
    by_cases h0 : ss.length = 0
    · obtain rfl : ss = [] := List.eq_nil_of_length_eq_zero h0
      obtain ⟨ao, cap, rfl, _⟩ := hS
      rw [rootL_nil]
      exact rootOf_zero ao cap w hT
    by_cases h1 : ss.length = 1
    · obtain ⟨ao, cap, rfl, _, _, h3⟩ := hS
      rcases h3 with h3 | ⟨b, off, rfl, hc⟩
      · rw [h3] at h1; cases h1
      · rw [rootL_one ss h1, h1]
        have hc0 := hc 0 (by omega)
        refine rootOf_one b off cap _ w ?_ hc0 hT
        rw [List.getD, List.getElem?_eq_getElem (by omega)]
        exact hz _ (List.getElem_mem _)
    · obtain ⟨b, off, cap, hv, hcap⟩ := strs_shape hS (by intro h; rw [h] at h0; exact h0 rfl)
      subst hv
      have hh1 := half_lt ss.length (by omega)
      have hh2 := half_pos ss.length
      have HR := hide (rootL_two ss (by omega))
      have htl : (ss.take (half ss.length)).length = half ss.length := by rw [List.length_take]; omega
      have hdl : (ss.drop (half ss.length)).length = ss.length - half ss.length := List.length_drop
      have hA := fun wq hs ht => ih (.slice (some ⟨b, off, none⟩) (half ss.length) cap) (ss.take (half ss.length)) wq (by omega) (by omega) (fun s h => hz s (List.mem_of_mem_take h)) hs ht
      have hB := fun wq hs ht => ih (.slice (some ⟨b, off + half ss.length, none⟩) (ss.length - half ss.length) (cap - half ss.length)) (ss.drop (half ss.length)) wq (by omega) (by omega) (fun s h => hz s (List.mem_of_mem_drop h)) hs ht
      have hF := fun wq => first_any ss.length wq (by omega)
      have SA := hide (fun wq hb => (hS.below (w' := wq) (B := w.heap.size) hb (Nat.le_refl _)).front (half ss.length) (by omega))
      have SB := hide (fun wq hb => (hS.below (w' := wq) (B := w.heap.size) hb (Nat.le_refl _)).back (half ss.length) (by omega))
      have da := rootL_length (ss.take (half ss.length))
      have db := rootL_length (ss.drop (half ss.length))
      have hN := fun wq ht => node_any _ _ wq da db ht
      have dn : (nd (rootL (ss.take (half ss.length))) (rootL (ss.drop (half ss.length)))).length = 32 := sha_length _
      rw [unhide HR]
      generalize nd (rootL (ss.take (half ss.length))) (rootL (ss.drop (half ss.length))) = dN at hN dn ⊢
      generalize rootL (ss.take (half ss.length)) = dA at hA hN da
      generalize rootL (ss.drop (half ss.length)) = dB at hB hN db
      generalize half ss.length = m at hF hA hB SA SB hh1 hh2
      have VA := hide (v_dg dA da)
      have VB := hide (v_dg dB db)
      have VN := hide (v_dg dN dn)
      have ZA := hide (v_z32 dA da)
      have ZB := hide (v_z32 dB db)
      have ZN := hide (v_z32 dN dn)
      have HT := hide hT
      have hc0 : ((ss.length : Int) == 0) = false := by rw [beq_eq_false_iff_ne]; omega
      have hc1 : ((ss.length : Int) == 1) = false := by rw [beq_eq_false_iff_ne]; omega
      have f1 : (m : Int) ≤ (cap : Int) := by omega
      have f2 : (m : Int) ≤ (ss.length : Int) := by omega
      have HA := hide hA
      have HB := hide hB
      have HN := hide hN
      clear hA hB hN HR htl hdl hS hT hz ih da db dn
      have hbel0 : Below w.heap.size w (w.alloc (.cells (bcells z32).toArray 31)) := (Below.refl _ _).alloc (Nat.le_refl _) _
      have hres0 : (w.alloc (.cells (bcells z32).toArray 31)).heap[w.heap.size]? = some (.cells (bcells z32).toArray 31 (0, 0)) := heap_alloc_new w _
      have K0 := hide hbel0
      have R0 := hide hres0
      clear hbel0 hres0
      go_enter Tryd.func103, Tryd.ntmps103
      go_wp2_with fail
      rw [← z32_cells]
      refine (hF _).mono ?_
      rintro e w1 ⟨rfl, rfl⟩
      go_wp2_with fail
      refine (unhide HA _ (unhide SA _ (unhide K0)) ((unhide HT).below (unhide K0) (Nat.le_refl _))).mono ?_
      rintro e w1 ⟨rfl, hb1⟩
      have hbel1 := (unhide K0).trans (hb1.mono (unhide K0).size)
      have R1 : BRow w1 w.heap.size 31 z32 := (hb1.block _ (lt_of_block (unhide R0))).trans (unhide R0)
      have hl1 := lt_of_block R1
      have HR1 := hide R1
      clear R0 K0 HA SA hb1 hF R1
      go_wp2_with ((with_reducible refine at_store ?_); refine wpList_store_row rfl 31 _ _ rfl w1.heap.size (bcells dA).toArray rfl rfl 31 _ (heap_alloc_new w1 _) (unhide VA) (unhide ZA) (bcells_one dA) ?_)
      rw [← z32_cells]
      have hbelA : Below w.heap.size w ((w1.alloc (.cells (bcells z32).toArray 31)).setRow w1.heap.size (bcells dA).toArray) := below_row (hbel1.alloc hbel1.size _) hbel1.size _
      have gA : BRow ((w1.alloc (.cells (bcells z32).toArray 31)).setRow w1.heap.size (bcells dA).toArray) w1.heap.size 31 dA := heap_put_new _ _ _ _
      have gR : BRow ((w1.alloc (.cells (bcells z32).toArray 31)).setRow w1.heap.size (bcells dA).toArray) w.heap.size 31 z32 := (heap_put_old w1 _ _ _ _ hl1).trans (unhide HR1)
      generalize ((w1.alloc (.cells (bcells z32).toArray 31)).setRow w1.heap.size (bcells dA).toArray) = WA at hbelA gA gR ⊢
      generalize w1.heap.size = GA at hl1 gA ⊢
      refine (unhide HB _ (unhide SB _ hbelA) ((unhide HT).below hbelA (Nat.le_refl _))).mono ?_
      rintro e w2 ⟨rfl, hb2⟩
      have hbel2 := hbelA.trans (hb2.mono hbelA.size)
      have gA2 : BRow w2 GA 31 dA := (hb2.block _ (lt_of_block gA)).trans gA
      have gR2 : BRow w2 w.heap.size 31 z32 := (hb2.block _ (lt_of_block gR)).trans gR
      have hl2 := lt_of_block gA2
      have hl3 := lt_of_block gR2
      have A2 := hide gA2
      have R2 := hide gR2
      clear HR1 HB SB hb2 hbelA gA gR hbel1 gA2 gR2
      go_wp2_with (first | ((with_reducible refine at_store ?_); refine wpList_store_row rfl 31 _ _ rfl w2.heap.size (bcells dB).toArray rfl rfl 31 _ (heap_alloc_new w2 _) (unhide VB) (unhide ZB) (bcells_one dB) ?_) | ((with_reducible refine at_load ?_); first | refine wpList_load_row rfl 31 _ rfl GA (by rfl) 31 (bcells dA).toArray (0, 0) _ ((heap_put_old w2 _ _ _ _ hl2).trans (unhide A2)) Tryd.underlying31 rfl (unhide VA) ?_ | refine wpList_load_row rfl 31 _ rfl w2.heap.size (by rfl) 31 (bcells dB).toArray (0, 0) _ (heap_put_new w2 _ _ _) Tryd.underlying31 rfl (unhide VB) ?_))
      rw [← z32_cells]
      have hbelB : Below w.heap.size w ((w2.alloc (.cells (bcells z32).toArray 31)).setRow w2.heap.size (bcells dB).toArray) := below_row (hbel2.alloc hbel2.size _) hbel2.size _
      have gR3 : BRow ((w2.alloc (.cells (bcells z32).toArray 31)).setRow w2.heap.size (bcells dB).toArray) w.heap.size 31 z32 := (heap_put_old w2 _ _ _ _ hl3).trans (unhide R2)
      generalize ((w2.alloc (.cells (bcells z32).toArray 31)).setRow w2.heap.size (bcells dB).toArray) = WB at hbelB gR3 ⊢
      refine (unhide HN _ ((unhide HT).below hbelB (Nat.le_refl _))).mono ?_
      rintro e w3 ⟨rfl, hb3⟩
      have hbel3 := hbelB.trans (hb3.mono hbelB.size)
      have V1 := hide (show BRow w3 w.heap.size 31 z32 from (hb3.block _ (lt_of_block gR3)).trans gR3)
      clear A2 R2 hbel2 hbelB gR3 hb3 HN HT
      go_wp2_with ((with_reducible refine at_store ?_); refine wpList_store_row rfl 31 _ _ rfl w.heap.size (bcells dN).toArray rfl rfl 31 _ (unhide V1) (unhide VN) (unhide ZN) (bcells_one dN) ?_)
      refine bodyPost_ret (v := .agg (bcells dN).toArray) ?_ rfl ⟨rfl, below_row hbel3 (Nat.le_refl _) _⟩
      exact results_cell_row Tryd.results103 _ _ w.heap.size 31 _ (0, 0) _ rfl (setRow_heap _ _ _ _ _ _ (unhide V1)) Tryd.underlying31 rfl (unhide VN)
end Go.Proofs.YtanfolfopalbeaaDoor
