/- The tree log's small functions: the first part's size, the sum of an entry, the sum of two roots. -/
import Derived.Test.YtanfolfopalbeaaDoorTreeMath
import Derived.Deep.RegionWith
namespace Go.Proofs.YtanfolfopalbeaaDoor
open Go.RowKit

set_option maxRecDepth 100000 in
set_option maxHeartbeats 400000 in
theorem first_any (n : Nat) (w : World) (hn : n ≤ 1099511627776) :
    Calls Tryd.prog 120 #[.int .i64 n] w fun e w' => e = .returned (.int .i64 (half n)) ∧ w' = w := by
  go_enter Tryd.func120, Tryd.ntmps120
  go_wp2
  go_loop [3] (fun v => ∃ m : Nat, (∃ j, m = 2 ^ j) ∧ (m < n ∨ m = 1) ∧ 0 < m ∧ v = .int .i64 m) (fun v => n - (intOf v).toNat)
  case atStart => exact ⟨1, ⟨0, rfl⟩, .inr rfl, by omega, rfl⟩
  case round =>
    obtain ⟨m, hj, hm, hm0, rfl⟩ := hrel
    have HJ := hide hj
    clear hj
    have hm1 : (m : Int) ≤ 1099511627776 := by omega
    by_cases hlt : m + m < n
    · have hd : decide ((m : Int) < (n : Int) - (m : Int)) = true := by simp; omega
      go_wp2
      go_round
      case rel =>
        obtain ⟨j, hj⟩ := unhide HJ
        exact ⟨m + m, ⟨j + 1, by rw [Nat.pow_succ, hj]; omega⟩, .inl hlt, by omega, val_int (by omega)⟩
      case measure => simp [intOf]; omega
    · have hd : decide ((m : Int) < (n : Int) - (m : Int)) = false := by simp; omega
      go_wp2
      go_ret
      obtain ⟨j, hj⟩ := unhide HJ
      refine ⟨ret_int ?_, rfl⟩
      by_cases h2 : m < n
      · rw [half_of n j (by omega) (by omega), hj]
      · rw [half_small n (by omega)]; omega

theorem cons_data (c : UInt8) (x : ByteArray) : (ByteArray.mk #[c] ++ x).data.toList = c :: x.data.toList := by
  simp only [ByteArray.data_append, Array.toList_append]
  rfl
theorem cons_size (c : UInt8) (x : ByteArray) : (ByteArray.mk #[c] ++ x).size = x.size + 1 := by
  rw [ByteArray.size_append]
  show 1 + x.size = x.size + 1
  omega

set_option maxRecDepth 100000 in
set_option maxHeartbeats 400000 in
theorem leaf_any (x : ByteArray) (w : World) (hx : x.size ≤ 140737488351231) (hT : Tabs w) :
    Calls Tryd.prog 102 #[.string x] w fun e w' => e = .returned (.agg (bcells (lf x)).toArray) ∧ Below w.heap.size w w' := by
  have HT := hide hT
  clear hT
  go_enter Tryd.func102, Tryd.ntmps102
  go_wp2_with fail
  rw [← z32_cells]
  have hbel0 : Below w.heap.size w (w.alloc (.cells (bcells z32).toArray 31)) := (Below.refl _ _).alloc (Nat.le_refl _) _
  have hres0 : (w.alloc (.cells (bcells z32).toArray 31)).heap[w.heap.size]? = some (.cells (bcells z32).toArray 31 (0, 0)) := heap_alloc_new w _
  refine (strong_any (ByteArray.mk #[0] ++ x) _ (by rw [cons_size]; omega) ((unhide HT).below hbel0 (Nat.le_refl _))).mono ?_
  rw [cons_data]
  rintro e w1 ⟨rfl, hb1⟩
  have hbel1 := hbel0.trans (hb1.mono hbel0.size)
  have hres1 : w1.heap[w.heap.size]? = some (.cells (bcells z32).toArray 31 (0, 0)) := by rw [hb1.block _ (lt_of_block hres0)]; exact hres0
  have hdl : (bcells (shaL (0 :: x.data.toList))).toArray.size = 32 := by rw [bcells_size]; exact sha_length _
  have HDE := hide (show lf x = shaL (0 :: x.data.toList) from rfl)
  generalize shaL (0 :: x.data.toList) = d8 at hdl HDE ⊢
  have V1 := hide hres1
  have V2 := hide (show (Tryd.prog.info? 31).map (·.size) = some (bcells d8).toArray.size by rw [hdl]; exact info_dg)
  have V3 := hide (show (bcells z32).toArray.size = (bcells d8).toArray.size by rw [hdl, bcells_size]; rfl)
  clear hres1 hres0 hdl hb1 hbel0
  go_wp2_with ((with_reducible refine at_store ?_); refine wpList_store_row rfl 31 _ _ rfl w.heap.size (bcells d8).toArray rfl rfl 31 _ (unhide V1) (unhide V2) (unhide V3) (bcells_one d8) ?_)
  refine bodyPost_ret (v := .agg (bcells d8).toArray) ?_ rfl ⟨by rw [unhide HDE], below_row hbel1 (Nat.le_refl _) _⟩
  exact results_cell_row Tryd.results102 _ _ w.heap.size 31 _ (0, 0) _ rfl (setRow_heap _ _ _ _ _ _ (unhide V1)) Tryd.underlying31 rfl (unhide V2)

/-- The text of a row of bytes. -/
theorem conv_row (g : Nat) (a : List UInt8) (w : World) (ha : a.length = 32) (h : BRow w g 31 a) :
    (convert 45 9 (.slice (some ⟨g, 0, none⟩) 32 32)).run Tryd.prog w = .ok (.string (mk a)) w := by
  have := run_convert_bytes_arg (P := Tryd.prog) w 45 5 Tryd.underlying45 Tryd.underlying5 g 0 32 32 (a.map fun n => (n.toNat : Int)) (by simp [ha]) (fun i hi => by
    rw [Nat.zero_add, h.cell i (by omega)]
    simp [List.getD, List.getElem?_eq_getElem (show i < a.length by omega)]) 9 Tryd.underlying9
  rw [this, show strOfNums (a.map fun n => (n.toNat : Int)) = mk a from by
    unfold strOfNums mk
    rw [List.map_map, show ((fun n : Int => UInt8.ofNat n.toNat) ∘ fun n : UInt8 => (n.toNat : Int)) = id from by funext x; simp, List.map_id]]

/-- A digest is written over another. -/
theorem store_dig (g : Nat) (c d : List UInt8) (w : World) (hl : c.length = d.length) (h : BRow w g 31 c) :
    (storeCells ⟨g, 0, none⟩ (bcells d)).run Tryd.prog w = .ok () (w.setRow g (bcells d).toArray) := by
  have := run_storeCells_from (P := Tryd.prog) g 31 (bcells d) 0 (bcells c).toArray w h (by rw [bcells_size, hl]; simp [bcells]) (fun v hv => by
    simp only [bcells, List.mem_map] at hv
    obtain ⟨n, _, rfl⟩ := hv
    rfl)
  simpa using this

set_option maxRecDepth 100000 in
set_option maxHeartbeats 400000 in
theorem node_any (a b : List UInt8) (w : World) (ha : a.length = 32) (hb : b.length = 32) (hT : Tabs w) :
    Calls Tryd.prog 121 #[.agg (bcells a).toArray, .agg (bcells b).toArray] w fun e w' => e = .returned (.agg (bcells (nd a b)).toArray) ∧ Below w.heap.size w w' := by
  have HT := hide hT
  clear hT
  go_enter Tryd.func121, Tryd.ntmps121
  go_wp2_with fail
  rw [← z32_cells]
  have hbel0 : Below w.heap.size w (((w.alloc (.cells (bcells a).toArray 31)).alloc (.cells (bcells b).toArray 31)).alloc (.cells (bcells z32).toArray 31)) := (((Below.refl _ _).alloc (Nat.le_refl _) _).alloc (by simp) _).alloc (by simp; omega) _
  obtain ⟨g0, g1, g2⟩ := heap3 w (.cells (bcells a).toArray 31) (.cells (bcells b).toArray 31) (.cells (bcells z32).toArray 31)
  generalize (((w.alloc (.cells (bcells a).toArray 31)).alloc (.cells (bcells b).toArray 31)).alloc (.cells (bcells z32).toArray 31)) = W at hbel0 g0 g1 g2 ⊢
  have hcA := conv_row w.heap.size a W.drew ha g0
  have hcB := conv_row (w.heap.size + 1) b W.drew hb g1
  have hS3 : (ByteArray.mk #[1] ++ mk a ++ mk b).size ≤ 140737488351232 := by
    rw [ByteArray.size_append, cons_size, mk_size, mk_size]
    omega
  have HT0 := hide (show Tabs W.drew from (unhide HT).below hbel0.drew (Nat.le_refl _))
  have hsA : (mk a).size = 32 := by rw [mk_size, ha]
  have hsB : (mk b).size = 32 := by rw [mk_size, hb]
  have G0 := hide g0
  have G1 := hide g1
  have G2 := hide g2
  clear g0 g1 g2
  have hnd : nd a b = shaL ((ByteArray.mk #[1] ++ mk a ++ mk b).data.toList) := by
    unfold nd
    rw [ByteArray.data_append, Array.toList_append, cons_data, mk_data, mk_data]
    rfl
  have hpost := fun wq h => strong_any (ByteArray.mk #[1] ++ mk a ++ mk b) wq hS3 h
  rw [← hnd] at hpost
  have hdl : (nd a b).length = 32 := sha_length _
  generalize hde : nd a b = d8 at hdl hpost
  have HDE := hide hde
  clear hde
  have V2 := hide (show (Tryd.prog.info? 31).map (·.size) = some (bcells d8).toArray.size by rw [bcells_size, hdl]; exact info_dg)
  have hcl : (bcells d8).length = 32 := by rw [← hdl]; simp [bcells]
  clear hnd
  go_region_with (go_at_call 52; refine (hpost _ (unhide HT0)).mono ?_; rintro e w1 ⟨rfl, hb1⟩; have g2 : BRow w1 (w.heap.size + 1 + 1) 31 z32 := (hb1.block _ (lt_of_block (unhide G2))).trans (unhide G2); have hst := store_dig (w.heap.size + 1 + 1) z32 d8 w1 (by rw [hdl]; rfl) g2; have G3 := hide g2; clear g2)
  go_wp2_with fail
  all_goals
    have hbel1 : Below w.heap.size w w1 := hbel0.drew.trans (hb1.mono hbel0.drew.size)
    refine bodyPost_ret (v := .agg (bcells d8).toArray) ?_ rfl ⟨by rw [unhide HDE], below_row hbel1 (by omega) _⟩
    exact results_cell_row Tryd.results121 _ _ (w.heap.size + 1 + 1) 31 _ (0, 0) _ rfl (setRow_heap _ _ _ _ _ _ (unhide G3)) Tryd.underlying31 rfl (unhide V2)
end Go.Proofs.YtanfolfopalbeaaDoor
