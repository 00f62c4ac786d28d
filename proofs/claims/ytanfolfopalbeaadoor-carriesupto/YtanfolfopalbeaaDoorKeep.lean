import Derived.Test.YtanfolfopalbeaaDoorSum
import Derived.Test.YtanfolfopalbeaaDoorRead
namespace Go.Proofs.YtanfolfopalbeaaDoor
open Go.RowKit

set_option maxRecDepth 100000 in
set_option maxHeartbeats 400000 in
theorem OldSum_any (s : ByteArray) (w : World) (hs : s.size ≤ maxLen) :
    Calls Tryd.prog 14 #[.string s] w fun e w' => e = .returned (.int .u16 (wk s.data.toList)) ∧ w' = w := by
  go_enter Tryd.func14, Tryd.ntmps14
  go_wp2_with fail
  refine (weak_any s _ hs).mono ?_
  rintro e w1 ⟨rfl, rfl⟩
  go_wp2
  go_ret
  exact ⟨rfl, rfl⟩
set_option maxRecDepth 100000 in
set_option maxHeartbeats 400000 in
theorem WriteOld_any (v : Value) (ss : List ByteArray) (w : World) (h : Strs w v ss) :
    Calls Tryd.prog 19 #[v] w fun e w' => e = .returned (.tuple #[.string (wrText ss), .int .i64 (chk ss)]) ∧ Below w.heap.size w w' := by
  have HS := hide h
  clear h
  go_enter Tryd.func19, Tryd.ntmps19
  go_wp2_with fail
  refine (write_any v ss _ (unhide HS)).mono ?_
  rintro e w1 ⟨rfl, hb⟩
  go_wp2
  go_ret2
  exact ⟨rfl, hb⟩
set_option maxRecDepth 100000 in
set_option maxHeartbeats 400000 in
theorem ReadOld_any (s : ByteArray) (w : World) (hm : s.size ≤ maxLen) :
    Calls Tryd.prog 20 #[.string s] w fun e w' => ∃ v, e = .returned (.tuple #[v, .int .i64 (rdOld s.data.toList).2.1, .int .i64 (rdOld s.data.toList).2.2]) ∧
      w'.ownsRow w.heap.size 9 1 v (rdOld s.data.toList).1.length (((rdOld s.data.toList).1.map mk).map Value.string) ∧ Below w.heap.size w w' := by
  go_enter Tryd.func20, Tryd.ntmps20
  go_wp2_with fail
  refine (read_any s _ hm).mono ?_
  rintro e w1 ⟨v, rfl, hown, hb⟩
  go_wp2
  go_ret3
  exact ⟨v, rfl, hown, hb⟩
set_option maxRecDepth 100000 in
set_option maxHeartbeats 400000 in
theorem NewSum_any (x : ByteArray) (w : World) (hx : x.size ≤ 140737488351232) (hT : Tabs w) :
    Calls Tryd.prog 15 #[.string x] w fun e w' => e = .returned (.agg (bcells (shaL x.data.toList)).toArray) ∧ Below w.heap.size w w' := by
  have HT := hide hT
  clear hT
  go_enter Tryd.func15, Tryd.ntmps15
  go_wp2_with fail
  rw [← z32_cells]
  have hbel0 : Below w.heap.size w (w.alloc (.cells (bcells z32).toArray 31)) := (Below.refl _ _).alloc (Nat.le_refl _) _
  have hres0 : (w.alloc (.cells (bcells z32).toArray 31)).heap[w.heap.size]? = some (.cells (bcells z32).toArray 31 (0, 0)) := heap_alloc_new w _
  refine (strong_any x _ hx ((unhide HT).below hbel0 (Nat.le_refl _))).mono ?_
  rintro e w1 ⟨rfl, hb1⟩
  have hbel1 := hbel0.trans (hb1.mono hbel0.size)
  have hres1 : w1.heap[w.heap.size]? = some (.cells (bcells z32).toArray 31 (0, 0)) := by rw [hb1.block _ (lt_of_block hres0)]; exact hres0
  have hdl : (bcells (shaL x.data.toList)).toArray.size = 32 := by rw [bcells_size]; exact dgk_length _ 8 (Nat.le_refl _)
  generalize hde : shaL x.data.toList = d8 at hdl ⊢
  have HDE := hide hde
  have V1 := hide hres1
  have V2 := hide (show (Tryd.prog.info? 31).map (·.size) = some (bcells d8).toArray.size by rw [hdl]; exact info_dg)
  have V3 := hide (show (bcells z32).toArray.size = (bcells d8).toArray.size by rw [hdl, bcells_size]; rfl)
  clear hres1 hres0 hdl hb1 hbel0 hde
  go_wp2_with ((with_reducible refine at_store ?_); refine wpList_store_row rfl 31 _ _ rfl w.heap.size (bcells d8).toArray rfl rfl 31 _ (unhide V1) (unhide V2) (unhide V3) (bcells_one d8) ?_)
  refine bodyPost_ret (v := .agg (bcells d8).toArray) ?_ rfl ⟨by rw [unhide HDE], below_row hbel1 (Nat.le_refl _) _⟩
  exact results_cell_row Tryd.results15 _ _ w.heap.size 31 _ (0, 0) _ rfl (setRow_heap _ _ _ _ _ _ (unhide V1)) Tryd.underlying31 rfl (unhide V2)
end Go.Proofs.YtanfolfopalbeaaDoor
