/- Root: the contract of the call. -/
import Derived.Test.YtanfolfopalbeaaDoorTreeRoot
namespace Go.Proofs.YtanfolfopalbeaaDoor
open Go.RowKit

/-- What Root answers beside the error. -/
def rootR (ss : List ByteArray) : List UInt8 := if chk ss = 0 then rootL ss else z32
theorem rootR_length (ss : List ByteArray) : (rootR ss).length = 32 := by
  unfold rootR
  split
  · exact rootL_length ss
  · rfl
theorem chk_inv (ss : List ByteArray) (h : chk ss = 0) : ss.length ≤ 100 ∧ ∀ s ∈ ss, s.size ≤ 20 := by
  unfold chk at h
  split at h
  · cases h
  · split at h
    · cases h
    · rename_i h1 h2
      refine ⟨by omega, fun s hs => ?_⟩
      rw [List.any_eq_true] at h2
      apply Decidable.byContradiction
      intro hn
      exact h2 ⟨s, hs, by simp; omega⟩
theorem chk_le (ss : List ByteArray) : chk ss ≤ 2 := by
  unfold chk
  split
  · omega
  · split <;> omega
theorem results_row2 {P : Program} {fn : Func} {p u : Tmp} {ty : TypeId} (h : fn.results = #[.cell p ty, .tmp u]) (tmps : Array Value) (w : World) (g : Nat) (t : TypeId) (cs : Array Value) (fr : Nat × Nat) (d : TypeDesc)
    (hp : tmps.getD p undef = .pointer (some ⟨g, 0, none⟩)) (hg : w.heap[g]? = some (.cells cs t fr))
    (hu : P.underlying ty = some d) (hd : (match d with | .struct _ | .array _ _ => true | _ => false) = true) (hi : (P.info? ty).map (·.size) = some cs.size) :
    (results fn tmps).run P w = .ok (.tuple #[.agg cs, tmps.getD u undef]) w := by
  have hp' : tmps[p]?.getD undef = .pointer (some ⟨g, 0, none⟩) := by simpa using hp
  simp [results, h, hp', asAddr, run_loadVar_row w g t ty cs fr d hg hu hd hi]

set_option maxRecDepth 100000 in
set_option maxHeartbeats 800000 in
theorem treeRoot_any (v : Value) (ss : List ByteArray) (w : World) (h : Strs w v ss) (hT : Tabs w) :
    Calls Tryd.prog 67 #[v] w fun e w' => e = .returned (.tuple #[.agg (bcells (rootR ss)).toArray, .int .i64 (chk ss)]) ∧ Below w.heap.size w w' := by
  have hbel0 : Below w.heap.size w (w.alloc (.cells (bcells z32).toArray 31)) := (Below.refl _ _).alloc (Nat.le_refl _) _
  have hres0 : (w.alloc (.cells (bcells z32).toArray 31)).heap[w.heap.size]? = some (.cells (bcells z32).toArray 31 (0, 0)) := heap_alloc_new w _
  have HS := hide (h.below hbel0 (Nat.le_refl _))
  have HT := hide (hT.below hbel0 (Nat.le_refl _))
  have K0 := hide hbel0
  have R0 := hide hres0
  have hck := fun wq hs => check_any v ss wq hs
  clear hT hbel0 hres0
  by_cases hc : chk ss = 0
  · obtain ⟨hl, hz⟩ := chk_inv ss hc
    have hrt := fun wq hs ht => rootOf_any ss.length v ss wq (Nat.le_refl _) hl hz hs ht
    have hdl := rootL_length ss
    have HD := hide (show rootR ss = rootL ss by unfold rootR; rw [if_pos hc])
    rw [hc, unhide HD]
    rw [hc] at hck
    generalize rootL ss = d8 at hrt hdl HD ⊢
    have V2 := hide (v_dg d8 hdl)
    have V3 := hide (v_z32 d8 hdl)
    clear h hz hc HD
    go_enter Tryd.func67, Tryd.ntmps67
    go_wp2_with fail
    rw [← z32_cells]
    refine (hck _ (unhide HS)).mono ?_
    rintro e w1 ⟨rfl, rfl⟩
    go_wp2_with fail
    refine (hrt _ (unhide HS) (unhide HT)).mono ?_
    rintro e w1 ⟨rfl, hb1⟩
    have hbel1 := (unhide K0).trans (hb1.mono (unhide K0).size)
    have V1 := hide (show BRow w1 w.heap.size 31 z32 from (hb1.block _ (lt_of_block (unhide R0))).trans (unhide R0))
    clear hb1 hck hrt HS HT
    go_wp2_with ((with_reducible refine at_store ?_); refine wpList_store_row rfl 31 _ _ rfl w.heap.size (bcells d8).toArray rfl rfl 31 _ (unhide V1) (unhide V2) (unhide V3) (bcells_one d8) ?_)
    refine bodyPost_ret (v := .tuple #[.agg (bcells d8).toArray, .int .i64 0]) ?_ rfl ⟨rfl, below_row hbel1 (Nat.le_refl _) _⟩
    exact results_row2 Tryd.results67 _ _ w.heap.size 31 _ (0, 0) _ rfl (setRow_heap _ _ _ _ _ _ (unhide V1)) Tryd.underlying31 rfl (unhide V2)
  · have hle := chk_le ss
    have HD := hide (show rootR ss = z32 by unfold rootR; rw [if_neg hc])
    rw [unhide HD]
    generalize chk ss = c at hc hle hck ⊢
    have hne : ((c : Int) != 0) = true := by rw [bne_iff_ne]; omega
    go_enter Tryd.func67, Tryd.ntmps67
    go_wp2_with fail
    rw [← z32_cells]
    refine (hck _ (unhide HS)).mono ?_
    rintro e w1 ⟨rfl, rfl⟩
    have V2 := hide (v_dg z32 rfl)
    go_wp2_with ((with_reducible refine at_store ?_); rw [← z32_cells]; refine wpList_store_row rfl 31 _ _ rfl w.heap.size (bcells z32).toArray rfl rfl 31 _ (unhide R0) (unhide V2) rfl (bcells_one z32) ?_)
    refine bodyPost_ret (v := .tuple #[.agg (bcells z32).toArray, .int .i64 c]) ?_ rfl ⟨rfl, below_row (unhide K0) (Nat.le_refl _) _⟩
    exact results_row2 Tryd.results67 _ _ w.heap.size 31 _ (0, 0) _ rfl (setRow_heap _ _ _ _ _ _ (unhide R0)) Tryd.underlying31 rfl (unhide V2)

set_option maxRecDepth 100000 in
set_option maxHeartbeats 800000 in
theorem Root_any (v : Value) (ss : List ByteArray) (w : World) (h : Strs w v ss) (hT : Tabs w) :
    Calls Tryd.prog 32 #[v] w fun e w' => e = .returned (.tuple #[.agg (bcells (rootR ss)).toArray, .int .i64 (chk ss)]) ∧ Below w.heap.size w w' := by
  have hbel0 : Below w.heap.size w (w.alloc (.cells (bcells z32).toArray 31)) := (Below.refl _ _).alloc (Nat.le_refl _) _
  have hres0 : (w.alloc (.cells (bcells z32).toArray 31)).heap[w.heap.size]? = some (.cells (bcells z32).toArray 31 (0, 0)) := heap_alloc_new w _
  have HS := hide (h.below hbel0 (Nat.le_refl _))
  have HT := hide (hT.below hbel0 (Nat.le_refl _))
  have K0 := hide hbel0
  have R0 := hide hres0
  have hrt := fun wq hs ht => treeRoot_any v ss wq hs ht
  have hdl := rootR_length ss
  generalize rootR ss = d8 at hrt hdl ⊢
  generalize chk ss = c at hrt ⊢
  have V2 := hide (v_dg d8 hdl)
  have V3 := hide (v_z32 d8 hdl)
  clear hT hbel0 hres0 h
  go_enter Tryd.func32, Tryd.ntmps32
  go_wp2_with fail
  rw [← z32_cells]
  refine (hrt _ (unhide HS) (unhide HT)).mono ?_
  rintro e w1 ⟨rfl, hb1⟩
  have hbel1 := (unhide K0).trans (hb1.mono (unhide K0).size)
  have V1 := hide (show BRow w1 w.heap.size 31 z32 from (hb1.block _ (lt_of_block (unhide R0))).trans (unhide R0))
  clear hb1 hrt HS HT
  go_wp2_with ((with_reducible refine at_store ?_); refine wpList_store_row rfl 31 _ _ rfl w.heap.size (bcells d8).toArray rfl rfl 31 _ (unhide V1) (unhide V2) (unhide V3) (bcells_one d8) ?_)
  refine bodyPost_ret (v := .tuple #[.agg (bcells d8).toArray, .int .i64 c]) ?_ rfl ⟨rfl, below_row hbel1 (Nat.le_refl _) _⟩
  exact results_row2 Tryd.results32 _ _ w.heap.size 31 _ (0, 0) _ rfl (setRow_heap _ _ _ _ _ _ (unhide V1)) Tryd.underlying31 rfl (unhide V2)
end Go.Proofs.YtanfolfopalbeaaDoor
