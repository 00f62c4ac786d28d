/- The reference's Root and Prove: the contracts. -/
import Derived.Test.YtanfolfopalbeaaDoorRefWay
import Derived.Test.YtanfolfopalbeaaDoorRefMay
namespace Go.Proofs.YtanfolfopalbeaaDoor
open Go.RowKit

set_option maxRecDepth 100000 in
set_option maxHeartbeats 800000 in
theorem rRoot_any (tb : List Nat) (ht : TabOk tb) (v : Value) (ss : List ByteArray) (w : World) (h : Strs w v ss) :
    Calls Tryd.prog 58 #[.agg (ucells tb).toArray, v] w fun e w' => e = .returned (.tuple #[.agg (bcells (rootR ss)).toArray, .int .i64 (chk ss)]) ∧ Below w.heap.size w w' := by
  have VT := hide (v_tab tb ht.1)
  obtain ⟨hbel0, g0, g1⟩ := two_new w (.cells (ucells tb).toArray 26) (.cells (bcells z32).toArray 31)
  have HS := hide (h.below hbel0 (Nat.le_refl _))
  have K0 := hide hbel0
  have G0 := hide g0
  have G1 := hide g1
  have hck := fun wq hs => may_any v ss wq hs
  clear hbel0 g0 g1
  by_cases hc : chk ss = 0
  · obtain ⟨hl, hz⟩ := chk_inv ss hc
    have hrt := fun wq hs => rtree_any tb ht v ss wq hs hl hz
    have hdl := rootL_length ss
    have HD := hide (show rootR ss = rootL ss by unfold rootR; rw [if_pos hc])
    rw [hc, unhide HD]
    rw [hc] at hck
    generalize rootL ss = d8 at hrt hdl HD ⊢
    have V2 := hide (v_dg d8 hdl)
    have V3 := hide (v_z32 d8 hdl)
    clear h hz hc HD
    go_enter Tryd.func58, Tryd.ntmps58
    go_upto_region 1 with fail
    rw [← z32_cells]
    generalize ((w.alloc (.cells (ucells tb).toArray 26)).alloc (.cells (bcells z32).toArray 31)) = W0 at K0 G0 G1 HS ⊢
    go_wp2_with (first | (go_at_call 97; refine (hck _ (unhide HS)).mono ?_; rintro e wq ⟨rfl, he⟩; cases he) | ((with_reducible refine at_load ?_); refine wpList_load_row rfl 26 _ rfl w.heap.size (by rfl) 26 (ucells tb).toArray (0, 0) _ (unhide G0) Tryd.underlying26 rfl (unhide VT) ?_))
    refine (hrt _ (unhide HS)).mono ?_
    rintro e w1 ⟨rfl, hb1⟩
    have hbel1 := (unhide K0).trans (hb1.mono (unhide K0).size)
    have g4 : BRow w1 (w.heap.size + 1) 31 z32 := (hb1.block _ (lt_of_block (unhide G1))).trans (unhide G1)
    have hl4 := lt_of_block g4
    have V1 := hide g4
    clear hb1 hck hrt HS g4
    go_wp2_with (first | ((with_reducible refine at_store ?_); first | refine wpList_store_row rfl 31 _ _ rfl w1.heap.size (bcells d8).toArray rfl rfl 31 _ (heap_alloc_new w1 _) (unhide V2) (unhide V3) (bcells_one d8) ?_ | refine wpList_store_row rfl 31 _ _ rfl (w.heap.size + 1) (bcells d8).toArray rfl rfl 31 _ ((heap_put_old w1 _ _ _ _ hl4).trans (unhide V1)) (unhide V2) (unhide V3) (bcells_one d8) ?_) | ((with_reducible refine at_load ?_); refine wpList_load_row rfl 31 _ rfl w1.heap.size (by rfl) 31 (bcells d8).toArray (0, 0) _ (heap_put_new w1 _ _ _) Tryd.underlying31 rfl (unhide V2) ?_))
    rw [← z32_cells]
    have hbelA : Below w.heap.size w ((w1.alloc (.cells (bcells z32).toArray 31)).setRow w1.heap.size (bcells d8).toArray) := below_row (hbel1.alloc hbel1.size _) hbel1.size _
    refine bodyPost_ret (v := .tuple #[.agg (bcells d8).toArray, .int .i64 0]) ?_ rfl ⟨rfl, below_row hbelA (by omega) _⟩
    exact results_row2 Tryd.results58 _ _ (w.heap.size + 1) 31 _ (0, 0) _ rfl (setRow_heap _ _ _ _ _ _ ((heap_put_old w1 _ _ _ _ hl4).trans (unhide V1))) Tryd.underlying31 rfl (unhide V2)
  · have hle := chk_le ss
    have HD := hide (show rootR ss = z32 by unfold rootR; rw [if_neg hc])
    rw [unhide HD]
    generalize chk ss = c at hc hle hck ⊢
    have hne : ((c : Int) != 0) = true := by rw [bne_iff_ne]; omega
    have V2 := hide (v_dg z32 rfl)
    go_enter Tryd.func58, Tryd.ntmps58
    go_upto_region 1 with fail
    rw [← z32_cells]
    generalize ((w.alloc (.cells (ucells tb).toArray 26)).alloc (.cells (bcells z32).toArray 31)) = W0 at K0 G0 G1 HS ⊢
    go_wp2_with (first | (go_at_call 97; refine (hck _ (unhide HS)).mono ?_; rintro e wq ⟨rfl, he⟩; cases he) | ((with_reducible refine at_store ?_); rw [← z32_cells]; refine wpList_store_row rfl 31 _ _ rfl (w.heap.size + 1) (bcells z32).toArray rfl rfl 31 _ (unhide G1) (unhide V2) rfl (bcells_one z32) ?_))
    refine bodyPost_ret (v := .tuple #[.agg (bcells z32).toArray, .int .i64 c]) ?_ rfl ⟨rfl, below_row (unhide K0) (by omega) _⟩
    exact results_row2 Tryd.results58 _ _ (w.heap.size + 1) 31 _ (0, 0) _ rfl (setRow_heap _ _ _ _ _ _ (unhide G1)) Tryd.underlying31 rfl (unhide V2)

set_option maxRecDepth 100000 in
set_option maxHeartbeats 800000 in
theorem rProve_any (tb : List Nat) (ht : TabOk tb) (v : Value) (ss : List ByteArray) (i : Int) (w : World) (hi : -9223372036854775808 ≤ i ∧ i ≤ 9223372036854775807) (h : Strs w v ss) :
    Calls Tryd.prog 59 #[.agg (ucells tb).toArray, v, .int .i64 i] w fun e w' => ∃ v', e = .returned (.tuple #[v', .int .i64 (proveR ss i).2]) ∧ w'.ownsRow w.heap.size 31 32 v' (proveR ss i).1.length (dcells (proveR ss i).1) ∧ Below w.heap.size w w' := by
  have VT := hide (v_tab tb ht.1)
  have hbel0 : Below w.heap.size w (w.alloc (.cells (ucells tb).toArray 26)) := (Below.refl _ _).alloc (Nat.le_refl _) _
  have HS := hide (h.below hbel0 (Nat.le_refl _))
  have K0 := hide hbel0
  have G0 := hide (show (w.alloc (.cells (ucells tb).toArray 26)).heap[w.heap.size]? = some (.cells (ucells tb).toArray 26 (0, 0)) from heap_alloc_new w _)
  have hck := fun wq hs => may_any v ss wq hs
  obtain ⟨hi0, hi1⟩ := hi
  obtain ⟨ao, cap, hv, hl1, hl2, _⟩ := h
  subst hv
  clear hbel0
  by_cases hc : chk ss = 0
  · obtain ⟨hl, hz⟩ := chk_inv ss hc
    rw [hc] at hck
    by_cases hb : i < 0 ∨ (ss.length : Int) ≤ i
    · have HP := hide (show proveR ss i = ([], 5) by unfold proveR; rw [if_neg (by omega), if_pos hb])
      rw [unhide HP]
      clear hz hc
      rcases hb with hb | hb
      · have hd : decide (i < 0) = true := by simp; omega
        go_enter Tryd.func59, Tryd.ntmps59
        go_wp2_with (go_at_call 97; refine (hck _ (unhide HS)).mono ?_; rintro e wq ⟨rfl, he⟩; cases he)
        go_ret2
        exact ⟨_, rfl, World.ownsRow_nil _ _ _ _, unhide K0⟩
      · have hd : decide (i < 0) = false := by simp; omega
        have hd2 : decide ((ss.length : Int) ≤ i) = true := by simp; omega
        go_enter Tryd.func59, Tryd.ntmps59
        go_wp2_with (go_at_call 97; refine (hck _ (unhide HS)).mono ?_; rintro e wq ⟨rfl, he⟩; cases he)
        go_ret2
        exact ⟨_, rfl, World.ownsRow_nil _ _ _ _, unhide K0⟩
    · have HP := hide (show proveR ss i = (pathL ss i.toNat, 0) by unfold proveR; rw [if_neg (by omega), if_neg hb])
      rw [unhide HP]
      obtain ⟨j, rfl⟩ : ∃ j : Nat, i = (j : Int) := ⟨i.toNat, by omega⟩
      have hjl : j < ss.length := by omega
      have hrt := fun wq hs => rway_any tb ht ss.length (.slice ao ss.length cap) ss j wq (Nat.le_refl _) hl hjl hz hs
      rw [Int.toNat_natCast]
      have hd : decide ((j : Int) < 0) = false := by simp
      have hd2 : decide ((ss.length : Int) ≤ (j : Int)) = false := by simp; omega
      generalize pathL ss j = p at hrt ⊢
      clear hz hc HP hb
      have hs0 : w.heap.size ≤ (w.alloc (.cells (ucells tb).toArray 26)).heap.size := (unhide K0).size
      go_enter Tryd.func59, Tryd.ntmps59
      go_wp2_with (first | (go_at_call 97; refine (hck _ (unhide HS)).mono ?_; rintro e wq ⟨rfl, he⟩; cases he) | ((with_reducible refine at_load ?_); refine wpList_load_row rfl 26 _ rfl w.heap.size (by rfl) 26 (ucells tb).toArray (0, 0) _ (unhide G0) Tryd.underlying26 rfl (unhide VT) ?_))
      refine (hrt _ (unhide HS)).mono ?_
      rintro e w2 ⟨v2, rfl, hown2, hb2⟩
      have hown3 := hown2.mono hs0
      have hbel2 := (unhide K0).trans (hb2.mono (unhide K0).size)
      clear hown2 hb2
      go_wp2
      go_ret2
      exact ⟨_, rfl, hown3, hbel2⟩
  · have hle := chk_le ss
    have HP := hide (show proveR ss i = ([], chk ss) by unfold proveR; rw [if_pos hc])
    rw [unhide HP]
    generalize chk ss = c at hc hle hck ⊢
    have hne : ((c : Int) != 0) = true := by rw [bne_iff_ne]; omega
    go_enter Tryd.func59, Tryd.ntmps59
    go_wp2_with (go_at_call 97; refine (hck _ (unhide HS)).mono ?_; rintro e wq ⟨rfl, he⟩; cases he)
    go_ret2
    exact ⟨_, rfl, World.ownsRow_nil _ _ _ _, unhide K0⟩
end Go.Proofs.YtanfolfopalbeaaDoor
