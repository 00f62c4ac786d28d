/- The reference's half, leaf and node. -/
import Derived.Test.YtanfolfopalbeabDoorRefSame
import Derived.Test.YtanfolfopalbeabDoorTreeClimb
import Derived.Deep.RegionHeld3
namespace Go.Proofs.YtanfolfopalbeabDoor
open Go.RowKit

set_option maxHeartbeats 400000 in
theorem rhalf_any (n : Nat) (w : World) (hn : n ≤ 1099511627776) :
    Calls Tryd.prog 76 #[.int .i64 n] w fun e w' => e = .returned (.int .i64 (half n)) ∧ w' = w := by
  go_enter Tryd.func76, Tryd.ntmps76
  go_wp2
  go_loop [3] (fun v => ∃ m : Nat, (∃ j, m = 2 ^ j) ∧ (m < n ∨ m = 1) ∧ 0 < m ∧ v = .int .i64 m) (fun v => n - (intOf v).toNat)
  case atStart => exact ⟨1, ⟨0, rfl⟩, .inr rfl, by omega, rfl⟩
  case round =>
    obtain ⟨m, hj, hm, hm0, rfl⟩ := hrel
    have HJ := hide hj
    clear hj
    have hm1 : (m : Int) ≤ 1099511627776 := by omega
    by_cases hlt : m + m < n
    · have hd : decide ((m : Int) + (m : Int) < (n : Int)) = true := by simp; omega
      go_wp2
      go_round
      case rel =>
        obtain ⟨j, hj⟩ := unhide HJ
        exact ⟨m + m, ⟨j + 1, by rw [Nat.pow_succ, hj]; omega⟩, .inl hlt, by omega, val_int (by omega)⟩
      case measure => simp [intOf]; omega
    · have hd : decide ((m : Int) + (m : Int) < (n : Int)) = false := by simp; omega
      go_wp2
      go_ret
      obtain ⟨j, hj⟩ := unhide HJ
      refine ⟨ret_int ?_, rfl⟩
      by_cases h2 : m < n
      · rw [half_of n j (by omega) (by omega), hj]
      · rw [half_small n (by omega)]; omega

/-- A table by which the reference's New is the strong sum. -/
def TabOk (tb : List Nat) : Prop := tb.length = 72 ∧ ∀ (s : ByteArray) (w : World), s.size ≤ 1048576 →
  Calls Tryd.prog 94 #[.agg (ucells tb).toArray, .string s] w fun e w' => e = .returned (.agg (bcells (shaL s.data.toList)).toArray) ∧ Below w.heap.size w w'
theorem tabOk : TabOk (Hl ++ Kl) := ⟨tab_length, fun s w hs => by
  have := rnew_any s w hs
  rw [sha_same s.data.toList hs] at this
  exact this⟩
theorem v_tab (tb : List Nat) (h : tb.length = 72) : (Tryd.prog.info? 38).map (·.size) = some (ucells tb).toArray.size := by rw [ucells_size, h]; exact info_tab
theorem v_tabm (tb : List Nat) (h : tb.length = 72) : (Tryd.prog.info? 38).map (·.size) = some (ucells tb).length := by rw [ucells_length, h]; exact info_tab

set_option maxRecDepth 100000 in
set_option maxHeartbeats 400000 in
theorem rleaf_any (tb : List Nat) (ht : TabOk tb) (x : ByteArray) (w : World) (hx : x.size ≤ 1048575) :
    Calls Tryd.prog 92 #[.agg (ucells tb).toArray, .string x] w fun e w' => e = .returned (.agg (bcells (lf x)).toArray) ∧ Below w.heap.size w w' := by
  have VT := hide (v_tab tb ht.1)
  have hN := fun wq => ht.2 (ByteArray.mk #[0] ++ x) wq (by rw [cons_size]; omega)
  rw [cons_data] at hN
  have hdl : (lf x).length = 32 := sha_length _
  rw [show shaL (0 :: x.data.toList) = lf x from rfl] at hN
  generalize lf x = d8 at hN hdl ⊢
  have V2 := hide (v_dg d8 hdl)
  have V3 := hide (v_z32 d8 hdl)
  obtain ⟨hbel0, g0, g1⟩ := two_new w (.cells (ucells tb).toArray 38) (.cells (bcells z32).toArray 64)
  have K0 := hide hbel0
  have G0 := hide g0
  have G1 := hide g1
  clear hbel0 g0 g1
  go_enter Tryd.func92, Tryd.ntmps92
  go_upto_region 1 with fail
  rw [← z32_cells]
  generalize ((w.alloc (.cells (ucells tb).toArray 38)).alloc (.cells (bcells z32).toArray 64)) = W0 at K0 G0 G1 ⊢
  go_wp2_with ((with_reducible refine at_load ?_); refine wpList_load_row rfl 38 _ rfl w.heap.size (by rfl) 38 (ucells tb).toArray (0, 0) _ (unhide G0) Tryd.underlying38 rfl (unhide VT) ?_)
  refine (hN _).mono ?_
  rintro e w1 ⟨rfl, hb1⟩
  have hbel1 := (unhide K0).trans (hb1.mono (unhide K0).size)
  have V1 := hide (show BRow w1 (w.heap.size + 1) 64 z32 from (hb1.block _ (lt_of_block (unhide G1))).trans (unhide G1))
  clear hb1 hN K0 G0 G1
  go_wp2_with ((with_reducible refine at_store ?_); refine wpList_store_row rfl 64 _ _ rfl (w.heap.size + 1) (bcells d8).toArray rfl rfl 64 _ (unhide V1) (unhide V2) (unhide V3) (bcells_one d8) ?_)
  refine bodyPost_ret (v := .agg (bcells d8).toArray) ?_ rfl ⟨rfl, below_row hbel1 (by omega) _⟩
  exact results_cell_row Tryd.results92 _ _ (w.heap.size + 1) 64 _ (0, 0) _ rfl (setRow_heap _ _ _ _ _ _ (unhide V1)) Tryd.underlying64 rfl (unhide V2)

theorem there_of_brow {w : World} {g : Nat} {t : TypeId} {d : List UInt8} (h : BRow w g t d) (hd : d.length = 32) : w.there g 0 32 := fun j hj => by
  rw [Nat.zero_add]
  exact ⟨by rw [h.cell j (by omega)]; rfl, h.free j⟩
/-- What the node's region reads. -/
theorem node_S {g : Nat} {tb : List Nat} {a b c : List UInt8} {w' : World} (ha : a.length = 32) (hb : b.length = 32) (hc : c.length = 32) (htl : tb.length = 72) (h0 : URow w' g 38 tb) (h1 : BRow w' (g + 1) 64 a) (h2 : BRow w' (g + 1 + 1) 64 b) (h3 : BRow w' (g + 1 + 1 + 1) 64 c) :
    w'.rangeAt g 0 (ucells tb) ∧ w'.there (g + 1 + 1 + 1) 0 32 ∧ Sem.run Tryd.prog (convert 57 9 (.slice (some ⟨g + 1, 0, none⟩) 32 32)) w' = .ok (.string (mk a)) w' ∧ Sem.run Tryd.prog (convert 57 9 (.slice (some ⟨g + 1 + 1, 0, none⟩) 32 32)) w' = .ok (.string (mk b)) w' := by
  refine ⟨?_, there_of_brow h3 hc, conv_row _ a w' ha h1, conv_row _ b w' hb h2⟩
  have := range_of_urow h0 72
  rwa [List.take_of_length_le (by omega)] at this
theorem brow_setCells {w : World} {g : Nat} {ty : TypeId} {l l2 : List UInt8} (h : BRow w g ty l) (hl : l.length = l2.length) : BRow (w.setCells g 0 (bcells l2)) g ty l2 := by
  unfold BRow
  rw [setCells_row g ty (bcells l2) 0 w _ h (by rw [bcells_size]; simp [bcells]; omega)]
  congr 3
  rw [List.take_zero, List.nil_append, List.drop_eq_nil_of_le (by simp [bcells]; omega), List.append_nil]
theorem four_new (w : World) (A B C E : Obj) : Below w.heap.size w ((((w.alloc A).alloc B).alloc C).alloc E) ∧ ((((w.alloc A).alloc B).alloc C).alloc E).heap[w.heap.size]? = some A ∧ ((((w.alloc A).alloc B).alloc C).alloc E).heap[w.heap.size + 1]? = some B ∧ ((((w.alloc A).alloc B).alloc C).alloc E).heap[w.heap.size + 1 + 1]? = some C ∧ ((((w.alloc A).alloc B).alloc C).alloc E).heap[w.heap.size + 1 + 1 + 1]? = some E := by
  obtain ⟨g0, g1, g2⟩ := heap3 w A B C
  have hb3 : Below w.heap.size w (((w.alloc A).alloc B).alloc C) := (((Below.refl _ _).alloc (Nat.le_refl _) _).alloc (by simp) _).alloc (by simp; omega) _
  have hs : (((w.alloc A).alloc B).alloc C).heap.size = w.heap.size + 1 + 1 + 1 := by simp
  have hbE := (Below.refl (((w.alloc A).alloc B).alloc C).heap.size (((w.alloc A).alloc B).alloc C)).alloc (Nat.le_refl _) E
  refine ⟨hb3.alloc (by omega) _, (hbE.block _ (by omega)).trans g0, (hbE.block _ (by omega)).trans g1, (hbE.block _ (by omega)).trans g2, ?_⟩
  have := heap_alloc_new (((w.alloc A).alloc B).alloc C) E
  rwa [hs] at this

set_option maxRecDepth 100000 in
set_option maxHeartbeats 1600000 in
theorem rnode_any (tb : List Nat) (ht : TabOk tb) (a b : List UInt8) (w : World) (ha : a.length = 32) (hb : b.length = 32) :
    Calls Tryd.prog 93 #[.agg (ucells tb).toArray, .agg (bcells a).toArray, .agg (bcells b).toArray] w fun e w' => e = .returned (.agg (bcells (nd a b)).toArray) ∧ Below w.heap.size w w' := by
  have htl := ht.1
  have VT := v_tabm tb htl
  have hnd : nd a b = shaL ((ByteArray.mk #[1] ++ mk a ++ mk b).data.toList) := by
    unfold nd
    rw [ByteArray.data_append, Array.toList_append, cons_data, mk_data, mk_data]
    rfl
  have hN := fun wq => ht.2 (ByteArray.mk #[1] ++ mk a ++ mk b) wq (by rw [ByteArray.size_append, cons_size, mk_size, mk_size]; omega)
  rw [← hnd] at hN
  have hdl : (nd a b).length = 32 := sha_length _
  generalize nd a b = d8 at hN hdl ⊢
  have V2 := hide (v_dg d8 hdl)
  have V4 := v_mid d8 hdl
  have hcl : (bcells d8).length = 32 := by simp [bcells, hdl]
  have hone := bcells_one' d8
  have hsA : (mk a).size = 32 := by rw [mk_size, ha]
  have hsB : (mk b).size = 32 := by rw [mk_size, hb]
  have hu26 := Tryd.underlying38
  have hu31 := Tryd.underlying64
  obtain ⟨hbel0, g0, g1, g2, g3⟩ := four_new w (.cells (ucells tb).toArray 38) (.cells (bcells a).toArray 64) (.cells (bcells b).toArray 64) (.cells (bcells z32).toArray 64)
  have K0 := hide hbel0
  have G0 := hide g0
  have G1 := hide g1
  have G2 := hide g2
  have G3 := hide g3
  clear hbel0 g0 g1 g2 g3 hnd
  go_enter Tryd.func93, Tryd.ntmps93
  go_upto_region 1 with fail
  rw [← z32_cells]
  generalize ((((w.alloc (.cells (ucells tb).toArray 38)).alloc (.cells (bcells a).toArray 64)).alloc (.cells (bcells b).toArray 64)).alloc (.cells (bcells z32).toArray 64)) = W0 at K0 G0 G1 G2 G3 ⊢
  have hr8 := node_S (w' := W0.drew) ha hb (show z32.length = 32 from rfl) htl (unhide G0) (unhide G1) (unhide G2) (unhide G3)
  have hu26 := Tryd.underlying38
  refine wp_region_held_drew (S := fun w' => w'.rangeAt w.heap.size 0 (ucells tb) ∧ w'.there (w.heap.size + 1 + 1 + 1) 0 32 ∧ Sem.run Tryd.prog (convert 57 9 (.slice (some ⟨w.heap.size + 1, 0, none⟩) 32 32)) w' = .ok (.string (mk a)) w' ∧ Sem.run Tryd.prog (convert 57 9 (.slice (some ⟨w.heap.size + 1 + 1, 0, none⟩) 32 32)) w' = .ok (.string (mk b)) w') (by kernel_rfl) hr8 (fun hHeld => ?_)
  refine wpAnyH_take (i := 0) rfl (by kernel_rfl) (by kernel_rfl) (by kernel_rfl) (fun _ _ _ h => h)
      (yieldsIf_load_mid (by rfl) 38 _ rfl w.heap.size 0 rfl (ucells tb) _ (fun _ h => h.1) Tryd.underlying38 rfl VT) hHeld ?_
  refine wpAnyH_take (i := 1) (v := .slice (some ⟨w.heap.size + 1, 0, none⟩) 32 32) rfl (by kernel_rfl) (by kernel_rfl) (by kernel_rfl) (fun _ _ _ h => h) (Or.inl ⟨by rfl, fun _ _ => by go_simp⟩) hHeld ?_
  refine wpAnyH_take (i := 2) (v := .string (mk a)) rfl (by kernel_rfl) (by kernel_rfl) (by kernel_rfl) (fun _ _ _ h => h) (Or.inl ⟨by rfl, fun _ hq => by have hq2 := hq.2.2.1; clear hq; go_simp⟩) hHeld ?_
  refine wpAnyH_take (i := 3) (v := .string (ByteArray.mk #[1] ++ mk a)) rfl (by kernel_rfl) (by kernel_rfl) (by kernel_rfl) (fun _ _ _ h => h) (Or.inl ⟨by rfl, fun _ _ => by go_simp⟩) hHeld ?_
  refine wpAnyH_take (i := 4) (v := .slice (some ⟨w.heap.size + 1 + 1, 0, none⟩) 32 32) rfl (by kernel_rfl) (by kernel_rfl) (by kernel_rfl) (fun _ _ _ h => h) (Or.inl ⟨by rfl, fun _ _ => by go_simp⟩) hHeld ?_
  refine wpAnyH_take (i := 5) (v := .string (mk b)) rfl (by kernel_rfl) (by kernel_rfl) (by kernel_rfl) (fun _ _ _ h => h) (Or.inl ⟨by rfl, fun _ hq => by have hq2 := hq.2.2.2; clear hq; go_simp⟩) hHeld ?_
  refine wpAnyH_take (i := 6) (v := .string (ByteArray.mk #[1] ++ mk a ++ mk b)) rfl (by kernel_rfl) (by kernel_rfl) (by kernel_rfl) (fun _ _ _ h => h) (Or.inl ⟨by rfl, fun _ _ => by go_simp⟩) hHeld ?_
  refine wpAnyH_ready (rs := [7]) (by kernel_rfl) (by simp) ?_
  refine AllReadyH.cons rfl (fun K hK => ?_) AllReadyH.nil
  go_simp
  go_at_call 94
  refine (hN _).mono ?_
  rintro e w1 ⟨rfl, hb1⟩
  have hbw1 : Below W0.heap.size W0 w1 := ⟨hb1.os, hb1.tape, hb1.output, hb1.size, hb1.block⟩
  have g0 : URow w1 w.heap.size 38 tb := (hbw1.block _ (lt_of_block (unhide G0))).trans (unhide G0)
  have g1 : BRow w1 (w.heap.size + 1) 64 a := (hbw1.block _ (lt_of_block (unhide G1))).trans (unhide G1)
  have g2 : BRow w1 (w.heap.size + 1 + 1) 64 b := (hbw1.block _ (lt_of_block (unhide G2))).trans (unhide G2)
  have g3 : BRow w1 (w.heap.size + 1 + 1 + 1) 64 z32 := (hbw1.block _ (lt_of_block (unhide G3))).trans (unhide G3)
  have hbel1 := (unhide K0).trans (hbw1.mono (unhide K0).size)
  dsimp only
  refine hK.out _ _ (node_S ha hb (show z32.length = 32 from rfl) htl g0 g1 g2 g3) (fun _ => ?_)
  clear hK K
  refine wpAnyH_ready (rs := [8]) (by kernel_rfl) (by simp) ?_
  refine AllReadyH.cons rfl (fun K hK => ?_) AllReadyH.nil
  rw [if_pos (by rfl)]
  refine wp_store_mid 64 _ _ rfl (w.heap.size + 1 + 1 + 1) 0 (bcells d8).toArray rfl rfl (by rw [bcells_size, hdl]; exact there_of_brow g3 rfl) (unhide V2) (bcells_one d8) ?_
  rw [show (bcells d8).toArray.toList = bcells d8 from rfl]
  have g4 : BRow (w1.setCells (w.heap.size + 1 + 1 + 1) 0 (bcells d8)) (w.heap.size + 1 + 1 + 1) 64 d8 := brow_setCells g3 (by rw [hdl]; rfl)
  have hbel2 : Below w.heap.size w (w1.setCells (w.heap.size + 1 + 1 + 1) 0 (bcells d8)) := below_setCells (by omega) _ _ hbel1
  have hS2 := node_S ha hb hdl htl (show URow (w1.setCells (w.heap.size + 1 + 1 + 1) 0 (bcells d8)) w.heap.size 38 tb from (setCells_other _ _ (by omega) _ _ _).trans g0) (show BRow (w1.setCells (w.heap.size + 1 + 1 + 1) 0 (bcells d8)) (w.heap.size + 1) 64 a from (setCells_other _ _ (by omega) _ _ _).trans g1) (show BRow (w1.setCells (w.heap.size + 1 + 1 + 1) 0 (bcells d8)) (w.heap.size + 1 + 1) 64 b from (setCells_other _ _ (by omega) _ _ _).trans g2) g4
  generalize w1.setCells (w.heap.size + 1 + 1 + 1) 0 (bcells d8) = w2 at g4 hbel2 hS2 ⊢
  refine hK.out _ _ hS2 (fun _ => ?_)
  clear hK K
  refine wpAnyH_done (by kernel_rfl) ?_ _
  go_wp2_with fail
  refine bodyPost_ret (v := .agg (bcells d8).toArray) ?_ rfl ⟨rfl, hbel2⟩
  exact results_cell_row Tryd.results93 _ _ (w.heap.size + 1 + 1 + 1) 64 _ (0, 0) _ rfl g4 Tryd.underlying64 rfl (unhide V2)
end Go.Proofs.YtanfolfopalbeabDoor
