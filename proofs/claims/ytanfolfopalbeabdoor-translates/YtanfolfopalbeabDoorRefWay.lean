/- The reference's way: the contract. -/
import Derived.Test.YtanfolfopalbeabDoorRefHeap
import Derived.Deep.Onto
namespace Go.Proofs.YtanfolfopalbeabDoor
open Go.RowKit

set_option maxRecDepth 100000 in
set_option maxHeartbeats 400000 in
theorem rway_one (tb : List Nat) (ao : Option Addr) (cap i : Nat) (w : World) :
    Calls Tryd.prog 48 #[.agg (ucells tb).toArray, .slice ao 1 cap, .int .i64 i] w fun e w' => e = .returned (.slice none 0 0) ∧ Below w.heap.size w w' := by
  have K0 := hide (show Below w.heap.size w (w.alloc (.cells (ucells tb).toArray 38)) from (Below.refl _ _).alloc (Nat.le_refl _) _)
  go_enter Tryd.func48, Tryd.ntmps48
  go_wp2
  go_ret
  exact ⟨rfl, unhide K0⟩

set_option maxRecDepth 100000 in
set_option maxHeartbeats 3200000 in
theorem rway_any (tb : List Nat) (ht : TabOk tb) (k : Nat) : ∀ (v : Value) (ss : List ByteArray) (i : Nat) (w : World), ss.length ≤ k → ss.length ≤ 100 → i < ss.length → (∀ s ∈ ss, s.size ≤ 20) → Strs w v ss →
    Calls Tryd.prog 48 #[.agg (ucells tb).toArray, v, .int .i64 i] w fun e w' => ∃ v', e = .returned v' ∧ w'.ownsRow w.heap.size 64 32 v' (pathL ss i).length (dcells (pathL ss i)) ∧ Below w.heap.size w w' := by
  obtain ⟨i0, hi, hz0, hz1, hz2⟩ := info_parts info_dig
  have htl := ht.1
  have VTM := hide (v_tabm tb htl)
  induction k with
  | zero => intro v ss i w hk _ hi; omega
  | succ k ih =>
    intro v ss i w hk hm hil hz hS
    by_cases h1 : ss.length = 1
    · obtain ⟨ao, cap, rfl, _⟩ := hS
      rw [pathL_one ss i (by omega), h1]
      refine (rway_one tb ao cap i w).mono ?_
      rintro e w' ⟨rfl, hb⟩
      exact ⟨_, rfl, World.ownsRow_nil _ _ _ _, hb⟩
    · obtain ⟨b, off, cap, hv, hcap⟩ := strs_shape hS (by intro h; rw [h] at hil; cases hil)
      subst hv
      have hh1 := half_lt ss.length (by omega)
      have hh2 := half_pos ss.length
      have htl1 : (ss.take (half ss.length)).length = half ss.length := by rw [List.length_take]; omega
      have hdl1 : (ss.drop (half ss.length)).length = ss.length - half ss.length := List.length_drop
      have hF := fun wq => rhalf_any ss.length wq (by omega)
      have hc1 : ((ss.length : Int) == 1) = false := by rw [beq_eq_false_iff_ne]; omega
      have S1 := hide (fun wq hb => (hS.below (w' := wq) (B := w.heap.size) hb (Nat.le_refl _)).front (half ss.length) (by omega))
      have S2 := hide (fun wq hb => (hS.below (w' := wq) (B := w.heap.size) hb (Nat.le_refl _)).back (half ss.length) (by omega))
      have hbel0 : Below w.heap.size w (w.alloc (.cells (ucells tb).toArray 38)) := (Below.refl _ _).alloc (Nat.le_refl _) _
      have g0 : URow (w.alloc (.cells (ucells tb).toArray 38)) w.heap.size 38 tb := heap_alloc_new w _
      have hs0 : (w.alloc (.cells (ucells tb).toArray 38)).heap.size = w.heap.size + 1 := by simp
      have K0 := hide hbel0
      have G0 := hide g0
      clear hbel0 g0
      by_cases hlt : i < half ss.length
      · have hA := fun wq hs => ih (.slice (some ⟨b, off, none⟩) (half ss.length) cap) (ss.take (half ss.length)) i wq (by omega) (by omega) (by omega) (fun s h => hz s (List.mem_of_mem_take h)) hs
        have hB := fun wq hs => rtree_any tb ht (.slice (some ⟨b, off + half ss.length, none⟩) (ss.length - half ss.length) (cap - half ss.length)) (ss.drop (half ss.length)) wq hs (by omega) (fun s h => hz s (List.mem_of_mem_drop h))
        have db := rootL_length (ss.drop (half ss.length))
        have hpl : (pathL (ss.take (half ss.length)) i).length ≤ 7 := by
          rw [pathL_length _ _ i (Nat.le_refl _) (by omega), htl1]
          exact path_small 7 _ i (by omega)
        rw [pathL_left ss i (by omega) hlt]
        generalize pathL (ss.take (half ss.length)) i = pA at hA hpl ⊢
        generalize rootL (ss.drop (half ss.length)) = dB at hB db ⊢
        generalize half ss.length = m at hF hA hB S1 S2 hh1 hh2 hlt
        have VB := hide (v_dg dB db)
        have VBM := hide (v_mid dB db)
        have f0 : decide ((i : Int) < (m : Int)) = true := by simp; omega
        have f1 : (m : Int) ≤ (cap : Int) := by omega
        have f2 : (m : Int) ≤ (ss.length : Int) := by omega
        have f3 : (0 : Int) ≤ (m : Int) := by omega
        have HA := hide hA
        have HB := hide hB
        clear hA hB htl1 hdl1 hS hz ih
        go_enter Tryd.func48, Tryd.ntmps48
        go_upto_region 1 with fail
        generalize hW0 : (w.alloc (.cells (ucells tb).toArray 38)) = W0 at K0 G0 hs0 ⊢
        clear hW0
        go_upto_region 5 with (go_at_call 76; refine (hF _).mono ?_; rintro e wq ⟨rfl, he⟩; cases he)
        have hKeep := hide (fun (wq : World) (h : Below W0.heap.size W0 wq) => show (URow wq w.heap.size 38 tb ∧ Below w.heap.size w wq) ∧ wq.rangeAt w.heap.size 0 (ucells tb) from
          ⟨⟨(unhide G0).below h (Nat.le_refl _), (unhide K0).trans (h.mono (unhide K0).size)⟩, range_tab ((unhide G0).below h (Nat.le_refl _)) htl⟩)
        have hW1 : Below W0.heap.size W0 W0.drew := (Below.refl _ _).drew
        go_cut [8] from 21 to 26 (fun p wx => wx.ownsRow w.heap.size 64 32 p pA.length (dcells pA) ∧ Below W0.heap.size W0 wx)
        case first =>
          refine wp_region_held_drew (S := fun w' => w'.rangeAt w.heap.size 0 (ucells tb)) (by kernel_rfl) (unhide hKeep _ hW1).2 (fun hHeld => ?_)
          refine wpAnyH_take (i := 0) rfl (by kernel_rfl) (by kernel_rfl) (by kernel_rfl) (fun _ _ _ h => h) (yieldsIf_load_mid (by rfl) 38 _ rfl w.heap.size 0 rfl (ucells tb) _ (fun _ h => h) Tryd.underlying38 rfl (unhide VTM)) hHeld ?_
          simp only [List.getElem_toArray, List.getElem_cons_zero, Act.put, List.setIfInBounds_toArray, List.set_cons_zero, List.set_cons_succ]
          refine wpAnyH_take (i := 1) (v := .slice (some ⟨b, off, none⟩) ss.length cap) rfl (by kernel_rfl) (by kernel_rfl) (by kernel_rfl) (fun _ _ _ h => h) (Or.inl ⟨by rfl, fun _ _ => by go_simp⟩) hHeld ?_
          simp only [List.getElem_toArray, List.getElem_cons_zero, List.getElem_cons_succ, Act.put, List.setIfInBounds_toArray, List.set_cons_zero, List.set_cons_succ]
          refine wpAnyH_take (i := 2) (v := .int .i64 m) rfl (by kernel_rfl) (by kernel_rfl) (by kernel_rfl) (fun _ _ _ h => h) (Or.inl ⟨by rfl, fun _ _ => by go_simp⟩) hHeld ?_
          simp only [List.getElem_toArray, List.getElem_cons_zero, List.getElem_cons_succ, Act.put, List.setIfInBounds_toArray, List.set_cons_zero, List.set_cons_succ]
          refine wpAnyH_take (i := 3) (v := .slice (some ⟨b, off, none⟩) m cap) rfl (by kernel_rfl) (by kernel_rfl) (by kernel_rfl) (fun _ _ _ h => h) (Or.inl ⟨by rfl, fun _ _ => by go_simp⟩) hHeld ?_
          simp only [List.getElem_toArray, List.getElem_cons_zero, List.getElem_cons_succ, Act.put, List.setIfInBounds_toArray, List.set_cons_zero, List.set_cons_succ]
          refine wpAnyH_take (i := 4) (v := .int .i64 i) rfl (by kernel_rfl) (by kernel_rfl) (by kernel_rfl) (fun _ _ _ h => h) (Or.inl ⟨by rfl, fun _ _ => by go_simp⟩) hHeld ?_
          simp only [List.getElem_toArray, List.getElem_cons_zero, List.getElem_cons_succ, Act.put, List.setIfInBounds_toArray, List.set_cons_zero, List.set_cons_succ]
          refine wpAnyH_ready (rs := [5]) (by kernel_rfl) (by simp) ?_
          refine AllReadyH.cons rfl (fun K hK => ?_) AllReadyH.nil
          go_simp
          go_at_call 48
          refine (unhide HA _ (unhide S1 _ (unhide hKeep _ hW1).1.2)).mono ?_
          rintro e w2 ⟨v2, rfl, hown2, hb2⟩
          have hb2' := hW1.trans (hb2.mono hW1.size)
          have hs2 : W0.drew.heap.size = W0.heap.size := rfl
          dsimp only
          refine hK.out _ _ (unhide hKeep _ hb2').2 (fun hHeld => ?_)
          clear hK K
          refine wpAnyH_ready (rs := [6]) (by kernel_rfl) (by simp) ?_
          refine AllReadyH.cons rfl (fun K hK => ?_) AllReadyH.nil
          go_simp
          refine hK.out _ _ (unhide hKeep _ hb2').2 (fun hHeld => ?_)
          clear hK K
          refine wpAnyH_done (by kernel_rfl) ?_ _
          go_wp2_with fail
          go_meet
          exact ⟨hown2.mono (by omega), hb2'⟩
        case rest =>
          obtain ⟨hown2, hb2⟩ := hcut
          have hbc := (unhide K0).trans (hb2.mono (unhide K0).size)
          have hKeep2 := hide (fun (wq : World) (h : Below wc.heap.size wc wq) => unhide hKeep _ (hb2.trans (h.mono hb2.size)))
          have hW2 : Below wc.heap.size wc wc.drew := (Below.refl _ _).drew
          have O2 := hide hown2
          clear hown2
          go_upto_region 6 with fail
          go_cut [9] from 27 to 31 (fun p wx => ∃ G : Nat, p = .pointer (some ⟨G, 0, none⟩) ∧ BRow wx G 64 dB ∧ Below wc.heap.size wc wx)
          case first =>
            refine wp_region_held_drew (S := fun w' => w'.rangeAt w.heap.size 0 (ucells tb)) (by kernel_rfl) (unhide hKeep2 _ hW2).2 (fun hHeld => ?_)
            refine wpAnyH_take (i := 0) rfl (by kernel_rfl) (by kernel_rfl) (by kernel_rfl) (fun _ _ _ h => h) (yieldsIf_load_mid (by rfl) 38 _ rfl w.heap.size 0 rfl (ucells tb) _ (fun _ h => h) Tryd.underlying38 rfl (unhide VTM)) hHeld ?_
            simp only [List.getElem_toArray, List.getElem_cons_zero, Act.put, List.setIfInBounds_toArray, List.set_cons_zero, List.set_cons_succ]
            refine wpAnyH_take (i := 1) (v := .slice (some ⟨b, off, none⟩) ss.length cap) rfl (by kernel_rfl) (by kernel_rfl) (by kernel_rfl) (fun _ _ _ h => h) (Or.inl ⟨by rfl, fun _ _ => by go_simp⟩) hHeld ?_
            simp only [List.getElem_toArray, List.getElem_cons_zero, List.getElem_cons_succ, Act.put, List.setIfInBounds_toArray, List.set_cons_zero, List.set_cons_succ]
            refine wpAnyH_take (i := 2) (v := .int .i64 m) rfl (by kernel_rfl) (by kernel_rfl) (by kernel_rfl) (fun _ _ _ h => h) (Or.inl ⟨by rfl, fun _ _ => by go_simp⟩) hHeld ?_
            simp only [List.getElem_toArray, List.getElem_cons_zero, List.getElem_cons_succ, Act.put, List.setIfInBounds_toArray, List.set_cons_zero, List.set_cons_succ]
            refine wpAnyH_take (i := 3) (v := .slice (some ⟨b, off + m, none⟩) (ss.length - m) (cap - m)) rfl (by kernel_rfl) (by kernel_rfl) (by kernel_rfl) (fun _ _ _ h => h) (Or.inl ⟨by rfl, fun _ _ => by first | (go_simp; done) | (go_simp; omega)⟩) hHeld ?_
            simp only [List.getElem_toArray, List.getElem_cons_zero, List.getElem_cons_succ, Act.put, List.setIfInBounds_toArray, List.set_cons_zero, List.set_cons_succ]
            refine wpAnyH_ready (rs := [4, 5]) (by kernel_rfl) (by simp) ?_
            refine AllReadyH.cons rfl (fun K hK => ?_) (AllReadyH.cons rfl (fun K hK => ?_) AllReadyH.nil)
            · go_simp
              go_at_call 77
              refine (unhide HB _ (unhide S2 _ (unhide hKeep2 _ hW2).1.2)).mono ?_
              rintro e w2 ⟨rfl, hb5⟩
              have hb2' : Below wc.heap.size wc w2 := ⟨hb5.os, hb5.tape, hb5.output, hb5.size, hb5.block⟩
              dsimp only
              refine hK.out _ _ (unhide hKeep2 _ hb2').2 (fun hHeld => ?_)
              clear hK K
              refine wpAnyH_ready (rs := [5]) (by kernel_rfl) (by simp) ?_
              refine AllReadyH.cons rfl (fun K hK => ?_) AllReadyH.nil
              go_simp
              rw [← z32_cells]
              have hb3 : Below wc.heap.size wc (w2.alloc (.cells (bcells z32).toArray 64)) := hb2'.alloc hb2'.size _
              have g3 : BRow (w2.alloc (.cells (bcells z32).toArray 64)) w2.heap.size 64 z32 := heap_alloc_new w2 _
              have hge := hb2'.size
              generalize w2.heap.size = G at g3 hge ⊢
              generalize w2.alloc (.cells (bcells z32).toArray 64) = w3 at hb3 g3 ⊢
              refine hK.out _ _ (unhide hKeep2 _ hb3).2 (fun hHeld => ?_)
              clear hK K
              refine wpAnyH_ready (rs := [6]) (by kernel_rfl) (by simp) ?_
              refine AllReadyH.cons rfl (fun K hK => ?_) AllReadyH.nil
              rw [if_pos (by rfl)]
              refine wp_store_mid 64 _ _ rfl G 0 (bcells dB).toArray rfl rfl (by rw [bcells_size, db]; exact there_of_brow g3 rfl) (unhide VB) (bcells_one dB) ?_
              rw [show (bcells dB).toArray.toList = bcells dB from rfl]
              have g4 : BRow (w3.setCells G 0 (bcells dB)) G 64 dB := brow_setCells g3 (by rw [db]; rfl)
              have hb4 : Below wc.heap.size wc (w3.setCells G 0 (bcells dB)) := below_setCells (by omega) _ _ hb3
              generalize w3.setCells G 0 (bcells dB) = w4 at g4 hb4 ⊢
              refine hK.out _ _ (unhide hKeep2 _ hb4).2 (fun hHeld => ?_)
              clear hK K
              refine wpAnyH_done (by kernel_rfl) ?_ _
              go_wp2_with fail
              go_meet
              exact ⟨G, rfl, g4, hb4⟩
            · go_simp
              rw [← z32_cells]
              have hb5 : Below wc.heap.size wc (wc.alloc (.cells (bcells z32).toArray 64)).drew := ((Below.refl _ _).alloc (Nat.le_refl _) _).drew
              have g5 : BRow (wc.alloc (.cells (bcells z32).toArray 64)).drew wc.heap.size 64 z32 := heap_alloc_new wc _
              generalize hG : wc.heap.size = G at g5 ⊢
              generalize (wc.alloc (.cells (bcells z32).toArray 64)).drew = w5 at hb5 g5 ⊢
              refine hK.out _ _ (unhide hKeep2 _ hb5).2 (fun hHeld => ?_)
              clear hK K
              refine wpAnyH_ready (rs := [4]) (by kernel_rfl) (by simp) ?_
              refine AllReadyH.cons rfl (fun K hK => ?_) AllReadyH.nil
              go_simp
              go_at_call 77
              refine (unhide HB _ (unhide S2 _ (unhide hKeep2 _ hb5).1.2)).mono ?_
              rintro e w3 ⟨rfl, hb6⟩
              have hb3 := hb5.trans (hb6.mono hb5.size)
              have g3 : BRow w3 G 64 z32 := (hb6.block _ (lt_of_block g5)).trans g5
              dsimp only
              refine hK.out _ _ (unhide hKeep2 _ hb3).2 (fun hHeld => ?_)
              clear hK K
              refine wpAnyH_ready (rs := [6]) (by kernel_rfl) (by simp) ?_
              refine AllReadyH.cons rfl (fun K hK => ?_) AllReadyH.nil
              rw [if_pos (by rfl)]
              refine wp_store_mid 64 _ _ rfl G 0 (bcells dB).toArray rfl rfl (by rw [bcells_size, db]; exact there_of_brow g3 rfl) (unhide VB) (bcells_one dB) ?_
              rw [show (bcells dB).toArray.toList = bcells dB from rfl]
              have g4 : BRow (w3.setCells G 0 (bcells dB)) G 64 dB := brow_setCells g3 (by rw [db]; rfl)
              have hb4 : Below wc.heap.size wc (w3.setCells G 0 (bcells dB)) := below_setCells (by omega) _ _ hb3
              generalize w3.setCells G 0 (bcells dB) = w4 at g4 hb4 ⊢
              refine hK.out _ _ (unhide hKeep2 _ hb4).2 (fun hHeld => ?_)
              clear hK K
              refine wpAnyH_done (by kernel_rfl) ?_ _
              go_wp2_with fail
              go_meet
              exact ⟨G, rfl, g4, hb4⟩
          case rest =>
            obtain ⟨G, rfl, gB, hb3⟩ := hcut
            have HGB := hide gB
            have O3 := hide (own_keep (unhide O2) hb3)
            have hbel3 := hbc.trans (hb3.mono hbc.size)
            have hcl : (bcells dB).length = 32 := by simp [bcells, db]
            have hws := hbel3.size
            clear gB O2 hKeep hKeep2 HA HB hbc
            go_wp2_with (first | ((with_reducible refine at_load ?_); refine wpList_load_row rfl 64 _ rfl G (by rfl) 64 (bcells dB).toArray (0, 0) _ (unhide HGB) Tryd.underlying64 rfl (unhide VB) ?_) | (at_builtin; rw [← z32_cells, fold_dig dB db]; go_must (refine wpList_append_own _ rfl (.tmp 32) (.tmp 34) 27 rfl w.heap.size 64 i0 (.agg (bcells z32).toArray) 32 32 Tryd.underlying27 hi hz0 hz1 hz2 rfl (by decide) _ _ _ rfl ((unhide O3).alloc _) ⟨wc.heap.size, 0, none⟩ 1 1 (bcells dB) rfl (bcells_news dB db) ?c2 (bcells_one' dB) ?c3 ?c4 ?c5 ?_)))
            case c2 => exact news_new _ dB _ _ rfl
            case c3 => unfold maxLen; omega
            case c4 => omega
            case c5 => simp; omega
            intro v4 w4 hown4 hgrow4 _
            have hbel4 : Below w.heap.size w w4 := (hbel3.alloc hbel3.size _).grown hgrow4 (by simp; omega) (own_row_ge (unhide O3))
            have hown5 : w4.ownsRow w.heap.size 64 32 v4 (pA ++ [dB]).length (dcells (pA ++ [dB])) := by rw [dcells_snoc, List.length_append]; exact hown4
            clear hgrow4 hown4 O3
            go_wp2
            go_ret
            exact ⟨_, rfl, hown5, hbel4⟩
      · have hA := fun wq hs => ih (.slice (some ⟨b, off + half ss.length, none⟩) (ss.length - half ss.length) (cap - half ss.length)) (ss.drop (half ss.length)) (i - half ss.length) wq (by omega) (by omega) (by omega) (fun s h => hz s (List.mem_of_mem_drop h)) hs
        have hB := fun wq hs => rtree_any tb ht (.slice (some ⟨b, off, none⟩) (half ss.length) cap) (ss.take (half ss.length)) wq hs (by omega) (fun s h => hz s (List.mem_of_mem_take h))
        have db := rootL_length (ss.take (half ss.length))
        have hpl : (pathL (ss.drop (half ss.length)) (i - half ss.length)).length ≤ 7 := by
          rw [pathL_length _ _ (i - half ss.length) (Nat.le_refl _) (by omega), hdl1]
          exact path_small 7 _ _ (by omega)
        rw [pathL_right ss i (by omega) hlt]
        generalize pathL (ss.drop (half ss.length)) (i - half ss.length) = pA at hA hpl ⊢
        generalize rootL (ss.take (half ss.length)) = dB at hB db ⊢
        generalize half ss.length = m at hF hA hB S1 S2 hh1 hh2 hlt
        have VB := hide (v_dg dB db)
        have VBM := hide (v_mid dB db)
        have f0 : decide ((i : Int) < (m : Int)) = false := by simp; omega
        have f1 : (m : Int) ≤ (cap : Int) := by omega
        have f2 : (m : Int) ≤ (ss.length : Int) := by omega
        have f3 : (0 : Int) ≤ (m : Int) := by omega
        rw [show ((i - m : Nat) : Int) = (i : Int) - (m : Int) by omega] at hA
        have fI : IntKind.i64.wrap ((i : Int) - (m : Int)) = (i : Int) - (m : Int) := i64w _ (by omega)
        have HA := hide hA
        have HB := hide hB
        clear hA hB htl1 hdl1 hS hz ih
        go_enter Tryd.func48, Tryd.ntmps48
        go_upto_region 1 with fail
        generalize hW0 : (w.alloc (.cells (ucells tb).toArray 38)) = W0 at K0 G0 hs0 ⊢
        clear hW0
        go_upto_region 8 with (go_at_call 76; refine (hF _).mono ?_; rintro e wq ⟨rfl, he⟩; cases he)
        have hKeep := hide (fun (wq : World) (h : Below W0.heap.size W0 wq) => show (URow wq w.heap.size 38 tb ∧ Below w.heap.size w wq) ∧ wq.rangeAt w.heap.size 0 (ucells tb) from
          ⟨⟨(unhide G0).below h (Nat.le_refl _), (unhide K0).trans (h.mono (unhide K0).size)⟩, range_tab ((unhide G0).below h (Nat.le_refl _)) htl⟩)
        have hW1 : Below W0.heap.size W0 W0.drew := (Below.refl _ _).drew
        go_cut [10] from 36 to 43 (fun p wx => wx.ownsRow w.heap.size 64 32 p pA.length (dcells pA) ∧ Below W0.heap.size W0 wx)
        case first =>
          refine wp_region_held_drew (S := fun w' => w'.rangeAt w.heap.size 0 (ucells tb)) (by kernel_rfl) (unhide hKeep _ hW1).2 (fun hHeld => ?_)
          refine wpAnyH_take (i := 0) rfl (by kernel_rfl) (by kernel_rfl) (by kernel_rfl) (fun _ _ _ h => h) (yieldsIf_load_mid (by rfl) 38 _ rfl w.heap.size 0 rfl (ucells tb) _ (fun _ h => h) Tryd.underlying38 rfl (unhide VTM)) hHeld ?_
          simp only [List.getElem_toArray, List.getElem_cons_zero, Act.put, List.setIfInBounds_toArray, List.set_cons_zero, List.set_cons_succ]
          refine wpAnyH_take (i := 1) (v := .slice (some ⟨b, off, none⟩) ss.length cap) rfl (by kernel_rfl) (by kernel_rfl) (by kernel_rfl) (fun _ _ _ h => h) (Or.inl ⟨by rfl, fun _ _ => by go_simp⟩) hHeld ?_
          simp only [List.getElem_toArray, List.getElem_cons_zero, List.getElem_cons_succ, Act.put, List.setIfInBounds_toArray, List.set_cons_zero, List.set_cons_succ]
          refine wpAnyH_take (i := 2) (v := .int .i64 m) rfl (by kernel_rfl) (by kernel_rfl) (by kernel_rfl) (fun _ _ _ h => h) (Or.inl ⟨by rfl, fun _ _ => by go_simp⟩) hHeld ?_
          simp only [List.getElem_toArray, List.getElem_cons_zero, List.getElem_cons_succ, Act.put, List.setIfInBounds_toArray, List.set_cons_zero, List.set_cons_succ]
          refine wpAnyH_take (i := 3) (v := .slice (some ⟨b, off + m, none⟩) (ss.length - m) (cap - m)) rfl (by kernel_rfl) (by kernel_rfl) (by kernel_rfl) (fun _ _ _ h => h) (Or.inl ⟨by rfl, fun _ _ => by first | (go_simp; done) | (go_simp; omega)⟩) hHeld ?_
          simp only [List.getElem_toArray, List.getElem_cons_zero, List.getElem_cons_succ, Act.put, List.setIfInBounds_toArray, List.set_cons_zero, List.set_cons_succ]
          refine wpAnyH_take (i := 4) (v := .int .i64 i) rfl (by kernel_rfl) (by kernel_rfl) (by kernel_rfl) (fun _ _ _ h => h) (Or.inl ⟨by rfl, fun _ _ => by go_simp⟩) hHeld ?_
          simp only [List.getElem_toArray, List.getElem_cons_zero, List.getElem_cons_succ, Act.put, List.setIfInBounds_toArray, List.set_cons_zero, List.set_cons_succ]
          refine wpAnyH_take (i := 5) (v := .int .i64 m) rfl (by kernel_rfl) (by kernel_rfl) (by kernel_rfl) (fun _ _ _ h => h) (Or.inl ⟨by rfl, fun _ _ => by go_simp⟩) hHeld ?_
          simp only [List.getElem_toArray, List.getElem_cons_zero, List.getElem_cons_succ, Act.put, List.setIfInBounds_toArray, List.set_cons_zero, List.set_cons_succ]
          refine wpAnyH_take (i := 6) (v := .int .i64 ((i : Int) - (m : Int))) rfl (by kernel_rfl) (by kernel_rfl) (by kernel_rfl) (fun _ _ _ h => h) (Or.inl ⟨by rfl, fun _ _ => by first | (go_simp; done) | (go_simp; exact fI)⟩) hHeld ?_
          simp only [List.getElem_toArray, List.getElem_cons_zero, List.getElem_cons_succ, Act.put, List.setIfInBounds_toArray, List.set_cons_zero, List.set_cons_succ]
          refine wpAnyH_ready (rs := [7]) (by kernel_rfl) (by simp) ?_
          refine AllReadyH.cons rfl (fun K hK => ?_) AllReadyH.nil
          go_simp
          go_at_call 48
          refine (unhide HA _ (unhide S2 _ (unhide hKeep _ hW1).1.2)).mono ?_
          rintro e w2 ⟨v2, rfl, hown2, hb2⟩
          have hb2' := hW1.trans (hb2.mono hW1.size)
          have hs2 : W0.drew.heap.size = W0.heap.size := rfl
          dsimp only
          refine hK.out _ _ (unhide hKeep _ hb2').2 (fun hHeld => ?_)
          clear hK K
          refine wpAnyH_ready (rs := [8]) (by kernel_rfl) (by simp) ?_
          refine AllReadyH.cons rfl (fun K hK => ?_) AllReadyH.nil
          go_simp
          refine hK.out _ _ (unhide hKeep _ hb2').2 (fun hHeld => ?_)
          clear hK K
          refine wpAnyH_done (by kernel_rfl) ?_ _
          go_wp2_with fail
          go_meet
          exact ⟨hown2.mono (by omega), hb2'⟩
        case rest =>
          obtain ⟨hown2, hb2⟩ := hcut
          have hbc := (unhide K0).trans (hb2.mono (unhide K0).size)
          have hKeep2 := hide (fun (wq : World) (h : Below wc.heap.size wc wq) => unhide hKeep _ (hb2.trans (h.mono hb2.size)))
          have hW2 : Below wc.heap.size wc wc.drew := (Below.refl _ _).drew
          have O2 := hide hown2
          clear hown2
          go_upto_region 9 with fail
          go_cut [11] from 44 to 48 (fun p wx => ∃ G : Nat, p = .pointer (some ⟨G, 0, none⟩) ∧ BRow wx G 64 dB ∧ Below wc.heap.size wc wx)
          case first =>
            refine wp_region_held_drew (S := fun w' => w'.rangeAt w.heap.size 0 (ucells tb)) (by kernel_rfl) (unhide hKeep2 _ hW2).2 (fun hHeld => ?_)
            refine wpAnyH_take (i := 0) rfl (by kernel_rfl) (by kernel_rfl) (by kernel_rfl) (fun _ _ _ h => h) (yieldsIf_load_mid (by rfl) 38 _ rfl w.heap.size 0 rfl (ucells tb) _ (fun _ h => h) Tryd.underlying38 rfl (unhide VTM)) hHeld ?_
            simp only [List.getElem_toArray, List.getElem_cons_zero, Act.put, List.setIfInBounds_toArray, List.set_cons_zero, List.set_cons_succ]
            refine wpAnyH_take (i := 1) (v := .slice (some ⟨b, off, none⟩) ss.length cap) rfl (by kernel_rfl) (by kernel_rfl) (by kernel_rfl) (fun _ _ _ h => h) (Or.inl ⟨by rfl, fun _ _ => by go_simp⟩) hHeld ?_
            simp only [List.getElem_toArray, List.getElem_cons_zero, List.getElem_cons_succ, Act.put, List.setIfInBounds_toArray, List.set_cons_zero, List.set_cons_succ]
            refine wpAnyH_take (i := 2) (v := .int .i64 m) rfl (by kernel_rfl) (by kernel_rfl) (by kernel_rfl) (fun _ _ _ h => h) (Or.inl ⟨by rfl, fun _ _ => by go_simp⟩) hHeld ?_
            simp only [List.getElem_toArray, List.getElem_cons_zero, List.getElem_cons_succ, Act.put, List.setIfInBounds_toArray, List.set_cons_zero, List.set_cons_succ]
            refine wpAnyH_take (i := 3) (v := .slice (some ⟨b, off, none⟩) m cap) rfl (by kernel_rfl) (by kernel_rfl) (by kernel_rfl) (fun _ _ _ h => h) (Or.inl ⟨by rfl, fun _ _ => by go_simp⟩) hHeld ?_
            simp only [List.getElem_toArray, List.getElem_cons_zero, List.getElem_cons_succ, Act.put, List.setIfInBounds_toArray, List.set_cons_zero, List.set_cons_succ]
            refine wpAnyH_ready (rs := [4, 5]) (by kernel_rfl) (by simp) ?_
            refine AllReadyH.cons rfl (fun K hK => ?_) (AllReadyH.cons rfl (fun K hK => ?_) AllReadyH.nil)
            · go_simp
              go_at_call 77
              refine (unhide HB _ (unhide S1 _ (unhide hKeep2 _ hW2).1.2)).mono ?_
              rintro e w2 ⟨rfl, hb5⟩
              have hb2' : Below wc.heap.size wc w2 := ⟨hb5.os, hb5.tape, hb5.output, hb5.size, hb5.block⟩
              dsimp only
              refine hK.out _ _ (unhide hKeep2 _ hb2').2 (fun hHeld => ?_)
              clear hK K
              refine wpAnyH_ready (rs := [5]) (by kernel_rfl) (by simp) ?_
              refine AllReadyH.cons rfl (fun K hK => ?_) AllReadyH.nil
              go_simp
              rw [← z32_cells]
              have hb3 : Below wc.heap.size wc (w2.alloc (.cells (bcells z32).toArray 64)) := hb2'.alloc hb2'.size _
              have g3 : BRow (w2.alloc (.cells (bcells z32).toArray 64)) w2.heap.size 64 z32 := heap_alloc_new w2 _
              have hge := hb2'.size
              generalize w2.heap.size = G at g3 hge ⊢
              generalize w2.alloc (.cells (bcells z32).toArray 64) = w3 at hb3 g3 ⊢
              refine hK.out _ _ (unhide hKeep2 _ hb3).2 (fun hHeld => ?_)
              clear hK K
              refine wpAnyH_ready (rs := [6]) (by kernel_rfl) (by simp) ?_
              refine AllReadyH.cons rfl (fun K hK => ?_) AllReadyH.nil
              rw [if_pos (by rfl)]
              refine wp_store_mid 64 _ _ rfl G 0 (bcells dB).toArray rfl rfl (by rw [bcells_size, db]; exact there_of_brow g3 rfl) (unhide VB) (bcells_one dB) ?_
              rw [show (bcells dB).toArray.toList = bcells dB from rfl]
              have g4 : BRow (w3.setCells G 0 (bcells dB)) G 64 dB := brow_setCells g3 (by rw [db]; rfl)
              have hb4 : Below wc.heap.size wc (w3.setCells G 0 (bcells dB)) := below_setCells (by omega) _ _ hb3
              generalize w3.setCells G 0 (bcells dB) = w4 at g4 hb4 ⊢
              refine hK.out _ _ (unhide hKeep2 _ hb4).2 (fun hHeld => ?_)
              clear hK K
              refine wpAnyH_done (by kernel_rfl) ?_ _
              go_wp2_with fail
              go_meet
              exact ⟨G, rfl, g4, hb4⟩
            · go_simp
              rw [← z32_cells]
              have hb5 : Below wc.heap.size wc (wc.alloc (.cells (bcells z32).toArray 64)).drew := ((Below.refl _ _).alloc (Nat.le_refl _) _).drew
              have g5 : BRow (wc.alloc (.cells (bcells z32).toArray 64)).drew wc.heap.size 64 z32 := heap_alloc_new wc _
              generalize hG : wc.heap.size = G at g5 ⊢
              generalize (wc.alloc (.cells (bcells z32).toArray 64)).drew = w5 at hb5 g5 ⊢
              refine hK.out _ _ (unhide hKeep2 _ hb5).2 (fun hHeld => ?_)
              clear hK K
              refine wpAnyH_ready (rs := [4]) (by kernel_rfl) (by simp) ?_
              refine AllReadyH.cons rfl (fun K hK => ?_) AllReadyH.nil
              go_simp
              go_at_call 77
              refine (unhide HB _ (unhide S1 _ (unhide hKeep2 _ hb5).1.2)).mono ?_
              rintro e w3 ⟨rfl, hb6⟩
              have hb3 := hb5.trans (hb6.mono hb5.size)
              have g3 : BRow w3 G 64 z32 := (hb6.block _ (lt_of_block g5)).trans g5
              dsimp only
              refine hK.out _ _ (unhide hKeep2 _ hb3).2 (fun hHeld => ?_)
              clear hK K
              refine wpAnyH_ready (rs := [6]) (by kernel_rfl) (by simp) ?_
              refine AllReadyH.cons rfl (fun K hK => ?_) AllReadyH.nil
              rw [if_pos (by rfl)]
              refine wp_store_mid 64 _ _ rfl G 0 (bcells dB).toArray rfl rfl (by rw [bcells_size, db]; exact there_of_brow g3 rfl) (unhide VB) (bcells_one dB) ?_
              rw [show (bcells dB).toArray.toList = bcells dB from rfl]
              have g4 : BRow (w3.setCells G 0 (bcells dB)) G 64 dB := brow_setCells g3 (by rw [db]; rfl)
              have hb4 : Below wc.heap.size wc (w3.setCells G 0 (bcells dB)) := below_setCells (by omega) _ _ hb3
              generalize w3.setCells G 0 (bcells dB) = w4 at g4 hb4 ⊢
              refine hK.out _ _ (unhide hKeep2 _ hb4).2 (fun hHeld => ?_)
              clear hK K
              refine wpAnyH_done (by kernel_rfl) ?_ _
              go_wp2_with fail
              go_meet
              exact ⟨G, rfl, g4, hb4⟩
          case rest =>
            obtain ⟨G, rfl, gB, hb3⟩ := hcut
            have HGB := hide gB
            have O3 := hide (own_keep (unhide O2) hb3)
            have hbel3 := hbc.trans (hb3.mono hbc.size)
            have hcl : (bcells dB).length = 32 := by simp [bcells, db]
            have hws := hbel3.size
            clear gB O2 hKeep hKeep2 HA HB hbc
            go_wp2_with (first | ((with_reducible refine at_load ?_); refine wpList_load_row rfl 64 _ rfl G (by rfl) 64 (bcells dB).toArray (0, 0) _ (unhide HGB) Tryd.underlying64 rfl (unhide VB) ?_) | (at_builtin; rw [← z32_cells, fold_dig dB db]; go_must (refine wpList_append_own _ rfl (.tmp 49) (.tmp 51) 27 rfl w.heap.size 64 i0 (.agg (bcells z32).toArray) 32 32 Tryd.underlying27 hi hz0 hz1 hz2 rfl (by decide) _ _ _ rfl ((unhide O3).alloc _) ⟨wc.heap.size, 0, none⟩ 1 1 (bcells dB) rfl (bcells_news dB db) ?d2 (bcells_one' dB) ?d3 ?d4 ?d5 ?_)))
            case d2 => exact news_new _ dB _ _ rfl
            case d3 => unfold maxLen; omega
            case d4 => omega
            case d5 => simp; omega
            intro v4 w4 hown4 hgrow4 _
            have hbel4 : Below w.heap.size w w4 := (hbel3.alloc hbel3.size _).grown hgrow4 (by simp; omega) (own_row_ge (unhide O3))
            have hown5 : w4.ownsRow w.heap.size 64 32 v4 (pA ++ [dB]).length (dcells (pA ++ [dB])) := by rw [dcells_snoc, List.length_append]; exact hown4
            clear hgrow4 hown4 O3
            go_wp2
            go_ret
            exact ⟨_, rfl, hown5, hbel4⟩
end Go.Proofs.YtanfolfopalbeabDoor
