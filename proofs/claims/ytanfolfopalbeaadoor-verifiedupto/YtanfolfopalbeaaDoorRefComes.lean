/- The reference's Comes: the contract. -/
import Derived.Test.YtanfolfopalbeaaDoorRefTree
import Derived.Test.YtanfolfopalbeaaDoorTreeVerify
import Derived.Deep.CutRange
namespace Go.Proofs.YtanfolfopalbeaaDoor
open Go.RowKit

/-- What comes out of an entry and a path, and whether the path is as long as it must be. -/
def comesL (x : ByteArray) (n i : Nat) (p : List (List UInt8)) : List UInt8 × Bool :=
  if h : n < 2 then (lf x, decide (p.length = 0))
  else if p.length = 0 then (z32, false)
  else if i < half n then (nd (comesL x (half n) i (p.take (p.length - 1))).1 (p.getD (p.length - 1) []), (comesL x (half n) i (p.take (p.length - 1))).2)
  else (nd (p.getD (p.length - 1) []) (comesL x (n - half n) (i - half n) (p.take (p.length - 1))).1, (comesL x (n - half n) (i - half n) (p.take (p.length - 1))).2)
termination_by n
decreasing_by
  all_goals first | exact half_lt n (by omega) | (have := half_pos n; omega)
theorem comesL_one (x : ByteArray) (n i : Nat) (p : List (List UInt8)) (h : n < 2) : comesL x n i p = (lf x, decide (p.length = 0)) := by unfold comesL; rw [dif_pos h]
theorem comesL_none (x : ByteArray) (n i : Nat) (p : List (List UInt8)) (h : 2 ≤ n) (hp : p.length = 0) : comesL x n i p = (z32, false) := by unfold comesL; rw [dif_neg (by omega), if_pos hp]
theorem comesL_left (x : ByteArray) (n i : Nat) (p : List (List UInt8)) (h : 2 ≤ n) (hp : 0 < p.length) (hi : i < half n) : comesL x n i p = (nd (comesL x (half n) i (p.take (p.length - 1))).1 (p.getD (p.length - 1) []), (comesL x (half n) i (p.take (p.length - 1))).2) := by rw [comesL, dif_neg (by omega), if_neg (by omega), if_pos hi]
theorem comesL_right (x : ByteArray) (n i : Nat) (p : List (List UInt8)) (h : 2 ≤ n) (hp : 0 < p.length) (hi : ¬ i < half n) : comesL x n i p = (nd (p.getD (p.length - 1) []) (comesL x (n - half n) (i - half n) (p.take (p.length - 1))).1, (comesL x (n - half n) (i - half n) (p.take (p.length - 1))).2) := by rw [comesL, dif_neg (by omega), if_neg (by omega), if_neg hi]
theorem comesL_length (x : ByteArray) (n i : Nat) (p : List (List UInt8)) : (comesL x n i p).1.length = 32 := by
  unfold comesL
  split
  · exact sha_length _
  · split
    · rfl
    · split
      · exact sha_length _
      · exact sha_length _
theorem comes_climb (k : Nat) : ∀ (x : ByteArray) (n i : Nat) (p : List (List UInt8)), n ≤ k → i < n → (comesL x n i p).2 = decide (p.length = plen n i) ∧ (p.length = plen n i → (comesL x n i p).1 = climbL (lf x) n i p) := by
  induction k with
  | zero => intro x n i p h hi; omega
  | succ k ih =>
    intro x n i p h hi
    by_cases h2 : n < 2
    · rw [comesL_one x n i p h2, plen_one n i h2]
      exact ⟨rfl, fun h0 => (climbL_end _ _ _ _ (.inl h2)).symm⟩
    · have h3 := half_lt n (by omega)
      have h4 := half_pos n
      by_cases hp : p.length = 0
      · rw [comesL_none x n i p (by omega) hp]
        have : plen n i ≠ 0 := by
          by_cases hh : i < half n
          · rw [plen_left n i (by omega) hh]; omega
          · rw [plen_right n i (by omega) hh]; omega
        exact ⟨by rw [decide_eq_false (by omega)], fun h0 => absurd h0 (by omega)⟩
      · have htl : (p.take (p.length - 1)).length = p.length - 1 := by rw [List.length_take]; omega
        by_cases hh : i < half n
        · obtain ⟨e1, e2⟩ := ih x (half n) i (p.take (p.length - 1)) (by omega) hh
          rw [comesL_left x n i p (by omega) (by omega) hh, plen_left n i (by omega) hh, climbL_left _ n i p (by omega) (by omega) hh]
          rw [htl] at e1 e2
          refine ⟨by rw [e1]; congr 1; exact propext (by omega), fun h0 => ?_⟩
          rw [e2 (by omega)]
        · obtain ⟨e1, e2⟩ := ih x (n - half n) (i - half n) (p.take (p.length - 1)) (by omega) (by omega)
          rw [comesL_right x n i p (by omega) (by omega) hh, plen_right n i (by omega) hh, climbL_right _ n i p (by omega) (by omega) hh]
          rw [htl] at e1 e2
          refine ⟨by rw [e1]; congr 1; exact propext (by omega), fun h0 => ?_⟩
          rw [e2 (by omega)]

set_option maxRecDepth 100000 in
set_option maxHeartbeats 800000 in
theorem rcomes_one (tb : List Nat) (ht : TabOk tb) (x : ByteArray) (i : Nat) (ao : Option Addr) (len cap : Nat) (w : World) (hx : x.size ≤ 1048575) :
    Calls Tryd.prog 27 #[.agg (ucells tb).toArray, .int .i64 1, .int .i64 i, .string x, .slice ao len cap] w fun e w' => e = .returned (.tuple #[.agg (bcells (lf x)).toArray, .bool (decide (len = 0))]) ∧ Below w.heap.size w w' := by
  have VT := hide (v_tab tb ht.1)
  have hL := fun wq => rleaf_any tb ht x wq hx
  have hdl : (lf x).length = 32 := sha_length _
  generalize lf x = d8 at hL hdl ⊢
  have V2 := hide (v_dg d8 hdl)
  have V3 := hide (v_z32 d8 hdl)
  obtain ⟨hbel0, g0, g1⟩ := two_new w (.cells (ucells tb).toArray 26) (.cells (bcells z32).toArray 31)
  have K0 := hide hbel0
  have G0 := hide g0
  have G1 := hide g1
  clear hbel0 g0 g1
  have hq : ((len : Int) == 0) = decide (len = 0) := by rw [Bool.eq_iff_iff, beq_iff_eq, decide_eq_true_iff]; omega
  have HQ := hide hq
  clear hq
  go_enter Tryd.func27, Tryd.ntmps27
  go_upto_region 1 with fail
  rw [← z32_cells]
  generalize ((w.alloc (.cells (ucells tb).toArray 26)).alloc (.cells (bcells z32).toArray 31)) = W0 at K0 G0 G1 ⊢
  go_wp2_with ((with_reducible refine at_load ?_); refine wpList_load_row rfl 26 _ rfl w.heap.size (by rfl) 26 (ucells tb).toArray (0, 0) _ (unhide G0) Tryd.underlying26 rfl (unhide VT) ?_)
  refine (hL _).mono ?_
  rintro e w1 ⟨rfl, hb1⟩
  have hbel1 := (unhide K0).trans (hb1.mono (unhide K0).size)
  have g1 : BRow w1 (w.heap.size + 1) 31 z32 := (hb1.block _ (lt_of_block (unhide G1))).trans (unhide G1)
  have hl1 := lt_of_block g1
  have V1 := hide g1
  have hg1 := hb1.size
  clear hb1 hL K0 G0 G1 g1
  go_wp2_with (first | ((with_reducible refine at_store ?_); first | refine wpList_store_row rfl 31 _ _ rfl w1.heap.size (bcells d8).toArray rfl rfl 31 _ (heap_alloc_new w1 _) (unhide V2) (unhide V3) (bcells_one d8) ?_ | refine wpList_store_row rfl 31 _ _ rfl (w.heap.size + 1) (bcells d8).toArray rfl rfl 31 _ ((heap_put_old w1 _ _ _ _ hl1).trans (unhide V1)) (unhide V2) (unhide V3) (bcells_one d8) ?_) | ((with_reducible refine at_load ?_); refine wpList_load_row rfl 31 _ rfl w1.heap.size (by rfl) 31 (bcells d8).toArray (0, 0) _ (heap_put_new w1 _ _ _) Tryd.underlying31 rfl (unhide V2) ?_))
  rw [← z32_cells]
  rw [unhide HQ]
  have hbelA : Below w.heap.size w ((w1.alloc (.cells (bcells z32).toArray 31)).setRow w1.heap.size (bcells d8).toArray) := below_row (hbel1.alloc hbel1.size _) hbel1.size _
  refine bodyPost_ret (v := .tuple #[.agg (bcells d8).toArray, .bool (decide (len = 0))]) ?_ rfl ⟨rfl, below_row hbelA (by omega) _⟩
  exact results_row2 Tryd.results27 _ _ (w.heap.size + 1) 31 _ (0, 0) _ rfl (setRow_heap _ _ _ _ _ _ ((heap_put_old w1 _ _ _ _ hl1).trans (unhide V1))) Tryd.underlying31 rfl (unhide V2)

set_option maxRecDepth 100000 in
set_option maxHeartbeats 800000 in
theorem rcomes_none (tb : List Nat) (x : ByteArray) (n i : Nat) (ao : Option Addr) (cap : Nat) (w : World) (hn : 2 ≤ n) :
    Calls Tryd.prog 27 #[.agg (ucells tb).toArray, .int .i64 n, .int .i64 i, .string x, .slice ao 0 cap] w fun e w' => e = .returned (.tuple #[.agg (bcells z32).toArray, .bool false]) ∧ Below w.heap.size w w' := by
  obtain ⟨hbel0, g0, g1⟩ := two_new w (.cells (ucells tb).toArray 26) (.cells (bcells z32).toArray 31)
  have K0 := hide hbel0
  have G1 := hide g1
  clear hbel0 g0 g1
  have hd : ((n : Int) == 1) = false := by rw [beq_eq_false_iff_ne]; omega
  have V2 := hide (v_dg z32 rfl)
  go_enter Tryd.func27, Tryd.ntmps27
  go_upto_region 1 with fail
  rw [← z32_cells]
  generalize ((w.alloc (.cells (ucells tb).toArray 26)).alloc (.cells (bcells z32).toArray 31)) = W0 at K0 G1 ⊢
  go_wp2_with ((with_reducible refine at_store ?_); rw [← z32_cells]; refine wpList_store_row rfl 31 _ _ rfl (w.heap.size + 1) (bcells z32).toArray rfl rfl 31 _ (unhide G1) (unhide V2) rfl (bcells_one z32) ?_)
  refine bodyPost_ret (v := .tuple #[.agg (bcells z32).toArray, .bool false]) ?_ rfl ⟨rfl, below_row (unhide K0) (by omega) _⟩
  exact results_row2 Tryd.results27 _ _ (w.heap.size + 1) 31 _ (0, 0) _ rfl (setRow_heap _ _ _ _ _ _ (unhide G1)) Tryd.underlying31 rfl (unhide V2)

/-- What Comes keeps while it asks for the part's root. -/
def Cm (w : World) (tb : List Nat) (dO : List UInt8) (GO : Nat) (wq : World) : Prop := URow wq w.heap.size 26 tb ∧ BRow wq (w.heap.size + 1) 31 z32 ∧ BRow wq GO 31 dO ∧ Below w.heap.size w wq
theorem cm_of {w : World} {tb : List Nat} {dO : List UInt8} {GO : Nat} {wq : World} (h1 : URow wq w.heap.size 26 tb) (h2 : BRow wq (w.heap.size + 1) 31 z32) (h3 : BRow wq GO 31 dO) (h4 : Below w.heap.size w wq) (htl : tb.length = 72) : Cm w tb dO GO wq ∧ wq.rangeAt w.heap.size 0 (ucells tb) :=
  ⟨⟨h1, h2, h3, h4⟩, by have := range_of_urow h1 72; rw [List.take_of_length_le (by omega)] at this; exact this⟩

set_option maxRecDepth 100000 in
set_option maxHeartbeats 3200000 in
theorem rcomes_any (tb : List Nat) (ht : TabOk tb) (x : ByteArray) (hx : x.size ≤ 1048575) (k : Nat) : ∀ (n i : Nat) (v : Value) (ps : List (List UInt8)) (w : World), n ≤ k → n ≤ 1099511627776 → i < n → Digs w v ps →
    Calls Tryd.prog 27 #[.agg (ucells tb).toArray, .int .i64 n, .int .i64 i, .string x, v] w fun e w' => e = .returned (.tuple #[.agg (bcells (comesL x n i ps).1).toArray, .bool (comesL x n i ps).2]) ∧ Below w.heap.size w w' := by
  induction k with
  | zero => intro n i v ps w hk _ hi; omega
  | succ k ih =>
    intro n i v ps w hk hm hi hD
    by_cases hn1 : n < 2
    · rw [comesL_one x n i ps hn1]
      obtain ⟨_, ao, cap, rfl, _⟩ := hD
      obtain rfl : n = 1 := by omega
      exact rcomes_one tb ht x i ao ps.length cap w hx
    by_cases hp : ps.length = 0
    · rw [comesL_none x n i ps (by omega) hp]
      obtain ⟨_, ao, cap, rfl, _⟩ := hD
      rw [hp]
      exact rcomes_none tb x n i ao cap w (by omega)
    · have hn2 : 2 ≤ n := by omega
      have hp0 : 0 < ps.length := by omega
      obtain ⟨b, off, cap, hv, hcap, hcm⟩ := digs_shape hD hp0
      subst hv
      unfold maxLen at hcm
      have hh1 := half_lt n hn2
      have hh2 := half_pos n
      have hF := fun wq => rhalf_any n wq hm
      have hdl := digs_len hD (ps.length - 1) (by omega)
      have htl := ht.1
      have VT := hide (v_tab tb htl)
      have VTM := hide (v_tabm tb htl)
      have VO := hide (v_dg _ hdl)
      have VM := hide (v_mid _ hdl)
      have ZO := hide (v_z32 _ hdl)
      have hat := digs_at hD (ps.length - 1) (by omega)
      have HD := hide (fun wq hb => (hD.below (w' := wq) (B := w.heap.size) hb (Nat.le_refl _)).front (ps.length - 1) (by omega))
      obtain ⟨hbel0, g0, g1⟩ := two_new w (.cells (ucells tb).toArray 26) (.cells (bcells z32).toArray 31)
      have hat0 := rangeAt_below hat hbel0 (Nat.le_refl _)
      have hc1 : ((n : Int) == 1) = false := by rw [beq_eq_false_iff_ne]; omega
      have hc2 : ((ps.length : Int) == 0) = false := by rw [beq_eq_false_iff_ne]; omega
      have f1 : (1 : Int) ≤ (ps.length : Int) := by omega
      have f2 : (ps.length : Int) - 1 ≤ (cap : Int) := by omega
      have fW : IntKind.i64.wrap ((ps.length : Int) - 1) = (ps.length : Int) - 1 := i64w _ (by omega)
      have K0 := hide hbel0
      have G0 := hide g0
      have G1 := hide g1
      have A0 := hide hat0
      clear hbel0 g0 g1 hat0 hat
      by_cases hlt : i < half n
      · have hA := fun wq hd => ih (half n) i (.slice (some ⟨b, off, none⟩) (ps.length - 1) cap) (ps.take (ps.length - 1)) wq (by omega) (by omega) hlt hd
        have da := comesL_length x (half n) i (ps.take (ps.length - 1))
        have hN := fun wq => rnode_any tb ht _ _ wq da hdl
        rw [comesL_left x n i ps hn2 hp0 hlt]
        have dn : (nd (comesL x (half n) i (ps.take (ps.length - 1))).1 (ps.getD (ps.length - 1) [])).length = 32 := sha_length _
        generalize nd (comesL x (half n) i (ps.take (ps.length - 1))).1 (ps.getD (ps.length - 1) []) = dN at hN dn ⊢
        generalize comesL x (half n) i (ps.take (ps.length - 1)) = r at hA hN da
        obtain ⟨dA, ok⟩ := r
        simp only at hA hN da ⊢
        generalize ps.getD (ps.length - 1) [] = dO at *
        generalize half n = m at *
        have f0 : decide ((i : Int) < (m : Int)) = true := by simp; omega
        have HA := hide hA
        have HN := hide hN
        clear hA hN ih hD
        go_enter Tryd.func27, Tryd.ntmps27
        go_upto_region 1 with fail
        rw [← z32_cells]
        generalize ((w.alloc (.cells (ucells tb).toArray 26)).alloc (.cells (bcells z32).toArray 31)) = W0 at K0 G0 G1 A0 ⊢
        have hl0 := lt_of_block (unhide G0)
        have hl1 := lt_of_block (unhide G1)
        go_upto_region 8 with (first | (go_at_call 64; refine (hF _).mono ?_; rintro e wq ⟨rfl, he⟩; cases he) | ((with_reducible refine at_load ?_); refine wpList_load_mid rfl 31 _ rfl b (off + (ps.length - 1) * 32) (by rfl) (bcells dO) _ (unhide A0) Tryd.underlying31 rfl (unhide VM) ?_) | ((with_reducible refine at_store ?_); refine wpList_store_row rfl 31 _ _ rfl W0.heap.size (bcells dO).toArray rfl rfl 31 _ (heap_alloc_new W0 _) (unhide VO) (unhide ZO) (bcells_one dO) ?_))
        rw [← z32_cells]
        have hbA := below_put W0 (bcells z32).toArray (bcells dO).toArray 31
        have gO : BRow ((W0.alloc (.cells (bcells z32).toArray 31)).setRow W0.heap.size (bcells dO).toArray) W0.heap.size 31 dO := heap_put_new _ _ _ _
        have gT : URow ((W0.alloc (.cells (bcells z32).toArray 31)).setRow W0.heap.size (bcells dO).toArray) w.heap.size 26 tb := (heap_put_old W0 _ _ _ _ hl0).trans (unhide G0)
        have gR : BRow ((W0.alloc (.cells (bcells z32).toArray 31)).setRow W0.heap.size (bcells dO).toArray) (w.heap.size + 1) 31 z32 := (heap_put_old W0 _ _ _ _ hl1).trans (unhide G1)
        have hbel1 := (unhide K0).trans (hbA.mono (unhide K0).size)
        generalize ((W0.alloc (.cells (bcells z32).toArray 31)).setRow W0.heap.size (bcells dO).toArray) = W1 at hbel1 gO gT gR ⊢
        generalize W0.heap.size = GO at gO ⊢
        have hR8 : W1.drew.rangeAt w.heap.size 0 (ucells tb) := by have := range_of_urow gT 72; rw [List.take_of_length_le (by omega)] at this; exact this
        have hKeep := hide (fun (wq : World) (h : Below W1.heap.size W1 wq) => show Cm w tb dO GO wq ∧ wq.rangeAt w.heap.size 0 (ucells tb) from
          cm_of (gT.below h (Nat.le_refl _)) ((h.block _ (lt_of_block gR)).trans gR) ((h.block _ (lt_of_block gO)).trans gO) (hbel1.trans (h.mono hbel1.size)) htl)
        clear K0 G0 G1 A0 hl0 hl1 hbA gO gT gR
        have VA := hide (v_dg dA da)
        have ZA := hide (v_z32 dA da)
        have VN := hide (v_dg dN dn)
        have ZN := hide (v_z32 dN dn)
        have hW1 : Below W1.heap.size W1 W1.drew := (Below.refl _ _).drew
        go_upto_region 9 with fail
        go_cut [15, 16] from 45 to 57 (fun p q wx => ∃ g : Nat, p = .pointer (some ⟨g, 0, none⟩) ∧ q = .bool ok ∧ BRow wx g 31 dA ∧ Cm w tb dO GO wx)
        case first =>
          refine wp_region_held_drew (S := fun w' => w'.rangeAt w.heap.size 0 (ucells tb)) (by kernel_rfl) hR8 (fun hHeld => ?_)
          refine wpAnyH_take (i := 0) rfl (by kernel_rfl) (by kernel_rfl) (by kernel_rfl) (fun _ _ _ h => h)
              (yieldsIf_load_mid (by rfl) 26 _ rfl w.heap.size 0 rfl (ucells tb) _ (fun _ h => h) Tryd.underlying26 rfl (unhide VTM)) hHeld ?_
          refine wpAnyH_take (i := 1) (v := .int .i64 m) rfl (by kernel_rfl) (by kernel_rfl) (by kernel_rfl) (fun _ _ _ h => h) (Or.inl ⟨by rfl, fun _ _ => by go_simp⟩) hHeld ?_
          refine wpAnyH_take (i := 2) (v := .int .i64 i) rfl (by kernel_rfl) (by kernel_rfl) (by kernel_rfl) (fun _ _ _ h => h) (Or.inl ⟨by rfl, fun _ _ => by go_simp⟩) hHeld ?_
          refine wpAnyH_take (i := 3) (v := .string x) rfl (by kernel_rfl) (by kernel_rfl) (by kernel_rfl) (fun _ _ _ h => h) (Or.inl ⟨by rfl, fun _ _ => by go_simp⟩) hHeld ?_
          refine wpAnyH_take (i := 4) (v := .slice (some ⟨b, off, none⟩) ps.length cap) rfl (by kernel_rfl) (by kernel_rfl) (by kernel_rfl) (fun _ _ _ h => h) (Or.inl ⟨by rfl, fun _ _ => by go_simp⟩) hHeld ?_
          refine wpAnyH_take (i := 5) (v := .slice (some ⟨b, off, none⟩) ps.length cap) rfl (by kernel_rfl) (by kernel_rfl) (by kernel_rfl) (fun _ _ _ h => h) (Or.inl ⟨by rfl, fun _ _ => by go_simp⟩) hHeld ?_
          refine wpAnyH_take (i := 6) (v := .int .i64 ps.length) rfl (by kernel_rfl) (by kernel_rfl) (by kernel_rfl) (fun _ _ _ h => h) (Or.inl ⟨by rfl, fun _ _ => by go_simp⟩) hHeld ?_
          refine wpAnyH_take (i := 7) (v := .int .i64 ((ps.length : Int) - 1)) rfl (by kernel_rfl) (by kernel_rfl) (by kernel_rfl) (fun _ _ _ h => h) (Or.inl ⟨by rfl, fun _ _ => by first | (go_simp; done) | (go_simp; exact fW)⟩) hHeld ?_
          refine wpAnyH_take (i := 8) (v := .slice (some ⟨b, off, none⟩) (ps.length - 1) cap) rfl (by kernel_rfl) (by kernel_rfl) (by kernel_rfl) (fun _ _ _ h => h) (Or.inl ⟨by rfl, fun _ _ => by go_simp⟩) hHeld ?_
          refine wpAnyH_ready (rs := [9, 13]) (by kernel_rfl) (by simp) ?_
          refine AllReadyH.cons rfl (fun K hK => ?_) (AllReadyH.cons rfl (fun K hK => ?_) AllReadyH.nil)
          · go_simp
            go_at_call 27
            refine (unhide HA _ (unhide HD _ hbel1.drew)).mono ?_
            rintro e w2 ⟨rfl, hb2⟩
            have hb2' := hW1.trans (hb2.mono hW1.size)
            dsimp only
            refine hK.out _ _ (unhide hKeep _ hb2').2 (fun hHeld => ?_)
            clear hK K
            refine wpAnyH_take (i := 10) (v := .tuple #[.agg (bcells dA).toArray, .bool ok]) rfl (by kernel_rfl) (by kernel_rfl) (by kernel_rfl) (fun _ _ _ h => h) (Or.inl ⟨by rfl, fun _ _ => by go_simp⟩) hHeld ?_
            refine wpAnyH_take (i := 11) (v := .agg (bcells dA).toArray) rfl (by kernel_rfl) (by kernel_rfl) (by kernel_rfl) (fun _ _ _ h => h) (Or.inl ⟨by rfl, fun _ _ => by go_simp⟩) hHeld ?_
            refine wpAnyH_take (i := 12) (v := .bool ok) rfl (by kernel_rfl) (by kernel_rfl) (by kernel_rfl) (fun _ _ _ h => h) (Or.inl ⟨by rfl, fun _ _ => by go_simp⟩) hHeld ?_
            refine wpAnyH_ready (rs := [13]) (by kernel_rfl) (by simp) ?_
            refine AllReadyH.cons rfl (fun K hK => ?_) AllReadyH.nil
            go_simp
            rw [← z32_cells]
            have hb3 : Below W1.heap.size W1 (w2.alloc (.cells (bcells z32).toArray 31)) := hb2'.alloc hb2'.size _
            have g3 : BRow (w2.alloc (.cells (bcells z32).toArray 31)) w2.heap.size 31 z32 := heap_alloc_new w2 _
            have hge := hb2'.size
            generalize w2.heap.size = G at g3 hge ⊢
            generalize w2.alloc (.cells (bcells z32).toArray 31) = w3 at hb3 g3 ⊢
            refine hK.out _ _ (unhide hKeep _ hb3).2 (fun hHeld => ?_)
            clear hK K
            refine wpAnyH_ready (rs := [14]) (by kernel_rfl) (by simp) ?_
            refine AllReadyH.cons rfl (fun K hK => ?_) AllReadyH.nil
            rw [if_pos (by rfl)]
            refine wp_store_mid 31 _ _ rfl G 0 (bcells dA).toArray rfl rfl (by rw [bcells_size, da]; exact there_of_brow g3 rfl) (unhide VA) (bcells_one dA) ?_
            rw [show (bcells dA).toArray.toList = bcells dA from rfl]
            have g4 : BRow (w3.setCells G 0 (bcells dA)) G 31 dA := brow_setCells g3 (by rw [da]; rfl)
            have hb4 : Below W1.heap.size W1 (w3.setCells G 0 (bcells dA)) := below_setCells hge _ _ hb3
            generalize w3.setCells G 0 (bcells dA) = w4 at g4 hb4 ⊢
            refine hK.out _ _ (unhide hKeep _ hb4).2 (fun hHeld => ?_)
            clear hK K
            refine wpAnyH_ready (rs := [15]) (by kernel_rfl) (by simp) ?_
            refine AllReadyH.cons rfl (fun K hK => ?_) AllReadyH.nil
            go_simp
            refine hK.out _ _ (unhide hKeep _ hb4).2 (fun hHeld => ?_)
            clear hK K
            refine wpAnyH_done (by kernel_rfl) ?_ _
            go_wp2_with fail
            go_meet
            exact ⟨G, rfl, rfl, g4, (unhide hKeep _ hb4).1⟩
          · go_simp
            rw [← z32_cells]
            have hb3 : Below W1.heap.size W1 (W1.alloc (.cells (bcells z32).toArray 31)).drew := ((Below.refl _ _).alloc (Nat.le_refl _) _).drew
            have g3 : BRow (W1.alloc (.cells (bcells z32).toArray 31)).drew W1.heap.size 31 z32 := heap_alloc_new W1 _
            have hge := Nat.le_refl W1.heap.size
            generalize hG : W1.heap.size = G at g3 ⊢
            generalize (W1.alloc (.cells (bcells z32).toArray 31)).drew = w3 at hb3 g3 ⊢
            refine hK.out _ _ (unhide hKeep _ hb3).2 (fun hHeld => ?_)
            clear hK K
            refine wpAnyH_ready (rs := [9]) (by kernel_rfl) (by simp) ?_
            refine AllReadyH.cons rfl (fun K hK => ?_) AllReadyH.nil
            go_simp
            go_at_call 27
            refine (unhide HA _ (unhide HD _ (hbel1.trans (hb3.mono hbel1.size)))).mono ?_
            rintro e w2 ⟨rfl, hb2⟩
            have hb2' := hb3.trans (hb2.mono hb3.size)
            have g5 : BRow w2 G 31 z32 := (hb2.block _ (lt_of_block g3)).trans g3
            dsimp only
            refine hK.out _ _ (unhide hKeep _ hb2').2 (fun hHeld => ?_)
            clear hK K
            refine wpAnyH_take (i := 10) (v := .tuple #[.agg (bcells dA).toArray, .bool ok]) rfl (by kernel_rfl) (by kernel_rfl) (by kernel_rfl) (fun _ _ _ h => h) (Or.inl ⟨by rfl, fun _ _ => by go_simp⟩) hHeld ?_
            refine wpAnyH_take (i := 11) (v := .agg (bcells dA).toArray) rfl (by kernel_rfl) (by kernel_rfl) (by kernel_rfl) (fun _ _ _ h => h) (Or.inl ⟨by rfl, fun _ _ => by go_simp⟩) hHeld ?_
            refine wpAnyH_take (i := 12) (v := .bool ok) rfl (by kernel_rfl) (by kernel_rfl) (by kernel_rfl) (fun _ _ _ h => h) (Or.inl ⟨by rfl, fun _ _ => by go_simp⟩) hHeld ?_
            refine wpAnyH_ready (rs := [14]) (by kernel_rfl) (by simp) ?_
            refine AllReadyH.cons rfl (fun K hK => ?_) AllReadyH.nil
            rw [if_pos (by rfl)]
            refine wp_store_mid 31 _ _ rfl G 0 (bcells dA).toArray rfl rfl (by rw [bcells_size, da]; exact there_of_brow g5 rfl) (unhide VA) (bcells_one dA) ?_
            rw [show (bcells dA).toArray.toList = bcells dA from rfl]
            have g4 : BRow (w2.setCells G 0 (bcells dA)) G 31 dA := brow_setCells g5 (by rw [da]; rfl)
            have hb4 : Below W1.heap.size W1 (w2.setCells G 0 (bcells dA)) := below_setCells (by omega) _ _ hb2'
            generalize w2.setCells G 0 (bcells dA) = w4 at g4 hb4 ⊢
            refine hK.out _ _ (unhide hKeep _ hb4).2 (fun hHeld => ?_)
            clear hK K
            refine wpAnyH_ready (rs := [15]) (by kernel_rfl) (by simp) ?_
            refine AllReadyH.cons rfl (fun K hK => ?_) AllReadyH.nil
            go_simp
            refine hK.out _ _ (unhide hKeep _ hb4).2 (fun hHeld => ?_)
            clear hK K
            refine wpAnyH_done (by kernel_rfl) ?_ _
            go_wp2_with fail
            go_meet
            exact ⟨G, rfl, rfl, g4, (unhide hKeep _ hb4).1⟩
        case rest =>
          obtain ⟨g, rfl, rfl, gA, gT, gR, gO, hbelc⟩ := hcut
          have HGA := hide gA
          have HGT := hide gT
          have HGO := hide gO
          have HGR := hide gR
          clear gA gT gR gO hKeep hR8 HA HD hW1 hbel1
          go_wp2_with ((with_reducible refine at_load ?_); first | refine wpList_load_row rfl 26 _ rfl w.heap.size (by rfl) 26 (ucells tb).toArray (0, 0) _ (unhide HGT) Tryd.underlying26 rfl (unhide VT) ?_ | refine wpList_load_row rfl 31 _ rfl g (by rfl) 31 (bcells dA).toArray (0, 0) _ (unhide HGA) Tryd.underlying31 rfl (unhide VA) ?_ | refine wpList_load_row rfl 31 _ rfl GO (by rfl) 31 (bcells dO).toArray (0, 0) _ (unhide HGO) Tryd.underlying31 rfl (unhide VO) ?_)
          refine (unhide HN _).mono ?_
          rintro e w5 ⟨rfl, hb5⟩
          have hbel5 := hbelc.trans (hb5.mono hbelc.size)
          have gR5 : BRow w5 (w.heap.size + 1) 31 z32 := (hb5.block _ (lt_of_block (unhide HGR))).trans (unhide HGR)
          have hlR := lt_of_block gR5
          have HR5 := hide gR5
          clear hb5 HGA HGT HGO HGR gR5 hbelc HN
          go_wp2_with (first | ((with_reducible refine at_store ?_); first | refine wpList_store_row rfl 31 _ _ rfl w5.heap.size (bcells dN).toArray rfl rfl 31 _ (heap_alloc_new w5 _) (unhide VN) (unhide ZN) (bcells_one dN) ?_ | refine wpList_store_row rfl 31 _ _ rfl (w.heap.size + 1) (bcells dN).toArray rfl rfl 31 _ ((heap_put_old w5 _ _ _ _ hlR).trans (unhide HR5)) (unhide VN) (unhide ZN) (bcells_one dN) ?_) | ((with_reducible refine at_load ?_); refine wpList_load_row rfl 31 _ rfl w5.heap.size (by rfl) 31 (bcells dN).toArray (0, 0) _ (heap_put_new w5 _ _ _) Tryd.underlying31 rfl (unhide VN) ?_))
          rw [← z32_cells]
          have hbelA : Below w.heap.size w ((w5.alloc (.cells (bcells z32).toArray 31)).setRow w5.heap.size (bcells dN).toArray) := below_row (hbel5.alloc hbel5.size _) hbel5.size _
          refine bodyPost_ret (v := .tuple #[.agg (bcells dN).toArray, .bool ok]) ?_ rfl ⟨rfl, below_row hbelA (by omega) _⟩
          exact results_row2 Tryd.results27 _ _ (w.heap.size + 1) 31 _ (0, 0) _ rfl (setRow_heap _ _ _ _ _ _ ((heap_put_old w5 _ _ _ _ hlR).trans (unhide HR5))) Tryd.underlying31 rfl (unhide VN)
      · have hA := fun wq hd => ih (n - half n) (i - half n) (.slice (some ⟨b, off, none⟩) (ps.length - 1) cap) (ps.take (ps.length - 1)) wq (by omega) (by omega) (by omega) hd
        have da := comesL_length x (n - half n) (i - half n) (ps.take (ps.length - 1))
        have hN := fun wq => rnode_any tb ht _ _ wq hdl da
        rw [comesL_right x n i ps hn2 hp0 hlt]
        have dn : (nd (ps.getD (ps.length - 1) []) (comesL x (n - half n) (i - half n) (ps.take (ps.length - 1))).1).length = 32 := sha_length _
        generalize nd (ps.getD (ps.length - 1) []) (comesL x (n - half n) (i - half n) (ps.take (ps.length - 1))).1 = dN at hN dn ⊢
        generalize comesL x (n - half n) (i - half n) (ps.take (ps.length - 1)) = r at hA hN da
        obtain ⟨dA, ok⟩ := r
        simp only at hA hN da ⊢
        generalize ps.getD (ps.length - 1) [] = dO at *
        generalize half n = m at *
        have f0 : decide ((i : Int) < (m : Int)) = false := by simp; omega
        rw [show ((n - m : Nat) : Int) = (n : Int) - (m : Int) by omega, show ((i - m : Nat) : Int) = (i : Int) - (m : Int) by omega] at hA
        have fN : IntKind.i64.wrap ((n : Int) - (m : Int)) = (n : Int) - (m : Int) := i64w _ (by omega)
        have fI : IntKind.i64.wrap ((i : Int) - (m : Int)) = (i : Int) - (m : Int) := i64w _ (by omega)
        have HA := hide hA
        have HN := hide hN
        clear hA hN ih hD
        go_enter Tryd.func27, Tryd.ntmps27
        go_upto_region 1 with fail
        rw [← z32_cells]
        generalize ((w.alloc (.cells (ucells tb).toArray 26)).alloc (.cells (bcells z32).toArray 31)) = W0 at K0 G0 G1 A0 ⊢
        have hl0 := lt_of_block (unhide G0)
        have hl1 := lt_of_block (unhide G1)
        go_upto_region 8 with (first | (go_at_call 64; refine (hF _).mono ?_; rintro e wq ⟨rfl, he⟩; cases he) | ((with_reducible refine at_load ?_); refine wpList_load_mid rfl 31 _ rfl b (off + (ps.length - 1) * 32) (by rfl) (bcells dO) _ (unhide A0) Tryd.underlying31 rfl (unhide VM) ?_) | ((with_reducible refine at_store ?_); refine wpList_store_row rfl 31 _ _ rfl W0.heap.size (bcells dO).toArray rfl rfl 31 _ (heap_alloc_new W0 _) (unhide VO) (unhide ZO) (bcells_one dO) ?_))
        rw [← z32_cells]
        have hbA := below_put W0 (bcells z32).toArray (bcells dO).toArray 31
        have gO : BRow ((W0.alloc (.cells (bcells z32).toArray 31)).setRow W0.heap.size (bcells dO).toArray) W0.heap.size 31 dO := heap_put_new _ _ _ _
        have gT : URow ((W0.alloc (.cells (bcells z32).toArray 31)).setRow W0.heap.size (bcells dO).toArray) w.heap.size 26 tb := (heap_put_old W0 _ _ _ _ hl0).trans (unhide G0)
        have gR : BRow ((W0.alloc (.cells (bcells z32).toArray 31)).setRow W0.heap.size (bcells dO).toArray) (w.heap.size + 1) 31 z32 := (heap_put_old W0 _ _ _ _ hl1).trans (unhide G1)
        have hbel1 := (unhide K0).trans (hbA.mono (unhide K0).size)
        generalize ((W0.alloc (.cells (bcells z32).toArray 31)).setRow W0.heap.size (bcells dO).toArray) = W1 at hbel1 gO gT gR ⊢
        generalize W0.heap.size = GO at gO ⊢
        have hR8 : W1.drew.rangeAt w.heap.size 0 (ucells tb) := by have := range_of_urow gT 72; rw [List.take_of_length_le (by omega)] at this; exact this
        have hKeep := hide (fun (wq : World) (h : Below W1.heap.size W1 wq) => show Cm w tb dO GO wq ∧ wq.rangeAt w.heap.size 0 (ucells tb) from
          cm_of (gT.below h (Nat.le_refl _)) ((h.block _ (lt_of_block gR)).trans gR) ((h.block _ (lt_of_block gO)).trans gO) (hbel1.trans (h.mono hbel1.size)) htl)
        clear K0 G0 G1 A0 hl0 hl1 hbA gO gT gR
        have VA := hide (v_dg dA da)
        have ZA := hide (v_z32 dA da)
        have VN := hide (v_dg dN dn)
        have ZN := hide (v_z32 dN dn)
        have hW1 : Below W1.heap.size W1 W1.drew := (Below.refl _ _).drew
        go_upto_region 12 with fail
        go_cut [18, 19] from 64 to 80 (fun p q wx => ∃ g : Nat, p = .pointer (some ⟨g, 0, none⟩) ∧ q = .bool ok ∧ BRow wx g 31 dA ∧ Cm w tb dO GO wx)
        case first =>
          refine wp_region_held_drew (S := fun w' => w'.rangeAt w.heap.size 0 (ucells tb)) (by kernel_rfl) hR8 (fun hHeld => ?_)
          refine wpAnyH_take (i := 0) rfl (by kernel_rfl) (by kernel_rfl) (by kernel_rfl) (fun _ _ _ h => h)
              (yieldsIf_load_mid (by rfl) 26 _ rfl w.heap.size 0 rfl (ucells tb) _ (fun _ h => h) Tryd.underlying26 rfl (unhide VTM)) hHeld ?_
          refine wpAnyH_take (i := 1) (v := .int .i64 n) rfl (by kernel_rfl) (by kernel_rfl) (by kernel_rfl) (fun _ _ _ h => h) (Or.inl ⟨by rfl, fun _ _ => by go_simp⟩) hHeld ?_
          refine wpAnyH_take (i := 2) (v := .int .i64 m) rfl (by kernel_rfl) (by kernel_rfl) (by kernel_rfl) (fun _ _ _ h => h) (Or.inl ⟨by rfl, fun _ _ => by go_simp⟩) hHeld ?_
          refine wpAnyH_take (i := 3) (v := .int .i64 ((n : Int) - (m : Int))) rfl (by kernel_rfl) (by kernel_rfl) (by kernel_rfl) (fun _ _ _ h => h) (Or.inl ⟨by rfl, fun _ _ => by first | (go_simp; done) | (go_simp; exact fN)⟩) hHeld ?_
          refine wpAnyH_take (i := 4) (v := .int .i64 i) rfl (by kernel_rfl) (by kernel_rfl) (by kernel_rfl) (fun _ _ _ h => h) (Or.inl ⟨by rfl, fun _ _ => by go_simp⟩) hHeld ?_
          refine wpAnyH_take (i := 5) (v := .int .i64 m) rfl (by kernel_rfl) (by kernel_rfl) (by kernel_rfl) (fun _ _ _ h => h) (Or.inl ⟨by rfl, fun _ _ => by go_simp⟩) hHeld ?_
          refine wpAnyH_take (i := 6) (v := .int .i64 ((i : Int) - (m : Int))) rfl (by kernel_rfl) (by kernel_rfl) (by kernel_rfl) (fun _ _ _ h => h) (Or.inl ⟨by rfl, fun _ _ => by first | (go_simp; done) | (go_simp; exact fI)⟩) hHeld ?_
          refine wpAnyH_take (i := 7) (v := .string x) rfl (by kernel_rfl) (by kernel_rfl) (by kernel_rfl) (fun _ _ _ h => h) (Or.inl ⟨by rfl, fun _ _ => by go_simp⟩) hHeld ?_
          refine wpAnyH_take (i := 8) (v := .slice (some ⟨b, off, none⟩) ps.length cap) rfl (by kernel_rfl) (by kernel_rfl) (by kernel_rfl) (fun _ _ _ h => h) (Or.inl ⟨by rfl, fun _ _ => by go_simp⟩) hHeld ?_
          refine wpAnyH_take (i := 9) (v := .slice (some ⟨b, off, none⟩) ps.length cap) rfl (by kernel_rfl) (by kernel_rfl) (by kernel_rfl) (fun _ _ _ h => h) (Or.inl ⟨by rfl, fun _ _ => by go_simp⟩) hHeld ?_
          refine wpAnyH_take (i := 10) (v := .int .i64 ps.length) rfl (by kernel_rfl) (by kernel_rfl) (by kernel_rfl) (fun _ _ _ h => h) (Or.inl ⟨by rfl, fun _ _ => by go_simp⟩) hHeld ?_
          refine wpAnyH_take (i := 11) (v := .int .i64 ((ps.length : Int) - 1)) rfl (by kernel_rfl) (by kernel_rfl) (by kernel_rfl) (fun _ _ _ h => h) (Or.inl ⟨by rfl, fun _ _ => by first | (go_simp; done) | (go_simp; exact fW)⟩) hHeld ?_
          refine wpAnyH_take (i := 12) (v := .slice (some ⟨b, off, none⟩) (ps.length - 1) cap) rfl (by kernel_rfl) (by kernel_rfl) (by kernel_rfl) (fun _ _ _ h => h) (Or.inl ⟨by rfl, fun _ _ => by go_simp⟩) hHeld ?_
          refine wpAnyH_ready (rs := [13, 17]) (by kernel_rfl) (by simp) ?_
          refine AllReadyH.cons rfl (fun K hK => ?_) (AllReadyH.cons rfl (fun K hK => ?_) AllReadyH.nil)
          · go_simp
            go_at_call 27
            refine (unhide HA _ (unhide HD _ hbel1.drew)).mono ?_
            rintro e w2 ⟨rfl, hb2⟩
            have hb2' := hW1.trans (hb2.mono hW1.size)
            dsimp only
            refine hK.out _ _ (unhide hKeep _ hb2').2 (fun hHeld => ?_)
            clear hK K
            refine wpAnyH_take (i := 14) (v := .tuple #[.agg (bcells dA).toArray, .bool ok]) rfl (by kernel_rfl) (by kernel_rfl) (by kernel_rfl) (fun _ _ _ h => h) (Or.inl ⟨by rfl, fun _ _ => by go_simp⟩) hHeld ?_
            refine wpAnyH_take (i := 15) (v := .agg (bcells dA).toArray) rfl (by kernel_rfl) (by kernel_rfl) (by kernel_rfl) (fun _ _ _ h => h) (Or.inl ⟨by rfl, fun _ _ => by go_simp⟩) hHeld ?_
            refine wpAnyH_take (i := 16) (v := .bool ok) rfl (by kernel_rfl) (by kernel_rfl) (by kernel_rfl) (fun _ _ _ h => h) (Or.inl ⟨by rfl, fun _ _ => by go_simp⟩) hHeld ?_
            refine wpAnyH_ready (rs := [17]) (by kernel_rfl) (by simp) ?_
            refine AllReadyH.cons rfl (fun K hK => ?_) AllReadyH.nil
            go_simp
            rw [← z32_cells]
            have hb3 : Below W1.heap.size W1 (w2.alloc (.cells (bcells z32).toArray 31)) := hb2'.alloc hb2'.size _
            have g3 : BRow (w2.alloc (.cells (bcells z32).toArray 31)) w2.heap.size 31 z32 := heap_alloc_new w2 _
            have hge := hb2'.size
            generalize w2.heap.size = G at g3 hge ⊢
            generalize w2.alloc (.cells (bcells z32).toArray 31) = w3 at hb3 g3 ⊢
            refine hK.out _ _ (unhide hKeep _ hb3).2 (fun hHeld => ?_)
            clear hK K
            refine wpAnyH_ready (rs := [18]) (by kernel_rfl) (by simp) ?_
            refine AllReadyH.cons rfl (fun K hK => ?_) AllReadyH.nil
            rw [if_pos (by rfl)]
            refine wp_store_mid 31 _ _ rfl G 0 (bcells dA).toArray rfl rfl (by rw [bcells_size, da]; exact there_of_brow g3 rfl) (unhide VA) (bcells_one dA) ?_
            rw [show (bcells dA).toArray.toList = bcells dA from rfl]
            have g4 : BRow (w3.setCells G 0 (bcells dA)) G 31 dA := brow_setCells g3 (by rw [da]; rfl)
            have hb4 : Below W1.heap.size W1 (w3.setCells G 0 (bcells dA)) := below_setCells hge _ _ hb3
            generalize w3.setCells G 0 (bcells dA) = w4 at g4 hb4 ⊢
            refine hK.out _ _ (unhide hKeep _ hb4).2 (fun hHeld => ?_)
            clear hK K
            refine wpAnyH_ready (rs := [19]) (by kernel_rfl) (by simp) ?_
            refine AllReadyH.cons rfl (fun K hK => ?_) AllReadyH.nil
            go_simp
            refine hK.out _ _ (unhide hKeep _ hb4).2 (fun hHeld => ?_)
            clear hK K
            refine wpAnyH_done (by kernel_rfl) ?_ _
            go_wp2_with fail
            go_meet
            exact ⟨G, rfl, rfl, g4, (unhide hKeep _ hb4).1⟩
          · go_simp
            rw [← z32_cells]
            have hb3 : Below W1.heap.size W1 (W1.alloc (.cells (bcells z32).toArray 31)).drew := ((Below.refl _ _).alloc (Nat.le_refl _) _).drew
            have g3 : BRow (W1.alloc (.cells (bcells z32).toArray 31)).drew W1.heap.size 31 z32 := heap_alloc_new W1 _
            have hge := Nat.le_refl W1.heap.size
            generalize hG : W1.heap.size = G at g3 ⊢
            generalize (W1.alloc (.cells (bcells z32).toArray 31)).drew = w3 at hb3 g3 ⊢
            refine hK.out _ _ (unhide hKeep _ hb3).2 (fun hHeld => ?_)
            clear hK K
            refine wpAnyH_ready (rs := [13]) (by kernel_rfl) (by simp) ?_
            refine AllReadyH.cons rfl (fun K hK => ?_) AllReadyH.nil
            go_simp
            go_at_call 27
            refine (unhide HA _ (unhide HD _ (hbel1.trans (hb3.mono hbel1.size)))).mono ?_
            rintro e w2 ⟨rfl, hb2⟩
            have hb2' := hb3.trans (hb2.mono hb3.size)
            have g5 : BRow w2 G 31 z32 := (hb2.block _ (lt_of_block g3)).trans g3
            dsimp only
            refine hK.out _ _ (unhide hKeep _ hb2').2 (fun hHeld => ?_)
            clear hK K
            refine wpAnyH_take (i := 14) (v := .tuple #[.agg (bcells dA).toArray, .bool ok]) rfl (by kernel_rfl) (by kernel_rfl) (by kernel_rfl) (fun _ _ _ h => h) (Or.inl ⟨by rfl, fun _ _ => by go_simp⟩) hHeld ?_
            refine wpAnyH_take (i := 15) (v := .agg (bcells dA).toArray) rfl (by kernel_rfl) (by kernel_rfl) (by kernel_rfl) (fun _ _ _ h => h) (Or.inl ⟨by rfl, fun _ _ => by go_simp⟩) hHeld ?_
            refine wpAnyH_take (i := 16) (v := .bool ok) rfl (by kernel_rfl) (by kernel_rfl) (by kernel_rfl) (fun _ _ _ h => h) (Or.inl ⟨by rfl, fun _ _ => by go_simp⟩) hHeld ?_
            refine wpAnyH_ready (rs := [18]) (by kernel_rfl) (by simp) ?_
            refine AllReadyH.cons rfl (fun K hK => ?_) AllReadyH.nil
            rw [if_pos (by rfl)]
            refine wp_store_mid 31 _ _ rfl G 0 (bcells dA).toArray rfl rfl (by rw [bcells_size, da]; exact there_of_brow g5 rfl) (unhide VA) (bcells_one dA) ?_
            rw [show (bcells dA).toArray.toList = bcells dA from rfl]
            have g4 : BRow (w2.setCells G 0 (bcells dA)) G 31 dA := brow_setCells g5 (by rw [da]; rfl)
            have hb4 : Below W1.heap.size W1 (w2.setCells G 0 (bcells dA)) := below_setCells (by omega) _ _ hb2'
            generalize w2.setCells G 0 (bcells dA) = w4 at g4 hb4 ⊢
            refine hK.out _ _ (unhide hKeep _ hb4).2 (fun hHeld => ?_)
            clear hK K
            refine wpAnyH_ready (rs := [19]) (by kernel_rfl) (by simp) ?_
            refine AllReadyH.cons rfl (fun K hK => ?_) AllReadyH.nil
            go_simp
            refine hK.out _ _ (unhide hKeep _ hb4).2 (fun hHeld => ?_)
            clear hK K
            refine wpAnyH_done (by kernel_rfl) ?_ _
            go_wp2_with fail
            go_meet
            exact ⟨G, rfl, rfl, g4, (unhide hKeep _ hb4).1⟩
        case rest =>
          obtain ⟨g, rfl, rfl, gA, gT, gR, gO, hbelc⟩ := hcut
          have HGA := hide gA
          have HGT := hide gT
          have HGO := hide gO
          have HGR := hide gR
          clear gA gT gR gO hKeep hR8 HA HD hW1 hbel1
          go_wp2_with ((with_reducible refine at_load ?_); first | refine wpList_load_row rfl 26 _ rfl w.heap.size (by rfl) 26 (ucells tb).toArray (0, 0) _ (unhide HGT) Tryd.underlying26 rfl (unhide VT) ?_ | refine wpList_load_row rfl 31 _ rfl g (by rfl) 31 (bcells dA).toArray (0, 0) _ (unhide HGA) Tryd.underlying31 rfl (unhide VA) ?_ | refine wpList_load_row rfl 31 _ rfl GO (by rfl) 31 (bcells dO).toArray (0, 0) _ (unhide HGO) Tryd.underlying31 rfl (unhide VO) ?_)
          refine (unhide HN _).mono ?_
          rintro e w5 ⟨rfl, hb5⟩
          have hbel5 := hbelc.trans (hb5.mono hbelc.size)
          have gR5 : BRow w5 (w.heap.size + 1) 31 z32 := (hb5.block _ (lt_of_block (unhide HGR))).trans (unhide HGR)
          have hlR := lt_of_block gR5
          have HR5 := hide gR5
          clear hb5 HGA HGT HGO HGR gR5 hbelc HN
          go_wp2_with (first | ((with_reducible refine at_store ?_); first | refine wpList_store_row rfl 31 _ _ rfl w5.heap.size (bcells dN).toArray rfl rfl 31 _ (heap_alloc_new w5 _) (unhide VN) (unhide ZN) (bcells_one dN) ?_ | refine wpList_store_row rfl 31 _ _ rfl (w.heap.size + 1) (bcells dN).toArray rfl rfl 31 _ ((heap_put_old w5 _ _ _ _ hlR).trans (unhide HR5)) (unhide VN) (unhide ZN) (bcells_one dN) ?_) | ((with_reducible refine at_load ?_); refine wpList_load_row rfl 31 _ rfl w5.heap.size (by rfl) 31 (bcells dN).toArray (0, 0) _ (heap_put_new w5 _ _ _) Tryd.underlying31 rfl (unhide VN) ?_))
          rw [← z32_cells]
          have hbelA : Below w.heap.size w ((w5.alloc (.cells (bcells z32).toArray 31)).setRow w5.heap.size (bcells dN).toArray) := below_row (hbel5.alloc hbel5.size _) hbel5.size _
          refine bodyPost_ret (v := .tuple #[.agg (bcells dN).toArray, .bool ok]) ?_ rfl ⟨rfl, below_row hbelA (by omega) _⟩
          exact results_row2 Tryd.results27 _ _ (w.heap.size + 1) 31 _ (0, 0) _ rfl (setRow_heap _ _ _ _ _ _ ((heap_put_old w5 _ _ _ _ hlR).trans (unhide HR5))) Tryd.underlying31 rfl (unhide VN)
end Go.Proofs.YtanfolfopalbeaaDoor
