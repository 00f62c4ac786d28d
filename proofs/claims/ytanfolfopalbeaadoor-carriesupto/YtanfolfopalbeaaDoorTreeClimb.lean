/- Slices of digests; climb and Verify: the contracts. -/
import Derived.Test.YtanfolfopalbeaaDoorTreeProve
import Derived.Deep.MidRow
namespace Go.Proofs.YtanfolfopalbeaaDoor
open Go.RowKit

/-- v is a slice of digests that reads as ps in w. -/
def Digs (w : World) (v : Value) (ps : List (List UInt8)) : Prop :=
  (∀ d ∈ ps, d.length = 32) ∧ ∃ ao cap, v = .slice ao ps.length cap ∧ ps.length ≤ cap ∧ cap ≤ maxLen ∧
    (ps = [] ∨ ∃ b off, ao = some ⟨b, off, none⟩ ∧ w.rangeAt b off (dcells ps))
theorem dcells_length (ps : List (List UInt8)) (h : ∀ d ∈ ps, d.length = 32) : (dcells ps).length = 32 * ps.length := by
  induction ps with
  | nil => rfl
  | cons a r ih =>
    have h1 := h a (by simp)
    have h2 := ih (fun d hd => h d (by simp [hd]))
    unfold dcells at h2 ⊢
    rw [List.flatMap_cons, List.length_append, h2, List.length_cons]
    simp [bcells, h1]
    omega
theorem dcells_split (ps : List (List UInt8)) (k : Nat) : dcells ps = dcells (ps.take k) ++ dcells (ps.drop k) := by
  unfold dcells
  rw [← List.flatMap_append, List.take_append_drop]
theorem dcells_at (ps : List (List UInt8)) (k : Nat) (hk : k < ps.length) : dcells ps = dcells (ps.take k) ++ bcells (ps.getD k []) ++ dcells (ps.drop (k + 1)) := by
  rw [dcells_split ps k, List.append_assoc]
  congr 1
  rw [List.drop_eq_getElem_cons hk]
  unfold dcells
  rw [List.flatMap_cons]
  simp [List.getD, List.getElem?_eq_getElem hk]
theorem rangeAt_part {w : World} {b o : Nat} {xs ys zs : List Value} (h : w.rangeAt b o (xs ++ ys ++ zs)) : w.rangeAt b (o + xs.length) ys := fun j v hv => by
  have := h (xs.length + j) v (by
    rw [List.append_assoc, List.getElem?_append_right (by omega), Nat.add_sub_cancel_left, List.getElem?_append_left (by exact (List.getElem?_eq_some_iff.1 hv).1)]
    exact hv)
  rw [← Nat.add_assoc] at this
  exact this
theorem rangeAt_front {w : World} {b o : Nat} {xs ys : List Value} (h : w.rangeAt b o (xs ++ ys)) : w.rangeAt b o xs := fun j v hv =>
  h j v (by rw [List.getElem?_append_left (by exact (List.getElem?_eq_some_iff.1 hv).1)]; exact hv)
theorem rangeAt_below {w w' : World} {b o B : Nat} {xs : List Value} (h : w.rangeAt b o xs) (hb : Below B w w') (hB : w.heap.size ≤ B) : w'.rangeAt b o xs := fun j v hv => by
  have := h j v hv
  rw [hb.cell (p := ⟨b, o + j, none⟩) (Nat.lt_of_lt_of_le (cell_lt this) hB)]
  exact this
theorem Digs.below {w w' : World} {v : Value} {ps : List (List UInt8)} {B : Nat} (h : Digs w v ps) (hb : Below B w w') (hB : w.heap.size ≤ B) : Digs w' v ps := by
  obtain ⟨h0, ao, cap, rfl, h1, h2, h3⟩ := h
  refine ⟨h0, ao, cap, rfl, h1, h2, ?_⟩
  rcases h3 with h3 | ⟨b, off, rfl, hc⟩
  · exact .inl h3
  · exact .inr ⟨b, off, rfl, rangeAt_below hc hb hB⟩
theorem digs_of_own {w : World} {base : Nat} {e : TypeId} {v : Value} {n : Nat} {ps : List (List UInt8)} (h0 : ∀ d ∈ ps, d.length = 32) (h : w.ownsRow base e 32 v n (dcells ps)) (hn : n = ps.length) : Digs w v ps := by
  subst hn
  refine ⟨h0, ?_⟩
  obtain ⟨hl, h⟩ := h
  rcases h with ⟨rfl, hn⟩ | ⟨g, cap, cur, rfl, hb, hg, h1, h2, h3, h4⟩
  · have : ps = [] := List.eq_nil_of_length_eq_zero hn
    subst this
    exact ⟨none, 0, rfl, Nat.le_refl _, Nat.zero_le _, .inl rfl⟩
  · refine ⟨_, cap, rfl, h1, h2, .inr ⟨g, 0, rfl, fun j u hu => ?_⟩⟩
    rw [Nat.zero_add, cell_of_row w g j _ _ _ hg]
    rw [← h4] at hu
    have hj : j < ps.length * 32 := by
      have := (List.getElem?_eq_some_iff.1 hu).1
      rw [List.length_take] at this
      omega
    rw [List.getElem?_take_of_lt hj] at hu
    simpa using hu
theorem Digs.front {w : World} {b off cap n : Nat} {ps : List (List UInt8)} (h : Digs w (.slice (some ⟨b, off, none⟩) n cap) ps) (k : Nat) (hk : k ≤ n) : Digs w (.slice (some ⟨b, off, none⟩) k cap) (ps.take k) := by
  obtain ⟨h0, ao, cap', he, h1, h2, h3⟩ := h
  simp only [Value.slice.injEq] at he
  obtain ⟨rfl, rfl, rfl⟩ := he
  have hl : (ps.take k).length = k := by rw [List.length_take]; omega
  refine ⟨fun d hd => h0 d (List.mem_of_mem_take hd), some ⟨b, off, none⟩, cap, by rw [hl], by omega, h2, ?_⟩
  rcases h3 with rfl | ⟨b', off', he, hc⟩
  · simp
  · simp only [Option.some.injEq, Addr.mk.injEq, and_true] at he
    obtain ⟨rfl, rfl⟩ := he
    refine .inr ⟨b, off, rfl, ?_⟩
    rw [dcells_split ps k] at hc
    exact rangeAt_front hc
theorem digs_shape {w : World} {v : Value} {ps : List (List UInt8)} (h : Digs w v ps) (hne : 0 < ps.length) : ∃ b off cap, v = .slice (some ⟨b, off, none⟩) ps.length cap ∧ ps.length ≤ cap ∧ cap ≤ maxLen := by
  obtain ⟨_, ao, cap, rfl, h1, h2, h3⟩ := h
  rcases h3 with h3 | ⟨b, off, rfl, _⟩
  · rw [h3] at hne; cases hne
  · exact ⟨b, off, cap, rfl, h1, h2⟩
theorem digs_at {w : World} {b off n cap : Nat} {ps : List (List UInt8)} (h : Digs w (.slice (some ⟨b, off, none⟩) n cap) ps) (k : Nat) (hk : k < ps.length) : w.rangeAt b (off + k * 32) (bcells (ps.getD k [])) := by
  obtain ⟨h0, ao, cap', he, h1, h2, h3⟩ := h
  simp only [Value.slice.injEq] at he
  obtain ⟨rfl, rfl, rfl⟩ := he
  rcases h3 with rfl | ⟨b', off', he, hc⟩
  · cases hk
  · simp only [Option.some.injEq, Addr.mk.injEq, and_true] at he
    obtain ⟨rfl, rfl⟩ := he
    rw [dcells_at ps k hk] at hc
    have := rangeAt_part hc
    rw [dcells_length _ (fun d hd => h0 d (List.mem_of_mem_take hd)), List.length_take, Nat.min_eq_left (by omega), Nat.mul_comm] at this
    exact this
theorem digs_len {w : World} {v : Value} {ps : List (List UInt8)} (h : Digs w v ps) (k : Nat) (hk : k < ps.length) : (ps.getD k []).length = 32 := by
  rw [List.getD, List.getElem?_eq_getElem hk]
  exact h.1 _ (List.getElem_mem hk)
theorem v_mid (d : List UInt8) (h : d.length = 32) : (Tryd.prog.info? 31).map (·.size) = some (bcells d).length := by rw [show (bcells d).length = 32 by simp [bcells, h]]; exact info_dg

theorem two_new (w : World) (A B : Obj) : Below w.heap.size w ((w.alloc A).alloc B) ∧ ((w.alloc A).alloc B).heap[w.heap.size]? = some A ∧ ((w.alloc A).alloc B).heap[w.heap.size + 1]? = some B :=
  ⟨((Below.refl _ _).alloc (Nat.le_refl _) _).alloc (by simp) _, (((Below.refl (w.alloc A).heap.size (w.alloc A)).alloc (Nat.le_refl _) B).block _ (by simp)).trans (heap_alloc_new w A), heap_alloc2_new w A B⟩

set_option maxRecDepth 100000 in
set_option maxHeartbeats 800000 in
theorem climb_end (s : List UInt8) (n i : Nat) (ao : Option Addr) (len cap : Nat) (w : World) (hs : s.length = 32) (hn : n ≤ 1073741824) (hz : n ≤ 1 ∨ len = 0) :
    Calls Tryd.prog 101 #[.agg (bcells s).toArray, .int .i64 n, .int .i64 i, .slice ao len cap] w fun e w' => e = .returned (.agg (bcells s).toArray) ∧ Below w.heap.size w w' := by
  have V2 := hide (v_dg s hs)
  have V3 := hide (v_z32 s hs)
  obtain ⟨hbel0, g0, g1⟩ := two_new w (.cells (bcells s).toArray 31) (.cells (bcells z32).toArray 31)
  have K0 := hide hbel0
  have G0 := hide g0
  have G1 := hide g1
  clear hbel0 g0 g1
  by_cases hz1 : n ≤ 1
  · have hd : decide ((n : Int) ≤ 1) = true := by simp; omega
    clear hz
    go_enter Tryd.func101, Tryd.ntmps101
    go_wp2_with (first | ((with_reducible refine at_load ?_); rw [← z32_cells]; refine wpList_load_row rfl 31 _ rfl w.heap.size (by rfl) 31 (bcells s).toArray (0, 0) _ (unhide G0) Tryd.underlying31 rfl (unhide V2) ?_) | ((with_reducible refine at_store ?_); refine wpList_store_row rfl 31 _ _ rfl (w.heap.size + 1) (bcells s).toArray rfl rfl 31 _ (unhide G1) (unhide V2) (unhide V3) (bcells_one s) ?_))
    refine bodyPost_ret (v := .agg (bcells s).toArray) ?_ rfl ⟨rfl, below_row (unhide K0) (by omega) _⟩
    exact results_cell_row Tryd.results101 _ _ (w.heap.size + 1) 31 _ (0, 0) _ rfl (setRow_heap _ _ _ _ _ _ (unhide G1)) Tryd.underlying31 rfl (unhide V2)
  · have hz2 : len = 0 := by omega
    subst hz2
    have hd : decide ((n : Int) ≤ 1) = false := by simp; omega
    clear hz
    go_enter Tryd.func101, Tryd.ntmps101
    go_wp2_with (first | ((with_reducible refine at_load ?_); rw [← z32_cells]; refine wpList_load_row rfl 31 _ rfl w.heap.size (by rfl) 31 (bcells s).toArray (0, 0) _ (unhide G0) Tryd.underlying31 rfl (unhide V2) ?_) | ((with_reducible refine at_store ?_); refine wpList_store_row rfl 31 _ _ rfl (w.heap.size + 1) (bcells s).toArray rfl rfl 31 _ (unhide G1) (unhide V2) (unhide V3) (bcells_one s) ?_))
    refine bodyPost_ret (v := .agg (bcells s).toArray) ?_ rfl ⟨rfl, below_row (unhide K0) (by omega) _⟩
    exact results_cell_row Tryd.results101 _ _ (w.heap.size + 1) 31 _ (0, 0) _ rfl (setRow_heap _ _ _ _ _ _ (unhide G1)) Tryd.underlying31 rfl (unhide V2)

set_option maxRecDepth 100000 in
set_option maxHeartbeats 1600000 in
theorem climb_any (k : Nat) : ∀ (s : List UInt8) (n i : Nat) (v : Value) (ps : List (List UInt8)) (w : World), n ≤ k → n ≤ 1073741824 → i < n → s.length = 32 → Digs w v ps → Tabs w →
    Calls Tryd.prog 101 #[.agg (bcells s).toArray, .int .i64 n, .int .i64 i, v] w fun e w' => e = .returned (.agg (bcells (climbL s n i ps)).toArray) ∧ Below w.heap.size w w' := by
  induction k with
  | zero => intro s n i v ps w hk _ hi; omega
  | succ k ih =>
    intro s n i v ps w hk hm hi hs hD hT
    by_cases hend : n < 2 ∨ ps.length = 0
    · rw [climbL_end s n i ps hend]
      obtain ⟨_, ao, cap, rfl, _⟩ := hD
      exact climb_end s n i ao ps.length cap w hs hm (by omega)
    · have hn2 : 2 ≤ n := by omega
      have hp0 : 0 < ps.length := by omega
      obtain ⟨b, off, cap, hv, hcap, hcm⟩ := digs_shape hD hp0
      subst hv
      unfold maxLen at hcm
      have hh1 := half_lt n hn2
      have hh2 := half_pos n
      have hF := fun wq => first_any n wq (by omega)
      have hdl := digs_len hD (ps.length - 1) (by omega)
      have VO := hide (v_dg _ hdl)
      have VM := hide (v_mid _ hdl)
      have ZO := hide (v_z32 _ hdl)
      have VS := hide (v_dg s hs)
      have hat := digs_at hD (ps.length - 1) (by omega)
      have HT := hide (fun wq hb => hT.below (w' := wq) (B := w.heap.size) hb (Nat.le_refl _))
      have HD := hide (fun wq hb => (hD.below (w' := wq) (B := w.heap.size) hb (Nat.le_refl _)).front (ps.length - 1) (by omega))
      obtain ⟨hbel0, g0, g1⟩ := two_new w (.cells (bcells s).toArray 31) (.cells (bcells z32).toArray 31)
      have hat0 := rangeAt_below hat hbel0 (Nat.le_refl _)
      have hc1 : decide ((n : Int) ≤ 1) = false := by simp; omega
      have hc2 : ((ps.length : Int) == 0) = false := by rw [beq_eq_false_iff_ne]; omega
      have K0 := hide hbel0
      have G0 := hide g0
      have G1 := hide g1
      have A0 := hide hat0
      clear hbel0 g0 g1 hat0 hat
      by_cases hlt : i < half n
      · have hA := fun wq hd ht => ih s (half n) i (.slice (some ⟨b, off, none⟩) (ps.length - 1) cap) (ps.take (ps.length - 1)) wq (by omega) (by omega) hlt hs hd ht
        have da := climbL_length s (half n) i (ps.take (ps.length - 1)) hs
        have hN := fun wq ht => node_any _ _ wq da hdl ht
        have dn : (nd (climbL s (half n) i (ps.take (ps.length - 1))) (ps.getD (ps.length - 1) [])).length = 32 := sha_length _
        rw [climbL_left s n i ps hn2 hp0 hlt]
        generalize nd (climbL s (half n) i (ps.take (ps.length - 1))) (ps.getD (ps.length - 1) []) = dN at hN dn ⊢
        generalize climbL s (half n) i (ps.take (ps.length - 1)) = dA at hA hN da
        generalize ps.getD (ps.length - 1) [] = dO at *
        generalize half n = m at *
        have f0 : decide ((i : Int) < (m : Int)) = true := by simp; omega
        have HA := hide hA
        have HN := hide hN
        clear hA hN ih hD hT
        go_enter Tryd.func101, Tryd.ntmps101
        go_upto_region 1 with fail
        rw [← z32_cells]
        generalize ((w.alloc (.cells (bcells s).toArray 31)).alloc (.cells (bcells z32).toArray 31)) = W0 at K0 G0 G1 A0 ⊢
        have hl0 := lt_of_block (unhide G0)
        have hl1 := lt_of_block (unhide G1)
        go_wp2_with (first | ((with_reducible refine at_load ?_); refine wpList_load_mid rfl 31 _ rfl b (off + (ps.length - 1) * 32) (by rfl) (bcells dO) _ (unhide A0) Tryd.underlying31 rfl (unhide VM) ?_) | ((with_reducible refine at_store ?_); refine wpList_store_row rfl 31 _ _ rfl W0.heap.size (bcells dO).toArray rfl rfl 31 _ (heap_alloc_new W0 _) (unhide VO) (unhide ZO) (bcells_one dO) ?_))
        rw [← z32_cells]
        have hbA := below_put W0 (bcells z32).toArray (bcells dO).toArray 31
        have gO : BRow ((W0.alloc (.cells (bcells z32).toArray 31)).setRow W0.heap.size (bcells dO).toArray) W0.heap.size 31 dO := heap_put_new _ _ _ _
        have gS : BRow ((W0.alloc (.cells (bcells z32).toArray 31)).setRow W0.heap.size (bcells dO).toArray) w.heap.size 31 s := (heap_put_old W0 _ _ _ _ hl0).trans (unhide G0)
        have gR : BRow ((W0.alloc (.cells (bcells z32).toArray 31)).setRow W0.heap.size (bcells dO).toArray) (w.heap.size + 1) 31 z32 := (heap_put_old W0 _ _ _ _ hl1).trans (unhide G1)
        have hbel1 := (unhide K0).trans (hbA.mono (unhide K0).size)
        generalize ((W0.alloc (.cells (bcells z32).toArray 31)).setRow W0.heap.size (bcells dO).toArray) = W1 at hbel1 gO gS gR ⊢
        generalize W0.heap.size = GO at gO ⊢
        have SO := hide gO
        have SS := hide gS
        have SR := hide gR
        clear K0 G0 G1 A0 hl0 hl1 hbA gO gS gR
        refine (hF _).mono ?_
        rintro e w1 ⟨rfl, he⟩
        cases he
        go_wp2_with ((with_reducible refine at_load ?_); refine wpList_load_row rfl 31 _ rfl w.heap.size (by rfl) 31 (bcells s).toArray (0, 0) _ (unhide SS) Tryd.underlying31 rfl (unhide VS) ?_)
        refine (unhide HA _ (unhide HD _ hbel1) (unhide HT _ hbel1)).mono ?_
        rintro e w2 ⟨rfl, hb2⟩
        have hbel2 := hbel1.trans (hb2.mono hbel1.size)
        have gO2 : BRow w2 GO 31 dO := (hb2.block _ (lt_of_block (unhide SO))).trans (unhide SO)
        have gR2 : BRow w2 (w.heap.size + 1) 31 z32 := (hb2.block _ (lt_of_block (unhide SR))).trans (unhide SR)
        have hlO := lt_of_block gO2
        have hlR := lt_of_block gR2
        have TO := hide gO2
        have TR := hide gR2
        have VA := hide (v_dg dA da)
        have ZA := hide (v_z32 dA da)
        have VN := hide (v_dg dN dn)
        have ZN := hide (v_z32 dN dn)
        clear gO2 gR2 hb2 hbel1 SO SS SR hF HA HD
        go_wp2_with (first | ((with_reducible refine at_store ?_); refine wpList_store_row rfl 31 _ _ rfl w2.heap.size (bcells dA).toArray rfl rfl 31 _ (heap_alloc_new w2 _) (unhide VA) (unhide ZA) (bcells_one dA) ?_) | ((with_reducible refine at_load ?_); first | refine wpList_load_row rfl 31 _ rfl GO (by rfl) 31 (bcells dO).toArray (0, 0) _ ((heap_put_old w2 _ _ _ _ hlO).trans (unhide TO)) Tryd.underlying31 rfl (unhide VO) ?_ | refine wpList_load_row rfl 31 _ rfl w2.heap.size (by rfl) 31 (bcells dA).toArray (0, 0) _ (heap_put_new w2 _ _ _) Tryd.underlying31 rfl (unhide VA) ?_))
        rw [← z32_cells]
        have hbB : Below w.heap.size w ((w2.alloc (.cells (bcells z32).toArray 31)).setRow w2.heap.size (bcells dA).toArray) := below_row (hbel2.alloc hbel2.size _) hbel2.size _
        have gR3 : BRow ((w2.alloc (.cells (bcells z32).toArray 31)).setRow w2.heap.size (bcells dA).toArray) (w.heap.size + 1) 31 z32 := (heap_put_old w2 _ _ _ _ hlR).trans (unhide TR)
        generalize ((w2.alloc (.cells (bcells z32).toArray 31)).setRow w2.heap.size (bcells dA).toArray) = W3 at hbB gR3 ⊢
        refine (unhide HN _ (unhide HT _ hbB)).mono ?_
        rintro e w4 ⟨rfl, hb4⟩
        have hbel4 := hbB.trans (hb4.mono hbB.size)
        have V1 := hide (show BRow w4 (w.heap.size + 1) 31 z32 from (hb4.block _ (lt_of_block gR3)).trans gR3)
        clear hb4 hbB gR3 HN HT TO TR hbel2 hlO hlR
        go_wp2_with ((with_reducible refine at_store ?_); refine wpList_store_row rfl 31 _ _ rfl (w.heap.size + 1) (bcells dN).toArray rfl rfl 31 _ (unhide V1) (unhide VN) (unhide ZN) (bcells_one dN) ?_)
        refine bodyPost_ret (v := .agg (bcells dN).toArray) ?_ rfl ⟨rfl, below_row hbel4 (by omega) _⟩
        exact results_cell_row Tryd.results101 _ _ (w.heap.size + 1) 31 _ (0, 0) _ rfl (setRow_heap _ _ _ _ _ _ (unhide V1)) Tryd.underlying31 rfl (unhide VN)
      · have hA := fun wq hd ht => ih s (n - half n) (i - half n) (.slice (some ⟨b, off, none⟩) (ps.length - 1) cap) (ps.take (ps.length - 1)) wq (by omega) (by omega) (by omega) hs hd ht
        have da := climbL_length s (n - half n) (i - half n) (ps.take (ps.length - 1)) hs
        have hN := fun wq ht => node_any _ _ wq hdl da ht
        have dn : (nd (ps.getD (ps.length - 1) []) (climbL s (n - half n) (i - half n) (ps.take (ps.length - 1)))).length = 32 := sha_length _
        rw [climbL_right s n i ps hn2 hp0 hlt]
        generalize nd (ps.getD (ps.length - 1) []) (climbL s (n - half n) (i - half n) (ps.take (ps.length - 1))) = dN at hN dn ⊢
        generalize climbL s (n - half n) (i - half n) (ps.take (ps.length - 1)) = dA at hA hN da
        generalize ps.getD (ps.length - 1) [] = dO at *
        generalize half n = m at *
        rw [show ((n - m : Nat) : Int) = (n : Int) - (m : Int) by omega, show ((i - m : Nat) : Int) = (i : Int) - (m : Int) by omega] at hA
        have f0 : decide ((i : Int) < (m : Int)) = false := by simp; omega
        have HA := hide hA
        have HN := hide hN
        clear hA hN ih hD hT
        go_enter Tryd.func101, Tryd.ntmps101
        go_upto_region 1 with fail
        rw [← z32_cells]
        generalize ((w.alloc (.cells (bcells s).toArray 31)).alloc (.cells (bcells z32).toArray 31)) = W0 at K0 G0 G1 A0 ⊢
        have hl0 := lt_of_block (unhide G0)
        have hl1 := lt_of_block (unhide G1)
        go_wp2_with (first | ((with_reducible refine at_load ?_); refine wpList_load_mid rfl 31 _ rfl b (off + (ps.length - 1) * 32) (by rfl) (bcells dO) _ (unhide A0) Tryd.underlying31 rfl (unhide VM) ?_) | ((with_reducible refine at_store ?_); refine wpList_store_row rfl 31 _ _ rfl W0.heap.size (bcells dO).toArray rfl rfl 31 _ (heap_alloc_new W0 _) (unhide VO) (unhide ZO) (bcells_one dO) ?_))
        rw [← z32_cells]
        have hbA := below_put W0 (bcells z32).toArray (bcells dO).toArray 31
        have gO : BRow ((W0.alloc (.cells (bcells z32).toArray 31)).setRow W0.heap.size (bcells dO).toArray) W0.heap.size 31 dO := heap_put_new _ _ _ _
        have gS : BRow ((W0.alloc (.cells (bcells z32).toArray 31)).setRow W0.heap.size (bcells dO).toArray) w.heap.size 31 s := (heap_put_old W0 _ _ _ _ hl0).trans (unhide G0)
        have gR : BRow ((W0.alloc (.cells (bcells z32).toArray 31)).setRow W0.heap.size (bcells dO).toArray) (w.heap.size + 1) 31 z32 := (heap_put_old W0 _ _ _ _ hl1).trans (unhide G1)
        have hbel1 := (unhide K0).trans (hbA.mono (unhide K0).size)
        generalize ((W0.alloc (.cells (bcells z32).toArray 31)).setRow W0.heap.size (bcells dO).toArray) = W1 at hbel1 gO gS gR ⊢
        generalize W0.heap.size = GO at gO ⊢
        have SO := hide gO
        have SS := hide gS
        have SR := hide gR
        clear K0 G0 G1 A0 hl0 hl1 hbA gO gS gR
        refine (hF _).mono ?_
        rintro e w1 ⟨rfl, he⟩
        cases he
        go_wp2_with ((with_reducible refine at_load ?_); refine wpList_load_row rfl 31 _ rfl w.heap.size (by rfl) 31 (bcells s).toArray (0, 0) _ (unhide SS) Tryd.underlying31 rfl (unhide VS) ?_)
        refine (unhide HA _ (unhide HD _ hbel1) (unhide HT _ hbel1)).mono ?_
        rintro e w2 ⟨rfl, hb2⟩
        have hbel2 := hbel1.trans (hb2.mono hbel1.size)
        have gO2 : BRow w2 GO 31 dO := (hb2.block _ (lt_of_block (unhide SO))).trans (unhide SO)
        have gR2 : BRow w2 (w.heap.size + 1) 31 z32 := (hb2.block _ (lt_of_block (unhide SR))).trans (unhide SR)
        have hlO := lt_of_block gO2
        have hlR := lt_of_block gR2
        have TO := hide gO2
        have TR := hide gR2
        have VA := hide (v_dg dA da)
        have ZA := hide (v_z32 dA da)
        have VN := hide (v_dg dN dn)
        have ZN := hide (v_z32 dN dn)
        clear gO2 gR2 hb2 hbel1 SO SS SR hF HA HD
        go_wp2_with (first | ((with_reducible refine at_store ?_); refine wpList_store_row rfl 31 _ _ rfl w2.heap.size (bcells dA).toArray rfl rfl 31 _ (heap_alloc_new w2 _) (unhide VA) (unhide ZA) (bcells_one dA) ?_) | ((with_reducible refine at_load ?_); first | refine wpList_load_row rfl 31 _ rfl GO (by rfl) 31 (bcells dO).toArray (0, 0) _ ((heap_put_old w2 _ _ _ _ hlO).trans (unhide TO)) Tryd.underlying31 rfl (unhide VO) ?_ | refine wpList_load_row rfl 31 _ rfl w2.heap.size (by rfl) 31 (bcells dA).toArray (0, 0) _ (heap_put_new w2 _ _ _) Tryd.underlying31 rfl (unhide VA) ?_))
        rw [← z32_cells]
        have hbB : Below w.heap.size w ((w2.alloc (.cells (bcells z32).toArray 31)).setRow w2.heap.size (bcells dA).toArray) := below_row (hbel2.alloc hbel2.size _) hbel2.size _
        have gR3 : BRow ((w2.alloc (.cells (bcells z32).toArray 31)).setRow w2.heap.size (bcells dA).toArray) (w.heap.size + 1) 31 z32 := (heap_put_old w2 _ _ _ _ hlR).trans (unhide TR)
        generalize ((w2.alloc (.cells (bcells z32).toArray 31)).setRow w2.heap.size (bcells dA).toArray) = W3 at hbB gR3 ⊢
        refine (unhide HN _ (unhide HT _ hbB)).mono ?_
        rintro e w4 ⟨rfl, hb4⟩
        have hbel4 := hbB.trans (hb4.mono hbB.size)
        have V1 := hide (show BRow w4 (w.heap.size + 1) 31 z32 from (hb4.block _ (lt_of_block gR3)).trans gR3)
        clear hb4 hbB gR3 HN HT TO TR hbel2 hlO hlR
        go_wp2_with ((with_reducible refine at_store ?_); refine wpList_store_row rfl 31 _ _ rfl (w.heap.size + 1) (bcells dN).toArray rfl rfl 31 _ (unhide V1) (unhide VN) (unhide ZN) (bcells_one dN) ?_)
        refine bodyPost_ret (v := .agg (bcells dN).toArray) ?_ rfl ⟨rfl, below_row hbel4 (by omega) _⟩
        exact results_cell_row Tryd.results101 _ _ (w.heap.size + 1) 31 _ (0, 0) _ rfl (setRow_heap _ _ _ _ _ _ (unhide V1)) Tryd.underlying31 rfl (unhide VN)
end Go.Proofs.YtanfolfopalbeaaDoor
