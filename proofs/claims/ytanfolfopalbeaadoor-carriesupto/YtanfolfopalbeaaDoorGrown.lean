import Derived.Test.YtanfolfopalbeaaDoorTreeRoot2
import Derived.Deep.RegionWith
import Derived.Deep.CutRange
namespace Go.Proofs.YtanfolfopalbeaaDoor
open Go.RowKit

theorem rootR_of (xs : List ByteArray) (h : xs.length ≤ 100) (hz : ∀ s ∈ xs, s.size ≤ 20) : rootR xs = rootL xs := by
  unfold rootR
  rw [if_pos (chk_of xs h hz)]
theorem strs_cell {w : World} {b off n cap : Nat} {ss : List ByteArray} (h : Strs w (.slice (some ⟨b, off, none⟩) n cap) ss) (i : Nat) (hi : i < ss.length) : w.cell? ⟨b, off + i, none⟩ = some (.string (ss.getD i ByteArray.empty)) := by
  obtain ⟨ao, cap', he, h1, h2, h3⟩ := h
  simp only [Value.slice.injEq] at he
  obtain ⟨rfl, rfl, rfl⟩ := he
  rcases h3 with rfl | ⟨b', off', he, hc⟩
  · cases hi
  · simp only [Option.some.injEq, Addr.mk.injEq, and_true] at he
    obtain ⟨rfl, rfl⟩ := he
    exact hc i hi
/-- A digest that is put into a new block. -/
theorem below_put (w : World) (c d : Array Value) (t : TypeId) : Below w.heap.size w ((w.alloc (.cells c t)).setRow w.heap.size d) := below_row ((Below.refl _ _).alloc (Nat.le_refl _) _) (Nat.le_refl _) _
/-- A block that was made ahead of a call in a region that draws, as it lies behind it. -/
theorem made_dig {w0 w1 : World} {c : Array Value} {t : TypeId} (hc : (bcells z32).toArray = c) (hb : Below (w0.alloc (.cells c t)).drew.heap.size (w0.alloc (.cells c t)).drew w1) : w1.heap[w0.heap.size]? = some (.cells (bcells z32).toArray t (0, 0)) := by
  subst hc
  rw [hb.block _ (by show w0.heap.size < (w0.alloc _).heap.size; simp)]
  exact heap_alloc_new w0 _
theorem put_new_dig (w : World) (c : Array Value) (d : List UInt8) (hd : d.length = 32) (hc : (bcells z32).toArray = c) :
    (storeCells ⟨w.heap.size, 0, none⟩ (bcells d)).run Tryd.prog (w.alloc (.cells c 31)) = .ok () ((w.alloc (.cells c 31)).setRow w.heap.size (bcells d).toArray) := by
  subst hc
  exact store_dig w.heap.size z32 d _ (by rw [hd]; rfl) (heap_alloc_new w _)
theorem take_small {xs : List ByteArray} (hz : ∀ s ∈ xs, s.size ≤ 20) (k : Nat) : ∀ s ∈ xs.take k, s.size ≤ 20 := fun s h => hz s (List.mem_of_mem_take h)
theorem drop_small {xs : List ByteArray} (hz : ∀ s ∈ xs, s.size ≤ 20) (k : Nat) : ∀ s ∈ xs.drop k, s.size ≤ 20 := fun s h => hz s (List.mem_of_mem_drop h)

set_option maxRecDepth 100000 in
set_option maxHeartbeats 1600000 in
theorem grown_some (v : Value) (ss : List ByteArray) (c1 : Int) (w : World) (hS : Strs w v ss) (hsz : ∀ i, i < ss.length → (ss.getD i ByteArray.empty).size ≤ maxLen)
    (h1 : -9223372036854775808 ≤ c1 ∧ c1 ≤ 9223372036854775807) (hT : Tabs w) (hne : ss ≠ []) :
    Calls Tryd.prog 8 #[v, .int .i64 c1] w fun e w' => e = .returned (.bool true) ∧ Below w.heap.size w w' := by
  have HS := hide hS
  have HZ := hide hsz
  have HT := hide hT
  have HNE := hide hne
  clear hS hsz hT hne
  go_enter Tryd.func8, Tryd.ntmps8
  go_wp2_with fail
  refine (entries_any v ss _ (unhide HS) (unhide HZ)).mono ?_
  rintro e w1 ⟨v1, rfl, hown1, hb1⟩
  have hxl : (ents ss (min 100 ss.length)).length ≤ 100 := by rw [ents_length]; omega
  have hxz := ents_small ss (min 100 ss.length)
  have hxn : 0 < (ents ss (min 100 ss.length)).length := by
    rw [ents_length]
    have : 0 < ss.length := List.length_pos_iff.2 (unhide HNE)
    omega
  generalize ents ss (min 100 ss.length) = xs at hown1 hxl hxz hxn
  have hS1 := strs_of_own hown1
  obtain ⟨b, off, cap, hv1, hcap⟩ := strs_shape hS1 (by intro h; rw [h] at hxn; simp at hxn)
  subst hv1
  have hbel1 := hb1
  have HX := hide hxz
  have S1 := hide hS1
  clear hown1 hxz hS1 hb1
  go_wp2_with fail
  refine (known_any _ ((unhide HT).below hbel1 (Nat.le_refl _))).mono ?_
  rintro e w2 ⟨rfl, hb2⟩
  have hbel2 := hbel1.trans (hb2.mono hbel1.size)
  have S2 := hide ((unhide S1).below hb2 (Nat.le_refl _))
  clear S1 hb2 hbel1
  have hx0 : ((xs.length : Int) == 0) = false := by rw [beq_eq_false_iff_ne]; omega
  have hx1 : (1 : Int) ≤ (cap : Int) := by omega
  go_wp2_with fail
  obtain ⟨x0, hx0e⟩ : ∃ x0, x0 = xs.getD 0 ByteArray.empty := ⟨_, rfl⟩
  have hR1 : rootR (xs.take 1) = lf x0 := by
    rw [rootR_of _ (by rw [List.length_take]; omega) (take_small (unhide HX) 1), rootL_one _ (by rw [List.length_take]; omega), hx0e]
    congr 1
    simp only [List.getD]
    rw [List.getElem?_take_of_lt (by omega)]
  refine (Root_any _ (xs.take 1) _ ((unhide S2).front 1 (by omega)) ((unhide HT).below hbel2 (Nat.le_refl _))).mono ?_
  rw [hR1, chk_of (xs.take 1) (by rw [List.length_take]; omega) (take_small (unhide HX) 1)]
  rintro e w3 ⟨rfl, hb3⟩
  have hbel3 := hbel2.trans (hb3.mono hbel2.size)
  have S3 := hide ((unhide S2).below hb3 (Nat.le_refl _))
  have hcx := strs_cell (unhide S3) 0 hxn
  rw [← hx0e, Nat.add_zero] at hcx
  have hx0s : x0.size ≤ 20 := by
    rw [hx0e, List.getD, List.getElem?_eq_getElem hxn]
    exact unhide HX _ (List.getElem_mem hxn)
  have hnw := fun wq h => NewSum_any (ByteArray.mk #[0] ++ x0) wq (by rw [cons_size]; omega) h
  rw [cons_data] at hnw
  have hdl : (lf x0).length = 32 := sha_length _
  have hlf : lf x0 = shaL (0 :: x0.data.toList) := rfl
  rw [← hlf] at hnw
  generalize lf x0 = d0 at hnw hdl ⊢
  have V2 := hide (v_dg d0 hdl)
  have V3 := hide (v_z32 d0 hdl)
  have hsame := fun wq => digest_same d0 hdl wq
  have hcx3 : ∀ c, ((w3.alloc (.cells c 31)).setRow w3.heap.size (bcells d0).toArray).cell? ⟨b, off, none⟩ = some (.string x0) := fun c => by
    rw [(below_put w3 c _ _).cell (p := ⟨b, off, none⟩) (cell_lt hcx)]
    exact hcx
  clear hR1 hlf hb3 hbel2 S2 hcx hx0e hdl
  go_wp2_with (first | ((with_reducible refine at_store ?_); refine wpList_store_row rfl 31 _ _ rfl w3.heap.size (bcells d0).toArray rfl rfl 31 _ (heap_alloc_new w3 _) (unhide V2) (unhide V3) (bcells_one d0) ?_))
  rw [← z32_cells]
  have hbA := below_put w3 (bcells z32).toArray (bcells d0).toArray 31
  have gA : BRow ((w3.alloc (.cells (bcells z32).toArray 31)).setRow w3.heap.size (bcells d0).toArray) w3.heap.size 31 d0 := heap_put_new _ _ _ _
  generalize ((w3.alloc (.cells (bcells z32).toArray 31)).setRow w3.heap.size (bcells d0).toArray) = WA at hbA gA ⊢
  have hbelA := hbel3.trans (hbA.mono hbel3.size)
  refine (hnw _ ((unhide HT).below hbelA (Nat.le_refl _))).mono ?_
  rintro e w4 ⟨rfl, hb4⟩
  have hbel4 := hbelA.trans (hb4.mono hbelA.size)
  have S4 := hide ((unhide S3).below (hbA.trans (hb4.mono hbA.size)) (Nat.le_refl _))
  have gA4 : BRow w4 w3.heap.size 31 d0 := (hb4.block _ (lt_of_block gA)).trans gA
  have hl4 := lt_of_block gA4
  have A4 := hide gA4
  generalize w3.heap.size = GA at A4 hl4 ⊢
  clear hnw hcx3 hb4 hbelA S3 gA gA4 hbA hbel3
  go_wp2_with (first | ((with_reducible refine at_store ?_); refine wpList_store_row rfl 31 _ _ rfl w4.heap.size (bcells d0).toArray rfl rfl 31 _ (heap_alloc_new w4 _) (unhide V2) (unhide V3) (bcells_one d0) ?_) | ((with_reducible refine at_load2 ?_); first | refine wpList_load_row_w (by rfl) 31 _ rfl GA (by rfl) 31 (bcells d0).toArray (0, 0) _ ((heap_put_old w4 _ _ _ _ hl4).trans (unhide A4)) Tryd.underlying31 rfl (unhide V2) ?_ | refine wpList_load_row_w (by rfl) 31 _ rfl w4.heap.size (by rfl) 31 (bcells d0).toArray (0, 0) _ (heap_put_new w4 _ _ _) Tryd.underlying31 rfl (unhide V2) ?_))
  rw [← z32_cells]
  have hbB := below_put w4 (bcells z32).toArray (bcells d0).toArray 31
  generalize ((w4.alloc (.cells (bcells z32).toArray 31)).setRow w4.heap.size (bcells d0).toArray) = WB at hbB ⊢
  have hbelB := hbel4.trans (hbB.mono hbel4.size)
  have SB := hide ((unhide S4).below hbB (Nat.le_refl _))
  generalize w4.heap.size = GB
  clear A4 hl4 V2 V3 hsame hbB hbel4 S4 hx0s hx0 hx1
  refine (pick_any c1 7 _ h1 (by omega) (by omega)).mono ?_
  rintro e w5 ⟨k, hk, rfl, rfl⟩
  obtain ⟨m, hme⟩ : ∃ m : Nat, m = 2 ^ k := ⟨_, rfl⟩
  have hm0 : 0 < m := by rw [hme]; exact Nat.two_pow_pos k
  have hm1 : m ≤ 64 := by rw [hme]; exact (Nat.pow_le_pow_right (by decide) (show k ≤ 6 by omega) : 2 ^ k ≤ 2 ^ 6)
  have hmw : wrap64 (2 ^ k) = (m : Int) := by
    have : ((2 : Int) ^ k) = (m : Int) := by rw [hme]; simp
    rw [this]
    exact IntWalk.wrap64_in _ (by omega)
  have HME := hide hme
  clear hme
  obtain ⟨N, hN⟩ : ∃ N : Nat, N = min (2 * m) xs.length := ⟨_, rfl⟩
  go_upto_if 56 with fail
  go_cut [11] from 53 to 58 (fun p wx => p = .int .i64 N ∧ wx = w5)
  case first =>
    by_cases hc : xs.length < 2 * m
    · have hd : decide ((xs.length : Int) < 2 * (m : Int)) = true := by simp; omega
      go_wp2_with fail
      go_meet
      exact ⟨val_int (by omega), rfl⟩
    · have hd : decide ((xs.length : Int) < 2 * (m : Int)) = false := by simp; omega
      go_wp2_with fail
      go_meet
      exact ⟨val_int (by omega), rfl⟩
  case rest =>
    obtain ⟨rfl, rfl⟩ := hcut
    rw [hmw]
    clear hmw
    have HTX := hide (fun wq hb => (unhide HT).below (w' := wq) (B := w.heap.size) hb (Nat.le_refl _))
    clear HT
    by_cases hC : N ≤ m
    · have hd : decide ((N : Int) ≤ (m : Int)) = true := by simp; omega
      go_wp2
      go_ret
      exact ⟨rfl, hbelB⟩
    have hd : decide ((N : Int) ≤ (m : Int)) = false := by simp; omega
    have hNx : N ≤ xs.length := by omega
    have hN2 : N ≤ m + m := by omega
    have hmN : m < N := by omega
    have f1 : (m : Int) ≤ (cap : Int) := by omega
    have f2 : (N : Int) ≤ (cap : Int) := by omega
    have f3 : (m : Int) ≤ (N : Int) := by omega
    have hroot : rootL (xs.take N) = nd (rootL (xs.take m)) (rootL ((xs.take N).drop m)) := by
      have hl : (xs.take N).length = N := by rw [List.length_take]; omega
      rw [rootL_two _ (by omega), hl, half_of N k (by rw [← unhide HME]; exact hmN) (by rw [← unhide HME]; exact hN2), ← unhide HME, List.take_take, Nat.min_eq_left (by omega)]
    have ha := fun wq hs ht => Root_any (.slice (some ⟨b, off, none⟩) m cap) (xs.take m) wq hs ht
    have hb := fun wq hs ht => Root_any (.slice (some ⟨b, off + m, none⟩) (N - m) (cap - m)) ((xs.take N).drop m) wq hs ht
    have hc := fun wq hs ht => Root_any (.slice (some ⟨b, off, none⟩) N cap) (xs.take N) wq hs ht
    rw [rootR_of _ (by rw [List.length_take]; omega) (take_small (unhide HX) m), chk_of _ (by rw [List.length_take]; omega) (take_small (unhide HX) m)] at ha
    rw [rootR_of _ (by rw [List.length_drop, List.length_take]; omega) (drop_small (take_small (unhide HX) N) m), chk_of _ (by rw [List.length_drop, List.length_take]; omega) (drop_small (take_small (unhide HX) N) m)] at hb
    rw [rootR_of _ (by rw [List.length_take]; omega) (take_small (unhide HX) N), chk_of _ (by rw [List.length_take]; omega) (take_small (unhide HX) N), hroot] at hc
    have da := rootL_length (xs.take m)
    have db := rootL_length ((xs.take N).drop m)
    have SX := hide (fun wq hb => ((unhide SB).below (w' := wq) (B := wc.heap.size) hb (Nat.le_refl _)).front m (by omega))
    have SY := hide (fun wq hb => (((unhide SB).below (w' := wq) (B := wc.heap.size) hb (Nat.le_refl _)).front N (by omega)).back m (by omega))
    have SZ := hide (fun wq hb => ((unhide SB).below (w' := wq) (B := wc.heap.size) hb (Nat.le_refl _)).front N (by omega))
    generalize rootL (xs.take m) = dA at ha hc da hroot
    generalize rootL ((xs.take N).drop m) = dB at hb hc db hroot
    have hS3 : (ByteArray.mk #[1] ++ mk dA ++ mk dB).size ≤ 140737488351232 := by
      rw [ByteArray.size_append, cons_size, mk_size, mk_size]
      omega
    have hnd : nd dA dB = shaL ((ByteArray.mk #[1] ++ mk dA ++ mk dB).data.toList) := by
      unfold nd
      rw [ByteArray.data_append, Array.toList_append, cons_data, mk_data, mk_data]
      rfl
    have hpost := fun wq h => NewSum_any (ByteArray.mk #[1] ++ mk dA ++ mk dB) wq hS3 h
    rw [← hnd] at hpost
    have dn : (nd dA dB).length = 32 := sha_length _
    generalize nd dA dB = dN at hpost dn hc
    have VA := hide (v_dg dA da)
    have VB := hide (v_dg dB db)
    have VN := hide (v_dg dN dn)
    have ZA := hide (v_z32 dA da)
    have ZB := hide (v_z32 dB db)
    have ZN := hide (v_z32 dN dn)
    have HA := hide ha
    have HB := hide hb
    have HC := hide hc
    have HBelB := hide hbelB
    clear hroot hnd ha hb hc hbelB hN SB HX
    go_wp2_with fail
    refine (unhide HA _ (unhide SX _ (Below.refl _ _)) (unhide HTX _ (unhide HBelB))).mono ?_
    rintro e w1 ⟨rfl, hb1⟩
    have hl1 := hb1.size
    clear HA SX
    go_wp2_with ((with_reducible refine at_store ?_); refine wpList_store_row rfl 31 _ _ rfl w1.heap.size (bcells dA).toArray rfl rfl 31 _ (heap_alloc_new w1 _) (unhide VA) (unhide ZA) (bcells_one dA) ?_)
    rw [← z32_cells]
    have hbA : Below wc.heap.size wc ((w1.alloc (.cells (bcells z32).toArray 31)).setRow w1.heap.size (bcells dA).toArray) := below_row (hb1.alloc hb1.size _) hb1.size _
    have gA : BRow ((w1.alloc (.cells (bcells z32).toArray 31)).setRow w1.heap.size (bcells dA).toArray) w1.heap.size 31 dA := heap_put_new _ _ _ _
    generalize ((w1.alloc (.cells (bcells z32).toArray 31)).setRow w1.heap.size (bcells dA).toArray) = WA at hbA gA ⊢
    generalize w1.heap.size = GA at gA hl1 ⊢
    clear hb1
    refine (unhide HB _ (unhide SY _ hbA) (unhide HTX _ ((unhide HBelB).trans (hbA.mono (unhide HBelB).size)))).mono ?_
    rintro e w2 ⟨rfl, hb2⟩
    have hbA2 := hbA.trans (hb2.mono hbA.size)
    have gA2 : BRow w2 GA 31 dA := (hb2.block _ (lt_of_block gA)).trans gA
    have hl2 := lt_of_block gA2
    have A2 := hide gA2
    clear gA gA2 hb2 hbA HB SY
    go_wp2_with ((with_reducible refine at_store ?_); refine wpList_store_row rfl 31 _ _ rfl w2.heap.size (bcells dB).toArray rfl rfl 31 _ (heap_alloc_new w2 _) (unhide VB) (unhide ZB) (bcells_one dB) ?_)
    rw [← z32_cells]
    have hbB : Below wc.heap.size wc ((w2.alloc (.cells (bcells z32).toArray 31)).setRow w2.heap.size (bcells dB).toArray) := below_row (hbA2.alloc hbA2.size _) hbA2.size _
    have gB : BRow ((w2.alloc (.cells (bcells z32).toArray 31)).setRow w2.heap.size (bcells dB).toArray) w2.heap.size 31 dB := heap_put_new _ _ _ _
    have gA3 : BRow ((w2.alloc (.cells (bcells z32).toArray 31)).setRow w2.heap.size (bcells dB).toArray) GA 31 dA := (heap_put_old w2 _ _ _ _ hl2).trans (unhide A2)
    generalize ((w2.alloc (.cells (bcells z32).toArray 31)).setRow w2.heap.size (bcells dB).toArray) = WB at hbB gB gA3 ⊢
    generalize w2.heap.size = GB' at gB ⊢
    clear A2 hbA2 hl2
    refine (unhide HC _ (unhide SZ _ hbB) (unhide HTX _ ((unhide HBelB).trans (hbB.mono (unhide HBelB).size)))).mono ?_
    rintro e w3 ⟨rfl, hb3⟩
    have hbB3 := hbB.trans (hb3.mono hbB.size)
    have gA4 : BRow w3 GA 31 dA := (hb3.block _ (lt_of_block gA3)).trans gA3
    have gB4 : BRow w3 GB' 31 dB := (hb3.block _ (lt_of_block gB)).trans gB
    have hlA := lt_of_block gA4
    have hlB := lt_of_block gB4
    have A4 := hide gA4
    have B4 := hide gB4
    clear gA3 gB hb3 hbB gA4 gB4 HC SZ
    go_upto_region 18 with ((with_reducible refine at_store ?_); refine wpList_store_row rfl 31 _ _ rfl w3.heap.size (bcells dN).toArray rfl rfl 31 _ (heap_alloc_new w3 _) (unhide VN) (unhide ZN) (bcells_one dN) ?_)
    rw [← z32_cells]
    have hbC : Below wc.heap.size wc ((w3.alloc (.cells (bcells z32).toArray 31)).setRow w3.heap.size (bcells dN).toArray) := below_row (hbB3.alloc hbB3.size _) hbB3.size _
    have gC : BRow ((w3.alloc (.cells (bcells z32).toArray 31)).setRow w3.heap.size (bcells dN).toArray) w3.heap.size 31 dN := heap_put_new _ _ _ _
    have gA5 : BRow ((w3.alloc (.cells (bcells z32).toArray 31)).setRow w3.heap.size (bcells dN).toArray) GA 31 dA := (heap_put_old w3 _ _ _ _ hlA).trans (unhide A4)
    have gB5 : BRow ((w3.alloc (.cells (bcells z32).toArray 31)).setRow w3.heap.size (bcells dN).toArray) GB' 31 dB := (heap_put_old w3 _ _ _ _ hlB).trans (unhide B4)
    generalize ((w3.alloc (.cells (bcells z32).toArray 31)).setRow w3.heap.size (bcells dN).toArray) = WC at hbC gC gA5 gB5 ⊢
    generalize w3.heap.size = GC at gC ⊢
    clear A4 B4 hbB3 hlA hlB VA VB ZA ZB
    have hbC1 : ∀ o, Below WC.heap.size WC (WC.alloc o).drew := fun o => ((Below.refl _ _).alloc (Nat.le_refl _) o).drew
    have hcA := conv_row GA dA WC.drew da gA5
    have hcB := conv_row GB' dB WC.drew db gB5
    have hcA1 := fun o => conv_row GA dA (WC.alloc o).drew da (((hbC1 o).block _ (lt_of_block gA5)).trans gA5)
    have hcB1 := fun o => conv_row GB' dB (WC.alloc o).drew db (((hbC1 o).block _ (lt_of_block gB5)).trans gB5)
    have hsA : (mk dA).size = 32 := by rw [mk_size, da]
    have hsB : (mk dB).size = 32 := by rw [mk_size, db]
    have hbelC := (unhide HBelB).trans (hbC.mono (unhide HBelB).size)
    have HT0 := hide (show Tabs WC.drew from unhide HTX _ hbelC.drew)
    have HT1 := hide (fun o => show Tabs (WC.alloc o).drew from unhide HTX _ (hbelC.trans ((hbC1 o).mono hbelC.size)))
    have hcl : (bcells dN).length = 32 := by rw [← dn]; simp [bcells]
    have HGC := hide gC
    have FA := hide (fun (w9 : World) (c : Array Value) (hb9 : Below WC.drew.heap.size WC.drew w9) => show ∃ g : Nat, Value.pointer (some ⟨w9.heap.size, 0, none⟩) = .pointer (some ⟨g, 0, none⟩) ∧ ((w9.alloc (.cells c 31)).setRow w9.heap.size (bcells dN).toArray).heap[g]? = some (.cells (bcells dN).toArray 31 (0, 0)) ∧ ((w9.alloc (.cells c 31)).setRow w9.heap.size (bcells dN).toArray).heap[GC]? = some (.cells (bcells dN).toArray 31 (0, 0)) ∧ Below w.heap.size w ((w9.alloc (.cells c 31)).setRow w9.heap.size (bcells dN).toArray) from
      have h9 := hbelC.drew.trans (hb9.mono hbelC.drew.size)
      ⟨w9.heap.size, rfl, heap_put_new w9 _ _ _, (heap_put_old w9 _ _ _ _ (Nat.lt_of_lt_of_le (lt_of_block gC) hb9.size)).trans ((hb9.block _ (lt_of_block gC)).trans gC), below_row (h9.alloc h9.size _) h9.size _⟩)
    have FB := hide (fun (w9 : World) (o : Obj) (hb9 : Below (WC.alloc o).drew.heap.size (WC.alloc o).drew w9) (hg : w9.heap[WC.heap.size]? = some (.cells (bcells z32).toArray 31 (0, 0))) => show ∃ g : Nat, Value.pointer (some ⟨WC.heap.size, 0, none⟩) = .pointer (some ⟨g, 0, none⟩) ∧ (w9.setRow WC.heap.size (bcells dN).toArray).heap[g]? = some (.cells (bcells dN).toArray 31 (0, 0)) ∧ (w9.setRow WC.heap.size (bcells dN).toArray).heap[GC]? = some (.cells (bcells dN).toArray 31 (0, 0)) ∧ Below w.heap.size w (w9.setRow WC.heap.size (bcells dN).toArray) from
      have hx := hbC1 o
      have h9 := hx.trans (hb9.mono hx.size)
      have h8 := hbelC.trans (h9.mono hbelC.size)
      ⟨WC.heap.size, rfl, setRow_heap _ _ _ _ _ _ hg, (setRow_other _ _ _ _ (Nat.ne_of_lt (lt_of_block gC))).trans ((h9.block _ (lt_of_block gC)).trans gC), below_row h8 hbelC.size _⟩)
    clear gC gA5 gB5 hbC1 HGC
    go_cut [18] from 84 to 90 (fun p wx => ∃ g : Nat, p = .pointer (some ⟨g, 0, none⟩) ∧ wx.heap[g]? = some (.cells (bcells dN).toArray 31 (0, 0)) ∧ wx.heap[GC]? = some (.cells (bcells dN).toArray 31 (0, 0)) ∧ Below w.heap.size w wx)
    case first =>
      go_region_with (go_at_call 15; refine (hpost _ (by first | exact unhide HT0 | exact unhide HT1 _)).mono ?_; rintro e w9 ⟨rfl, hb9⟩; first | (have g9 := made_dig z32_cells hb9; have hst := store_dig WC.heap.size z32 dN w9 (by rw [dn]; rfl) g9; have G9 := hide g9; clear g9) | (have hst := put_new_dig w9 _ dN dn z32_cells))
      all_goals (go_wp2_with fail; go_meet)
      all_goals first | exact unhide FA _ _ hb9 | exact unhide FB _ _ hb9 (unhide G9)
    case rest =>
      obtain ⟨g, rfl, r1, r2, hbw⟩ := hcut
      have R1 := hide r1
      have R2 := hide r2
      have hsame := fun wq => digest_same dN dn wq
      clear r1 r2 FA FB hpost hcA hcB hcA1 hcB1 HT0 HT1
      go_wp2_with ((with_reducible refine at_load2 ?_); first | refine wpList_load_row_w (by rfl) 31 _ rfl GC (by rfl) 31 (bcells dN).toArray (0, 0) _ (unhide R2) Tryd.underlying31 rfl (unhide VN) ?_ | refine wpList_load_row_w (by rfl) 31 _ rfl g (by rfl) 31 (bcells dN).toArray (0, 0) _ (unhide R1) Tryd.underlying31 rfl (unhide VN) ?_)
      go_ret
      exact ⟨rfl, hbw⟩

set_option maxRecDepth 100000 in
set_option maxHeartbeats 800000 in
theorem grown_none (v : Value) (c1 : Int) (w : World) (hS : Strs w v []) (hT : Tabs w) :
    Calls Tryd.prog 8 #[v, .int .i64 c1] w fun e w' => e = .returned (.bool true) ∧ Below w.heap.size w w' := by
  have HS := hide hS
  have HT := hide hT
  clear hS hT
  go_enter Tryd.func8, Tryd.ntmps8
  go_wp2_with fail
  refine (entries_any v [] _ (unhide HS) (fun i h => absurd h (Nat.not_lt_zero i))).mono ?_
  rw [show ents [] (min 100 [].length) = [] from rfl]
  rintro e w1 ⟨v1, rfl, hown1, hb1⟩
  obtain ⟨ao, cap, hv1⟩ := own_shape hown1
  subst hv1
  clear hown1
  go_wp2_with fail
  refine (known_any _ ((unhide HT).below hb1 (Nat.le_refl _))).mono ?_
  rintro e w2 ⟨rfl, hb2⟩
  have hbel2 := hb1.trans (hb2.mono hb1.size)
  go_wp2
  go_ret
  exact ⟨rfl, hbel2⟩
theorem grown_any (v : Value) (ss : List ByteArray) (c1 : Int) (w : World) (hS : Strs w v ss) (hsz : ∀ i, i < ss.length → (ss.getD i ByteArray.empty).size ≤ maxLen)
    (h1 : -9223372036854775808 ≤ c1 ∧ c1 ≤ 9223372036854775807) (hT : Tabs w) :
    Calls Tryd.prog 8 #[v, .int .i64 c1] w fun e w' => e = .returned (.bool true) ∧ Below w.heap.size w w' := by
  by_cases hne : ss = []
  · subst hne
    exact grown_none v c1 w hS hT
  · exact grown_some v ss c1 w hS hsz h1 hT hne
end Go.Proofs.YtanfolfopalbeaaDoor
