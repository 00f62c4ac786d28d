/- ferrykeep's object Disk: what holds of it; told: the contract. -/
import Derived.Test.YtanfolfopalbeabDoorCarry6
import Derived.Test.YtanfolfopalbeabDoorKeep2
import Derived.Test.YtanfolfopalbeabDoorGrown
namespace Go.Proofs.YtanfolfopalbeabDoor
open Go.RowKit

theorem Strs.cut {w : World} {ao : Option Addr} {n cap : Nat} {ss : List ByteArray} (h : Strs w (.slice ao n cap) ss) (k : Nat) (hk : k ≤ n) : Strs w (.slice ao k cap) (ss.take k) := by
  obtain ⟨ao', cap', he, h1, h2, h3⟩ := h
  simp only [Value.slice.injEq] at he
  obtain ⟨rfl, rfl, rfl⟩ := he
  have hl : (ss.take k).length = k := by rw [List.length_take]; omega
  refine ⟨ao, cap, by rw [hl], by omega, h2, ?_⟩
  rcases h3 with rfl | ⟨b, off, rfl, hc⟩
  · simp
  · refine .inr ⟨b, off, rfl, fun i hi => ?_⟩
    rw [hc i (by omega)]
    simp only [List.getD]
    rw [List.getElem?_take_of_lt (by omega)]
/-- The object Disk: its cells. -/
def DkAt (w : World) (G : Nat) (T : ByteArray) (vl vd : Value) (k : Nat) : Prop := w.heap[G]? = some (.cells #[.string T, vl, vd, .int .i64 (k : Int)] 47 (0, 0))
/-- What holds of it in the world w, that came out of w0. -/
structure Dk (w0 w : World) (G : Nat) (T : ByteArray) (vl : Value) (xs : List ByteArray) (vd : Value) (ds : List (List UInt8)) (k : Nat) : Prop where
  cells : DkAt w G T vl vd k
  base : w0.heap.size ≤ G
  bel : Below w0.heap.size w0 w
  ownl : w.ownsRow w0.heap.size 9 1 vl xs.length (xs.map Value.string)
  nel : vl.ownBlock ≠ some G
  ownd : w.ownsRow w0.heap.size 88 32 vd ds.length (dcells ds)
  ned : vd.ownBlock ≠ some G
  elem : ∀ s ∈ ds, s.length = 32
theorem DkAt.c0 {w : World} {G : Nat} {T : ByteArray} {vl vd : Value} {k : Nat} (h : DkAt w G T vl vd k) : w.cell? ⟨G, 0, none⟩ = some (.string T) := by rw [cell_of_row w G 0 _ _ _ h]; rfl
theorem DkAt.c1 {w : World} {G : Nat} {T : ByteArray} {vl vd : Value} {k : Nat} (h : DkAt w G T vl vd k) : w.cell? ⟨G, 1, none⟩ = some vl := by rw [cell_of_row w G 1 _ _ _ h]; rfl
theorem DkAt.c2 {w : World} {G : Nat} {T : ByteArray} {vl vd : Value} {k : Nat} (h : DkAt w G T vl vd k) : w.cell? ⟨G, 2, none⟩ = some vd := by rw [cell_of_row w G 2 _ _ _ h]; rfl
theorem DkAt.c3 {w : World} {G : Nat} {T : ByteArray} {vl vd : Value} {k : Nat} (h : DkAt w G T vl vd k) : w.cell? ⟨G, 3, none⟩ = some (.int .i64 (k : Int)) := by rw [cell_of_row w G 3 _ _ _ h]; rfl
theorem DkAt.free {w : World} {G : Nat} {T : ByteArray} {vl vd : Value} {k : Nat} (h : DkAt w G T vl vd k) (j : Nat) : w.frozen? ⟨G, j, none⟩ = false := frozen_of_row w G j _ _ h
theorem Dk.below {w0 w w' : World} {G : Nat} {T : ByteArray} {vl : Value} {xs : List ByteArray} {vd : Value} {ds : List (List UInt8)} {k : Nat} (h : Dk w0 w G T vl xs vd ds k) (hb : Below w.heap.size w w') : Dk w0 w' G T vl xs vd ds k :=
  ⟨(hb.block _ (lt_of_block h.cells)).trans h.cells, h.base, h.bel.trans (hb.mono h.bel.size), own_keep h.ownl hb, h.nel, own_keep h.ownd hb, h.ned, h.elem⟩
theorem grown_set {w : World} (G j : Nat) (v : Value) : w.grownBy (w.setCell ⟨G, j, none⟩ v) (some G) :=
  ⟨rfl, rfl, rfl, by simp [World.setCell], fun k _ hne => heap_setCell_other _ _ _ _ (fun e => hne (by rw [e]))⟩
theorem Dk.setK {w0 w : World} {G : Nat} {T : ByteArray} {vl : Value} {xs : List ByteArray} {vd : Value} {ds : List (List UInt8)} {k : Nat} (h : Dk w0 w G T vl xs vd ds k) (k' : Nat) : Dk w0 (w.setCell ⟨G, 3, none⟩ (.int .i64 (k' : Int))) G T vl xs vd ds k' :=
  ⟨by unfold DkAt; rw [heap_setCell_same w G 3 _ _ _ h.cells]; rfl, h.base, h.bel.setCell (by exact h.base) _, h.ownl.kept (grown_set G 3 _) (.inr h.nel), h.nel, h.ownd.kept (grown_set G 3 _) (.inr h.ned), h.ned, h.elem⟩
theorem Dk.strs {w0 w : World} {G : Nat} {T : ByteArray} {vl : Value} {xs : List ByteArray} {vd : Value} {ds : List (List UInt8)} {k : Nat} (h : Dk w0 w G T vl xs vd ds k) : Strs w vl xs := strs_of_own h.ownl
theorem Dk.digs {w0 w : World} {G : Nat} {T : ByteArray} {vl : Value} {xs : List ByteArray} {vd : Value} {ds : List (List UInt8)} {k : Nat} (h : Dk w0 w G T vl xs vd ds k) : Digs w vd ds := digs_of_own h.elem h.ownd rfl
theorem brow_keep {w w' : World} {g : Nat} {t : TypeId} {d : List UInt8} (h : BRow w g t d) (hb : Below w.heap.size w w') : BRow w' g t d := (hb.block _ (lt_of_block h)).trans h

set_option maxRecDepth 100000 in
set_option maxHeartbeats 1600000 in
theorem told_any (w0 w : World) (G : Nat) (T : ByteArray) (vl : Value) (xs : List ByteArray) (vd : Value) (ds : List (List UInt8)) (k0 k least most : Nat) (hK : Dk w0 w G T vl xs vd ds k0) (hstd : Std ds (bs (xs.take k))) (hk : k ≤ xs.length) (hl : xs.length ≤ 100)
    (hz : ∀ s ∈ xs, s.size ≤ 20) (hlm : k = least ∨ k = most) (hT : Tabs w0) :
    Calls Tryd.prog 31 #[.pointer (some ⟨G, 0, none⟩), .int .i64 least, .int .i64 most] w fun e w' => e = .returned (.bool true) ∧ Dk w0 w' G T vl xs vd ds k := by
  have hde : dEnt ds = (bs (xs.take k), 0) := by unfold dEnt; rw [hstd.ok]
  have hkl : (xs.take k).length = k := by rw [List.length_take]; omega
  have hbl : (bs (xs.take k)).length = k := by rw [bs_length, hkl]
  have hsr : staRoot ds = rootL (xs.take k) := by unfold staRoot; rw [hde, if_pos rfl, mk_bs]
  have hsm : ∀ s ∈ xs.take k, s.size ≤ 20 := fun s hs => hz s (List.mem_of_mem_take hs)
  have hST := fun wq hd ht => Status_any vd ds wq hd ht
  have hEN := fun wq hd => Entries_any vd ds wq hd
  have hRT := fun wq vq hs ht => Root_any vq (xs.take k) wq hs ht
  rw [hde, hsr] at hST
  rw [hde] at hEN
  simp only [hbl] at hST hEN
  rw [rootR_of _ (by omega) hsm, show chk (xs.take k) = 0 by
    unfold chk
    rw [if_neg (by omega), if_neg]
    rw [List.any_eq_true]
    rintro ⟨s, hs, hl⟩
    have := hsm s hs
    simp at hl
    omega] at hRT
  rw [mk_bs] at hEN
  have dr := rootL_length (xs.take k)
  generalize rootL (xs.take k) = r at hST hRT dr
  have hE := fun wq => digest_same r dr wq
  have V2 := hide (v_dg r dr)
  have V3 := hide (v_z32 r dr)
  have HST := hide hST
  have HEN := hide hEN
  have HRT := hide hRT
  have HK := hide hK
  have HT := hide (fun wq hb => hT.below (w' := wq) (B := w0.heap.size) hb (Nat.le_refl _))
  obtain ⟨ao, cap, hvl⟩ := own_shape hK.ownl
  subst hvl
  have hcp : xs.length ≤ cap := by
    obtain ⟨ao', cap', he, h1, _⟩ := hK.strs
    simp only [Value.slice.injEq] at he
    omega
  have hc2 := hK.cells.c2
  have s1 : (k : Int) ≤ (cap : Int) := by omega
  have s2 : (0 : Int) ≤ (k : Int) := by omega
  clear hT hST hEN hRT hstd hde hsr hsm hz hbl hK
  go_enter Tryd.func31, Tryd.ntmps31
  go_wp2_with fail
  refine (unhide HST _ (unhide HK).digs (unhide HT _ (unhide HK).bel)).mono ?_
  rintro e w1 ⟨rfl, hb1⟩
  have K1 := hide ((unhide HK).below hb1)
  clear HST hb1 HK hc2
  go_upto_region 2 with ((with_reducible refine at_store ?_); go_must (refine wpList_store_row rfl 64 _ _ rfl w1.heap.size (bcells r).toArray rfl rfl 64 _ (heap_alloc_new w1 _) (unhide V2) (unhide V3) (bcells_one r) ?_))
  rw [← z32_cells]
  have K2 := hide ((unhide K1).below (below_put w1 (bcells z32).toArray (bcells r).toArray 64))
  have G2 : Hid (BRow ((w1.alloc (.cells (bcells z32).toArray 64)).setRow w1.heap.size (bcells r).toArray) w1.heap.size 64 r) := hide (heap_put_new _ _ _ _)
  generalize ((w1.alloc (.cells (bcells z32).toArray 64)).setRow w1.heap.size (bcells r).toArray) = W2 at K2 G2 ⊢
  generalize w1.heap.size = g8 at G2 ⊢
  clear K1
  have hc2 := (unhide K2).cells.c2
  go_wp2_with fail
  refine (unhide HEN _ (unhide K2).digs).mono ?_
  rintro e w3 ⟨v3, rfl, hown3, hb3⟩
  have K3 := hide ((unhide K2).below hb3)
  have G3 := hide (brow_keep (unhide G2) hb3)
  have L3 := hide (own_base hown3 (Nat.zero_le _))
  have hc1 := (unhide K3).cells.c1
  clear HEN hb3 K2 G2 hc2 hown3
  by_cases hle : k = least
  · have hx1 : ((k : Int) != (least : Int)) = false := by rw [bne_eq_false_iff_eq]; omega
    clear hlm hle
    go_wp2_with fail
    refine (unhide HRT _ _ ((unhide K3).strs.cut k hk) (unhide HT _ (unhide K3).bel)).mono ?_
    rintro e w4 ⟨rfl, hb4⟩
    have K4 := hide ((unhide K3).below hb4)
    have G4 := hide (brow_keep (unhide G3) hb4)
    have L4 := hide (own_keep (unhide L3) hb4)
    have hl4 := lt_of_block (unhide G4)
    clear HRT hb4 K3 G3 L3 hc1
    go_upto_region 6 with ((with_reducible refine at_store ?_); go_must (refine wpList_store_row rfl 64 _ _ rfl w4.heap.size (bcells r).toArray rfl rfl 64 _ (heap_alloc_new w4 _) (unhide V2) (unhide V3) (bcells_one r) ?_))
    rw [← z32_cells]
    have hbp := below_put w4 (bcells z32).toArray (bcells r).toArray 64
    have K5 := hide ((unhide K4).below hbp)
    have G5 := hide (brow_keep (unhide G4) hbp)
    have L5 := hide (own_keep (unhide L4) hbp)
    have F5 : Hid (BRow ((w4.alloc (.cells (bcells z32).toArray 64)).setRow w4.heap.size (bcells r).toArray) w4.heap.size 64 r) := hide (heap_put_new _ _ _ _)
    clear K4 G4 L4 hbp
    generalize ((w4.alloc (.cells (bcells z32).toArray 64)).setRow w4.heap.size (bcells r).toArray) = W5 at K5 G5 L5 F5 ⊢
    generalize w4.heap.size = g12 at F5 hl4 ⊢
    have hc1 := (unhide K5).cells.c1
    go_wp2_with fail
    refine (same_any _ _ (xs.take k) _ (strs_of_own (ss := xs.take k) (unhide L5)) ((unhide K5).strs.cut k hk)).mono ?_
    rintro e w6 ⟨rfl, hb6⟩
    have K6 := hide ((unhide K5).below hb6)
    have G6 := hide (brow_keep (unhide G5) hb6)
    have F6 := hide (brow_keep (unhide F5) hb6)
    have hc3 := (unhide K6).cells.c3
    have hfr := (unhide K6).cells.free 3
    have K7 := hide ((unhide K6).setK k)
    have hgG : g8 ≠ G := by
      intro h
      have h1 := unhide G6
      have h2 := (unhide K6).cells
      unfold BRow at h1
      unfold DkAt at h2
      rw [h, h2] at h1
      simp only [Option.some.injEq, Obj.cells.injEq] at h1
      have h3 := congrArg Array.size h1.1
      rw [bcells_size, dr] at h3
      cases h3
    have hfG : g12 ≠ G := by
      intro h
      have h1 := unhide F6
      have h2 := (unhide K6).cells
      unfold BRow at h1
      unfold DkAt at h2
      rw [h, h2] at h1
      simp only [Option.some.injEq, Obj.cells.injEq] at h1
      have h3 := congrArg Array.size h1.1
      rw [bcells_size, dr] at h3
      cases h3
    have G7 := hide (show BRow (w6.setCell ⟨G, 3, none⟩ (.int .i64 (k : Int))) g8 64 r from (heap_setCell_other _ _ _ _ (by exact hgG)).trans (unhide G6))
    have F7 := hide (show BRow (w6.setCell ⟨G, 3, none⟩ (.int .i64 (k : Int))) g12 64 r from (heap_setCell_other _ _ _ _ (by exact hfG)).trans (unhide F6))
    clear hb6 K5 G5 L5 F5 hc1
    go_upto_region 8 with fail
    generalize w6.setCell ⟨G, 3, none⟩ (.int .i64 (k : Int)) = W7 at K7 G7 F7 ⊢
    clear hc3 hfr K6 G6 F6
    go_wp2_with ((with_reducible refine at_load2 ?_); first | refine wpList_load_row_w rfl 64 _ rfl g8 (by rfl) 64 (bcells r).toArray (0, 0) _ (unhide G7) Tryd.underlying64 rfl (unhide V2) ?_ | go_must (refine wpList_load_row_w rfl 64 _ rfl g12 (by rfl) 64 (bcells r).toArray (0, 0) _ (unhide F7) Tryd.underlying64 rfl (unhide V2) ?_))
    go_ret
    exact ⟨rfl, unhide K7⟩
  · have hx1 : ((k : Int) != (least : Int)) = true := by rw [bne_iff_ne]; omega
    have hx2 : ((k : Int) != (most : Int)) = false := by rw [bne_eq_false_iff_eq]; omega
    clear hlm hle
    go_wp2_with fail
    refine (unhide HRT _ _ ((unhide K3).strs.cut k hk) (unhide HT _ (unhide K3).bel)).mono ?_
    rintro e w4 ⟨rfl, hb4⟩
    have K4 := hide ((unhide K3).below hb4)
    have G4 := hide (brow_keep (unhide G3) hb4)
    have L4 := hide (own_keep (unhide L3) hb4)
    have hl4 := lt_of_block (unhide G4)
    clear HRT hb4 K3 G3 L3 hc1
    go_upto_region 6 with ((with_reducible refine at_store ?_); go_must (refine wpList_store_row rfl 64 _ _ rfl w4.heap.size (bcells r).toArray rfl rfl 64 _ (heap_alloc_new w4 _) (unhide V2) (unhide V3) (bcells_one r) ?_))
    rw [← z32_cells]
    have hbp := below_put w4 (bcells z32).toArray (bcells r).toArray 64
    have K5 := hide ((unhide K4).below hbp)
    have G5 := hide (brow_keep (unhide G4) hbp)
    have L5 := hide (own_keep (unhide L4) hbp)
    have F5 : Hid (BRow ((w4.alloc (.cells (bcells z32).toArray 64)).setRow w4.heap.size (bcells r).toArray) w4.heap.size 64 r) := hide (heap_put_new _ _ _ _)
    clear K4 G4 L4 hbp
    generalize ((w4.alloc (.cells (bcells z32).toArray 64)).setRow w4.heap.size (bcells r).toArray) = W5 at K5 G5 L5 F5 ⊢
    generalize w4.heap.size = g12 at F5 hl4 ⊢
    have hc1 := (unhide K5).cells.c1
    go_wp2_with fail
    refine (same_any _ _ (xs.take k) _ (strs_of_own (ss := xs.take k) (unhide L5)) ((unhide K5).strs.cut k hk)).mono ?_
    rintro e w6 ⟨rfl, hb6⟩
    have K6 := hide ((unhide K5).below hb6)
    have G6 := hide (brow_keep (unhide G5) hb6)
    have F6 := hide (brow_keep (unhide F5) hb6)
    have hc3 := (unhide K6).cells.c3
    have hfr := (unhide K6).cells.free 3
    have K7 := hide ((unhide K6).setK k)
    have hgG : g8 ≠ G := by
      intro h
      have h1 := unhide G6
      have h2 := (unhide K6).cells
      unfold BRow at h1
      unfold DkAt at h2
      rw [h, h2] at h1
      simp only [Option.some.injEq, Obj.cells.injEq] at h1
      have h3 := congrArg Array.size h1.1
      rw [bcells_size, dr] at h3
      cases h3
    have hfG : g12 ≠ G := by
      intro h
      have h1 := unhide F6
      have h2 := (unhide K6).cells
      unfold BRow at h1
      unfold DkAt at h2
      rw [h, h2] at h1
      simp only [Option.some.injEq, Obj.cells.injEq] at h1
      have h3 := congrArg Array.size h1.1
      rw [bcells_size, dr] at h3
      cases h3
    have G7 := hide (show BRow (w6.setCell ⟨G, 3, none⟩ (.int .i64 (k : Int))) g8 64 r from (heap_setCell_other _ _ _ _ (by exact hgG)).trans (unhide G6))
    have F7 := hide (show BRow (w6.setCell ⟨G, 3, none⟩ (.int .i64 (k : Int))) g12 64 r from (heap_setCell_other _ _ _ _ (by exact hfG)).trans (unhide F6))
    clear hb6 K5 G5 L5 F5 hc1
    go_upto_region 8 with fail
    generalize w6.setCell ⟨G, 3, none⟩ (.int .i64 (k : Int)) = W7 at K7 G7 F7 ⊢
    clear hc3 hfr K6 G6 F6
    go_wp2_with ((with_reducible refine at_load2 ?_); first | refine wpList_load_row_w rfl 64 _ rfl g8 (by rfl) 64 (bcells r).toArray (0, 0) _ (unhide G7) Tryd.underlying64 rfl (unhide V2) ?_ | go_must (refine wpList_load_row_w rfl 64 _ rfl g12 (by rfl) 64 (bcells r).toArray (0, 0) _ (unhide F7) Tryd.underlying64 rfl (unhide V2) ?_))
    go_ret
    exact ⟨rfl, unhide K7⟩
end Go.Proofs.YtanfolfopalbeabDoor
