import Derived.Test.YtanfolfopalbeaaDoorRefVerify
import Derived.Test.YtanfolfopalbeaaDoorLendDig
import Derived.Deep.CutRange
namespace Go.Proofs.YtanfolfopalbeaaDoor
open Go.RowKit

/-- What Verified keeps: the root that is held against, the tables. -/
def Vk (w : World) (tb : List Nat) (GT : Nat) (r : List UInt8) (wx : World) : Prop := BRow wx w.heap.size 31 r ∧ URow wx GT 26 tb ∧ Below w.heap.size w wx
theorem vk_below {w : World} {tb : List Nat} {GT : Nat} {r : List UInt8} {wx wy : World} {B : Nat} (h : BRow wx w.heap.size 31 r ∧ URow wx GT 26 tb) (hb : Below B wx wy) (hB : wx.heap.size ≤ B) : BRow wy w.heap.size 31 r ∧ URow wy GT 26 tb :=
  ⟨(hb.block _ (Nat.lt_of_lt_of_le (lt_of_block h.1) hB)).trans h.1, h.2.below hb hB⟩

theorem range_of_brow2 {w : World} {g : Nat} {t : TypeId} {d : List UInt8} (h : BRow w g t d) : w.rangeAt g 0 (bcells d) := fun j v hv => by
  rw [Nat.zero_add, cell_of_row w g j _ _ _ h]
  simpa using hv

set_option maxRecDepth 100000 in
set_option maxHeartbeats 3200000 in
theorem verified_any (root : List UInt8) (own : Bool) (n i : Int) (x : ByteArray) (v : Value) (ps : List (List UInt8)) (w : World) (hn : -9223372036854775808 ≤ n ∧ n ≤ 9223372036854775807) (hi : -9223372036854775808 ≤ i ∧ i ≤ 9223372036854775807)
    (hr : root.length = 32) (hx : x.size ≤ 1048575) (hpl : ps.length ≤ 1048576) (hD : Digs w v ps) (hT : Tabs w) :
    Calls Tryd.prog 6 #[.agg (bcells root).toArray, .bool own, .int .i64 n, .int .i64 i, .string x, v] w fun e w' => e = .returned (.bool true) ∧ Below w.heap.size w w' := by
  have hzt := zero_tab
  have hzl := z72_length
  have hns := newsums_any
  have hok := tabOk
  unfold tabV at hns
  generalize z72 = z7 at hzt hzl
  generalize Hl ++ Kl = tb at hns hok
  have htl := hok.1
  have VT := hide (v_tab tb htl)
  have ZT := hide (show (ucells z7).toArray.size = (ucells tb).toArray.size by rw [ucells_size, ucells_size, htl, hzl])
  have HT := hide (fun wq hb => hT.below (w' := wq) (B := w.heap.size) hb (Nat.le_refl _))
  have HD := hide (fun wq hb => hD.below (w' := wq) (B := w.heap.size) hb (Nat.le_refl _))
  obtain ⟨hD0, ao, cap, hv, hca, hcb, _⟩ := hD
  subst hv
  have HOK := hide hok
  have hbel0 : Below w.heap.size w (w.alloc (.cells (bcells root).toArray 31)) := (Below.refl _ _).alloc (Nat.le_refl _) _
  have K0 := hide hbel0
  have G0 := hide (show (w.alloc (.cells (bcells root).toArray 31)).heap[w.heap.size]? = some (.cells (bcells root).toArray 31 (0, 0)) from heap_alloc_new w _)
  have V0 := hide (v_dg root hr)
  clear hbel0 hT hok
  go_enter Tryd.func6, Tryd.ntmps6
  go_upto_region 2 with (first | (go_at_call 13; (with_reducible refine (hns _).mono ?_); rintro e w1 ⟨rfl, hb1⟩) | ((with_reducible refine at_store ?_); refine wpList_store_row rfl 26 _ _ rfl w1.heap.size (ucells tb).toArray rfl rfl 26 _ (heap_alloc_new w1 _) (unhide VT) (unhide ZT) (ucells_one tb) ?_))
  have hbelA : Below w.heap.size w ((w1.alloc (.cells (ucells z7).toArray 26)).setRow w1.heap.size (ucells tb).toArray) := by
    have h1 := (unhide K0).trans (hb1.mono (unhide K0).size)
    exact below_row (h1.alloc h1.size _) h1.size _
  have gA : BRow ((w1.alloc (.cells (ucells z7).toArray 26)).setRow w1.heap.size (ucells tb).toArray) w.heap.size 31 root ∧ URow ((w1.alloc (.cells (ucells z7).toArray 26)).setRow w1.heap.size (ucells tb).toArray) w1.heap.size 26 tb := by
    refine ⟨?_, heap_put_new _ _ _ _⟩
    have h2 := (hb1.block _ (lt_of_block (unhide G0))).trans (unhide G0)
    exact (heap_put_old w1 _ _ _ _ (lt_of_block h2)).trans h2
  have hGA : w.heap.size ≠ w1.heap.size := by
    have := hb1.size
    have := lt_of_block (unhide G0)
    omega
  have hGB : w.heap.size ≤ w1.heap.size := by
    have := hb1.size
    have := (unhide K0).size
    omega
  generalize ((w1.alloc (.cells (ucells z7).toArray 26)).setRow w1.heap.size (ucells tb).toArray) = WA at hbelA gA ⊢
  generalize w1.heap.size = GT at *
  have GA := hide gA
  clear hb1 hns hzt hzl ZT K0 G0 gA
  obtain ⟨hn0, hn1⟩ := hn
  obtain ⟨hi0, hi1⟩ := hi
  simp only [Act.put]
  obtain ⟨c, hc⟩ : ∃ c : Bool, c = (own && (decide (1 ≤ n) && (decide (n ≤ 1099511627776) && (decide (0 ≤ i) && decide (i < n))))) := ⟨_, rfl⟩
  go_cut [39] from 22 to 38 (fun p wx => p = .bool c ∧ wx = WA)
  case first =>
    have HCC := hide hc
    clear hc
    cases own with
    | false =>
      go_wp2_with fail
      go_meet
      exact ⟨by rw [unhide HCC]; rfl, rfl⟩
    | true =>
      by_cases c1 : 1 ≤ n
      · have d1 : decide (1 ≤ n) = true := decide_eq_true c1
        by_cases c2 : n ≤ 1099511627776
        · have d2 : decide (n ≤ 1099511627776) = true := decide_eq_true c2
          by_cases c3 : 0 ≤ i
          · have d3 : decide (0 ≤ i) = true := decide_eq_true c3
            by_cases c4 : i < n
            · have d4 : decide (i < n) = true := decide_eq_true c4
              go_wp2_with fail
              go_meet
              exact ⟨by rw [unhide HCC, d1, d2, d3, d4]; rfl, rfl⟩
            · have d4 : decide (i < n) = false := decide_eq_false c4
              go_wp2_with fail
              go_meet
              exact ⟨by rw [unhide HCC, d1, d2, d3, d4]; rfl, rfl⟩
          · have d3 : decide (0 ≤ i) = false := decide_eq_false c3
            go_wp2_with fail
            go_meet
            exact ⟨by rw [unhide HCC, d1, d2, d3]; rfl, rfl⟩
        · have d2 : decide (n ≤ 1099511627776) = false := decide_eq_false c2
          go_wp2_with fail
          go_meet
          exact ⟨by rw [unhide HCC, d1, d2]; rfl, rfl⟩
      · have d1 : decide (1 ≤ n) = false := decide_eq_false c1
        go_wp2_with fail
        go_meet
        exact ⟨by rw [unhide HCC, d1]; rfl, rfl⟩
  case rest =>
  obtain ⟨rfl, hwc⟩ := hcut
  subst hwc
  have HCC := hide hc
  clear hc
  go_upto_if 39 with fail
  go_cut [14] from 15 to 49 (fun _ wx => ∃ r : List UInt8, r.length = 32 ∧ Vk w tb GT r wx)
  case first =>
    cases c with
    | false =>
      go_wp2_with fail
      go_meet
      exact ⟨root, hr, (unhide GA).1, (unhide GA).2, hbelA⟩
    | true =>
      have hcc : 1 ≤ n ∧ n ≤ 1099511627776 ∧ 0 ≤ i ∧ i < n := by
        have h5 := (unhide HCC).symm
        simp only [Bool.and_eq_true, decide_eq_true_eq] at h5
        exact h5.2
      obtain ⟨a, ha⟩ : ∃ a : Nat, n = (a : Int) := ⟨n.toNat, by omega⟩
      obtain ⟨c, hc⟩ : ∃ c : Nat, i = (c : Int) := ⟨i.toNat, by omega⟩
      have HC := hide (fun wq hd => rcomes_any tb (unhide HOK) x hx a a c (.slice ao ps.length cap) ps wq (Nat.le_refl _) (by omega) (by omega) hd)
      rw [← ha, ← hc] at HC
      have dc := comesL_length x a c ps
      generalize comesL x a c ps = rr at HC dc
      obtain ⟨dC, ok⟩ := rr
      simp only at HC dc
      have VC := hide (v_dg dC dc)
      have ZC := hide (v_z32 dC dc)
      have hrl : (bcells root).toArray.size = (bcells dC).toArray.size := by rw [bcells_size, bcells_size, hr, dc]
      have HRL := hide hrl
      clear ha hc hrl hcc HCC
      go_wp2_with ((with_reducible refine at_load ?_); refine wpList_load_row rfl 26 _ rfl GT (by rfl) 26 (ucells tb).toArray (0, 0) _ (unhide GA).2 Tryd.underlying26 rfl (unhide VT) ?_)
      refine (unhide HC _ (unhide HD _ hbelA)).mono ?_
      rintro e w2 ⟨rfl, hb2⟩
      have g2 := vk_below (unhide GA) hb2 (Nat.le_refl _)
      have hbel2 := hbelA.trans (hb2.mono hbelA.size)
      have hl2 := lt_of_block g2.1
      have hl3 := lt_of_block g2.2
      have G2 := hide g2
      clear hb2 g2
      go_wp2_with (first | ((with_reducible refine at_store ?_); first | refine wpList_store_row rfl 31 _ _ rfl w2.heap.size (bcells dC).toArray rfl rfl 31 _ (heap_alloc_new w2 _) (unhide VC) (unhide ZC) (bcells_one dC) ?_ | refine wpList_store_row rfl 31 _ _ rfl w.heap.size (bcells dC).toArray rfl rfl 31 _ ((heap_put_old w2 _ _ _ _ hl2).trans (unhide G2).1) (unhide VC) (unhide HRL) (bcells_one dC) ?_) | ((with_reducible refine at_load ?_); refine wpList_load_row rfl 31 _ rfl w2.heap.size (by rfl) 31 (bcells dC).toArray (0, 0) _ (heap_put_new w2 _ _ _) Tryd.underlying31 rfl (unhide VC) ?_))
      go_meet
      rw [← z32_cells]
      have hbel3 : Below w.heap.size w ((w2.alloc (.cells (bcells z32).toArray 31)).setRow w2.heap.size (bcells dC).toArray) := below_row (hbel2.alloc hbel2.size _) hbel2.size _
      refine ⟨dC, dc, setRow_heap _ _ _ _ _ _ ((heap_put_old w2 _ _ _ _ hl2).trans (unhide G2).1), ?_, below_row hbel3 (Nat.le_refl _) _⟩
      unfold URow
      rw [setRow_other _ _ _ _ (Ne.symm hGA)]
      exact (heap_put_old w2 _ _ _ _ hl3).trans (unhide G2).2
  case rest =>
    obtain ⟨r, hrl, gr, gt, hbc⟩ := hcut
    have VR := hide (v_dg r hrl)
    have hu := Tryd.underlying31
    have hmi := v_mid r hrl
    have HV := hide (fun vp wq hd ht => Verify_any r n i x vp ps wq ⟨hn0, hn1⟩ ⟨hi0, hi1⟩ hrl (by omega) hd ht)
    have HW := hide (fun vp wq hd => rverify_any tb (unhide HOK) r n i x vp ps wq ⟨hn0, hn1⟩ ⟨hi0, hi1⟩ hrl hx hd)
    generalize verR r n i x ps = bb at HV HW
    have hbb : (bb == bb) = true := by simp
    have HL := hide (fun wq hd => lendD_any (.slice ao ps.length cap) ps wq hd hpl)
    have hLt : (lentD ps).take ps.length = ps := by unfold lentD; exact List.take_left' rfl
    have hLl := lentD_length ps
    have hLe := lentD_elem ps hD0
    generalize lentD ps = L at HL hLt hLl hLe
    have HLT := hide hLt
    have HLE := hide hLe
    have GC := hide (show BRow wc w.heap.size 31 r ∧ URow wc GT 26 tb from ⟨gr, gt⟩)
    clear gr gt hLt hLe GA hbelA V0 HOK hD0 HCC
    go_wp2_with fail
    refine (unhide HL _ (unhide HD _ hbc)).mono ?_
    rintro e w5 ⟨rfl, hown5, hb5⟩
    have hbel5 := hbc.trans (hb5.mono hbc.size)
    have G5 := hide (vk_below (unhide GC) hb5 (Nat.le_refl _))
    have O5 := hide hown5
    have D5 := hide (show Digs w5 (.slice (some ⟨wc.heap.size, 0, none⟩) ps.length (ps.length + 2)) ps by
      have h1 := (digs_of_own (unhide HLE) hown5 hLl.symm).front ps.length (by omega)
      rw [unhide HLT] at h1
      exact h1)
    have hr8 : w5.drew.rangeAt w.heap.size 0 (bcells r) := range_of_brow2 (unhide G5).1
    have HD8 := hide ((unhide D5).below ((Below.refl w5.heap.size w5).drew) (Nat.le_refl _))
    have HB8 := hide hbel5.drew
    have f1 : (ps.length : Int) ≤ (ps.length : Int) + 2 := by omega
    have f0 : (0 : Int) ≤ (ps.length : Int) := by omega
    clear hown5 D5 GC
    go_upto_region 6 with fail
    go_region_held3 (fun w' => w'.rangeAt w.heap.size 0 (bcells r)) (first | (with_reducible exact hr8) | (with_reducible exact hr9)) ((go_at_call 29; refine (unhide HV _ _ (unhide HD8) (unhide HT _ (unhide HB8))).mono ?_; rintro e w6 ⟨rfl, hb6⟩; have hr9 := rangeAt_below hr8 hb6 (Nat.le_refl _)))
    have hb6' : Below w5.heap.size w5 w6 := ⟨hb6.os, hb6.tape, hb6.output, hb6.size, hb6.block⟩
    have hbel6 := hbel5.trans (hb6'.mono hbel5.size)
    have G6 := hide (vk_below (unhide G5) hb6' (Nat.le_refl _))
    have O6 := hide (own_keep (unhide O5) hb6')
    clear hr8 hr9 hb6 hb6' HD8 HB8 G5 O5 hb5 hbel5 HV
    go_wp2_with ((with_reducible refine at_load ?_); first | refine wpList_load_row rfl 26 _ rfl GT (by rfl) 26 (ucells tb).toArray (0, 0) _ (unhide G6).2 Tryd.underlying26 rfl (unhide VT) ?_ | refine wpList_load_row rfl 31 _ rfl w.heap.size (by rfl) 31 (bcells r).toArray (0, 0) _ (unhide G6).1 Tryd.underlying31 rfl (unhide VR) ?_)
    refine (unhide HW _ _ (unhide HD _ hbel6)).mono ?_
    rintro e w7 ⟨rfl, hb7⟩
    have hbel7 := hbel6.trans (hb7.mono hbel6.size)
    have O7 := hide (own_keep (unhide O6) hb7)
    clear hb7 O6 G6 hbel6 HW
    go_wp2_with fail
    refine (unhide HL _ (unhide HD _ hbel7)).mono ?_
    rintro e w8 ⟨rfl, hown8, hb8⟩
    have hbel8 := hbel7.trans (hb8.mono hbel7.size)
    have D8 := hide (digs_of_own (unhide HLE) hown8 hLl.symm)
    have O8 := hide (digs_of_own (unhide HLE) (own_keep (unhide O7) hb8) hLl.symm)
    clear hb8 hown8 O7 hbel7 HL
    go_wp2_with fail
    refine (sameD_any _ _ L _ (unhide O8) (unhide D8) (by omega)).mono ?_
    rintro e w9 ⟨rfl, hb9⟩
    have hbel9 := hbel8.trans (hb9.mono hbel8.size)
    go_wp2
    go_ret
    exact ⟨rfl, hbel9⟩
end Go.Proofs.YtanfolfopalbeaaDoor
