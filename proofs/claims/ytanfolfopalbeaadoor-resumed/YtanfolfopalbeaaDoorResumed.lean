/- ferrykeep.Resumed. -/
import Derived.Test.YtanfolfopalbeaaDoorDk4
namespace Go.Proofs.YtanfolfopalbeaaDoor
open Go.RowKit

set_option maxRecDepth 100000 in
set_option maxHeartbeats 400000 in
theorem pick_big (c : Int) (n : Nat) (w : World) (hc : -9223372036854775808 ≤ c ∧ c ≤ 9223372036854775807) (h0 : 0 < n) (hn : n ≤ 1125899906842624) :
    Calls Tryd.prog 24 #[.int .i64 c, .int .i64 n] w fun e w' => ∃ k : Nat, k < n ∧ e = .returned (.int .i64 k) ∧ w' = w := by
  obtain ⟨hc0, hc1⟩ := hc
  by_cases hneg : c < 0
  · go_enter Tryd.func24, Tryd.ntmps24
    go_wp2
    go_ret
    refine ⟨((-(c + 1)) % n).toNat, ?_, ret_int ?_, rfl⟩
    · have := Int.emod_nonneg (-(c + 1)) (show (n : Int) ≠ 0 by omega)
      have := Int.emod_lt_of_pos (-(c + 1)) (show (0 : Int) < n by omega)
      omega
    · rw [← Int.neg_tmod, Int.tmod_eq_emod_of_nonneg (by omega)]
      have := Int.emod_nonneg (-(c + 1)) (show (n : Int) ≠ 0 by omega)
      omega
  · go_enter Tryd.func24, Tryd.ntmps24
    go_wp2
    go_ret
    refine ⟨(c % n).toNat, ?_, ret_int ?_, rfl⟩
    · have := Int.emod_nonneg c (show (n : Int) ≠ 0 by omega)
      have := Int.emod_lt_of_pos c (show (0 : Int) < n by omega)
      omega
    · have := Int.emod_nonneg c (show (n : Int) ≠ 0 by omega)
      omega
/-- A slice of numbers from a place on. -/
theorem Ints.from {w : World} {ao : Option Addr} {n cap : Nat} {zs : List Int} (h : Ints w (.slice ao n cap) zs) (k : Nat) (hk : k ≤ n) : ∃ zs', Ints w (.slice (if cap = k then ao else ao.map (·.add k)) (n - k) (cap - k)) zs' := by
  obtain ⟨ao', cap', he, h1, h2, hz, h3⟩ := h
  simp only [Value.slice.injEq] at he
  obtain ⟨rfl, rfl, rfl⟩ := he
  refine ⟨zs.drop k, if cap = k then ao else ao.map (·.add k), cap - k, by rw [List.length_drop], by rw [List.length_drop]; omega, by omega, fun z hz' => hz z (List.mem_of_mem_drop hz'), ?_⟩
  by_cases hck : cap = k
  · left
    exact List.drop_eq_nil_of_le (by omega)
  · rcases h3 with rfl | ⟨b, off, rfl, hc⟩
    · left; simp
    · right
      refine ⟨b, off + k, by rw [if_neg hck, Option.map_some, add_none], fun i hi => ?_⟩
      rw [List.length_drop] at hi
      rw [show off + k + i = off + (k + i) by omega, hc (k + i) (by omega)]
      simp [List.getD, List.getElem?_drop]
theorem elemInts : Tryd.prog.underlying 78 = some (.slice (Tryd.prog.elem 78)) := by kernel_rfl
theorem sizeInt (w : World) : (sizeOf (Tryd.prog.elem 78)).run Tryd.prog w = .ok 1 w := by kernel_rfl
theorem slice_from (ao : Option Addr) (n cap k : Nat) (hk : k ≤ n) (wx : World) : (Instr.slice 78 (.slice ao n cap) (some (.int .i64 (k : Int))) none none).run Tryd.prog wx = .ok (.slice (if cap = k then ao else ao.map (·.add k)) (n - k) (cap - k)) wx := by
  have := run_slice_l (P := Tryd.prog) (w := wx) 78 ao n cap elemInts .i64 (k : Int) (by omega) (by omega)
  rw [this, sizeInt]
  simp [sliced, Result.andThen]

set_option maxRecDepth 100000 in
set_option maxHeartbeats 3200000 in
theorem resumed_any (v : Value) (ss xs : List ByteArray) (hxs : ents ss (min 100 ss.length) = xs) (vba vcu vby : Value) (bas cus bys : List Int) (w : World) (hS : Strs w v ss) (hsz : ∀ i, i < ss.length → (ss.getD i ByteArray.empty).size ≤ maxLen)
    (hBA : Ints w vba bas) (hCU : Ints w vcu cus) (hBY : Ints w vby bys) (hbl1 : bas.length ≤ 35184372088832) (hbl2 : bys.length ≤ 35184372088832) (hT : Tabs w) :
    Calls Tryd.prog 11 #[v, vba, vcu, vby] w fun e w' => e = .returned (.bool true) ∧ Below w.heap.size w w' := by
  have HB := hide (begin_any v ss xs hxs w hS hsz hT)
  have HT := hide hT
  have hxl : xs.length ≤ 100 := by rw [← hxs, ents_length]; omega
  have hxz : ∀ s ∈ xs, s.size ≤ 20 := by rw [← hxs]; exact ents_small ss _
  have HX := hide hxz
  have HRD := hide (read_back (bs xs) (bs_small xs hxz) (by rw [bs_length]; exact hxl))
  have HBA := hide (fun wq hb => hBA.below (w' := wq) (B := w.heap.size) hb (Nat.le_refl _))
  have HCU := hide (fun wq hb => hCU.below (w' := wq) (B := w.heap.size) hb (Nat.le_refl _))
  have HBY := hide (fun wq hb => hBY.below (w' := wq) (B := w.heap.size) hb (Nat.le_refl _))
  obtain ⟨aa, ca, hva, hal, ham, _, _⟩ := hBA
  obtain ⟨ac, cc, hvc, hcl, hcm, _, _⟩ := hCU
  obtain ⟨ay, cy, hvy, hyl, hym, _, _⟩ := hBY
  subst hva
  subst hvc
  subst hvy
  unfold maxLen at ham hcm hym
  clear hS hsz hT hxs hxz
  go_enter Tryd.func11, Tryd.ntmps11
  go_wp2_with fail
  refine (unhide HB).mono ?_
  rintro e w1 ⟨G, vl, vd, rfl, hK1⟩
  have hlen := olog_szs xs 0
  have hsl := szs_le xs (unhide HX)
  have hTz : (mk (olog 0 (bs xs))).size ≤ maxLen := by unfold maxLen; rw [mk_size, hlen]; omega
  have HTZ := hide hTz
  have HRT := hide (show rdOld (mk (olog 0 (bs xs))).data.toList = (bs (xs.take xs.length), 0, 0) by rw [mk_data, List.take_of_length_le (Nat.le_refl _)]; exact unhide HRD)
  generalize mk (olog 0 (bs xs)) = T at HTZ HRT hK1
  obtain ⟨ao, cap, hvl⟩ := own_shape hK1.ownl
  subst hvl
  have K1 := hide hK1
  clear HB hK1 hlen hsl hTz HRD
  go_wp2_with fail
  go_loopw [10, 11] (fun _ i wr => ∃ (n : Nat) (vd : Value) (ds : List (List UInt8)) (k : Nat), n ≤ 12 ∧ i = .int .i64 n ∧ k ≤ xs.length ∧ Std ds (bs (xs.take k)) ∧ ds.length = 300 ∧ Dk w wr G T (.slice ao xs.length cap) xs vd ds k) (fun _ i _ => 12 - (intOf i).toNat)
  case atStart => exact ⟨0, _, fmt 300, 0, Nat.zero_le _, rfl, Nat.zero_le _, fmt_std 300 (by omega) (by omega), fmt_length 300 (by omega), unhide K1⟩
  case round =>
    obtain ⟨n, vd, ds, k, hn, rfl, hkx, hstd, hdl, hK⟩ := hrel
    have HK := hide hK
    have HSD := hide hstd
    have hc1 : wr.cell? ⟨G, 1, none⟩ = some (.slice ao xs.length cap) := hK.cells.c1
    have hc3 : wr.cell? ⟨G, 3, none⟩ = some (.int .i64 (k : Int)) := hK.cells.c3
    clear hK hstd
    by_cases hgo : n < bas.length ∧ n < 12 ∧ k < xs.length
    · obtain ⟨g1, g2, g3⟩ := hgo
      have hd1 : decide ((n : Int) < (bas.length : Int)) = true := by simp; omega
      have hd2 : decide ((n : Int) < 12) = true := by simp; omega
      have hd3 : decide ((k : Int) < (xs.length : Int)) = true := by simp; omega
      go_wp2_with fail
      go_quiet (fail)
      have K2 := hide ((unhide HK).below (below_drewN (Below.refl wr.heap.size wr) nq))
      generalize wr.drewN nq = W2 at K2 ⊢
      obtain ⟨_, _, he, _, _, hzz, h3⟩ := unhide HBA _ (unhide K2).bel
      simp only [Value.slice.injEq, true_and] at he
      obtain ⟨rfl, rfl⟩ := he
      rcases h3 with h3 | ⟨ba, oa, rfl, hczA⟩
      · rw [h3] at g1; cases g1
      have hcz := hczA n g1
      have hcz0 : w.cell? ⟨ba, oa + n, none⟩ = some (.int .i64 (bas.getD n 0)) := by
        obtain ⟨_, _, he, _, _, _, h3⟩ := unhide HBA _ (Below.refl w.heap.size w)
        simp only [Value.slice.injEq, true_and] at he
        obtain ⟨he1, rfl⟩ := he
        rcases h3 with h3 | ⟨b2, o2, he2, hc⟩
        · rw [h3] at g1; cases g1
        · rw [he2] at he1
          simp only [Option.some.injEq, Addr.mk.injEq, and_true] at he1
          obtain ⟨rfl, rfl⟩ := he1
          exact hc n g1
      have hzb := hzz _ (getD_mem_int bas n g1)
      generalize bas.getD n 0 = z at hcz hzb hcz0
      clear hczA hzz HK hc1 hc3
      have hk0 : (0 : Int) ≤ (n : Int) := by omega
      have hk1 : (n : Int) < (bas.length : Int) := by omega
      by_cases hcu : n < cus.length
      · have hd4 : decide ((n : Int) < (cus.length : Int)) = true := by simp; omega
        obtain ⟨_, _, he, _, _, hzz, h3⟩ := unhide HCU _ (unhide K2).bel
        simp only [Value.slice.injEq, true_and] at he
        obtain ⟨rfl, rfl⟩ := he
        rcases h3 with h3 | ⟨bc, oc, rfl, hccA⟩
        · rw [h3] at hcu; cases hcu
        have hcc := hccA n hcu
        have hcb := hzz _ (getD_mem_int cus n hcu)
        generalize cus.getD n 0 = cv at hcc hcb
        have hk2 : (n : Int) < (cus.length : Int) := by omega
        clear hccA hzz
        go_wp2_with fail
        refine (pick_big (n : Int) (bys.length + 1) _ (by omega) (by omega) (by omega)).mono ?_
        rintro e w3 ⟨fr, hfr, rfl, rfl⟩
        obtain ⟨zs', hI⟩ := (unhide HBY _ (unhide K2).bel).from fr (by omega)
        have hsl := fun wx => slice_from ay bys.length cy fr (by omega) wx
        generalize (Value.slice (if cy = fr then ay else ay.map (·.add fr)) (bys.length - fr) (cy - fr)) = vy at hI hsl
        have HI := hide hI
        have hr8 : w3.drew.cell? ⟨ba, oa + n, none⟩ = some (.int .i64 z) := hcz
        have HST := hide (fun (p : Nat) (hp : p < 30) => dstep_crash w w3.drew G T (.slice ao xs.length cap) xs vd ds k (1 + p) xs.length 0 0 cv vy zs' ((unhide K2).below ((Below.refl _ _).drew)) ⟨unhide HSD, hdl, g3, Nat.le_refl _, hxl, unhide HX, by omega, by omega, .inl ⟨rfl, rfl⟩⟩ (unhide HRT) (unhide HTZ) ((unhide HI).below ((Below.refl w3.heap.size w3).drew) (Nat.le_refl _)) hcb (unhide HT))
        have hPk : ∀ wq, Calls Tryd.prog 24 #[.int .i64 z, .int .i64 30] wq fun e w' => ∃ k : Nat, k < 30 ∧ e = .returned (.int .i64 k) ∧ w' = wq := fun wq => pick_any z 30 wq hzb (by omega) (by omega)
        clear hI hfr
        go_upto_region 11 with fail
        go_region_held3 (fun w' => w'.cell? ⟨ba, oa + n, none⟩ = some (.int .i64 z)) (first | (with_reducible exact hr8) | (with_reducible exact hr9)) (first | (go_at_call 24; refine (hPk _).mono ?_; rintro e w4 ⟨p, hp, rfl, he4⟩; cases he4; have hST := unhide HST p hp; rw [Int.natCast_add] at hST; have hw1 : IntKind.i64.wrap (1 + (p : Int)) = 1 + (p : Int) := i64w _ (by omega)) | (go_at_call 48; refine hST.mono ?_; rintro e w5 ⟨rfl, vd5, ds5, k5, hk5, hstd5, hdl5, hK5⟩; have hr9 : w5.cell? ⟨ba, oa + n, none⟩ = some (.int .i64 z) := by rw [hK5.bel.cell (p := ⟨ba, oa + n, none⟩) (cell_lt hcz0)]; exact hcz0))
        have hk5x : k5 ≤ xs.length := by
          rcases hk5 with h | h
          · omega
          · rw [h]; unfold toK; omega
        clear hr8 hr9 hST HST hPk hsl HI K2 hcz hcz0
        go_wp2_with fail
        go_roundw
        case rel => exact ⟨n + 1, vd5, ds5, k5, by omega, by go_num, hk5x, hstd5, hdl5, hK5⟩
        case measure => simp [intOf]; omega
      · have hd4 : decide ((n : Int) < (cus.length : Int)) = false := by simp; omega
        have hcb : -9223372036854775808 ≤ (n : Int) ∧ (n : Int) ≤ 9223372036854775807 := by omega
        go_wp2_with fail
        refine (pick_big (n : Int) (bys.length + 1) _ (by omega) (by omega) (by omega)).mono ?_
        rintro e w3 ⟨fr, hfr, rfl, rfl⟩
        obtain ⟨zs', hI⟩ := (unhide HBY _ (unhide K2).bel).from fr (by omega)
        have hsl := fun wx => slice_from ay bys.length cy fr (by omega) wx
        generalize (Value.slice (if cy = fr then ay else ay.map (·.add fr)) (bys.length - fr) (cy - fr)) = vy at hI hsl
        have HI := hide hI
        have hr8 : w3.drew.cell? ⟨ba, oa + n, none⟩ = some (.int .i64 z) := hcz
        have HST := hide (fun (p : Nat) (hp : p < 30) => dstep_crash w w3.drew G T (.slice ao xs.length cap) xs vd ds k (1 + p) xs.length 0 0 (n : Int) vy zs' ((unhide K2).below ((Below.refl _ _).drew)) ⟨unhide HSD, hdl, g3, Nat.le_refl _, hxl, unhide HX, by omega, by omega, .inl ⟨rfl, rfl⟩⟩ (unhide HRT) (unhide HTZ) ((unhide HI).below ((Below.refl w3.heap.size w3).drew) (Nat.le_refl _)) hcb (unhide HT))
        have hPk : ∀ wq, Calls Tryd.prog 24 #[.int .i64 z, .int .i64 30] wq fun e w' => ∃ k : Nat, k < 30 ∧ e = .returned (.int .i64 k) ∧ w' = wq := fun wq => pick_any z 30 wq hzb (by omega) (by omega)
        clear hI hfr
        go_upto_region 11 with fail
        go_region_held3 (fun w' => w'.cell? ⟨ba, oa + n, none⟩ = some (.int .i64 z)) (first | (with_reducible exact hr8) | (with_reducible exact hr9)) (first | (go_at_call 24; refine (hPk _).mono ?_; rintro e w4 ⟨p, hp, rfl, he4⟩; cases he4; have hST := unhide HST p hp; rw [Int.natCast_add] at hST; have hw1 : IntKind.i64.wrap (1 + (p : Int)) = 1 + (p : Int) := i64w _ (by omega)) | (go_at_call 48; refine hST.mono ?_; rintro e w5 ⟨rfl, vd5, ds5, k5, hk5, hstd5, hdl5, hK5⟩; have hr9 : w5.cell? ⟨ba, oa + n, none⟩ = some (.int .i64 z) := by rw [hK5.bel.cell (p := ⟨ba, oa + n, none⟩) (cell_lt hcz0)]; exact hcz0))
        have hk5x : k5 ≤ xs.length := by
          rcases hk5 with h | h
          · omega
          · rw [h]; unfold toK; omega
        clear hr8 hr9 hST HST hPk hsl HI K2 hcz hcz0
        go_wp2_with fail
        go_roundw
        case rel => exact ⟨n + 1, vd5, ds5, k5, by omega, by go_num, hk5x, hstd5, hdl5, hK5⟩
        case measure => simp [intOf]; omega
    · by_cases e1 : n < bas.length
      · have hd1 : decide ((n : Int) < (bas.length : Int)) = true := by simp; omega
        by_cases e2 : n < 12
        · have hd2 : decide ((n : Int) < 12) = true := by simp; omega
          obtain rfl : k = xs.length := by omega
          have hd3 : decide ((xs.length : Int) < (xs.length : Int)) = false := by simp
          clear hgo
          go_wp2_with fail
          go_quiet (fail)
          have HKX := hide ((unhide HK).below (below_drewN (Below.refl wr.heap.size wr) nq))
          generalize wr.drewN nq = WX at HKX ⊢
          clear HK hc1 hc3 K1
          have HK2 := hide (unhide HKX)
          go_wp2_with fail
          go_loopw [10, 14] (fun _ i wr => ∃ (n : Nat) (vd : Value) (ds : List (List UInt8)) (k : Nat), n ≤ k ∧ i = .int .i64 n ∧ k ≤ xs.length ∧ Std ds (bs (xs.take k)) ∧ ds.length = 300 ∧ Dk w wr G T (.slice ao xs.length cap) xs vd ds k) (fun _ i _ => 101 - (intOf i).toNat)
          case atStart => exact ⟨0, _, ds, _, Nat.zero_le _, rfl, hkx, unhide HSD, hdl, unhide HK2⟩
          case round =>
            clear HK2 HSD hdl hkx
            obtain ⟨n, vd, ds, k, hn, rfl, hkx, hstd, hdl, hK⟩ := hrel
            have HK := hide hK
            have HSD := hide hstd
            have hc1 : wr.cell? ⟨G, 1, none⟩ = some (.slice ao xs.length cap) := hK.cells.c1
            have hc3 : wr.cell? ⟨G, 3, none⟩ = some (.int .i64 (k : Int)) := hK.cells.c3
            have hd1 : decide ((n : Int) ≤ 100) = true := by simp; omega
            clear hK hstd
            by_cases hgo : k < xs.length
            · have hd3 : decide ((k : Int) < (xs.length : Int)) = true := by simp; omega
              go_wp2_with fail
              go_quiet (fail)
              have K2 := hide ((unhide HK).below (below_drewN (Below.refl wr.heap.size wr) nq))
              generalize wr.drewN nq = W2 at K2 ⊢
              clear HK hc1 hc3
              have hc3 := (unhide K2).cells.c3
              have hw2 : IntKind.i64.wrap ((n : Int) + (bas.length : Int)) = (n : Int) + (bas.length : Int) := i64w _ (by omega)
              go_wp2_with fail
              refine (pick_any ((n : Int) + (bas.length : Int)) 17 _ (by omega) (by omega) (by omega)).mono ?_
              rintro e w3 ⟨p, hp, rfl, rfl⟩
              have hDS := dstep_full w w3 G T (.slice ao xs.length cap) xs vd ds k (1 + p) xs.length 0 0 (unhide K2) ⟨unhide HSD, hdl, hgo, Nat.le_refl _, hxl, unhide HX, by omega, by omega, .inl ⟨rfl, rfl⟩⟩ (unhide HRT) (unhide HTZ) (unhide HT)
              have ht1 : k < toK xs k (1 + p) := by unfold toK; omega
              have ht2 : toK xs k (1 + p) ≤ xs.length := by unfold toK; omega
              generalize toK xs k (1 + p) = t at hDS ht1 ht2
              rw [Int.natCast_add] at hDS
              have HDS := hide hDS
              clear hDS hc3
              go_wp2_with fail
              refine (unhide HDS).mono ?_
              rintro e w4 ⟨rfl, vd4, ds4, hstd4, hdl4, hK4⟩
              have hc3 := hK4.cells.c3
              have hd5 : decide ((t : Int) ≤ (k : Int)) = false := by simp; omega
              clear HDS K2
              go_wp2_with fail
              go_roundw
              case rel => exact ⟨n + 1, vd4, ds4, t, by omega, by go_num, ht2, hstd4, hdl4, hK4⟩
              case measure => simp [intOf]; omega
            · have hd3 : decide ((k : Int) < (xs.length : Int)) = false := by simp; omega
              obtain rfl : k = xs.length := by omega
              go_wp2_with fail
              go_quiet (fail)
              have K2 := hide ((unhide HK).below (below_drewN (Below.refl wr.heap.size wr) nq))
              generalize wr.drewN nq = W2 at K2 ⊢
              have hSR : stepR T.data.toList ds 1 = ([], 8, 0) := by
                unfold stepR
                have hde : dEnt ds = (bs (xs.take xs.length), 0) := by unfold dEnt; rw [(unhide HSD).ok]
                rw [hde, if_neg (by simp), if_neg (by omega), unhide HRT]
                unfold stepOf
                rw [if_neg (by simp), if_pos (Nat.le_refl _)]
              have hSt := fun wq hd => Step_any T vd ds 1 wq (unhide HTZ) hd
              rw [hSR] at hSt
              have HSt := hide hSt
              have hr8 : W2.drew.cell? ⟨G, 0, none⟩ = some (.string T) ∧ W2.drew.cell? ⟨G, 2, none⟩ = some vd := ⟨(unhide K2).cells.c0, (unhide K2).cells.c2⟩
              clear hSR hSt HK hc1 hc3
              go_upto_region 21 with fail
              go_region_held3 (fun w' => w'.cell? ⟨G, 0, none⟩ = some (.string T) ∧ w'.cell? ⟨G, 2, none⟩ = some vd) (first | (with_reducible exact hr8) | (with_reducible exact hr9)) ((go_at_call 42; refine (unhide HSt _ ((unhide K2).digs.below ((Below.refl W2.heap.size W2).drew) (Nat.le_refl _))).mono ?_; rintro e w7 ⟨vp, rfl, hown7, hb7'⟩; have hr9 : w7.cell? ⟨G, 0, none⟩ = some (.string T) ∧ w7.cell? ⟨G, 2, none⟩ = some vd := ⟨((unhide K2).below (drew_bel hb7')).cells.c0, ((unhide K2).below (drew_bel hb7')).cells.c2⟩))
              have hK7 := (unhide K2).below (drew_bel hb7')
              have hc1 := hK7.cells.c1
              have hc3 := hK7.cells.c3
              have hbel := hK7.bel
              obtain ⟨ap, cp, hvp⟩ := own_shape hown7
              subst hvp
              have hkk : ((xs.length : Int) == (xs.length : Int)) = true := by simp
              clear hr8 hr9 hown7 hb7' K2 HSt hK7
              go_wp2_with fail
              go_quiet (fail)
              go_wp2
              go_ret
              exact ⟨rfl, below_drewN hbel _⟩
        · have hd2 : decide ((n : Int) < 12) = false := by simp; omega
          clear hgo
          go_wp2_with fail
          go_quiet (fail)
          have HKX := hide ((unhide HK).below (below_drewN (Below.refl wr.heap.size wr) nq))
          generalize wr.drewN nq = WX at HKX ⊢
          clear HK hc1 hc3 K1
          have HK2 := hide (unhide HKX)
          go_wp2_with fail
          go_loopw [10, 14] (fun _ i wr => ∃ (n : Nat) (vd : Value) (ds : List (List UInt8)) (k : Nat), n ≤ k ∧ i = .int .i64 n ∧ k ≤ xs.length ∧ Std ds (bs (xs.take k)) ∧ ds.length = 300 ∧ Dk w wr G T (.slice ao xs.length cap) xs vd ds k) (fun _ i _ => 101 - (intOf i).toNat)
          case atStart => exact ⟨0, _, ds, _, Nat.zero_le _, rfl, hkx, unhide HSD, hdl, unhide HK2⟩
          case round =>
            clear HK2 HSD hdl hkx
            obtain ⟨n, vd, ds, k, hn, rfl, hkx, hstd, hdl, hK⟩ := hrel
            have HK := hide hK
            have HSD := hide hstd
            have hc1 : wr.cell? ⟨G, 1, none⟩ = some (.slice ao xs.length cap) := hK.cells.c1
            have hc3 : wr.cell? ⟨G, 3, none⟩ = some (.int .i64 (k : Int)) := hK.cells.c3
            have hd1 : decide ((n : Int) ≤ 100) = true := by simp; omega
            clear hK hstd
            by_cases hgo : k < xs.length
            · have hd3 : decide ((k : Int) < (xs.length : Int)) = true := by simp; omega
              go_wp2_with fail
              go_quiet (fail)
              have K2 := hide ((unhide HK).below (below_drewN (Below.refl wr.heap.size wr) nq))
              generalize wr.drewN nq = W2 at K2 ⊢
              clear HK hc1 hc3
              have hc3 := (unhide K2).cells.c3
              have hw2 : IntKind.i64.wrap ((n : Int) + (bas.length : Int)) = (n : Int) + (bas.length : Int) := i64w _ (by omega)
              go_wp2_with fail
              refine (pick_any ((n : Int) + (bas.length : Int)) 17 _ (by omega) (by omega) (by omega)).mono ?_
              rintro e w3 ⟨p, hp, rfl, rfl⟩
              have hDS := dstep_full w w3 G T (.slice ao xs.length cap) xs vd ds k (1 + p) xs.length 0 0 (unhide K2) ⟨unhide HSD, hdl, hgo, Nat.le_refl _, hxl, unhide HX, by omega, by omega, .inl ⟨rfl, rfl⟩⟩ (unhide HRT) (unhide HTZ) (unhide HT)
              have ht1 : k < toK xs k (1 + p) := by unfold toK; omega
              have ht2 : toK xs k (1 + p) ≤ xs.length := by unfold toK; omega
              generalize toK xs k (1 + p) = t at hDS ht1 ht2
              rw [Int.natCast_add] at hDS
              have HDS := hide hDS
              clear hDS hc3
              go_wp2_with fail
              refine (unhide HDS).mono ?_
              rintro e w4 ⟨rfl, vd4, ds4, hstd4, hdl4, hK4⟩
              have hc3 := hK4.cells.c3
              have hd5 : decide ((t : Int) ≤ (k : Int)) = false := by simp; omega
              clear HDS K2
              go_wp2_with fail
              go_roundw
              case rel => exact ⟨n + 1, vd4, ds4, t, by omega, by go_num, ht2, hstd4, hdl4, hK4⟩
              case measure => simp [intOf]; omega
            · have hd3 : decide ((k : Int) < (xs.length : Int)) = false := by simp; omega
              obtain rfl : k = xs.length := by omega
              go_wp2_with fail
              go_quiet (fail)
              have K2 := hide ((unhide HK).below (below_drewN (Below.refl wr.heap.size wr) nq))
              generalize wr.drewN nq = W2 at K2 ⊢
              have hSR : stepR T.data.toList ds 1 = ([], 8, 0) := by
                unfold stepR
                have hde : dEnt ds = (bs (xs.take xs.length), 0) := by unfold dEnt; rw [(unhide HSD).ok]
                rw [hde, if_neg (by simp), if_neg (by omega), unhide HRT]
                unfold stepOf
                rw [if_neg (by simp), if_pos (Nat.le_refl _)]
              have hSt := fun wq hd => Step_any T vd ds 1 wq (unhide HTZ) hd
              rw [hSR] at hSt
              have HSt := hide hSt
              have hr8 : W2.drew.cell? ⟨G, 0, none⟩ = some (.string T) ∧ W2.drew.cell? ⟨G, 2, none⟩ = some vd := ⟨(unhide K2).cells.c0, (unhide K2).cells.c2⟩
              clear hSR hSt HK hc1 hc3
              go_upto_region 21 with fail
              go_region_held3 (fun w' => w'.cell? ⟨G, 0, none⟩ = some (.string T) ∧ w'.cell? ⟨G, 2, none⟩ = some vd) (first | (with_reducible exact hr8) | (with_reducible exact hr9)) ((go_at_call 42; refine (unhide HSt _ ((unhide K2).digs.below ((Below.refl W2.heap.size W2).drew) (Nat.le_refl _))).mono ?_; rintro e w7 ⟨vp, rfl, hown7, hb7'⟩; have hr9 : w7.cell? ⟨G, 0, none⟩ = some (.string T) ∧ w7.cell? ⟨G, 2, none⟩ = some vd := ⟨((unhide K2).below (drew_bel hb7')).cells.c0, ((unhide K2).below (drew_bel hb7')).cells.c2⟩))
              have hK7 := (unhide K2).below (drew_bel hb7')
              have hc1 := hK7.cells.c1
              have hc3 := hK7.cells.c3
              have hbel := hK7.bel
              obtain ⟨ap, cp, hvp⟩ := own_shape hown7
              subst hvp
              have hkk : ((xs.length : Int) == (xs.length : Int)) = true := by simp
              clear hr8 hr9 hown7 hb7' K2 HSt hK7
              go_wp2_with fail
              go_quiet (fail)
              go_wp2
              go_ret
              exact ⟨rfl, below_drewN hbel _⟩
      · have hd1 : decide ((n : Int) < (bas.length : Int)) = false := by simp; omega
        clear hgo
        go_wp2_with fail
        go_quiet (fail)
        have HKX := hide ((unhide HK).below (below_drewN (Below.refl wr.heap.size wr) nq))
        generalize wr.drewN nq = WX at HKX ⊢
        clear HK hc1 hc3 K1
        have HK2 := hide (unhide HKX)
        go_wp2_with fail
        go_loopw [10, 14] (fun _ i wr => ∃ (n : Nat) (vd : Value) (ds : List (List UInt8)) (k : Nat), n ≤ k ∧ i = .int .i64 n ∧ k ≤ xs.length ∧ Std ds (bs (xs.take k)) ∧ ds.length = 300 ∧ Dk w wr G T (.slice ao xs.length cap) xs vd ds k) (fun _ i _ => 101 - (intOf i).toNat)
        case atStart => exact ⟨0, _, ds, _, Nat.zero_le _, rfl, hkx, unhide HSD, hdl, unhide HK2⟩
        case round =>
          clear HK2 HSD hdl hkx
          obtain ⟨n, vd, ds, k, hn, rfl, hkx, hstd, hdl, hK⟩ := hrel
          have HK := hide hK
          have HSD := hide hstd
          have hc1 : wr.cell? ⟨G, 1, none⟩ = some (.slice ao xs.length cap) := hK.cells.c1
          have hc3 : wr.cell? ⟨G, 3, none⟩ = some (.int .i64 (k : Int)) := hK.cells.c3
          have hd1 : decide ((n : Int) ≤ 100) = true := by simp; omega
          clear hK hstd
          by_cases hgo : k < xs.length
          · have hd3 : decide ((k : Int) < (xs.length : Int)) = true := by simp; omega
            go_wp2_with fail
            go_quiet (fail)
            have K2 := hide ((unhide HK).below (below_drewN (Below.refl wr.heap.size wr) nq))
            generalize wr.drewN nq = W2 at K2 ⊢
            clear HK hc1 hc3
            have hc3 := (unhide K2).cells.c3
            have hw2 : IntKind.i64.wrap ((n : Int) + (bas.length : Int)) = (n : Int) + (bas.length : Int) := i64w _ (by omega)
            go_wp2_with fail
            refine (pick_any ((n : Int) + (bas.length : Int)) 17 _ (by omega) (by omega) (by omega)).mono ?_
            rintro e w3 ⟨p, hp, rfl, rfl⟩
            have hDS := dstep_full w w3 G T (.slice ao xs.length cap) xs vd ds k (1 + p) xs.length 0 0 (unhide K2) ⟨unhide HSD, hdl, hgo, Nat.le_refl _, hxl, unhide HX, by omega, by omega, .inl ⟨rfl, rfl⟩⟩ (unhide HRT) (unhide HTZ) (unhide HT)
            have ht1 : k < toK xs k (1 + p) := by unfold toK; omega
            have ht2 : toK xs k (1 + p) ≤ xs.length := by unfold toK; omega
            generalize toK xs k (1 + p) = t at hDS ht1 ht2
            rw [Int.natCast_add] at hDS
            have HDS := hide hDS
            clear hDS hc3
            go_wp2_with fail
            refine (unhide HDS).mono ?_
            rintro e w4 ⟨rfl, vd4, ds4, hstd4, hdl4, hK4⟩
            have hc3 := hK4.cells.c3
            have hd5 : decide ((t : Int) ≤ (k : Int)) = false := by simp; omega
            clear HDS K2
            go_wp2_with fail
            go_roundw
            case rel => exact ⟨n + 1, vd4, ds4, t, by omega, by go_num, ht2, hstd4, hdl4, hK4⟩
            case measure => simp [intOf]; omega
          · have hd3 : decide ((k : Int) < (xs.length : Int)) = false := by simp; omega
            obtain rfl : k = xs.length := by omega
            go_wp2_with fail
            go_quiet (fail)
            have K2 := hide ((unhide HK).below (below_drewN (Below.refl wr.heap.size wr) nq))
            generalize wr.drewN nq = W2 at K2 ⊢
            have hSR : stepR T.data.toList ds 1 = ([], 8, 0) := by
              unfold stepR
              have hde : dEnt ds = (bs (xs.take xs.length), 0) := by unfold dEnt; rw [(unhide HSD).ok]
              rw [hde, if_neg (by simp), if_neg (by omega), unhide HRT]
              unfold stepOf
              rw [if_neg (by simp), if_pos (Nat.le_refl _)]
            have hSt := fun wq hd => Step_any T vd ds 1 wq (unhide HTZ) hd
            rw [hSR] at hSt
            have HSt := hide hSt
            have hr8 : W2.drew.cell? ⟨G, 0, none⟩ = some (.string T) ∧ W2.drew.cell? ⟨G, 2, none⟩ = some vd := ⟨(unhide K2).cells.c0, (unhide K2).cells.c2⟩
            clear hSR hSt HK hc1 hc3
            go_upto_region 21 with fail
            go_region_held3 (fun w' => w'.cell? ⟨G, 0, none⟩ = some (.string T) ∧ w'.cell? ⟨G, 2, none⟩ = some vd) (first | (with_reducible exact hr8) | (with_reducible exact hr9)) ((go_at_call 42; refine (unhide HSt _ ((unhide K2).digs.below ((Below.refl W2.heap.size W2).drew) (Nat.le_refl _))).mono ?_; rintro e w7 ⟨vp, rfl, hown7, hb7'⟩; have hr9 : w7.cell? ⟨G, 0, none⟩ = some (.string T) ∧ w7.cell? ⟨G, 2, none⟩ = some vd := ⟨((unhide K2).below (drew_bel hb7')).cells.c0, ((unhide K2).below (drew_bel hb7')).cells.c2⟩))
            have hK7 := (unhide K2).below (drew_bel hb7')
            have hc1 := hK7.cells.c1
            have hc3 := hK7.cells.c3
            have hbel := hK7.bel
            obtain ⟨ap, cp, hvp⟩ := own_shape hown7
            subst hvp
            have hkk : ((xs.length : Int) == (xs.length : Int)) = true := by simp
            clear hr8 hr9 hown7 hb7' K2 HSt hK7
            go_wp2_with fail
            go_quiet (fail)
            go_wp2
            go_ret
            exact ⟨rfl, below_drewN hbel _⟩
end Go.Proofs.YtanfolfopalbeaaDoor
