/- World between its calls; World's stands: the contract. The reference's Done: the contract. Plans done and crashed, over a log: plain mathematics for the statements by the document's answer. The reference's Crashed: the contract. What Step answers against what Wanted wants: the mathematics of World's move. World's move: the contract. What Carries makes at its beginning: the object World. Carries: the contract. What the two rows over the program's tables share: that a row's list gives the tables, and a world for the witness. Digests, and slices of digests, that come in as arguments; how long a reading is. A slice of moves that comes in as an argument. -/
import Derived.Test.YtanfolfopalbeaaDoorCommS
import Derived.Test.YtanfolfopalbeaaDoorCommS
import Derived.Test.YtanfolfopalbeaaDoorCommR
import Derived.BigRegion
import Derived.Test.YtanfolfopalbeaaDoorCards
import Derived.Test.YtanfolfopalbeaaDoorTie
import Derived.Test.YtanfolfopalbeaaDoorKeep
import Derived.ProofKit
import Derived.OpenShut
import Derived.Deep.DeepHandedRow
import Derived.Lib.LaidTab
import Derived.Stop.LaidErr
import Derived.Test.YtanfolfopalbeaaDoorTreeClimb
import Derived.Carry
import Derived.Deep.Slices
import Derived.Deep.Strs
namespace Go.Proofs.YtanfolfopalbeaaDoor
open Go.RowKit

/-- What holds of World between its calls: its sums' table, its log, its disk, how many were carried over, its book. -/
structure Wd (B : Nat) (w : World) (G : Nat) (cs : Array Value) (tb : List Nat) (s : ByteArray) (rs ds : List (List UInt8)) (k n m : Nat) (lv dv : Value) : Prop where
  bk : Bk3E 72 76 B w G cs n m (fun q => lv.ownBlock = some q ∨ dv.ownBlock = some q)
  hs : ∀ j, j < 72 → cs[j]? = (ucells tb)[j]?
  ho : cs[72]? = some (.string s)
  hl : cs[73]? = some lv
  hd : cs[74]? = some dv
  hk : cs[75]? = some (.int .i64 (k : Int))
  ol : w.ownsRow B 9 1 lv rs.length ((rs.map mk).map Value.string)
  od : w.ownsRow B 126 32 dv ds.length (dcells ds)
  el : ∀ d ∈ ds, d.length = 32
  base : B ≤ w.heap.size
theorem Wd.later {B : Nat} {w : World} {G : Nat} {cs : Array Value} {tb : List Nat} {s : ByteArray} {rs ds : List (List UInt8)} {k n m : Nat} {lv dv : Value} (h : Wd B w G cs tb s rs ds k n m lv dv) {w' : World} (hb : Below w.heap.size w w') : Wd B w' G cs tb s rs ds k n m lv dv :=
  ⟨h.bk.later hb (fun q hq => ⟨Nat.lt_of_lt_of_le (by rcases hq with hq | hq; exact (h.ol.lt q hq).2; exact (h.od.lt q hq).2) hb.size, .inl hq⟩), h.hs, h.ho, h.hl, h.hd, h.hk, own_keep h.ol hb, own_keep h.od hb, h.el, Nat.le_trans h.base hb.size⟩
theorem Wd.cell {B : Nat} {w : World} {G : Nat} {cs : Array Value} {tb : List Nat} {s : ByteArray} {rs ds : List (List UInt8)} {k n m : Nat} {lv dv : Value} (h : Wd B w G cs tb s rs ds k n m lv dv) : w.cell? ⟨G, 72, none⟩ = some (.string s) ∧ w.cell? ⟨G, 73, none⟩ = some lv ∧ w.cell? ⟨G, 74, none⟩ = some dv ∧ w.cell? ⟨G, 75, none⟩ = some (.int .i64 (k : Int)) :=
  ⟨by rw [cell_of_row w G _ _ _ _ h.bk.block]; exact h.ho, by rw [cell_of_row w G _ _ _ _ h.bk.block]; exact h.hl, by rw [cell_of_row w G _ _ _ _ h.bk.block]; exact h.hd, by rw [cell_of_row w G _ _ _ _ h.bk.block]; exact h.hk⟩
theorem Wd.range {B : Nat} {w : World} {G : Nat} {cs : Array Value} {tb : List Nat} {s : ByteArray} {rs ds : List (List UInt8)} {k n m : Nat} {lv dv : Value} (h : Wd B w G cs tb s rs ds k n m lv dv) (htl : tb.length = 72) : w.rangeAt G 0 (ucells tb) := fun j v hj => by
  have hj2 : j < 72 := by
    have := (List.getElem?_eq_some_iff.1 hj).1
    rw [ucells_length, htl] at this
    exact this
  rw [Nat.zero_add, cell_of_row w G _ _ _ _ h.bk.block, h.hs j hj2]
  exact hj
theorem Wd.digs {B : Nat} {w : World} {G : Nat} {cs : Array Value} {tb : List Nat} {s : ByteArray} {rs ds : List (List UInt8)} {k n m : Nat} {lv dv : Value} (h : Wd B w G cs tb s rs ds k n m lv dv) : Digs w dv ds := digs_of_own h.el h.od rfl
theorem wd_strs {B : Nat} {w : World} {G : Nat} {cs : Array Value} {tb : List Nat} {s : ByteArray} {rs ds : List (List UInt8)} {k n m : Nat} {lv dv : Value} (h : Wd B w G cs tb s rs ds k n m lv dv) : Strs w lv (rs.map mk) := strs_of_own h.ol
theorem Wd.gl {B : Nat} {w : World} {G : Nat} {cs : Array Value} {tb : List Nat} {s : ByteArray} {rs ds : List (List UInt8)} {k n m : Nat} {lv dv : Value} (h : Wd B w G cs tb s rs ds k n m lv dv) : G < w.heap.size ∧ B ≤ G := by
  obtain ⟨_, _, _, _, _, _, _, _, _, hx, _⟩ := h.bk
  exact ⟨hx.T.bk.lt, hx.T.base⟩

theorem fl_oneW (l : List (List UInt8)) : fl (l.map fun e => [Value.string (mk e)]) = (l.map mk).map Value.string := by
  unfold fl
  induction l with
  | nil => rfl
  | cons a r ih => simp only [List.map_cons, List.flatten_cons, ih]; rfl
theorem Bk3E.less {ty : TypeId} {o B : Nat} {w : World} {G : Nat} {cs : Array Value} {n m : Nat} {Q Q' : Nat → Prop} (h : Bk3E ty o B w G cs n m Q) (hQ : ∀ k, Q' k → Q k) : Bk3E ty o B w G cs n m Q' := by
  obtain ⟨tT, xT, tS, xS, tP, xP, rT, rS, rP, H, hT, hS, hP, hq⟩ := h
  exact ⟨tT, xT, tS, xS, tP, xP, rT, rS, rP, H, hT, hS, hP, fun k hk => hq k (hQ k hk)⟩
theorem made_belW {w w' : World} {o : Obj} (hb : Below (w.alloc o).drew.heap.size (w.alloc o).drew w') : Below w.heap.size w w' := by
  have h1 : Below w.heap.size w (w.alloc o).drew := ((Below.refl _ _).alloc (Nat.le_refl _) _).drew
  have hsz : (w.alloc o).drew.heap.size = w.heap.size + 1 := by show (w.alloc o).heap.size = _; simp
  exact h1.trans (hb.mono (by rw [hsz]; omega))
theorem putN (w : World) (cs cs' : Array Value) (t : TypeId) : Below w.heap.size w ((w.alloc (.cells cs t)).setRow w.heap.size cs') ∧ ((w.alloc (.cells cs t)).setRow w.heap.size cs').heap[w.heap.size]? = some (.cells cs' t (0, 0)) ∧ ((w.alloc (.cells cs t)).setRow w.heap.size cs').heap.size = w.heap.size + 1 :=
  ⟨below_row ((Below.refl _ _).alloc (Nat.le_refl _) _) (Nat.le_refl _) _, setRow_heap _ _ _ _ _ _ (heap_alloc_new w _), by rw [setRow_size]; simp⟩

set_option maxRecDepth 100000 in
set_option maxHeartbeats 3200000 in
theorem stands_any (B : Nat) (w : World) (G : Nat) (cs : Array Value) (tb : List Nat) (s : ByteArray) (rs ds : List (List UInt8)) (k0 k n m : Nat) (lv dv : Value) (least most : Nat) (H : Wd B w G cs tb s rs ds k0 n m lv dv) (ht : TabOk tb) (hstd : Std ds (rs.take k)) (hk : k ≤ rs.length) (h100 : rs.length ≤ 100) (hz : ∀ e ∈ rs, e.length ≤ 20) (hlm : k = least ∨ k = most) (hT : ∀ wq, Below B w wq → Tabs wq) (hn : n ≤ 1099511627776) (hm : m ≤ 1099511627776) :
    Calls Tryd.prog 36 #[.pointer (some ⟨G, 0, none⟩), .int .i64 least, .int .i64 most] w fun e w' => e = .returned (.bool true) ∧ (∃ cs', Wd B w' G cs' tb s rs ds k (n + 1) (m + 4) lv dv) ∧ Below B w w' := by
  have h2 := hstd.n2
  have h3 := hstd.n300
  have hde : dEnt ds = (rs.take k, 0) := by unfold dEnt; rw [hstd.ok]
  have hst := fun vq wq hd ht => Status_any vq ds wq hd ht
  have hen := fun vq wq hd => Entries_any vq ds wq hd
  rw [show staRoot ds = rootL ((rs.take k).map mk) by unfold staRoot; rw [hde, if_pos rfl], hde] at hst
  rw [hde] at hen
  have htl : (rs.take k).length = k := by rw [List.length_take]; omega
  simp only [htl] at hst hen
  have hrl := rootL_length ((rs.take k).map mk)
  have hml : (rs.map mk).length = rs.length := List.length_map ..
  have hmk2 : (rs.map mk).take k = (rs.take k).map mk := (List.map_take ..).symm
  have hrt := fun vq wq hs => rtree_any tb ht vq ((rs.take k).map mk) wq hs (by rw [List.length_map, htl]; omega) (fun x hx => by
    obtain ⟨y, hy, rfl⟩ := List.mem_map.1 hx
    rw [mk_size]
    exact hz y (List.mem_of_mem_take hy))
  generalize rootL ((rs.take k).map mk) = R at hst hrt hrl
  have VT := hide (v_tab tb ht.1)
  have VR := hide (v_dg R hrl)
  have ZR := hide (v_z32 R hrl)
  have HST := hide hst
  have HEN := hide hen
  have HRT := hide hrt
  have HT := hide hT
  have HW := hide H
  obtain ⟨aol, cpl, hlve⟩ := own_shape H.ol
  obtain ⟨aod, cpd, hdve⟩ := own_shape H.od
  subst hlve hdve
  have hcpl : cpl ≤ 9223372036854775807 ∧ rs.length ≤ cpl := by
    obtain ⟨_, _, he, h4, h5, _⟩ := wd_strs H
    injection he with _ _ he3
    subst he3
    rw [hml] at h4
    exact ⟨h5, h4⟩
  have hld := lendK_any (.slice aod ds.length cpd) ds w H.digs (by omega)
  obtain ⟨_, _, c74, _⟩ := H.cell
  clear H hT hst hen hrt
  go_enter Tryd.func36, Tryd.ntmps36
  go_wp2_with fail
  refine hld.mono ?_
  rintro e w1 ⟨rfl, hown1, hb1⟩
  have W1 := hide ((unhide HW).later hb1)
  have X1 := hide (digs_of_own (lentD_elem ds (unhide HW).el) hown1 (lentD_length ds).symm)
  have F1 := hide (show Digs w1 (.slice (some ⟨w.heap.size, 0, none⟩) ds.length (ds.length + 2)) ds by
    have := (unhide X1).front ds.length (by omega)
    rw [show (lentD ds).take ds.length = ds from List.take_left' rfl] at this
    exact this)
  have KB1 := hide hb1
  have d74 := (unhide W1).cell.2.2.1
  have hs1 := hb1.size
  clear hown1 hb1 c74 hld
  go_wp2_with fail
  refine (unhide HST _ _ (unhide F1) (unhide HT _ ((unhide KB1).mono (unhide HW).base))).mono ?_
  rintro e w2 ⟨rfl, hb2⟩
  have P3 := putN w2 (bcells z32).toArray (bcells R).toArray 31
  have W2 := hide ((unhide W1).later hb2)
  have X2 := hide ((unhide X1).below hb2 (Nat.le_refl _))
  have F2 := hide ((unhide F1).below hb2 (Nat.le_refl _))
  have KB2 := hide ((unhide KB1).trans (hb2.mono (unhide KB1).size))
  clear hb2 W1 X1 F1 KB1 d74 HST
  go_upto_region 4 with ((with_reducible refine at_store ?_); go_must (refine wpList_store_row rfl 31 _ _ rfl w2.heap.size (bcells R).toArray rfl rfl 31 _ (heap_alloc_new w2 _) (unhide VR) (unhide ZR) (bcells_one R) ?_))
  rw [← z32_cells]
  generalize (w2.alloc (.cells (bcells z32).toArray 31)).setRow w2.heap.size (bcells R).toArray = w3 at P3 ⊢
  obtain ⟨hb3, hg3, hz3⟩ := P3
  have W3 := hide ((unhide W2).later hb3)
  have X3 := hide ((unhide X2).below hb3 (Nat.le_refl _))
  have F3 := hide ((unhide F2).below hb3 (Nat.le_refl _))
  have KB3 := hide ((unhide KB2).trans (hb3.mono (unhide KB2).size))
  have R3 := hide hg3
  have hA1 : w2.heap.size < w3.heap.size := by omega
  have hA0 : w.heap.size ≤ w2.heap.size := (unhide KB2).size
  generalize w2.heap.size = A1 at R3 hA1 hA0 ⊢
  clear hb3 hg3 hz3 W2 X2 F2 KB2
  go_wp2_with fail
  refine (unhide HEN _ _ (unhide F3)).mono ?_
  rintro e w4 ⟨v4, rfl, hown4, hb4⟩
  obtain ⟨ao4, cp4, rfl⟩ := own_shape hown4
  have W4 := hide ((unhide W3).later hb4)
  have X4 := hide ((unhide X3).below hb4 (Nat.le_refl _))
  have KB4 := hide ((unhide KB3).trans (hb4.mono (unhide KB3).size))
  have R4 := hide ((hb4.block _ hA1).trans (unhide R3))
  have O4 := hide hown4
  have hs4 := hb4.size
  have d74 := (unhide W4).cell.2.2.1
  clear hb4 hown4 W3 X3 F3 KB3 R3 HEN
  go_wp2_with fail
  refine (lentK_any _ _ ds _ (unhide X4) (unhide W4).digs (by omega)).mono ?_
  rintro e w5 ⟨rfl, hb5⟩
  have W5 := hide ((unhide W4).later hb5)
  have KB5 := hide ((unhide KB4).trans (hb5.mono (unhide KB4).size))
  have R5 := hide ((hb5.block _ (by omega)).trans (unhide R4))
  have O5 := hide (own_keep (unhide O4) hb5)
  have hs5 := hb5.size
  have hb4k : ∀ q, (Value.slice ao4 k cp4).ownBlock = some q → w3.heap.size ≤ q ∧ q < w4.heap.size := fun q hq => (unhide O4).lt q hq
  clear hb5 W4 X4 KB4 R4 O4 d74
  have hnu := fun wq => num_any 0 wq
  go_upto_region 6 with fail
  go_cut [69] from 48 to 68 (fun p wx => p = .bool false ∧ wx = w5)
  case first =>
    by_cases h1 : k = least
    · have hk1 : ((k : Int) != (least : Int)) = false := by rw [h1]; simp
      clear h1 hlm
      go_wp2_with (go_at_call 44; refine (hnu _).mono ?_; rintro e wz ⟨rfl, hez⟩; have hez2 := hez.symm; clear hez; subst hez2)
      go_meet
      exact ⟨rfl, rfl⟩
    · have hk1 : ((k : Int) != (least : Int)) = true := by rw [bne_iff_ne]; omega
      have hk2 : ((k : Int) != (most : Int)) = false := by
        rcases hlm with h | h
        · exact absurd h h1
        · rw [h]; simp
      go_wp2_with (go_at_call 44; refine (hnu _).mono ?_; rintro e wz ⟨rfl, hez⟩; have hez2 := hez.symm; clear hez; subst hez2)
      go_meet
      exact ⟨rfl, rfl⟩
  case rest =>
    obtain ⟨rfl, hwc⟩ := hcut
    have hwc2 := hwc.symm
    clear hwc
    subst hwc2
    have CW := hide (fun wq (hb : Below w5.heap.size w5 wq) => show wq.rangeAt G 0 (ucells tb) ∧ wq.cell? ⟨G, 73, none⟩ = some (.slice aol rs.length cpl) from ⟨((unhide W5).later hb).range ht.1, ((unhide W5).later hb).cell.2.1⟩)
    have CS := hide (fun wq (hb : Below w5.heap.size w5 wq) => show Strs wq (.slice aol k cpl) ((rs.take k).map mk) from by
      have := strs_cut' (wd_strs ((unhide W5).later hb)) k (by omega)
      rw [hmk2] at this
      exact this)
    have hr8 := unhide CW w5.drew (Below.refl w5.heap.size w5).drew
    have hrA := fun o => unhide CW (w5.alloc o).drew ((Below.refl w5.heap.size w5).alloc (Nat.le_refl _) o).drew
    have hu := Tryd.underlying26
    have hmi := v_tabm tb ht.1
    have fk0 : (0 : Int) ≤ (k : Int) := by omega
    have fk1 : (k : Int) ≤ (cpl : Int) := by omega
    go_wp2_with fail
    go_cut [15] from 70 to 80 (fun p wx => ∃ g : Nat, p = .pointer (some ⟨g, 0, none⟩) ∧ wx.heap[g]? = some (.cells (bcells R).toArray 31 (0, 0)) ∧ w5.heap.size ≤ g ∧ Below w5.heap.size w5 wx)
    case first =>
      refine wp_region_held_drew (S := fun w' => w'.rangeAt G 0 (ucells tb) ∧ w'.cell? ⟨G, 73, none⟩ = some (.slice aol rs.length cpl)) (by kernel_rfl) hr8 (fun hHeld => ?_)
      refine wpAnyH_take (i := 0) (v := .pointer (some ⟨G, 0, none⟩)) rfl (by kernel_rfl) (by kernel_rfl) (by kernel_rfl) (fun _ _ _ h => h) (Or.inl ⟨by rfl, fun _ hq => by clear hq; go_simp⟩) hHeld ?_
      refine wpAnyH_take (i := 1) (v := .pointer (some ⟨G, 0, none⟩)) rfl (by kernel_rfl) (by kernel_rfl) (by kernel_rfl) (fun _ _ _ h => h) (Or.inl ⟨by rfl, fun _ hq => by clear hq; go_simp⟩) hHeld ?_
      refine wpAnyH_take (i := 2) (v := .pointer (some ⟨G, 0, none⟩)) rfl (by kernel_rfl) (by kernel_rfl) (by kernel_rfl) (fun _ _ _ h => h) (Or.inl ⟨by rfl, fun _ hq => by clear hq; go_simp⟩) hHeld ?_
      refine wpAnyH_take (i := 3) rfl (by kernel_rfl) (by kernel_rfl) (by kernel_rfl) (fun _ _ _ h => h) (yieldsIf_load_mid (by rfl) 26 _ rfl G 0 rfl (ucells tb) _ (fun _ h => h.1) Tryd.underlying26 rfl hmi) hHeld ?_
      refine wpAnyH_take (i := 4) (v := .pointer (some ⟨G, 0, none⟩)) rfl (by kernel_rfl) (by kernel_rfl) (by kernel_rfl) (fun _ _ _ h => h) (Or.inl ⟨by rfl, fun _ hq => by clear hq; go_simp⟩) hHeld ?_
      refine wpAnyH_take (i := 5) (v := .pointer (some ⟨G, 0, none⟩)) rfl (by kernel_rfl) (by kernel_rfl) (by kernel_rfl) (fun _ _ _ h => h) (Or.inl ⟨by rfl, fun _ hq => by clear hq; go_simp⟩) hHeld ?_
      refine wpAnyH_take (i := 6) (v := .pointer (some ⟨G, 73, none⟩)) rfl (by kernel_rfl) (by kernel_rfl) (by kernel_rfl) (fun _ _ _ h => h) (Or.inl ⟨by rfl, fun _ hq => by clear hq; go_simp⟩) hHeld ?_
      refine wpAnyH_take (i := 7) (v := .slice aol rs.length cpl) rfl (by kernel_rfl) (by kernel_rfl) (by kernel_rfl) (fun _ _ _ h => h) (Or.inl ⟨by rfl, fun _ hq => by have h5 := hq.2; clear hq; go_simp⟩) hHeld ?_
      refine wpAnyH_take (i := 8) (v := .int .i64 k) rfl (by kernel_rfl) (by kernel_rfl) (by kernel_rfl) (fun _ _ _ h => h) (Or.inl ⟨by rfl, fun _ hq => by clear hq; go_simp⟩) hHeld ?_
      refine wpAnyH_take (i := 9) (v := .slice aol k cpl) rfl (by kernel_rfl) (by kernel_rfl) (by kernel_rfl) (fun _ _ _ h => h) (Or.inl ⟨by rfl, fun _ hq => by clear hq; go_simp⟩) hHeld ?_
      refine wpAnyH_ready (rs := [10, 11]) (by kernel_rfl) (by simp) ?_
      refine AllReadyH.cons rfl (fun K hK => ?_) (AllReadyH.cons rfl (fun K hK => ?_) AllReadyH.nil)
      · go_simp
        go_at_call 45
        refine (unhide HRT _ _ (unhide CS _ (Below.refl w5.heap.size w5).drew)).mono ?_
        rintro e w9 ⟨rfl, hb9⟩
        have hbF := drew_bel hb9
        dsimp only
        refine hK.out _ _ (unhide CW _ hbF) (fun hHeld => ?_)
        clear hK K
        refine wpAnyH_ready (rs := [11]) (by kernel_rfl) (by simp) ?_
        refine AllReadyH.cons rfl (fun K hK => ?_) AllReadyH.nil
        go_simp
        rw [← z32_cells]
        have hb3 : Below w5.heap.size w5 (w9.alloc (.cells (bcells z32).toArray 31)) := hbF.alloc hbF.size _
        have g3 : BRow (w9.alloc (.cells (bcells z32).toArray 31)) w9.heap.size 31 z32 := heap_alloc_new w9 _
        have hge := hbF.size
        generalize w9.heap.size = GX at g3 hge ⊢
        generalize w9.alloc (.cells (bcells z32).toArray 31) = wx at hb3 g3 ⊢
        refine hK.out _ _ (unhide CW _ hb3) (fun hHeld => ?_)
        clear hK K
        refine wpAnyH_ready (rs := [12]) (by kernel_rfl) (by simp) ?_
        refine AllReadyH.cons rfl (fun K hK => ?_) AllReadyH.nil
        rw [if_pos (by rfl)]
        refine wp_store_mid 31 _ _ rfl GX 0 (bcells R).toArray rfl rfl (by rw [bcells_size, hrl]; exact there_of_brow g3 rfl) (unhide VR) (bcells_one R) ?_
        rw [show (bcells R).toArray.toList = bcells R from rfl]
        have g4 : BRow (wx.setCells GX 0 (bcells R)) GX 31 R := brow_setCells g3 (by rw [hrl]; rfl)
        have hb4 : Below w5.heap.size w5 (wx.setCells GX 0 (bcells R)) := below_setCells hge _ _ hb3
        generalize wx.setCells GX 0 (bcells R) = wy at g4 hb4 ⊢
        refine hK.out _ _ (unhide CW _ hb4) (fun hHeld => ?_)
        clear hK K
        refine wpAnyH_done (by kernel_rfl) ?_ _
        go_wp2_with fail
        go_meet
        exact ⟨GX, rfl, g4, hge, hb4⟩
      · go_simp
        rw [← z32_cells]
        have hb3 : Below w5.heap.size w5 (w5.alloc (.cells (bcells z32).toArray 31)).drew := ((Below.refl _ _).alloc (Nat.le_refl _) _).drew
        have g3 : BRow (w5.alloc (.cells (bcells z32).toArray 31)).drew w5.heap.size 31 z32 := heap_alloc_new w5 _
        generalize (w5.alloc (.cells (bcells z32).toArray 31)).drew = wx at hb3 g3 ⊢
        refine hK.out _ _ (unhide CW _ hb3) (fun hHeld => ?_)
        clear hK K
        refine wpAnyH_ready (rs := [10]) (by kernel_rfl) (by simp) ?_
        refine AllReadyH.cons rfl (fun K hK => ?_) AllReadyH.nil
        go_simp
        go_at_call 45
        refine (unhide HRT _ _ (unhide CS _ hb3)).mono ?_
        rintro e w9 ⟨rfl, hb9⟩
        have hbG := hb3.trans (hb9.mono hb3.size)
        have g9 : BRow w9 w5.heap.size 31 z32 := (hb9.block _ (lt_of_block g3)).trans g3
        dsimp only
        refine hK.out _ _ (unhide CW _ hbG) (fun hHeld => ?_)
        clear hK K
        refine wpAnyH_ready (rs := [12]) (by kernel_rfl) (by simp) ?_
        refine AllReadyH.cons rfl (fun K hK => ?_) AllReadyH.nil
        rw [if_pos (by rfl)]
        refine wp_store_mid 31 _ _ rfl w5.heap.size 0 (bcells R).toArray rfl rfl (by rw [bcells_size, hrl]; exact there_of_brow g9 rfl) (unhide VR) (bcells_one R) ?_
        rw [show (bcells R).toArray.toList = bcells R from rfl]
        have g4 : BRow (w9.setCells w5.heap.size 0 (bcells R)) w5.heap.size 31 R := brow_setCells g9 (by rw [hrl]; rfl)
        have hb4 : Below w5.heap.size w5 (w9.setCells w5.heap.size 0 (bcells R)) := below_setCells (Nat.le_refl _) _ _ hbG
        generalize w9.setCells w5.heap.size 0 (bcells R) = wy at g4 hb4 ⊢
        refine hK.out _ _ (unhide CW _ hb4) (fun hHeld => ?_)
        clear hK K
        refine wpAnyH_done (by kernel_rfl) ?_ _
        go_wp2_with fail
        go_meet
        exact ⟨w5.heap.size, rfl, g4, Nat.le_refl _, hb4⟩
    case rest =>
      obtain ⟨A2, rfl, g6, hA2, hb6⟩ := hcut
      generalize wc = w6 at g6 hb6 ⊢
      have W6 := hide ((unhide W5).later hb6)
      have KB6 := hide ((unhide KB5).trans (hb6.mono (unhide KB5).size))
      have R6 := hide ((hb6.block _ (by omega)).trans (unhide R5))
      have T6 := hide g6
      have O6 := hide (own_keep (unhide O5) hb6)
      have S6 := hide (show Strs w6 (.slice aol k cpl) ((rs.take k).map mk) from unhide CS w6 hb6)
      have c73 := (unhide W6).cell.2.1
      have hs6 := hb6.size
      clear g6 hb6 hr8 hrA CW CS W5 KB5 R5 O5 HRT hu hmi
      go_wp2_with fail
      refine (sameT_any _ _ ((rs.take k).map mk) _ (strs_of_own (unhide O6)) (unhide S6)).mono ?_
      rintro e w7 ⟨rfl, hb7⟩
      have W7 := hide ((unhide W6).later hb7)
      have KB7 := hide ((unhide KB6).trans (hb7.mono (unhide KB6).size))
      have R7 := hide ((hb7.block _ (by omega)).trans (unhide R6))
      have T7 := hide ((hb7.block _ (lt_of_block (unhide T6))).trans (unhide T6))
      have O7 := hide (own_keep (unhide O6) hb7)
      have hs7 := hb7.size
      have hA2l := lt_of_block (unhide T7)
      clear hb7 W6 KB6 R6 T6 O6 S6 c73
      have hGw := (unhide HW).gl
      have hlq : ∀ q, (Value.slice aol rs.length cpl).ownBlock = some q ∨ (Value.slice aod ds.length cpd).ownBlock = some q → q < w.heap.size ∧ q ≠ G := fun q hq => by
        obtain ⟨_, _, _, _, _, _, _, _, _, _, _, _, _, hq2⟩ := (unhide HW).bk
        exact ⟨(hq2 q hq).1, (hq2 q hq).2.1⟩
      have B7 := (unhide HW).bk.later (unhide KB7) (Q' := fun q => ((Value.slice aol rs.length cpl).ownBlock = some q ∨ (Value.slice aod ds.length cpd).ownBlock = some q) ∨ (w.heap.size ≤ q ∧ q < w7.heap.size)) (fun q hq => by
        rcases hq with hq | hq
        · exact ⟨by have := (hlq q hq).1; have := (unhide KB7).size; omega, .inl hq⟩
        · exact ⟨hq.2, .inr hq.1⟩)
      have hs3 := strings3 72 76 B w7 G cs n m _ (fun q => ((Value.slice aol rs.length cpl).ownBlock = some q ∨ (Value.slice aod ds.length cpd).ownBlock = some q) ∨ q = A1 ∨ q = A2) B7 (.slice ao4 k cp4) k ((rs.take k).map fun e => [Value.string (mk e)]) (by rw [fl_oneW]; exact own_base (unhide O7) (by have := (unhide HW).base; omega)) (fun q hq => .inr (by have := hb4k q hq; omega)) (by omega) (by rw [List.length_map, htl]) (fun d hd => by
        obtain ⟨x, _, rfl⟩ := List.mem_map.1 hd; rfl)
        (fun q hq => by
          rcases hq with hq | hq | hq
          · exact ⟨.inl hq, fun h => by have := hb4k q h; have := (hlq q hq).1; omega⟩
          · exact ⟨.inr (by omega), fun h => by have := hb4k q h; omega⟩
          · exact ⟨.inr (by omega), fun h => by have := hb4k q h; omega⟩) hn hm
      have HS3 := hide hs3
      clear hs3 B7
      go_wp2_with fail
      refine (unhide HS3).mono ?_
      rintro e w8 ⟨cs8, hE8, hc8, hk8, hb8, rfl⟩
      have hG8 := hE8.block
      have c75 : w8.cell? ⟨G, 75, none⟩ = some (.int .i64 (k0 : Int)) := by rw [cell_of_row w8 G _ _ _ _ hG8, hc8 75 (by omega)]; exact (unhide HW).hk
      have f75 : w8.frozen? ⟨G, 75, none⟩ = false := frozen_of_row w8 G 75 _ _ hG8
      have hE9 := hE8.set 75 (.int .i64 (k : Int)) (by omega)
      have hfar := fun q (hq : q < w8.heap.size) (hne : q ≠ G) => heap_setCell_far w8 G 75 q (.int .i64 (k : Int)) hq hne
      have hq8 : ∀ q, (((Value.slice aol rs.length cpl).ownBlock = some q ∨ (Value.slice aod ds.length cpd).ownBlock = some q) ∨ q = A1 ∨ q = A2) → q < w8.heap.size ∧ q ≠ G := fun q hq => by
        obtain ⟨_, _, _, _, _, _, _, _, _, _, _, _, _, hq2⟩ := hE8
        exact ⟨(hq2 q hq).1, (hq2 q hq).2.1⟩
      have same9 : ∀ q, (((Value.slice aol rs.length cpl).ownBlock = some q ∨ (Value.slice aod ds.length cpd).ownBlock = some q) ∨ q = A1 ∨ q = A2) → (w8.setCell ⟨G, 75, none⟩ (.int .i64 (k : Int))).heap[q]? = w7.heap[q]? := fun q hq => (hfar q (hq8 q hq).1 (hq8 q hq).2).trans (hk8 q hq)
      have R9 := hide ((same9 A1 (.inr (.inl rfl))).trans (unhide R7))
      have T9 := hide ((same9 A2 (.inr (.inr rfl))).trans (unhide T7))
      have hsz9 : (w8.setCell ⟨G, 75, none⟩ (.int .i64 (k : Int))).heap.size = w8.heap.size := by simp [World.setCell]
      have WD := hide (show Wd B (w8.setCell ⟨G, 75, none⟩ (.int .i64 (k : Int))) G (cs8.setIfInBounds 75 (.int .i64 (k : Int))) tb s rs ds k (n + 1) (m + 4) (.slice aol rs.length cpl) (.slice aod ds.length cpd) from
        ⟨hE9.less (fun q hq => .inl hq), fun j hj => by rw [Array.getElem?_setIfInBounds, if_neg (by omega), hc8 j (by omega)]; exact (unhide HW).hs j hj,
          by rw [Array.getElem?_setIfInBounds, if_neg (by omega), hc8 72 (by omega)]; exact (unhide HW).ho, by rw [Array.getElem?_setIfInBounds, if_neg (by omega), hc8 73 (by omega)]; exact (unhide HW).hl,
          by rw [Array.getElem?_setIfInBounds, if_neg (by omega), hc8 74 (by omega)]; exact (unhide HW).hd, by rw [Array.getElem?_setIfInBounds, if_pos rfl, if_pos (by have := hc8 75 (by omega); rw [(unhide HW).hk] at this; exact (Array.getElem?_eq_some_iff.1 this).1)],
          own_sameB (unhide W7).ol (fun q hq => same9 q (.inl (.inl hq))), own_sameB (unhide W7).od (fun q hq => same9 q (.inl (.inr hq))), (unhide HW).el, by rw [hsz9]; have := hb8.size; have := (unhide W7).base; omega⟩)
      have BE := hide (show Below B w (w8.setCell ⟨G, 75, none⟩ (.int .i64 (k : Int))) from (((unhide KB7).mono (unhide HW).base).trans hb8).trans ((Below.refl B w8).grown (grown_setCell (grown_refl w8 (some G)) ⟨G, 75, none⟩ _ (.inl rfl)) (by have := hb8.size; have := (unhide W7).base; omega) (fun q h => by injection h with h; rw [← h]; exact hGw.2)))
      have hsame := fun wq => digest_same R hrl wq
      clear HS3 hE8 hc8 hk8 hb8 hG8 hE9 hfar hq8 same9 W7 KB7 R7 T7 O7 HW HT hlq
      go_wp2_with ((with_reducible refine at_load2 ?_); first | refine wpList_load_row_w (by rfl) 31 _ rfl A1 (by rfl) 31 (bcells R).toArray (0, 0) _ (unhide R9) Tryd.underlying31 rfl (unhide VR) ?_ | refine wpList_load_row_w (by rfl) 31 _ rfl A2 (by rfl) 31 (bcells R).toArray (0, 0) _ (unhide T9) Tryd.underlying31 rfl (unhide VR) ?_)
      go_ret
      exact ⟨rfl, ⟨_, unhide WD⟩, unhide BE⟩
end Go.Proofs.YtanfolfopalbeaaDoor
namespace Go.Proofs.YtanfolfopalbeaaDoor
open Go.RowKit

/-- A cell of a disk. -/
theorem dcells_get (ps : List (List UInt8)) (h : ∀ d ∈ ps, d.length = 32) : ∀ j, (dcells ps)[j]? = if j < 32 * ps.length then some (.int .u8 (((ps.getD (j / 32) []).getD (j % 32) 0).toNat : Int)) else none := by
  intro j
  split
  · rename_i hj
    have hk : j / 32 < ps.length := by omega
    have hd := h _ (getD_mem ps (j / 32) hk)
    have htl : (dcells (ps.take (j / 32))).length = 32 * (j / 32) := by
      rw [dcells_length _ (fun d hd => h d (List.mem_of_mem_take hd)), List.length_take, Nat.min_eq_left (by omega)]
    rw [dcells_at ps (j / 32) hk, List.append_assoc, List.getElem?_append_right (by omega), htl, List.getElem?_append_left (by rw [bcells_length]; omega)]
    have hlt : j - 32 * (j / 32) < (ps.getD (j / 32) []).length := by omega
    rw [show j % 32 = j - 32 * (j / 32) by omega]
    generalize ps.getD (j / 32) [] = x at hlt ⊢
    unfold bcells
    rw [List.getElem?_map, List.getElem?_eq_getElem hlt, List.getD, List.getElem?_eq_getElem hlt]
    rfl
  · rename_i hj
    rw [List.getElem?_eq_none]
    rw [dcells_length ps h]
    omega
theorem put1_cells (d : List (List UInt8)) (k : Nat) (data : List UInt8) (b : Nat) (h : ∀ s ∈ d, s.length = 32) (hd : data.length = 32) (hk : k < d.length) (hb : b < 32) :
    (dcells (put1 d k data b)).toArray.setIfInBounds (k * 32 + b) (.int .u8 ((data.getD b 0).toNat : Int)) = (dcells (put1 d k data (b + 1))).toArray := by
  apply Array.ext'
  rw [Array.toList_setIfInBounds]
  apply List.ext_getElem?
  intro j
  have e1 := put1_elem d k data b h hd
  have e2 := put1_elem d k data (b + 1) h hd
  rw [List.getElem?_set]
  rw [dcells_get _ e1, dcells_get _ e2, put1_length, put1_length]
  by_cases hj : k * 32 + b = j
  · subst hj
    rw [if_pos rfl, if_pos (by rw [dcells_length _ e1, put1_length]; omega), if_pos (by omega), show (k * 32 + b) / 32 = k by omega, show (k * 32 + b) % 32 = b by omega, put1_byte d k data (b + 1) b hk (by omega), if_pos (by omega)]
  · rw [if_neg hj]
    by_cases hjl : j < 32 * d.length
    · rw [if_pos hjl, if_pos hjl]
      congr 3
      by_cases hjk : j / 32 = k
      · subst hjk
        rw [put1_byte d _ data b _ hk (by omega), put1_byte d _ data (b + 1) _ hk (by omega)]
        by_cases hlt : j % 32 < b
        · rw [if_pos hlt, if_pos (by omega)]
        · rw [if_neg hlt, if_neg (by omega)]
      · rw [put1_other _ _ _ _ _ (fun e => hjk e.symm), put1_other _ _ _ _ _ (fun e => hjk e.symm)]
    · rw [if_neg hjl, if_neg hjl]
theorem put1_zero (d : List (List UInt8)) (k : Nat) (data : List UInt8) : put1 d k data 0 = d := by
  unfold put1
  rw [List.take_zero, List.nil_append, List.drop_zero]
  by_cases hk : k < d.length
  · apply List.ext_getElem?
    intro j
    rw [List.getElem?_set]
    by_cases hj : k = j
    · subst hj
      rw [if_pos rfl, if_pos hk, List.getD, List.getElem?_eq_getElem hk]
      rfl
    · rw [if_neg hj]
  · rw [List.set_eq_of_length_le (by omega)]
theorem dcells_one_u8 (d : List (List UInt8)) (u : Value) (h : u ∈ dcells d) : ∃ z, u = .int .u8 z := by
  simp only [dcells, List.mem_flatMap, bcells, List.mem_map] at h
  obtain ⟨_, _, b, _, rfl⟩ := h
  exact ⟨_, rfl⟩
theorem cell_same {w w' : World} {g : Nat} (h : w'.heap[g]? = w.heap[g]?) (j : Nat) : w'.cell? ⟨g, j, none⟩ = w.cell? ⟨g, j, none⟩ := by
  unfold World.cell?
  rw [h]
theorem put1_all (d : List (List UInt8)) (k : Nat) (data : List UInt8) (h : ∀ s ∈ d, s.length = 32) (hd : data.length = 32) (hk : k < d.length) : put1 d k data 32 = d.set k data := by
  unfold put1
  rw [List.take_of_length_le (by omega), List.drop_eq_nil_of_le (by rw [h _ (getD_mem d k hk)]; exact Nat.le_refl _), List.append_nil]
theorem dcells_put (d : List (List UInt8)) (k : Nat) (data : List UInt8) (h : ∀ s ∈ d, s.length = 32) (hd : data.length = 32) (hk : k < d.length) :
    (dcells d).take (k * 32) ++ bcells data ++ (dcells d).drop (k * 32 + (bcells data).length) = dcells (put1 d k data 32) := by
  rw [put1_all d k data h hd hk, bcells_length, hd]
  have hl : (dcells (d.take k)).length = k * 32 := by
    rw [dcells_length _ (fun s hs => h s (List.mem_of_mem_take hs)), List.length_take, Nat.min_eq_left (by omega)]
    omega
  have hg := h _ (getD_mem d k hk)
  have e1 := dcells_at d k hk
  have e2 : dcells (d.set k data) = dcells (d.take k) ++ bcells data ++ dcells (d.drop (k + 1)) := by
    rw [List.set_eq_take_append_cons_drop, if_pos hk]
    simp [dcells]
  have e3 : (dcells d).take (k * 32) = dcells (d.take k) := by rw [e1, List.append_assoc, List.take_left' hl]
  have e4 : (dcells d).drop (k * 32 + 32) = dcells (d.drop (k + 1)) := by
    rw [e1]
    exact List.drop_left' (by rw [List.length_append, hl, bcells_length, hg])
  rw [e2, e3, e4]
/-- v is a slice of items that reads as its in w. -/
def Its (w : World) (v : Value) (its : List It) : Prop :=
  ∃ gp cp, v = .slice (some ⟨gp, 0, none⟩) its.length cp ∧ its.length ≤ cp ∧ ∀ k, k < its.length → ∀ j, j < 34 → w.cell? ⟨gp, k * 34 + j, none⟩ = (itcells (itAtL its k))[j]?
theorem Its.below {w w' : World} {v : Value} {its : List It} {B : Nat} (h : Its w v its) (hd : ∀ x ∈ its, x.data.length = 32) (hb : Below B w w') (hB : w.heap.size ≤ B) : Its w' v its := by
  obtain ⟨gp, cp, rfl, h1, h2⟩ := h
  refine ⟨gp, cp, rfl, h1, fun k hk j hj => ?_⟩
  have h3 := h2 k hk j hj
  have hlt : j < (itcells (itAtL its k)).length := by rw [itcells_length _ (hd _ (itAtL_mem its k hk))]; exact hj
  rw [List.getElem?_eq_getElem hlt] at h3 ⊢
  rw [hb.cell (p := ⟨gp, k * 34 + j, none⟩) (Nat.lt_of_lt_of_le (cell_lt h3) hB)]
  exact h3
theorem app_snocL (f : Nat → Nat) (its : List It) (k : Nat) (hk : k < its.length) (d : List (List UInt8)) : app f 0 (its.take (k + 1)) d = app1 (app f 0 (its.take k) d) (itAtL its k) (f k) := by
  have e : its.take (k + 1) = its.take k ++ [itAtL its k] := by
    unfold itAtL
    rw [List.take_succ_eq_append_getElem hk, List.getD, List.getElem?_eq_getElem hk]
    rfl
  rw [e, app_snoc, List.length_take, Nat.min_eq_left (by omega)]
theorem itcell2 (x : It) (b : Nat) : (itcells x)[2 + b]? = (bcells x.data)[b]? := by
  unfold itcells
  rw [List.getElem?_append_right (by simp)]
  simp

set_option maxRecDepth 100000 in
set_option maxHeartbeats 3200000 in
theorem done_any (v vp : Value) (ds : List (List UInt8)) (its : List It) (w : World) (hD : Digs w v ds) (hP : Its w vp its) (hit : ∀ x ∈ its, x.data.length = 32 ∧ x.at_ < ds.length) (h2 : 2 ≤ ds.length) (h3 : ds.length ≤ 300) (hl : its.length ≤ 1000) :
    Calls Tryd.prog 77 #[v, vp] w fun e w' => e = .returned (.slice (some ⟨w.heap.size, 0, none⟩) ds.length ds.length) ∧
      w'.heap[w.heap.size]? = some (.cells (dcells (app (fun _ => 32) 0 its ds)).toArray 126 (0, 0)) ∧ Below w.heap.size w w' := by
  obtain ⟨i0, hi, hz0, hz1, hz2⟩ := info_parts info_sec
  obtain ⟨gv, ov', cv, hvd, _, _⟩ := digs_shape hD (by omega)
  subst hvd
  have hdat : ∀ x ∈ its, x.data.length = 32 := fun x hx => (hit x hx).1
  have HP := hide (fun wq hb => hP.below (w' := wq) (B := w.heap.size) hdat hb (Nat.le_refl _))
  obtain ⟨gp, cp, hvp, hcp, _⟩ := hP
  subst hvp
  have HIT := hide hit
  have HDAT := hide hdat
  have HD := hide hD
  have hdc := dcells_length ds hD.1
  clear hit hdat hD
  go_enter Tryd.func77, Tryd.ntmps77
  go_wp2_with (at_make; go_must (refine wpList_make_full _ rfl _ _ 52 rfl w.heap.size 126 i0 (.agg (bcells z32).toArray) 32 Tryd.underlying52 hi hz0 hz1 _ _ _ _ ds.length rfl rfl rfl rfl (by rw [hz2]; omega) (by unfold maxLen; omega) (Nat.le_refl _) ?_))
  intro w1 hown1 hgrow1
  have hbel1 : Below w.heap.size w w1 := (Below.refl _ _).grown hgrow1 (Nat.le_refl _) (fun k h => by cases h)
  rw [made_zero] at hown1
  obtain ⟨hl1, h1⟩ := hown1
  rcases h1 with ⟨h1, _⟩ | ⟨g, cap1, cur1, hv, hg1, hg2, hg3, hg4, hg5, hg6⟩
  · simp at h1
  simp only [Value.slice.injEq, Option.some.injEq, Addr.mk.injEq, and_true, true_and] at hv
  obtain ⟨hgB, hcap1⟩ := hv
  rw [← hcap1] at hg5
  rw [← hgB] at hg2
  have hcl : cur1.toList.length = ds.length * 32 := by rw [Array.length_toList]; exact hg5
  have HG : Hid (w1.heap[w.heap.size]? = some (.cells cur1.toList.toArray 126 (0, 0))) := hide (by rw [Array.toArray_toList]; exact hg2)
  have hsrc : 0 < ds.length → ∃ ad, some (⟨gv, ov', none⟩ : Addr) = some ad ∧ ∀ j v, (dcells ds)[j]? = some v → w1.cell? (ad.add j) = some v := by
    intro _
    refine ⟨_, rfl, fun j v hj => ?_⟩
    obtain ⟨_, ao, cc, he, _, _, h3⟩ := (unhide HD).below hbel1 (Nat.le_refl _)
    simp only [Value.slice.injEq] at he
    obtain ⟨rfl, _, rfl⟩ := he
    rcases h3 with h3 | ⟨b', off', he', hc'⟩
    · rw [h3] at hj; cases hj
    · simp only [Option.some.injEq, Addr.mk.injEq, and_true] at he'
      obtain ⟨rfl, rfl⟩ := he'
      rw [add_none]
      exact hc' j v hj
  have HSRC := hide hsrc
  clear hsrc hl1 hg1 hg2 hg3 hg4 hg5 hg6 hgB hcap1 hgrow1
  go_wp2_with ((with_reducible refine at_copyD ?_); go_must (refine wpList_copy_big rfl (.tmp 10) (.tmp 11) 52 52 rfl 126 Tryd.underlying52 32 info_sc _ _ _ _ _ w.heap.size rfl rfl cur1.toList 126 (unhide HG) (dcells ds) (Nat.le_refl _) ?c1 (unhide HSRC) ?c2 (dcells_one2 ds) w.heap.size w hbel1 (Nat.le_refl _) ?_))
  case c1 => omega
  case c2 => omega
  intro w2 HG2 hbel2
  have hg2 : w2.heap[w.heap.size]? = some (.cells (dcells ds).toArray 126 (0, 0)) := by
    have := unhide HG2
    rwa [List.drop_eq_nil_of_le (by omega), List.append_nil] at this
  have HGG := hide hg2
  clear HG2 HG HSRC hbel1 hg2 hcl
  go_wp2_with fail
  go_loopw [6] (fun i wr => ∃ m : Nat, m ≤ its.length ∧ i = .int .i64 m ∧ wr.heap[w.heap.size]? = some (.cells (dcells (app (fun _ => 32) 0 (its.take m) ds)).toArray 126 (0, 0)) ∧ Below w.heap.size w wr) (fun i _ => its.length - (intOf i).toNat)
  case atStart => exact ⟨0, Nat.zero_le _, rfl, unhide HGG, hbel2⟩
  case round =>
    obtain ⟨m, hm, rfl, hgr, hbr⟩ := hrel
    by_cases hlt : m < its.length
    · have hd2 : decide ((m : Int) < (its.length : Int)) = true := by simp; omega
      have hx := unhide HIT _ (itAtL_mem its m hlt)
      obtain ⟨gp', cp', hvp, _, hcell⟩ := unhide HP _ hbr
      simp only [Value.slice.injEq, Option.some.injEq, Addr.mk.injEq, and_true, true_and] at hvp
      obtain ⟨rfl, rfl⟩ := hvp
      have hel := app_elem (fun _ => 32) (its.take m) (fun x hx => unhide HDAT x (List.mem_of_mem_take hx)) 0 ds (unhide HD).1
      have hal := app_length (fun _ => 32) (its.take m) 0 ds
      have HAS := hide (app_snocL (fun _ => 32) its m hlt ds)
      have c0 := hcell m hlt 0 (by omega)
      have c1 := hcell m hlt 1 (by omega)
      have c2 : wr.rangeAt gp (m * 34 + 2) (bcells (itAtL its m).data) := fun j u hj => by
        have hj32 : j < 32 := by have := (List.getElem?_eq_some_iff.1 hj).1; rw [bcells_length, hx.1] at this; exact this
        rw [show m * 34 + 2 + j = m * 34 + (2 + j) by omega, hcell m hlt (2 + j) (by omega), itcell2 _ j]
        exact hj
      generalize itAtL its m = x at hx c0 c1 c2 HAS
      generalize app (fun _ => 32) 0 (its.take m) ds = d at hgr hel hal HAS
      rw [Nat.add_zero] at c0
      have c0' : wr.cell? ⟨gp, m * 34, none⟩ = some (.bool x.fl) := c0
      have c1' : wr.drew.cell? ⟨gp, m * 34 + 1, none⟩ = some (.int .i64 (x.at_ : Int)) := c1
      have hk0 : (0 : Int) ≤ (m : Int) := by omega
      have hk1 : (m : Int) < (its.length : Int) := by omega
      have hxd := hx.1
      have hxa := hx.2
      have HGR := hide hgr
      clear c0 c1 hcell hgr
      cases hf : x.fl with
      | true =>
        rw [hf] at c0'
        have HA1 := hide (show app1 d x 32 = d by unfold app1; rw [hf]; rfl)
        go_wp2
        go_roundw
        case rel => exact ⟨m + 1, by omega, by go_num, by rw [unhide HAS, unhide HA1]; exact unhide HGR, hbr⟩
        case measure => simp [intOf]; omega
      | false =>
        rw [hf] at c0'
        have HA1 := hide (show app1 d x 32 = put1 d x.at_ x.data 32 by unfold app1; rw [hf]; rfl)
        have hgl := lt_of_block (unhide HGR)
        have hne : gp ≠ w.heap.size := by
          intro he
          have h1 := c1'
          rw [he] at h1
          have h2 : wr.cell? ⟨w.heap.size, m * 34 + 1, none⟩ = some (.int .i64 (x.at_ : Int)) := h1
          rw [cell_of_row wr w.heap.size _ _ _ _ (unhide HGR), List.getElem?_toArray] at h2
          have h3 := dcells_one_u8 d _ (List.mem_of_getElem? h2)
          obtain ⟨z, hz⟩ := h3
          cases hz
        have hdl : (dcells d).length = 32 * ds.length := by rw [dcells_length d hel, hal]
        have hth : wr.drew.there w.heap.size (x.at_ * 32) 32 := fun j hj => by
          refine ⟨?_, frozen_of_row wr w.heap.size _ _ _ (unhide HGR)⟩
          show (wr.cell? ⟨w.heap.size, x.at_ * 32 + j, none⟩).isSome = true
          rw [cell_of_row wr w.heap.size _ _ _ _ (unhide HGR), List.getElem?_toArray, List.getElem?_eq_getElem (by omega)]
          rfl
        have hnew : (wr.drew.setCells w.heap.size (x.at_ * 32) (bcells x.data)).heap[w.heap.size]? = some (.cells (dcells (put1 d x.at_ x.data 32)).toArray 126 (0, 0)) := by
          rw [setC_row w.heap.size 126 (bcells x.data) (x.at_ * 32) wr.drew _ (unhide HGR) (by rw [List.size_toArray, bcells_length, hdl]; omega)]
          rw [← dcells_put d x.at_ x.data hel hxd (by omega)]
        have hbn : Below w.heap.size w (wr.drew.setCells w.heap.size (x.at_ * 32) (bcells x.data)) := below_setC (Nat.le_refl _) _ _ hbr.drew
        have hoth : (wr.drew.setCells w.heap.size (x.at_ * 32) (bcells x.data)).heap[gp]? = wr.heap[gp]? := setC_other _ _ hne _ _ _
        have hr8 : wr.drew.cell? ⟨gp, m * 34 + 1, none⟩ = some (.int .i64 (x.at_ : Int)) ∧ wr.drew.rangeAt gp (m * 34 + 2) (bcells x.data) ∧ wr.drew.there w.heap.size (x.at_ * 32) 32 := ⟨c1', c2, hth⟩
        have hr9 : (wr.drew.setCells w.heap.size (x.at_ * 32) (bcells x.data)).cell? ⟨gp, m * 34 + 1, none⟩ = some (.int .i64 (x.at_ : Int)) ∧ (wr.drew.setCells w.heap.size (x.at_ * 32) (bcells x.data)).rangeAt gp (m * 34 + 2) (bcells x.data) ∧ (wr.drew.setCells w.heap.size (x.at_ * 32) (bcells x.data)).there w.heap.size (x.at_ * 32) 32 := by
          refine ⟨(cell_same hoth _).trans c1', fun j u hj => (cell_same hoth _).trans (c2 j u hj), fun j hj => ?_⟩
          refine ⟨?_, frozen_of_row _ w.heap.size _ _ _ hnew⟩
          rw [cell_of_row _ w.heap.size _ _ _ _ hnew, List.getElem?_toArray, List.getElem?_eq_getElem (by rw [dcells_length _ (put1_elem d _ _ _ hel hxd), put1_length, hal]; omega)]
          rfl
        have HN := hide hnew
        have HBN := hide hbn
        have hu := Tryd.underlying126
        have hmi := v_scm x.data hxd
        have hbl : (bcells x.data).length = 32 := by rw [bcells_length, hxd]
        have hone := bcells_one' x.data
        have ha0 : (0 : Int) ≤ (x.at_ : Int) := by omega
        have ha1 : (x.at_ : Int) < (ds.length : Int) := by omega
        clear c1' c2 hth hnew hbn hoth hel HGR
        go_upto_region 7 with fail
        go_region_held3 (fun w' => w'.cell? ⟨gp, m * 34 + 1, none⟩ = some (.int .i64 (x.at_ : Int)) ∧ w'.rangeAt gp (m * 34 + 2) (bcells x.data) ∧ w'.there w.heap.size (x.at_ * 32) 32) (first | (with_reducible exact hr8) | (with_reducible exact hr9)) (fail)
        clear hr8 hr9
        go_wp2
        go_roundw
        case rel => exact ⟨m + 1, by omega, by go_num, by rw [unhide HAS, unhide HA1]; exact unhide HN, unhide HBN⟩
        case measure => simp [intOf]; omega
    · have hmk : m = its.length := by omega
      subst hmk
      have hd2 : decide ((its.length : Int) < (its.length : Int)) = false := by simp
      rw [List.take_of_length_le (Nat.le_refl _)] at hgr
      have HGR := hide hgr
      clear hgr
      go_wp2
      go_ret
      exact ⟨rfl, unhide HGR, hbr⟩
end Go.Proofs.YtanfolfopalbeaaDoor
namespace Go.Proofs.YtanfolfopalbeaaDoor
open Go.RowKit

theorem take_itAtL (l : List It) (k : Nat) (h : k < l.length) : l.take (k + 1) = l.take k ++ [itAtL l k] := by
  unfold itAtL
  rw [List.take_succ_eq_append_getElem h, List.getD, List.getElem?_eq_getElem h]
  rfl
/-- The disk while a plan is done on it: some items were, by so many bytes each. -/
def AppK (its : List It) (ds : List (List UInt8)) (q k : Nat) (d : List (List UInt8)) : Prop := ∃ f : Nat → Nat, (∀ i, f i ≤ 32) ∧ (∀ i, i < q → f i = 32) ∧ d = app f 0 (its.take k) ds
theorem AppK.zero (its : List It) (ds : List (List UInt8)) (q : Nat) : AppK its ds q 0 ds := ⟨fun _ => 32, fun _ => Nat.le_refl _, fun _ _ => rfl, rfl⟩
theorem AppK.next {its : List It} {ds d : List (List UInt8)} {q k : Nat} (h : AppK its ds q k d) (hk : k < its.length) (n : Nat) (hn : n ≤ 32) (hq : k < q → n = 32) : AppK its ds q (k + 1) (app1 d (itAtL its k) n) := by
  obtain ⟨f, h1, h2, rfl⟩ := h
  have hl : (its.take k).length = k := by rw [List.length_take]; omega
  refine ⟨fun i => if i = k then n else f i, fun i => ?_, fun i hi => ?_, ?_⟩
  · show (if i = k then n else f i) ≤ 32
    split
    · exact hn
    · exact h1 i
  · show (if i = k then n else f i) = 32
    split
    · rename_i e
      subst e
      exact hq hi
    · exact h2 i hi
  · rw [take_itAtL its k hk, app_snoc, hl, if_pos rfl]
    congr 1
    apply app_congr
    intro j _ hj
    rw [hl] at hj
    rw [if_neg (by omega)]
theorem AppK.flush {its : List It} {ds d : List (List UInt8)} {q k : Nat} (h : AppK its ds q k d) (hk : k < its.length) (hf : (itAtL its k).fl = true) : AppK its ds q (k + 1) d := by
  have := h.next hk (if k < q then 32 else 0) (by split <;> omega) (fun hq => by rw [if_pos hq])
  unfold app1 at this
  rwa [if_pos hf] at this
theorem AppK.elem {its : List It} {ds d : List (List UInt8)} {q k : Nat} (h : AppK its ds q k d) (hi : ∀ x ∈ its, x.data.length = 32) (hd : ∀ s ∈ ds, s.length = 32) : ∀ s ∈ d, s.length = 32 := by
  obtain ⟨f, _, _, rfl⟩ := h
  exact app_elem f _ (fun x hx => hi x (List.mem_of_mem_take hx)) 0 ds hd
theorem AppK.length {its : List It} {ds d : List (List UInt8)} {q k : Nat} (h : AppK its ds q k d) : d.length = ds.length := by
  obtain ⟨f, _, _, rfl⟩ := h
  exact app_length _ _ _ _
theorem body_flushL (d : List (List UInt8)) (a mo : List UInt8) (c : Nat) : (itAtL (planL d a mo c) (bodyW d (a ++ mo) a.length).length).fl = true := by
  unfold itAtL planL
  rw [List.getD, List.getElem?_append_right (Nat.le_refl _), Nat.sub_self]
  rfl
/-- A log's next entries on a disk. -/
structure LawAt (rs ds : List (List UInt8)) (k t : Nat) : Prop where
  std : Std ds (rs.take k)
  kt : k < t
  tr : t ≤ rs.length
  few : rs.length ≤ 100
  small : ∀ e ∈ rs, e.length ≤ 20
  room : (wb (rs.take k) ++ wb ((rs.drop k).take (t - k))).length ≤ 32 * (ds.length - 1)
def planN (rs ds : List (List UInt8)) (k t : Nat) : List It := planL ds (wb (rs.take k)) (wb ((rs.drop k).take (t - k))) t
theorem LawAt.split {rs ds : List (List UInt8)} {k t : Nat} (h : LawAt rs ds k t) : rs.take k ++ (rs.drop k).take (t - k) = rs.take t := by
  have h1 := h.kt
  rw [← List.drop_take]
  have e : rs.take k = (rs.take t).take k := by rw [List.take_take, Nat.min_eq_left (by omega)]
  rw [e, List.take_append_drop]
theorem LawAt.lens {rs ds : List (List UInt8)} {k t : Nat} (h : LawAt rs ds k t) : (rs.take k).length = k ∧ ((rs.drop k).take (t - k)).length = t - k := by
  have h1 := h.kt
  have h2 := h.tr
  rw [List.length_take, List.length_take, List.length_drop]
  omega
theorem LawAt.smallN {rs ds : List (List UInt8)} {k t : Nat} (h : LawAt rs ds k t) : ∀ e ∈ (rs.drop k).take (t - k), e.length ≤ 20 := fun e he => h.small e (List.mem_of_mem_drop (List.mem_of_mem_take he))
theorem LawAt.items {rs ds : List (List UInt8)} {k t : Nat} (h : LawAt rs ds k t) : ∀ x ∈ planN rs ds k t, x.data.length = 32 ∧ x.at_ < ds.length := plan_items ds _ _ _ h.std.elem h.std.n2 h.room
theorem LawAt.length {rs ds : List (List UInt8)} {k t : Nat} (h : LawAt rs ds k t) : 0 < (planN rs ds k t).length ∧ (planN rs ds k t).length ≤ 400 := by
  have h1 := h.room
  have h2 := h.std.n300
  unfold planN
  rw [planL_length]
  unfold nW
  omega
theorem LawAt.key {rs ds : List (List UInt8)} {k t : Nat} (h : LawAt rs ds k t) (f : Nat → Nat) (hf : ∀ i, f i ≤ 32) (n : Nat) (hn : n ≤ (planN rs ds k t).length)
    (hfl : (bodyW ds (wb (rs.take k) ++ wb ((rs.drop k).take (t - k))) (wb (rs.take k)).length).length + 1 < n → ∀ i, i < (bodyW ds (wb (rs.take k) ++ wb ((rs.drop k).take (t - k))) (wb (rs.take k)).length).length → f i = 32) :
    (Std (app f 0 ((planN rs ds k t).take n) ds) (rs.take k) ∨ Std (app f 0 ((planN rs ds k t).take n) ds) (rs.take t)) ∧
    ((bodyW ds (wb (rs.take k) ++ wb ((rs.drop k).take (t - k))) (wb (rs.take k)).length).length + 1 < n → f ((bodyW ds (wb (rs.take k) ++ wb ((rs.drop k).take (t - k))) (wb (rs.take k)).length).length + 1) = 32 → Std (app f 0 ((planN rs ds k t).take n) ds) (rs.take t)) := by
  obtain ⟨l1, l2⟩ := h.lens
  have h1 := h.kt
  have h2 := h.tr
  have h3 := h.few
  have hsum : (rs.take k).length + ((rs.drop k).take (t - k)).length = t := by omega
  have key := plan_crash ds (rs.take k) ((rs.drop k).take (t - k)) h.std (by omega) h.smallN h.room f hf n
  rw [hsum, h.split] at key
  exact key hn hfl
theorem LawAt.crash {rs ds : List (List UInt8)} {k t : Nat} (h : LawAt rs ds k t) {q begun : Nat} {d' : List (List UInt8)} (hfl : ∀ j, q ≤ j → j < begun → (itAtL (planN rs ds k t) j).fl = false)
    (happ : AppK (planN rs ds k t) ds q begun d') (hbg : begun ≤ (planN rs ds k t).length) : Std d' (rs.take k) ∨ Std d' (rs.take t) := by
  obtain ⟨f, h1, h2, rfl⟩ := happ
  refine (h.key f h1 begun hbg (fun hb i hi => h2 i ?_)).1
  have hB := body_flushL ds (wb (rs.take k)) (wb ((rs.drop k).take (t - k))) t
  by_cases hq : q ≤ (bodyW ds (wb (rs.take k) ++ wb ((rs.drop k).take (t - k))) (wb (rs.take k)).length).length
  · have := hfl _ hq (by omega)
    unfold planN at this
    rw [hB] at this
    cases this
  · omega
theorem LawAt.done {rs ds : List (List UInt8)} {k t : Nat} (h : LawAt rs ds k t) : Std (app (fun _ => 32) 0 (planN rs ds k t) ds) (rs.take t) := by
  have hPl : (planN rs ds k t).length = (bodyW ds (wb (rs.take k) ++ wb ((rs.drop k).take (t - k))) (wb (rs.take k)).length).length + 3 := by
    unfold planN planL
    simp
  have := (h.key (fun _ => 32) (fun _ => Nat.le_refl _) (planN rs ds k t).length (Nat.le_refl _) (fun _ _ _ => rfl)).2 (by omega) rfl
  rwa [List.take_of_length_le (Nat.le_refl _)] at this
end Go.Proofs.YtanfolfopalbeaaDoor
namespace Go.Proofs.YtanfolfopalbeaaDoor
open Go.RowKit

/-- v is a slice of numbers that reads as zs in w. -/
def Nums (w : World) (v : Value) (zs : List Int) : Prop :=
  ∃ ao cap, v = .slice ao zs.length cap ∧ zs.length ≤ cap ∧ cap ≤ maxLen ∧ (∀ z ∈ zs, -9223372036854775808 ≤ z ∧ z ≤ 9223372036854775807) ∧
    (zs = [] ∨ ∃ b off, ao = some ⟨b, off, none⟩ ∧ ∀ i, i < zs.length → w.cell? ⟨b, off + i, none⟩ = some (.int .i64 (zs.getD i 0)))
theorem Nums.below {w w' : World} {v : Value} {zs : List Int} {B : Nat} (h : Nums w v zs) (hb : Below B w w') (hB : w.heap.size ≤ B) : Nums w' v zs := by
  obtain ⟨ao, cap, rfl, h1, h2, hz, h3⟩ := h
  refine ⟨ao, cap, rfl, h1, h2, hz, ?_⟩
  rcases h3 with h3 | ⟨b, off, rfl, hc⟩
  · exact .inl h3
  · refine .inr ⟨b, off, rfl, fun i hi => ?_⟩
    rw [hb.cell (p := ⟨b, off + i, none⟩) (Nat.lt_of_lt_of_le (cell_lt (hc i hi)) hB)]
    exact hc i hi
theorem getD_mem_num (zs : List Int) (i : Nat) (h : i < zs.length) : zs.getD i 0 ∈ zs := by
  rw [List.getD, List.getElem?_eq_getElem h]
  exact List.getElem_mem h
theorem Its.cutI {w : World} {v : Value} {gp n cp : Nat} {its : List It} (h : Its w v its) (hv : v = .slice (some ⟨gp, 0, none⟩) n cp) (k : Nat) (hk : k ≤ its.length) : Its w (.slice (some ⟨gp, 0, none⟩) k cp) (its.take k) := by
  obtain ⟨gp', cp', he, h1, h2⟩ := h
  rw [hv] at he
  simp only [Value.slice.injEq, Option.some.injEq, Addr.mk.injEq, and_true] at he
  obtain ⟨rfl, rfl, rfl⟩ := he
  have hl : (its.take k).length = k := by rw [List.length_take]; omega
  refine ⟨gp, cp, by rw [hl], by omega, fun i hi j hj => ?_⟩
  rw [hl] at hi
  rw [h2 i (by omega) j hj]
  unfold itAtL
  rw [List.getD, List.getD, List.getElem?_take_of_lt hi]
theorem AppK.pre (its : List It) (ds : List (List UInt8)) (q k : Nat) : AppK its ds q k (app (fun _ => 32) 0 (its.take k) ds) := ⟨fun _ => 32, fun _ => Nat.le_refl _, fun _ _ => rfl, rfl⟩

set_option maxRecDepth 100000 in
set_option maxHeartbeats 3200000 in
theorem crashed_any (v vp : Value) (ds : List (List UInt8)) (its : List It) (begun : Nat) (vb : Value) (zs : List Int) (w : World) (hD : Digs w v ds) (hP : Its w vp its) (hit : ∀ x ∈ its, x.data.length = 32 ∧ x.at_ < ds.length) (h2 : 2 ≤ ds.length) (h3 : ds.length ≤ 300) (hl : its.length ≤ 1000) (hbg : begun ≤ its.length) (hI : Nums w vb zs) :
    Calls Tryd.prog 78 #[v, vp, .int .i64 begun, vb] w fun e w' => ∃ q d', e = .returned (.slice (some ⟨w.heap.size, 0, none⟩) ds.length ds.length) ∧ (∀ j, q ≤ j → j < begun → (itAtL its j).fl = false) ∧ AppK its ds q begun d' ∧
      w'.heap[w.heap.size]? = some (.cells (dcells d').toArray 126 (0, 0)) ∧ Below w.heap.size w w' := by
  have hdat : ∀ x ∈ its, x.data.length = 32 := fun x hx => (hit x hx).1
  have HP := hide (fun wq hb => hP.below (w' := wq) (B := w.heap.size) hdat hb (Nat.le_refl _))
  have HPC := hide (fun gp n cp (hv : vp = .slice (some ⟨gp, 0, none⟩) n cp) k hk => hP.cutI hv k hk)
  have hP' := hP
  obtain ⟨gp, cp, hvp, hcp, hcell⟩ := hP
  subst hvp
  have HC := hide hcell
  have HIT := hide hit
  have HDAT := hide hdat
  have HD := hide hD
  have HI := hide (fun wq hb => hI.below (w' := wq) (B := w.heap.size) hb (Nat.le_refl _))
  obtain ⟨ab, cb, hvb, hzl, hzm, _, _⟩ := hI
  subst hvb
  unfold maxLen at hzm
  clear hit hdat hD hcell hP'
  go_enter Tryd.func78, Tryd.ntmps78
  go_wp2
  go_loop [9, 10] (fun wh i => ∃ k q h : Nat, k ≤ begun ∧ q ≤ k ∧ h ≤ k ∧ i = .int .i64 k ∧ wh = .int .i64 h ∧ (q = 0 ∧ h = 0 ∨ q = h + 1 ∧ (itAtL its h).fl = true) ∧ ∀ j, q ≤ j → j < k → (itAtL its j).fl = false) (fun _ i => begun - (intOf i).toNat)
  case atStart => exact ⟨0, 0, 0, Nat.zero_le _, Nat.le_refl _, Nat.le_refl _, rfl, rfl, .inl ⟨rfl, rfl⟩, fun j h1 h2 => absurd h2 (by omega)⟩
  case round =>
    obtain ⟨k, q, h, hk, hq, hh, rfl, rfl, hqh, hfl⟩ := hrel
    have HFL := hide hfl
    have HQH := hide hqh
    clear hfl hqh
    by_cases hlt : k < begun
    · have hd1 : decide ((k : Int) < (begun : Int)) = true := by simp; omega
      have hcf := unhide HC k (by omega) 0 (by omega)
      rw [Nat.add_zero] at hcf
      have hcf' : w.cell? ⟨gp, k * 34, none⟩ = some (.bool (itAtL its k).fl) := hcf
      have hk0 : (0 : Int) ≤ (k : Int) := by omega
      have hk1 : (k : Int) < (its.length : Int) := by omega
      clear hcf
      cases hff : (itAtL its k).fl with
      | true =>
        rw [hff] at hcf'
        have HFF := hide hff
        clear hff
        go_wp2
        go_round
        case rel => exact ⟨k + 1, k + 1, k, by omega, Nat.le_refl _, by omega, by go_num, rfl, .inr ⟨rfl, unhide HFF⟩, fun j h1 h2 => absurd h2 (by omega)⟩
        case measure => simp [intOf]; omega
      | false =>
        rw [hff] at hcf'
        have HFF := hide hff
        clear hff
        go_wp2
        go_round
        case rel =>
          refine ⟨k + 1, q, h, by omega, by omega, by omega, by go_num, rfl, unhide HQH, fun j h1 h2 => ?_⟩
          by_cases hjk : j = k
          · rw [hjk]; exact unhide HFF
          · exact unhide HFL j h1 (by omega)
        case measure => simp [intOf]; omega
    · have hkb : k = begun := by omega
      subst hkb
      have hd1' : decide ((k : Int) < (k : Int)) = false := by simp
      have s1 : (h : Int) ≤ (cp : Int) := by omega
      have s2 : (0 : Int) ≤ (h : Int) := by omega
      have hDN := done_any v (.slice (some ⟨gp, 0, none⟩) h cp) ds (its.take h) w (unhide HD) (unhide HPC gp its.length cp rfl h (by omega)) (fun x hx => unhide HIT x (List.mem_of_mem_take hx)) h2 h3 (by rw [List.length_take]; omega)
      have HDN := hide hDN
      clear hDN
      go_wp2_with fail
      refine (unhide HDN).mono ?_
      rintro e w2 ⟨rfl, hg2, hbel2⟩
      have HGG := hide hg2
      generalize hgd : w.heap.size = gd at *
      clear hg2 HDN
      go_wp2_with fail
      go_loopw [12] (fun i wr => ∃ (m : Nat) (d : List (List UInt8)), h ≤ m ∧ m ≤ k ∧ i = .int .i64 m ∧ AppK its ds q m d ∧ wr.heap[gd]? = some (.cells (dcells d).toArray 126 (0, 0)) ∧ Below gd w wr) (fun i _ => k - (intOf i).toNat)
      case atStart => exact ⟨h, _, Nat.le_refl _, hh, rfl, AppK.pre _ _ _ _, unhide HGG, hbel2⟩
      case round =>
        obtain ⟨m, d, hhm, hm, rfl, happ, hgr, hbr⟩ := hrel
        have hel := happ.elem (unhide HDAT) (unhide HD).1
        have hdl := happ.length
        have HEL := hide hel
        have HAP := hide happ
        have HGD := hide hgr
        have HBW := hide hbr
        clear happ hel hgr
        by_cases hlt2 : m < k
        · have hd2 : decide ((m : Int) < (k : Int)) = true := by simp; omega
          have hit := unhide HIT _ (itAtL_mem its m (by omega))
          have HAN := hide (fun n hn hq => (unhide HAP).next (by omega) n hn hq)
          have HAF := hide (fun hf => (unhide HAP).flush (by omega) hf)
          obtain ⟨gp', cp', hvp, _, hcell⟩ := unhide HP _ hbr
          simp only [Value.slice.injEq, Option.some.injEq, Addr.mk.injEq, and_true, true_and] at hvp
          obtain ⟨rfl, rfl⟩ := hvp
          have c0 := hcell m (by omega) 0 (by omega)
          rw [Nat.add_zero] at c0
          obtain ⟨x, hx⟩ : ∃ x, x = itAtL its m := ⟨_, rfl⟩
          have HXE := hide hx
          rw [← hx] at hit HAN HAF c0
          have hxd := hit.1
          have hxa := hit.2
          have c0' : wr.cell? ⟨gp, m * 34, none⟩ = some (.bool x.fl) := c0
          have hk0 : (0 : Int) ≤ (m : Int) := by omega
          have hk1 : (m : Int) < (its.length : Int) := by omega
          have HMQ := hide (show x.fl = false → ¬ m < q from fun hf hmq => by
            rcases unhide HQH with ⟨h1, _⟩ | ⟨h1, h2⟩
            · omega
            · have : m = h := by omega
              rw [hx, this, h2] at hf
              cases hf)
          clear hit hx hcell c0 hbr
          cases hxf : x.fl with
          | true =>
            rw [hxf] at c0'
            have HAF2 := hide (unhide HAF hxf)
            go_wp2_with fail
            go_roundw
            case rel => exact ⟨m + 1, d, by omega, by omega, by go_num, unhide HAF2, unhide HGD, unhide HBW⟩
            case measure => simp [intOf]; omega
          | false =>
            rw [hxf] at c0'
            have hmq := unhide HMQ hxf
            have HA1 := hide (show ∀ n, app1 d x n = put1 d x.at_ x.data n from fun n => by unfold app1; rw [hxf]; rfl)
            have j4 : IntKind.i64.wrap ((m : Int) - (h : Int)) = (m : Int) - (h : Int) := i64w _ (by omega)
            by_cases hin : m - h < zs.length
            · have hd7 : decide ((m : Int) - (h : Int) < (zs.length : Int)) = true := by simp; omega
              obtain ⟨ao, cc, he, _, _, hzb, h3'⟩ := unhide HI _ (unhide HBW)
              simp only [Value.slice.injEq, true_and] at he
              obtain ⟨rfl, rfl⟩ := he
              rcases h3' with h3' | ⟨bb, ob, rfl, hcz⟩
              · rw [h3'] at hin; cases hin
              have hcz2 := hcz (m - h) hin
              have hzz := hzb _ (getD_mem_num zs (m - h) hin)
              generalize zs.getD (m - h) 0 = z at hcz2 hzz
              have j1 : (0 : Int) ≤ (m : Int) - (h : Int) := by omega
              have j2 : (m : Int) - (h : Int) < (zs.length : Int) := by omega
              have j3 : ((m : Int) - (h : Int)).toNat = m - h := by omega
              clear hcz hzb
              go_wp2_with fail
              refine (round_any z 33 _ hzz (by omega) (by omega)).mono ?_
              rintro e w5 ⟨p, hp, rfl, rfl⟩
              clear hcz2
              go_wp2_with fail
              go_loopw [14] (fun bv wr => ∃ b : Nat, b ≤ p ∧ bv = .int .i64 b ∧ wr.heap[gd]? = some (.cells (dcells (put1 d x.at_ x.data b)).toArray 126 (0, 0)) ∧ Below gd w wr) (fun bv _ => 40 - (intOf bv).toNat)
              case atStart => exact ⟨0, Nat.zero_le _, rfl, by rw [put1_zero]; exact unhide HGD, unhide HBW⟩
              case round =>
                obtain ⟨b, hb, rfl, hg3, hb3⟩ := hrel
                by_cases hlt3 : b < p
                · have hd5 : decide ((b : Int) < (p : Int)) = true := by simp; omega
                  obtain ⟨gp', cp', hvp, _, hcell⟩ := unhide HP _ hb3
                  simp only [Value.slice.injEq, Option.some.injEq, Addr.mk.injEq, and_true, true_and] at hvp
                  obtain ⟨rfl, rfl⟩ := hvp
                  have c1 := hcell m (by omega) 1 (by omega)
                  have c2 := hcell m (by omega) (2 + b) (by omega)
                  rw [← unhide HXE] at c1 c2
                  rw [itcell2] at c2
                  have hcA : wr.drew.cell? ⟨gp, m * 34 + 1, none⟩ = some (.int .i64 (x.at_ : Int)) := c1
                  have hcB : wr.drew.cell? ⟨gp, m * 34 + 2 + b, none⟩ = some (.int .u8 ((x.data.getD b 0).toNat : Int)) := by
                    rw [show m * 34 + 2 + b = m * 34 + (2 + b) by omega]
                    refine Eq.trans (show _ = _ from c2) ?_
                    have hlt : b < x.data.length := by omega
                    simp [bcells, List.getD, List.getElem?_eq_getElem hlt]
                  have hpl : (dcells (put1 d x.at_ x.data b)).length = 32 * ds.length := by rw [dcells_length _ (put1_elem d _ _ _ (unhide HEL) hxd), put1_length, hdl]
                  have hcC : ∃ u, wr.drew.cell? ⟨gd, x.at_ * 32 + b, none⟩ = some u := by
                    refine ⟨_, (cell_of_row wr gd _ _ _ _ hg3).trans (?_ : _ = some ((dcells (put1 d x.at_ x.data b))[x.at_ * 32 + b]'(by omega)))⟩
                    rw [List.getElem?_toArray, List.getElem?_eq_getElem]
                  obtain ⟨uC, hcC⟩ := hcC
                  have hfC : wr.drew.frozen? ⟨gd, x.at_ * 32 + b, none⟩ = false := frozen_of_row wr gd _ _ _ hg3
                  have hnew : (wr.drew.setCell ⟨gd, x.at_ * 32 + b, none⟩ (.int .u8 ((x.data.getD b 0).toNat : Int))).heap[gd]? = some (.cells (dcells (put1 d x.at_ x.data (b + 1))).toArray 126 (0, 0)) := by
                    rw [heap_setCell_same wr.drew gd _ _ _ _ hg3, put1_cells d x.at_ x.data b (unhide HEL) hxd (by omega) (by omega)]
                  have hbn : Below gd w (wr.drew.setCell ⟨gd, x.at_ * 32 + b, none⟩ (.int .u8 ((x.data.getD b 0).toNat : Int))) := hb3.drew.setCell (Nat.le_refl gd) _
                  generalize hue : x.data.getD b 0 = u8 at hcB hnew hbn
                  have HN := hide hnew
                  have HB3 := hide hbn
                  have hb0 : (0 : Int) ≤ (b : Int) := by omega
                  have hb1 : (b : Int) < 32 := by omega
                  have ha0 : (0 : Int) ≤ (x.at_ : Int) := by omega
                  have ha1 : (x.at_ : Int) < (ds.length : Int) := by omega
                  clear hg3 hcell c1 c2 hpl hnew hbn hue hb3
                  go_wp2_with fail
                  go_region
                  go_wp2
                  go_roundw
                  case rel => exact ⟨b + 1, by omega, by go_num, unhide HN, unhide HB3⟩
                  case measure => simp [intOf]; omega
                · have hbM : b = p := by omega
                  subst hbM
                  have hd5 : decide ((b : Int) < (b : Int)) = false := by simp
                  have HN := hide hg3
                  have HB3 := hide hb3
                  clear hg3 hb3
                  go_wp2_with fail
                  go_roundw
                  case rel => exact ⟨m + 1, put1 d x.at_ x.data b, by omega, by omega, by go_num, by rw [← unhide HA1]; exact unhide HAN b (by omega) (fun hq => absurd hq hmq), unhide HN, unhide HB3⟩
                  case measure => simp [intOf]; omega
            · have hd7 : decide ((m : Int) - (h : Int) < (zs.length : Int)) = false := by simp; omega
              go_wp2_with fail
              go_loopw [14] (fun bv wr => ∃ b : Nat, b ≤ 0 ∧ bv = .int .i64 b ∧ wr.heap[gd]? = some (.cells (dcells (put1 d x.at_ x.data b)).toArray 126 (0, 0)) ∧ Below gd w wr) (fun bv _ => 40 - (intOf bv).toNat)
              case atStart => exact ⟨0, Nat.zero_le _, rfl, by rw [put1_zero]; exact unhide HGD, unhide HBW⟩
              case round =>
                obtain ⟨b, hb, rfl, hg3, hb3⟩ := hrel
                by_cases hlt3 : b < 0
                · exact absurd hlt3 (Nat.not_lt_zero _)
                · have hbM : b = 0 := by omega
                  subst hbM
                  have hd5 : decide ((0 : Int) < (0 : Int)) = false := by simp
                  have HN := hide hg3
                  have HB3 := hide hb3
                  clear hg3 hb3
                  go_wp2_with fail
                  go_roundw
                  case rel => exact ⟨m + 1, put1 d x.at_ x.data 0, by omega, by omega, by go_num, by rw [← unhide HA1]; exact unhide HAN 0 (by omega) (fun hq => absurd hq hmq), unhide HN, unhide HB3⟩
                  case measure => simp [intOf]; omega
        · have hmk : m = k := by omega
          subst hmk
          have hd2 : decide ((m : Int) < (m : Int)) = false := by simp
          go_wp2
          go_ret
          exact ⟨q, d, by rw [hgd]; rfl, unhide HFL, unhide HAP, by rw [hgd]; exact unhide HGD, by rw [hgd]; exact unhide HBW⟩
end Go.Proofs.YtanfolfopalbeaaDoor
namespace Go.Proofs.YtanfolfopalbeaaDoor
open Go.RowKit

theorem wb_take_split (rs : List (List UInt8)) (k t : Nat) (h : k ≤ t) : wb (rs.take t) = wb (rs.take k) ++ wb ((rs.drop k).take (t - k)) := by
  rw [← wb_append, ← List.drop_take]
  have e : rs.take k = (rs.take t).take k := by rw [List.take_take, Nat.min_eq_left h]
  rw [e, List.take_append_drop]
/-- The three cases. -/
theorem move_cases (l : List UInt8) (ds : List (List UInt8)) (k : Nat) (bt : Int) (hstd : Std ds ((rdOld l).1.take k)) (hk : k ≤ (rdOld l).1.length) :
    ((wantR l ds.length k bt).1 ≠ 0 ∧ (wantR l ds.length k bt).1 ≤ 8 ∧ (stepR l ds bt) = ([], (wantR l ds.length k bt).1, (wantR l ds.length k bt).2.1)) ∨
    (stepR l ds bt = ([], 9, 0) ∧ (wantR l ds.length k bt).1 = 0 ∧ (wantR l ds.length k bt).2.1 = 0 ∧ (wantR l ds.length k bt).2.2.2 = true) ∨
    (∃ t, LawAt (rdOld l).1 ds k t ∧ stepR l ds bt = (planN (rdOld l).1 ds k t, 0, 0) ∧ (wantR l ds.length k bt).1 = 0 ∧ (wantR l ds.length k bt).2.1 = 0 ∧ (wantR l ds.length k bt).2.2.1 = t) := by
  obtain ⟨h100, hes, her, hnr⟩ := rdOld_facts l
  have hde : dEnt ds = ((rdOld l).1.take k, 0) := by unfold dEnt; rw [hstd.ok]
  have htl : ((rdOld l).1.take k).length = k := by rw [List.length_take]; omega
  have h2 := hstd.n2
  have hSR : stepR l ds bt = if bt < 1 ∨ 100 < bt then ([], 7, 0) else stepOf (rdOld l) ds ((rdOld l).1.take k) bt.toNat := by
    unfold stepR
    rw [hde]
    exact if_neg (by simp)
  by_cases hb : bt < 1 ∨ 100 < bt
  · have hW : wantR l ds.length k bt = (7, 0, 0, false) := by unfold wantR; exact if_pos hb
    rw [hSR, hW, if_pos hb]
    exact .inl ⟨by simp, by simp, rfl⟩
  · have hW : wantR l ds.length k bt = wantOf (rdOld l) ds.length k bt.toNat := by unfold wantR; exact if_neg hb
    rw [hSR, hW, if_neg hb]
    unfold stepOf wantOf
    simp only [htl]
    by_cases h1 : (rdOld l).2.1 = 1 ∨ ((rdOld l).2.1 ≠ 0 ∧ (rdOld l).2.2 < k + bt.toNat)
    · rw [if_pos h1, if_pos h1]
      exact .inl ⟨by rcases h1 with h | h <;> simp only <;> omega, by simp only; omega, rfl⟩
    · rw [if_neg h1, if_neg h1]
      by_cases h3 : (rdOld l).1.length ≤ k
      · rw [if_pos h3, if_pos h3]
        exact .inl ⟨by simp, by simp, rfl⟩
      · rw [if_neg h3, if_neg h3]
        have hkt : k < goesTo k bt.toNat (rdOld l).1.length := by unfold goesTo; omega
        have htr : goesTo k bt.toNat (rdOld l).1.length ≤ (rdOld l).1.length := by unfold goesTo; omega
        have hsp := wb_take_split (rdOld l).1 k (goesTo k bt.toNat (rdOld l).1.length) (by omega)
        have hlen := congrArg List.length hsp
        rw [List.length_append] at hlen
        unfold nextB
        by_cases h4 : 32 * (ds.length - 1) < (wb ((rdOld l).1.take k)).length + (wb (((rdOld l).1.drop k).take (goesTo k bt.toNat (rdOld l).1.length - k))).length
        · rw [if_pos h4]
          refine .inr (.inl ⟨rfl, rfl, rfl, ?_⟩)
          simp only [decide_eq_true_eq]
          omega
        · rw [if_neg h4]
          refine .inr (.inr ⟨goesTo k bt.toNat (rdOld l).1.length, ⟨hstd, hkt, htr, h100, hes, by rw [List.length_append]; omega⟩, rfl, rfl, rfl, rfl⟩)
end Go.Proofs.YtanfolfopalbeaaDoor
namespace Go.Proofs.YtanfolfopalbeaaDoor
open Go.RowKit

theorem cells_mv {w : World} {g : Nat} {a b c : Value} (h : w.heap[g]? = some (.cells #[a, b, c] 80 (0, 0))) : w.cell? ⟨g, 0, none⟩ = some a ∧ w.cell? ⟨g, 1, none⟩ = some b ∧ w.cell? ⟨g, 2, none⟩ = some c :=
  ⟨by rw [cell_of_row w g _ _ _ _ h]; rfl, by rw [cell_of_row w g _ _ _ _ h]; rfl, by rw [cell_of_row w g _ _ _ _ h]; rfl⟩

theorem fl_its (its : List It) : fl (its.map itcells) = pcells its := by simp [fl, pcells, List.flatMap]
theorem its_of_own {w : World} {B : Nat} {ao : Option Addr} {cp : Nat} {its : List It} (h : w.ownsRow B 131 34 (.slice ao its.length cp) its.length (pcells its)) (h0 : 0 < its.length) (h32 : ∀ x ∈ its, x.data.length = 32) : Its w (.slice ao its.length cp) its := by
  rcases h.2 with ⟨_, h1⟩ | ⟨g, cap, cur, hv, _, _, h5, _⟩
  · omega
  · injection hv with e1 e2 e3
    subst e1 e3
    exact ⟨g, cp, rfl, h5, plan_cell h rfl h32⟩
theorem Wd.more {B : Nat} {w : World} {G : Nat} {cs : Array Value} {tb : List Nat} {s : ByteArray} {rs ds : List (List UInt8)} {k n m m' : Nat} {lv dv : Value} (h : Wd B w G cs tb s rs ds k n m lv dv) (hm : m ≤ m') : Wd B w G cs tb s rs ds k n m' lv dv := by
  obtain ⟨tT, xT, tS, xS, tP, xP, rT, rS, rP, H, hT, hS, hP, hq⟩ := h.bk
  exact ⟨⟨tT, xT, tS, xS, tP, xP, rT, rS, rP, H, by omega, by omega, by omega, hq⟩, h.hs, h.ho, h.hl, h.hd, h.hk, h.ol, h.od, h.el, h.base⟩

set_option maxRecDepth 100000 in
set_option maxHeartbeats 6400000 in
theorem move_any (B : Nat) (w : World) (G : Nat) (cs : Array Value) (tb : List Nat) (s : ByteArray) (ds : List (List UInt8)) (k n m : Nat) (lv dv : Value) (bt c : Int) (vb : Value) (zs : List Int) (H : Wd B w G cs tb s (rdOld s.data.toList).1 ds k n m lv dv) (ht : TabOk tb) (hstd : Std ds ((rdOld s.data.toList).1.take k)) (hk : k ≤ (rdOld s.data.toList).1.length) (hs : s.size ≤ maxLen)
    (hc : -9223372036854775808 ≤ c ∧ c ≤ 9223372036854775807) (hI : ∀ wq, Below B w wq → Nums wq vb zs) (hT : ∀ wq, Below B w wq → Tabs wq) (hn : n ≤ 1099511627770) (hm : m ≤ 1099511627760) :
    Calls Tryd.prog 37 #[.pointer (some ⟨G, 0, none⟩), .agg #[.int .i64 bt, .int .i64 c, vb]] w fun e w' => e = .returned (.bool true) ∧ (∃ cs' ds' k' n' dv', Wd B w' G cs' tb s (rdOld s.data.toList).1 ds' k' n' (m + 12) lv dv' ∧ Std ds' ((rdOld s.data.toList).1.take k') ∧ k' ≤ (rdOld s.data.toList).1.length ∧ n' ≤ n + 3) ∧ Below B w w' := by
  have h2 := hstd.n2
  have h3 := hstd.n300
  obtain ⟨h100, hes, _, _⟩ := rdOld_facts s.data.toList
  have hcs := move_cases s.data.toList ds k bt hstd hk
  have hst := fun vq wq hd => Step_any s vq ds bt wq hs hd
  have hwa := fun wq => wanted_any s ds.length k bt wq hs h3 (by omega)
  generalize hrs : (rdOld s.data.toList).1 = rs at H hstd hk h100 hes hcs
  generalize hP : stepR s.data.toList ds bt = P at hst hcs
  generalize hW : wantR s.data.toList ds.length k bt = W at hwa hcs
  obtain ⟨its, pe, pn⟩ := P
  obtain ⟨we, wn, wt, wf⟩ := W
  simp only at hst hwa hcs
  have hit : (its.length ≤ 1000) ∧ ∀ x ∈ its, x.data.length = 32 := by
    rcases hcs with ⟨_, _, h⟩ | ⟨h, _⟩ | ⟨t, hL, h, _⟩
    · injection h with h _; subst h; exact ⟨by simp, by simp⟩
    · injection h with h _; subst h; exact ⟨by simp, by simp⟩
    · injection h with h _; subst h; exact ⟨by have := hL.length.2; omega, fun x hx => (hL.items x hx).1⟩
  obtain ⟨hil, hi32⟩ := hit
  have hpn : pn = wn := by
    rcases hcs with ⟨_, _, h⟩ | ⟨h, _, h4, _⟩ | ⟨t, hL, h, _, h4, _⟩
    · injection h with _ h; injection h
    · injection h with _ h; injection h with _ h; omega
    · injection h with _ h; injection h with _ h; omega
  subst hpn
  have HCS := hide hcs
  have HST := hide hst
  have HWA := hide hwa
  have HI32 := hide hi32
  have HT := hide hT
  have HNU := hide hI
  have HW := hide H
  obtain ⟨aod, cpd, hdve⟩ := own_shape H.od
  subst hdve
  have HSD := hide hstd
  have HES := hide hes
  clear H hT hI hst hwa hcs hi32 hstd hes hrs hP hW
  have hb0 : Below w.heap.size w (w.alloc (.cells #[.int .i64 bt, .int .i64 c, vb] 80)) := (Below.refl _ _).alloc (Nat.le_refl _) _
  have M0 := hide (show (w.alloc (.cells #[.int .i64 bt, .int .i64 c, vb] 80)).heap[w.heap.size]? = some (.cells #[.int .i64 bt, .int .i64 c, vb] 80 (0, 0)) from heap_alloc_new w _)
  have hz0 : w.heap.size < (w.alloc (.cells #[.int .i64 bt, .int .i64 c, vb] 80)).heap.size := by simp
  have K0 := hide hb0
  have W0 := hide ((unhide HW).later hb0)
  clear hb0
  go_enter Tryd.func37, Tryd.ntmps37
  go_upto_region 1 with fail
  generalize (w.alloc (.cells #[.int .i64 bt, .int .i64 c, vb] 80)) = w0 at M0 K0 W0 hz0 ⊢
  have c74 := (unhide W0).cell.2.2.1
  go_wp2_with fail
  refine (lendK_any (.slice aod ds.length cpd) ds w0 (unhide W0).digs (by omega)).mono ?_
  rintro e w1 ⟨rfl, hown1, hb1⟩
  have K1 := hide ((unhide K0).trans (hb1.mono (unhide K0).size))
  have W1 := hide ((unhide W0).later hb1)
  have M1 := hide ((hb1.block _ hz0).trans (unhide M0))
  have X1 := hide (digs_of_own (lentD_elem ds (unhide HW).el) hown1 (lentD_length ds).symm)
  have hs1 := hb1.size
  have CM := hide (fun wq (hb : Below w1.heap.size w1 wq) => show wq.cell? ⟨G, 72, none⟩ = some (.string s) ∧ wq.cell? ⟨w.heap.size, 0, none⟩ = some (.int .i64 bt) from ⟨((unhide W1).later hb).cell.1, (cells_mv ((hb.block _ (by omega)).trans (unhide M1))).1⟩)
  have CK := hide (fun wq (hb : Below w1.heap.size w1 wq) => show wq.cell? ⟨G, 72, none⟩ = some (.string s) ∧ wq.cell? ⟨G, 75, none⟩ = some (.int .i64 (k : Int)) ∧ wq.cell? ⟨w.heap.size, 0, none⟩ = some (.int .i64 bt) from ⟨((unhide W1).later hb).cell.1, ((unhide W1).later hb).cell.2.2.2, (cells_mv ((hb.block _ (by omega)).trans (unhide M1))).1⟩)
  have FX := hide (fun wq (hb : Below w1.heap.size w1 wq) => show Digs wq (.slice (some ⟨w0.heap.size, 0, none⟩) ds.length (ds.length + 2)) ds from by
    have := ((unhide X1).below hb (Nat.le_refl _)).front ds.length (by omega)
    rw [show (lentD ds).take ds.length = ds from List.take_left' rfl] at this
    exact this)
  have c741 := (unhide W1).cell.2.2.1
  have hr8 := unhide CM w1.drew (Below.refl w1.heap.size w1).drew
  have fd0 : (0 : Int) ≤ (ds.length : Int) := by omega
  have fd1 : (ds.length : Int) ≤ (ds.length : Int) + 2 := by omega
  clear hown1 hb1 c74 W0 M0 K0
  go_upto_region 3 with fail
  go_region_held3 (fun w' => w'.cell? ⟨G, 72, none⟩ = some (.string s) ∧ w'.cell? ⟨w.heap.size, 0, none⟩ = some (.int .i64 bt)) (first | (with_reducible exact hr8) | (with_reducible exact hr9)) ((go_at_call 42; refine (unhide HST _ _ (unhide FX _ (Below.refl w1.heap.size w1).drew)).mono ?_; rintro e w2 ⟨v2, rfl, hown2, hb2⟩; have hr9 := unhide CM w2 (drew_bel hb2)))
  have K12 := hide (drew_bel hb2)
  have O2 := hide (show w2.ownsRow w1.heap.size 131 34 v2 its.length (pcells its) from hown2)
  have hs2 := (unhide K12).size
  have hb2k : ∀ q, v2.ownBlock = some q → q < w2.heap.size := fun q hq => (hown2.lt q hq).2
  clear hr8 hr9 hown2 hb2 c741
  have hr8 := unhide CM w2.drew (unhide K12).drew
  go_upto_region 4 with fail
  go_region_held3 (fun w' => w'.cell? ⟨G, 72, none⟩ = some (.string s) ∧ w'.cell? ⟨w.heap.size, 0, none⟩ = some (.int .i64 bt)) (first | (with_reducible exact hr8) | (with_reducible exact hr9)) ((go_at_call 42; refine (unhide HST _ _ (unhide FX _ (unhide K12).drew)).mono ?_; rintro e w3 ⟨v3, rfl, hown3, hb3⟩; have hr9 := unhide CM w3 ((unhide K12).trans ((drew_bel hb3).mono hs2))))
  have hb23 := drew_bel hb3
  have K13 := hide ((unhide K12).trans (hb23.mono hs2))
  have O23 := hide (own_keep (unhide O2) hb23)
  have O33 := hide (show w3.ownsRow w2.heap.size 131 34 v3 its.length (pcells its) from hown3)
  have hs3 := hb23.size
  clear hr8 hr9 hown3 hb3 hb23 O2 HST
  have hr8 := unhide CK w3.drew (unhide K13).drew
  go_upto_region 5 with fail
  go_region_held3 (fun w' => w'.cell? ⟨G, 72, none⟩ = some (.string s) ∧ w'.cell? ⟨G, 75, none⟩ = some (.int .i64 (k : Int)) ∧ w'.cell? ⟨w.heap.size, 0, none⟩ = some (.int .i64 bt)) (first | (with_reducible exact hr8) | (with_reducible exact hr9)) ((go_at_call 74; refine (unhide HWA _).mono ?_; rintro e w4 ⟨rfl, hb4⟩; have hr9 := unhide CK w4 ((unhide K13).trans ((drew_bel hb4).mono (unhide K13).size))))
  have hb34 := drew_bel hb4
  have K14 := hide ((unhide K13).trans (hb34.mono (unhide K13).size))
  have O24 := hide (own_keep (unhide O23) hb34)
  have O34 := hide (own_keep (unhide O33) hb34)
  have W4 := hide ((unhide W1).later (unhide K14))
  have X4 := hide ((unhide X1).below (unhide K14) (Nat.le_refl _))
  have c744 := (unhide W4).cell.2.2.1
  have hs4 := hb34.size
  clear hr8 hr9 hb4 hb34 O23 O33 HWA K12 K13
  go_wp2_with fail
  refine (lentK_any _ _ ds _ (unhide X4) (unhide W4).digs (by omega)).mono ?_
  rintro e w5 ⟨rfl, hb5⟩
  have K15 := hide ((unhide K14).trans (hb5.mono (unhide K14).size))
  have O25 := hide (own_keep (unhide O24) hb5)
  have O35 := hide (own_keep (unhide O34) hb5)
  have hs5 := hb5.size
  clear hb5 W4 X4 c744 O24 O34 K14
  go_wp2_with fail
  refine (plansame_any _ _ _ _ its _ (unhide O25) (unhide O35) hil (unhide HI32)).mono ?_
  rintro e w6 ⟨rfl, hb6⟩
  have K16 := hide ((unhide K15).trans (hb6.mono (unhide K15).size))
  have O26 := hide (own_keep (unhide O25) hb6)
  have O36 := hide (own_keep (unhide O35) hb6)
  have hs6 := hb6.size
  have K06 := hide ((unhide K1).trans ((unhide K16).mono (unhide K1).size))
  have BE6 := hide ((unhide K06).mono (unhide HW).base)
  obtain ⟨ao2, cp2, rfl⟩ := own_shape (unhide O26)
  obtain ⟨ao3, cp3, rfl⟩ := own_shape (unhide O36)
  have hpp : ((pe : Int) != (pe : Int)) = false := by simp
  have hpq : ((pn : Int) != (pn : Int)) = false := by simp
  have hnu := fun wq => num_any (pe : Int) wq
  clear hb6 O25 O35 K15
  rcases unhide HCS with ⟨he1, he2, he3⟩ | ⟨he3, he1, he4, he5⟩ | ⟨t, hL, he3, he1, he4, he5⟩
  · injection he3 with e1 e2
    injection e2 with e2 e3
    subst e1 e2
    have hz1 : ((pe : Int) != 0) = true := by rw [bne_iff_ne]; omega
    have WD := hide ((unhide HW).later (unhide K06))
    clear HCS
    go_wp2_with (go_at_call 44; refine (hnu _).mono ?_; rintro e wz ⟨rfl, hez⟩; have hez2 := hez.symm; clear hez; subst hez2)
    go_ret
    exact ⟨rfl, ⟨cs, ds, k, n, _, (unhide WD).more (by omega), unhide HSD, hk, by omega⟩, unhide BE6⟩
  · injection he3 with e1 e2
    injection e2 with e2 e3
    subst e1 e2 he1 he5
    have WD := hide ((unhide HW).later (unhide K06))
    clear HCS
    go_wp2_with (go_at_call 44; refine (hnu _).mono ?_; rintro e wz ⟨rfl, hez⟩; have hez2 := hez.symm; clear hez; subst hez2)
    go_ret
    exact ⟨rfl, ⟨cs, ds, k, n, _, (unhide WD).more (by omega), unhide HSD, hk, by omega⟩, unhide BE6⟩
  · injection he3 with e1 e2
    injection e2 with e2 e3
    subst e2 he1 he5
    have hitm := hL.items
    rw [← e1] at hitm
    have hlen := hL.length
    rw [← e1] at hlen
    have HL := hide hL
    have HE1 := hide e1
    have HIT := hide hitm
    have htr := hL.tr
    clear HCS e1 hitm hL
    have C6 := hide (show ∀ wq, Below w6.heap.size w6 wq → wq.cell? ⟨w.heap.size, 0, none⟩ = some (.int .i64 bt) ∧ wq.cell? ⟨w.heap.size, 1, none⟩ = some (.int .i64 c) ∧ wq.cell? ⟨w.heap.size, 2, none⟩ = some vb from fun wq hb => cells_mv (((hb.block _ (by omega)).trans ((unhide K16).block _ (by omega))).trans (unhide M1)))
    have W6 := hide ((unhide HW).later (unhide K06))
    have c751 := (unhide W6).cell.2.2.2
    have c61 := (unhide C6 w6 (Below.refl _ _)).2.1
    have hpl := planned_any _ _ its ds.length w6 (unhide O26) hil (unhide HIT)
    have hw2 : IntKind.i64.wrap ((its.length : Int) + 2) = (its.length : Int) + 2 := i64w _ (by omega)
    have hro := fun wq => round_any c (its.length + 2) wq hc (by omega) (by omega)
    rw [Int.natCast_add] at hro
    go_wp2_with (go_at_call 44; refine (hnu _).mono ?_; rintro e wz ⟨rfl, hez⟩; have hez2 := hez.symm; clear hez; subst hez2)
    refine hpl.mono ?_
    rintro e wz ⟨rfl, hez⟩
    have hez2 := hez.symm
    clear hez
    subst hez2
    go_wp2_with fail
    refine (hro _).mono ?_
    rintro e wz ⟨b, hbn, rfl, hez⟩
    have hez2 := hez.symm
    clear hez
    subst hez2
    have hIt6 := its_of_own (unhide O26) hlen.1 (unhide HI32)
    have HIT6 := hide hIt6
    have D6 := hide (unhide W6).digs
    have c746 := (unhide W6).cell.2.2.1
    have G6 := hide (unhide W6).bk.block
    clear hIt6 c751 c61 hpl hro hnu
    go_upto_if 149 with fail
    go_cut [20] from 146 to 171 (fun p wx => ∃ (lst k' : Nat) (ds' : List (List UInt8)) (wq : World) (D : Nat), p = .int .i64 lst ∧ (k' = lst ∨ k' = wt) ∧ k' ≤ rs.length ∧ Std ds' (rs.take k') ∧ ds'.length = ds.length ∧ Below w6.heap.size w6 wq ∧ wq.heap[D]? = some (.cells (dcells ds').toArray 126 (0, 0)) ∧ w6.heap.size ≤ D ∧ wx = wq.setCell ⟨G, 74, none⟩ (.slice (some ⟨D, 0, none⟩) ds.length ds.length))
    case first =>
      by_cases hbl : its.length < b
      · have hd1 : decide ((its.length : Int) < (b : Int)) = true := by simp; omega
        have hda := done_any (.slice aod ds.length cpd) _ ds its w6 (unhide D6) (unhide HIT6) (unhide HIT) h2 h3 hil
        go_wp2_with fail
        refine hda.mono ?_
        rintro e w7 ⟨rfl, hg7, hb7⟩
        have g7 := (hb7.block _ (lt_of_block (unhide G6))).trans (unhide G6)
        have c747 : w7.cell? ⟨G, 74, none⟩ = some (.slice aod ds.length cpd) := by rw [hb7.cell (p := ⟨G, 74, none⟩) (cell_lt c746)]; exact c746
        have f747 : w7.frozen? ⟨G, 74, none⟩ = false := frozen_of_row w7 G 74 _ _ g7
        have hdl := (AppK.pre its ds 0 its.length).length
        rw [List.take_of_length_le (Nat.le_refl _)] at hdl
        have hdn := (unhide HL).done
        rw [← unhide HE1] at hdn
        have FIN := hide (show ∃ (lst k' : Nat) (ds' : List (List UInt8)) (wq : World) (D : Nat), Value.int .i64 (wt : Int) = .int .i64 lst ∧ (k' = lst ∨ k' = wt) ∧ k' ≤ rs.length ∧ Std ds' (rs.take k') ∧ ds'.length = ds.length ∧ Below w6.heap.size w6 wq ∧ wq.heap[D]? = some (.cells (dcells ds').toArray 126 (0, 0)) ∧ w6.heap.size ≤ D ∧ w7.setCell ⟨G, 74, none⟩ (.slice (some ⟨w6.heap.size, 0, none⟩) ds.length ds.length) = wq.setCell ⟨G, 74, none⟩ (.slice (some ⟨D, 0, none⟩) ds.length ds.length) from
          ⟨wt, wt, _, w7, w6.heap.size, rfl, .inl rfl, htr, hdn, hdl, hb7, hg7, Nat.le_refl _, rfl⟩)
        clear hdn hdl hg7 hb7 g7 hda
        go_wp2_with fail
        go_meet
        exact unhide FIN
      · have hd1 : decide ((its.length : Int) < (b : Int)) = false := by simp; omega
        have k1 : w6.drew.cell? ⟨G, 74, none⟩ = some (.slice aod ds.length cpd) := c746
        have k2 : w6.drew.cell? ⟨w.heap.size, 2, none⟩ = some vb := (unhide C6 w6 (Below.refl _ _)).2.2
        have hcr := crashed_any (.slice aod ds.length cpd) _ ds its b vb zs w6.drew ((unhide D6).below ((Below.refl w6.heap.size w6).drew) (Nat.le_refl _)) ((unhide HIT6).below (unhide HI32) ((Below.refl w6.heap.size w6).drew) (Nat.le_refl _)) (unhide HIT) h2 h3 hil (by omega) (unhide HNU _ (unhide BE6).drew)
        have HCR := hide hcr
        clear hcr
        go_wp2_with fail
        go_region_with (go_at_call 78; refine (unhide HCR).mono ?_; rintro e w7 ⟨q, d', rfl, hfl, hap, hg7, hb7⟩; have hb7F := drew_bel hb7; have g7 := (hb7F.block _ (lt_of_block (unhide G6))).trans (unhide G6); have c747 : w7.cell? ⟨G, 74, none⟩ = some (.slice aod ds.length cpd) := by { rw [hb7F.cell (p := ⟨G, 74, none⟩) (cell_lt c746)]; exact c746 }; have f747 : w7.frozen? ⟨G, 74, none⟩ = false := frozen_of_row w7 G 74 _ _ g7)
        all_goals
          have hdl := hap.length
          rw [unhide HE1] at hfl hap
          have hcr := (unhide HL).crash hfl hap (by rw [← unhide HE1]; omega)
          have FIN := hide (show ∃ (lst k' : Nat) (ds' : List (List UInt8)) (wq : World) (D : Nat), Value.int .i64 (k : Int) = .int .i64 lst ∧ (k' = lst ∨ k' = wt) ∧ k' ≤ rs.length ∧ Std ds' (rs.take k') ∧ ds'.length = ds.length ∧ Below w6.heap.size w6 wq ∧ wq.heap[D]? = some (.cells (dcells ds').toArray 126 (0, 0)) ∧ w6.heap.size ≤ D ∧ w7.setCell ⟨G, 74, none⟩ (.slice (some ⟨w6.drew.heap.size, 0, none⟩) ds.length ds.length) = wq.setCell ⟨G, 74, none⟩ (.slice (some ⟨D, 0, none⟩) ds.length ds.length) from by
            rcases hcr with h | h
            · exact ⟨k, k, _, w7, w6.heap.size, rfl, .inl rfl, hk, h, hdl, hb7F, hg7, Nat.le_refl _, rfl⟩
            · exact ⟨k, wt, _, w7, w6.heap.size, rfl, .inr rfl, htr, h, hdl, hb7F, hg7, Nat.le_refl _, rfl⟩)
          clear hcr hdl hfl hap hg7 hb7 hb7F g7
          go_wp2_with fail
          go_meet
          exact unhide FIN
    case rest =>
      obtain ⟨lst, k', ds', wq, D, rfl, hkl, hkr, hstd', hdl', hbq, hgD, hD, rfl⟩ := hcut
      have hGw := (unhide HW).gl
      have K0q := (unhide K06).trans (hbq.mono (unhide K06).size)
      have hlq : ∀ q, lv.ownBlock = some q → q < w.heap.size ∧ q ≠ G := fun q hq => by
        obtain ⟨_, _, _, _, _, _, _, _, _, _, _, _, _, hq2⟩ := (unhide HW).bk
        exact ⟨(hq2 q (.inl hq)).1, (hq2 q (.inl hq)).2.1⟩
      have hDl := lt_of_block hgD
      have hB7 := ((unhide HW).bk.later K0q (Q' := fun q => lv.ownBlock = some q ∨ (w.heap.size ≤ q ∧ q < wq.heap.size)) (fun q hq => by
        rcases hq with hq | hq
        · exact ⟨by have := (hlq q hq).1; have := K0q.size; omega, .inl (.inl hq)⟩
        · exact ⟨hq.2, .inr hq.1⟩)).set 74 (.slice (some ⟨D, 0, none⟩) ds.length ds.length) (by omega)
      have hfar := fun q (hq : q < wq.heap.size) (hne : q ≠ G) => heap_setCell_far wq G 74 q (.slice (some ⟨D, 0, none⟩) ds.length ds.length) hq hne
      have hszq : (wq.setCell ⟨G, 74, none⟩ (.slice (some ⟨D, 0, none⟩) ds.length ds.length)).heap.size = wq.heap.size := by simp [World.setCell]
      have hsq := hbq.size
      have hk06 := (unhide K06).size
      have hk1 := (unhide K1).size
      have O2q := own_sameB (own_keep (unhide O26) hbq) (w' := wq.setCell ⟨G, 74, none⟩ (.slice (some ⟨D, 0, none⟩) ds.length ds.length)) (fun q hq => hfar q ((own_keep (unhide O26) hbq).lt q hq).2 (by have := ((unhide O26).lt q hq).1; omega))
      have O3q := own_sameB (own_keep (unhide O36) hbq) (w' := wq.setCell ⟨G, 74, none⟩ (.slice (some ⟨D, 0, none⟩) ds.length ds.length)) (fun q hq => hfar q ((own_keep (unhide O36) hbq).lt q hq).2 (by have := ((unhide O36).lt q hq).1; omega))
      have hp2 := plan3 72 76 B _ G _ n m _ (fun q => lv.ownBlock = some q ∨ q = D ∨ (Value.slice ao3 its.length cp3).ownBlock = some q) hB7 (.slice ao2 its.length cp2) its.length (its.map itcells) (by rw [fl_its]; exact own_base O2q (by have := (unhide HW).base; omega)) (fun q hq => .inr (by have h1 := ((unhide O26).lt q hq); omega)) hil (by rw [List.length_map]) (fun d hd => by
        obtain ⟨x, hx, rfl⟩ := List.mem_map.1 hd
        exact itcells_length x (unhide HI32 x hx))
        (fun q hq => by
          rcases hq with hq | hq | hq
          · exact ⟨.inl hq, fun h => by have := ((unhide O26).lt q h).1; have := (hlq q hq).1; omega⟩
          · exact ⟨.inr (by omega), fun h => by have := ((unhide O26).lt q h).2; omega⟩
          · exact ⟨.inr (by have := (unhide O36).lt q hq; omega), fun h => by have := hb2k q h; have := ((unhide O36).lt q hq).1; omega⟩) (by omega) (by omega)
      have HP2 := hide hp2
      have O3Q := hide O3q
      have G7 := hide ((hfar D hDl (by omega)).trans hgD)
      have L7 := hide (show (wq.setCell ⟨G, 74, none⟩ (.slice (some ⟨D, 0, none⟩) ds.length ds.length)).ownsRow B 9 1 lv rs.length ((rs.map mk).map Value.string) from own_sameB (own_keep (unhide HW).ol K0q) (fun q hq => hfar q (by have := (hlq q hq).1; omega) (hlq q hq).2))
      have BE7 := hide (show Below B w (wq.setCell ⟨G, 74, none⟩ (.slice (some ⟨D, 0, none⟩) ds.length ds.length)) from (K0q.mono (unhide HW).base).trans ((Below.refl B wq).grown (grown_setCell (grown_refl wq (some G)) ⟨G, 74, none⟩ _ (.inl rfl)) (by have := (unhide HW).base; omega) (fun q h => by injection h with h; rw [← h]; exact hGw.2)))
      have hcs7 : ∀ j, (cs.setIfInBounds 74 (.slice (some ⟨D, 0, none⟩) ds.length ds.length))[j]? = if j = 74 then some (.slice (some ⟨D, 0, none⟩) ds.length ds.length) else cs[j]? := fun j => by
        rw [Array.getElem?_setIfInBounds]
        by_cases hj : 74 = j
        · rw [if_pos hj, if_pos hj.symm, if_pos (by exact (Array.getElem?_eq_some_iff.1 (unhide HW).hd).1)]
        · rw [if_neg hj, if_neg (fun h => hj h.symm)]
      have HC7 := hide hcs7
      have HSD' := hide hstd'
      generalize (wq.setCell ⟨G, 74, none⟩ (.slice (some ⟨D, 0, none⟩) ds.length ds.length)) = w7 at HP2 O3Q G7 L7 BE7 hszq ⊢
      generalize cs.setIfInBounds 74 (.slice (some ⟨D, 0, none⟩) ds.length ds.length) = cs7 at HP2 HC7
      clear hp2 hB7 hfar O2q O3q hcs7 hstd' K0q hbq hgD W6 D6 G6 c746
      go_wp2_with fail
      refine (unhide HP2).mono ?_
      rintro e w8 ⟨cs8, hE8, hc8, hk8, hb8, rfl⟩
      have O38 := own_sameB (unhide O3Q) (fun q hq => hk8 q (.inr (.inr hq)))
      have hp3 := plan3 72 76 B w8 G cs8 (n + 1) (m + 4) _ (fun q => lv.ownBlock = some q ∨ q = D) hE8 (.slice ao3 its.length cp3) its.length (its.map itcells) (by rw [fl_its]; exact own_base O38 (by have := (unhide HW).base; omega)) (fun q hq => .inr (.inr hq)) hil (by rw [List.length_map]) (fun d hd => by
        obtain ⟨x, hx, rfl⟩ := List.mem_map.1 hd
        exact itcells_length x (unhide HI32 x hx))
        (fun q hq => by
          rcases hq with hq | hq
          · exact ⟨.inl hq, fun h => by have := ((unhide O36).lt q h).1; have := (hlq q hq).1; omega⟩
          · exact ⟨.inr (.inl hq), fun h => by have := ((unhide O36).lt q h).2; omega⟩) (by omega) (by omega)
      have HP3 := hide hp3
      have G8 := hide ((hk8 D (.inr (.inl rfl))).trans (unhide G7))
      have L8 := hide (own_sameB (unhide L7) (fun q hq => hk8 q (.inl hq)))
      have BE8 := hide ((unhide BE7).trans hb8)
      have HC8 := hide hc8
      clear hp3 hE8 hc8 hk8 hb8 O38 HP2 G7 L7 BE7 O3Q
      go_wp2_with fail
      refine (unhide HP3).mono ?_
      rintro e w9 ⟨cs9, hE9, hc9, hk9, hb9, rfl⟩
      have g9 := (hk9 D (.inr rfl)).trans (unhide G8)
      have hcc : ∀ j, j < 76 → cs9[j]? = if j = 74 then some (.slice (some ⟨D, 0, none⟩) ds.length ds.length) else cs[j]? := fun j hj => by rw [hc9 j hj, unhide HC8 j hj, unhide HC7 j]
      have hel := (unhide HSD').elem
      have hdc := dcells_length ds' hel
      have WD := show Wd B w9 G cs9 tb s rs ds' k (n + 1 + 1) (m + 4 + 4) lv (.slice (some ⟨D, 0, none⟩) ds.length ds.length) from
        ⟨hE9.less (fun q hq => by
            rcases hq with hq | hq
            · exact .inl hq
            · exact .inr (by injection hq with hq; exact hq.symm)), fun j hj => by rw [hcc j (by omega), if_neg (by omega)]; exact (unhide HW).hs j hj,
          by rw [hcc 72 (by omega), if_neg (by omega)]; exact (unhide HW).ho, by rw [hcc 73 (by omega), if_neg (by omega)]; exact (unhide HW).hl, by rw [hcc 74 (by omega), if_pos rfl], by rw [hcc 75 (by omega), if_neg (by omega)]; exact (unhide HW).hk,
          own_sameB (unhide L8) (fun q hq => hk9 q (.inl hq)), by
            rw [hdl']
            exact ⟨by omega, .inr ⟨D, ds.length, (dcells ds').toArray, rfl, by have := (unhide HW).base; omega, g9, Nat.le_refl _, by unfold maxLen; omega, by rw [List.size_toArray]; omega, by rw [List.toList_toArray, List.take_of_length_le (by omega)]⟩⟩, hel, by have := hb9.size; have := (unhide BE8).size; have := (unhide HW).base; omega⟩
      have BE9 := hide ((unhide BE8).trans hb9)
      have hsd := stands_any B w9 G cs9 tb s rs ds' k k' (n + 1 + 1) (m + 4 + 4) lv (.slice (some ⟨D, 0, none⟩) ds.length ds.length) lst wt WD ht (unhide HSD') hkr h100 (unhide HES) hkl (fun wx hx => unhide HT wx ((unhide BE9).trans hx)) (by omega) (by omega)
      have HSTD := hide hsd
      clear hsd WD hE9 hc9 hk9 hb9 g9 hcc hel hdc HP3 G8 L8 BE8 HC8
      go_wp2_with fail
      refine (unhide HSTD).mono ?_
      rintro e w10 ⟨rfl, ⟨cs10, hW10⟩, hb10⟩
      have FIN := hide (show ∃ cs' ds' k' n' dv', Wd B w10 G cs' tb s rs ds' k' n' (m + 12) lv dv' ∧ Std ds' (rs.take k') ∧ k' ≤ rs.length ∧ n' ≤ n + 3 from ⟨cs10, ds', k', _, _, hW10.more (by omega), unhide HSD', hkr, by omega⟩)
      have BE10 := hide ((unhide BE9).trans hb10)
      clear hW10 hb10 HSTD
      go_wp2
      go_ret
      exact ⟨rfl, unhide FIN, unhide BE10⟩
end Go.Proofs.YtanfolfopalbeaaDoor
namespace Go.Proofs.YtanfolfopalbeaaDoor
open Go.RowKit

/-- Is the next operation a build? -/
theorem at_bld {P : Program} {ops : Array Oper} {rest : List Oper} {Q : Exit → Act → World → Prop} {a : Act} {w : World} {ty : TypeId} {ps : Array (Nat × Operand)} {d : Option Tmp} {t : TypeId} {pos : String} {af : Array Edge} {g : Option (Nat × Bool)}
    (h : wpList P ops Q ({ dst := d, op := .build ty ps, type := t, pos := pos, after := af, guard := g } :: rest) a w) : wpList P ops Q ({ dst := d, op := .build ty ps, type := t, pos := pos, after := af, guard := g } :: rest) a w := h
theorem wpList_buildTo {P : Program} {ops : Array Oper} {rest : List Oper} {o : Oper} {a : Act} {w : World} {Q : Exit → Act → World → Prop} (hg : o.guard = none) (t : TypeId) (parts : Array (Nat × Operand)) (ho : o.op = .build t parts) (cells : Array Value)
    (hf : P.built t (parts.map fun (i, x) => (i, a.eval x)).toList = some cells) (h : wpList P ops Q rest (a.put o.dst (.agg cells)) w) : wpList P ops Q (o :: rest) a w :=
  wpList_build hg t parts ho (by rw [hf]; rfl) (by rw [hf]; exact h)
def wtail (s : ByteArray) : List Value := [.string s, .slice none 0 0, .slice none 0 0, .int .i64 0, .int .i64 0, .slice none 0 0, .slice none 0 0, .slice none 0 0, .slice none 0 0, .slice none 0 0, .slice none 0 0, .slice none 0 0, .slice none 0 0]
set_option maxRecDepth 100000 in
theorem built_world (s : ByteArray) : Tryd.prog.built 72 [(0, .agg (ucells (Hl ++ Kl)).toArray), (1, .string s)] = some (ucells (Hl ++ Kl) ++ wtail s).toArray := by
  first | rfl | kernel_rfl
end Go.Proofs.YtanfolfopalbeaaDoor
namespace Go.Proofs.YtanfolfopalbeaaDoor
open Go.RowKit

theorem wpList_build2 {P : Program} {ops : Array Oper} {rest : List Oper} {o : Oper} {a : Act} {w : World} {Q : Exit → Act → World → Prop} (hg : o.guard = none) (t : TypeId) (x y : Operand) (ho : o.op = .build t #[(0, x), (1, y)]) (vx vy : Value) (hx : a.eval x = vx) (hy : a.eval y = vy) (cells : Array Value)
    (hf : P.built t [(0, vx), (1, vy)] = some cells) (h : wpList P ops Q rest (a.put o.dst (.agg cells)) w) : wpList P ops Q (o :: rest) a w :=
  wpList_buildTo hg t _ ho cells (by rw [← hf]; simp [hx, hy]) h
/-- v is a slice of moves that reads as ms in w (batch, begun, the slice of numbers, the numbers). -/
def Mvs (w : World) (v : Value) (ms : List (Int × Int × Value × List Int)) : Prop :=
  ∃ ao cap, v = .slice ao ms.length cap ∧ ms.length ≤ cap ∧ cap ≤ maxLen ∧
    (ms = [] ∨ ∃ b off, ao = some ⟨b, off, none⟩ ∧ ∀ i x, ms[i]? = some x → w.cell? ⟨b, off + i * 3, none⟩ = some (.int .i64 x.1) ∧ w.cell? ⟨b, off + i * 3 + 1, none⟩ = some (.int .i64 x.2.1) ∧ w.cell? ⟨b, off + i * 3 + 2, none⟩ = some x.2.2.1 ∧
      (-9223372036854775808 ≤ x.2.1 ∧ x.2.1 ≤ 9223372036854775807) ∧ Nums w x.2.2.1 x.2.2.2)
theorem wtail_at (tb : List Nat) (s : ByteArray) (ht : tb.length = 72) (cs : Array Value) (h : cs = (ucells tb ++ wtail s).toArray) : (∀ j, j < 72 → cs[j]? = (ucells tb)[j]?) ∧ cs[72]? = some (.string s) ∧ cs[73]? = some (.slice none 0 0) ∧ cs[74]? = some (.slice none 0 0) ∧ cs[75]? = some (.int .i64 0) ∧ cs[76]? = some (.int .i64 0) ∧ ∀ j, 1 ≤ j → j ≤ 8 → cs[76 + j]? = some (.slice none 0 0) := by
  subst h
  have hl : (ucells tb).length = 72 := by rw [ucells_length, ht]
  have hr : ∀ j, 72 ≤ j → (ucells tb ++ wtail s).toArray[j]? = (wtail s)[j - 72]? := fun j hj => by
    rw [List.getElem?_toArray, List.getElem?_append_right (by omega), hl]
  refine ⟨fun j hj => by rw [List.getElem?_toArray, List.getElem?_append_left (by omega)], by rw [hr 72 (by omega)]; rfl, by rw [hr 73 (by omega)]; rfl, by rw [hr 74 (by omega)]; rfl, by rw [hr 75 (by omega)]; rfl, by rw [hr 76 (by omega)]; rfl, fun j h1 h8 => ?_⟩
  rw [hr (76 + j) (by omega), show 76 + j - 72 = 4 + j by omega]
  match j, h1, h8 with
  | 1, _, _ => rfl
  | 2, _, _ => rfl
  | 3, _, _ => rfl
  | 4, _, _ => rfl
  | 5, _, _ => rfl
  | 6, _, _ => rfl
  | 7, _, _ => rfl
  | 8, _, _ => rfl

set_option maxRecDepth 100000 in
set_option maxHeartbeats 6400000 in
theorem carries_any (s : ByteArray) (n : Int) (v : Value) (ms : List (Int × Int × Value × List Int)) (w : World) (hs : s.size ≤ maxLen) (hn : -9223372036854775808 ≤ n ∧ n ≤ 9223372036854775807) (hM : Mvs w v ms) (hml : ms.length ≤ 1048576) (hT : Tabs w) :
    Calls Tryd.prog 9 #[.string s, .int .i64 n, v] w fun e w' => e = .returned (.bool true) ∧ Below w.heap.size w w' := by
  have HT := hide (fun wq (hb : Below w.heap.size w wq) => hT.below hb (Nat.le_refl _))
  have hns := newsums_any
  have hok := tabOk
  have hbw := built_world s
  unfold tabV at hns
  obtain ⟨cs0, hcs0⟩ : ∃ cs0, cs0 = (ucells (Hl ++ Kl) ++ wtail s).toArray := ⟨_, rfl⟩
  rw [← hcs0] at hbw
  have hat := wtail_at (Hl ++ Kl) s hok.1 cs0 hcs0
  generalize Hl ++ Kl = tb at hns hok hbw hat
  clear hcs0
  obtain ⟨k0, k72, k73, k74, k75, k76, k77⟩ := hat
  have hrd := fun wq => rRead_any s wq hs
  obtain ⟨h100, hes, _, _⟩ := rdOld_facts s.data.toList
  generalize hrs : (rdOld s.data.toList).1 = rs at hrd h100 hes
  generalize (rdOld s.data.toList).2.1 = er at hrd
  generalize (rdOld s.data.toList).2.2 = nr at hrd
  have HM := hide hM
  obtain ⟨aom, cpm, rfl, hm1, hm2, hm3⟩ := hM
  unfold maxLen at hm2
  have HRS := hide hrs
  have HBW := hide hbw
  have HK0 := hide k0
  have HK77 := hide k77
  have HES := hide hes
  have HOK := hide hok
  clear hT hrs hbw k0 k77 hes hm3 hok
  go_enter Tryd.func9, Tryd.ntmps9
  go_upto_region 2 with (first | (go_at_call 13; (with_reducible refine (hns _).mono ?_); rintro e w1 ⟨rfl, hb1⟩) | ((with_reducible refine at_bld ?_); go_must (refine wpList_build2 rfl 72 (.tmp 13) (.tmp 14) rfl (.agg (ucells tb).toArray) (.string s) rfl rfl cs0 (unhide HBW) ?_)))
  have hb1' : Below w.heap.size w (w1.alloc (.cells cs0 72)) := (hb1.alloc hb1.size _)
  have E1 := Bk3E.nil 72 76 w.heap.size (w1.alloc (.cells cs0 72)) w1.heap.size cs0 (fun _ => False) (heap_alloc_new w1 _) hb1.size k76 (unhide HK77) (fun q hq => hq.elim)
  generalize hW1 : w1.alloc (.cells cs0 72) = W1 at hb1' E1 ⊢
  have hGl : w1.heap.size < W1.heap.size := by rw [← hW1]; simp
  have hBG : w.heap.size ≤ w1.heap.size := hb1.size
  generalize w1.heap.size = G at E1 hGl hBG ⊢
  clear hW1 hb1 hns
  go_wp2_with fail
  refine (hrd _).mono ?_
  rintro e w2 ⟨v2, rfl, hown2, hb2⟩
  obtain ⟨ao2, cp2, rfl⟩ := own_shape hown2
  have hs2 := hb2.size
  have E2 := E1.later hb2 (Q' := fun q => (Value.slice ao2 rs.length cp2).ownBlock = some q) (fun q hq => ⟨(hown2.lt q hq).2, .inr (hown2.lt q hq).1⟩)
  have g2 := E2.block
  have c73 : w2.cell? ⟨G, 73, none⟩ = some (.slice none 0 0) := by rw [cell_of_row w2 G _ _ _ _ g2]; exact k73
  have f73 : w2.frozen? ⟨G, 73, none⟩ = false := frozen_of_row w2 G 73 _ _ g2
  have E3 := E2.set 73 (.slice ao2 rs.length cp2) (by omega)
  have O3 := hide (own_sameB (own_base hown2 hb1'.size) (w' := w2.setCell ⟨G, 73, none⟩ (.slice ao2 rs.length cp2)) (fun q hq => heap_setCell_far w2 G 73 q _ (hown2.lt q hq).2 (by have := (hown2.lt q hq).1; omega)))
  have B3 := hide (show Below w.heap.size w (w2.setCell ⟨G, 73, none⟩ (.slice ao2 rs.length cp2)) from (hb1'.trans (hb2.mono hb1'.size)).trans ((Below.refl w.heap.size w2).grown (grown_setCell (grown_refl w2 (some G)) ⟨G, 73, none⟩ _ (.inl rfl)) (by have := hb1'.size; omega) (fun q h => by injection h with h; rw [← h]; exact hBG)))
  have hc3 : ∀ j, (cs0.setIfInBounds 73 (.slice ao2 rs.length cp2))[j]? = if j = 73 then some (.slice ao2 rs.length cp2) else cs0[j]? := fun j => by
    rw [Array.getElem?_setIfInBounds]
    by_cases hj : 73 = j
    · rw [if_pos hj, if_pos hj.symm, if_pos (by exact (Array.getElem?_eq_some_iff.1 k73).1)]
    · rw [if_neg hj, if_neg (fun h => hj h.symm)]
  have HC3 := hide hc3
  have HE3 := hide E3
  have hsz3 : (w2.setCell ⟨G, 73, none⟩ (.slice ao2 rs.length cp2)).heap.size = w2.heap.size := by simp [World.setCell]
  clear hown2 hb2 E1 E2 E3 g2 hc3 hrd
  go_upto_region 4 with fail
  generalize w2.setCell ⟨G, 73, none⟩ (.slice ao2 rs.length cp2) = w3 at O3 B3 HE3 hsz3 ⊢
  generalize cs0.setIfInBounds 73 (.slice ao2 rs.length cp2) = cs3 at HC3 HE3
  clear c73 f73
  by_cases hnb : n < 2 ∨ 300 < n
  · have hfb := wformat_bad G n w3 hn hnb
    go_wp2_with fail
    refine hfb.mono ?_
    rintro e w4 ⟨rfl, hb4⟩
    have g4 := (hb4.block _ (lt_of_block (unhide HE3).block)).trans (unhide HE3).block
    have c744 : w4.cell? ⟨G, 74, none⟩ = some (.slice none 0 0) := by rw [cell_of_row w4 G _ _ _ _ g4, unhide HC3 74, if_neg (by omega)]; exact k74
    have BE := hide ((unhide B3).trans (hb4.mono (unhide B3).size))
    clear g4 hb4 hfb
    go_wp2
    go_ret
    exact ⟨rfl, unhide BE⟩
  · obtain ⟨nn, rfl⟩ : ∃ nn : Nat, n = (nn : Int) := ⟨n.toNat, by omega⟩
    have hn2 : 2 ≤ nn := by omega
    have hn3 : nn ≤ 300 := by omega
    have hfi := wformat_in G w.heap.size cs3 0 0 _ nn w3 hn2 hn3 (unhide HE3) (.slice none 0 0) (by rw [unhide HC3 74, if_neg (by omega)]; exact k74) (unhide B3).size (by decide) (by decide)
    have HFI := hide hfi
    clear hfi hnb
    go_wp2_with fail
    refine (unhide HFI).mono ?_
    rintro e w4 ⟨cs4, dv, hE4, hd4, hown4, hc4, hk4, hb4, rfl⟩
    obtain ⟨ao4, cp4, rfl⟩ := own_shape hown4
    have hfl := fmt_length nn (by omega)
    have c744 : w4.cell? ⟨G, 74, none⟩ = some (.slice ao4 nn cp4) := by rw [cell_of_row w4 G _ _ _ _ hE4.block]; exact hd4
    have WD := show Wd w.heap.size w4 G cs4 tb s rs (fmt nn) 0 1 4 (.slice ao2 rs.length cp2) (.slice ao4 nn cp4) from
      ⟨hE4, fun j hj => by rw [hc4 j (by omega) (by omega), unhide HC3 j, if_neg (by omega)]; exact unhide HK0 j hj, by rw [hc4 72 (by omega) (by omega), unhide HC3 72, if_neg (by omega)]; exact k72, by rw [hc4 73 (by omega) (by omega), unhide HC3 73, if_pos rfl], hd4,
        by rw [hc4 75 (by omega) (by omega), unhide HC3 75, if_neg (by omega)]; exact k75, own_sameB (unhide O3) (fun q hq => hk4 q hq), by rw [hfl]; exact own_base hown4 (unhide B3).size, fmt_elem nn, by have := hb4.size; have := (unhide B3).size; omega⟩
    have B4 := hide ((unhide B3).trans hb4)
    have hne : ((nn : Int) == 0) = false := by rw [beq_eq_false_iff_ne]; omega
    have hsd := stands_any w.heap.size w4 G cs4 tb s rs (fmt nn) 0 0 1 4 _ _ 0 0 WD (unhide HOK) (by rw [List.take_zero]; exact fmt_std nn hn2 hn3) (Nat.zero_le _) h100 (unhide HES) (.inl rfl) (fun wx hx => unhide HT wx ((unhide B4).trans hx)) (by decide) (by decide)
    rw [Int.natCast_zero] at hsd
    have HSD := hide hsd
    clear hsd WD hE4 hd4 hown4 hc4 hk4 hb4 HFI O3 HE3 B3
    go_wp2_with fail
    refine (unhide HSD).mono ?_
    rintro e w5 ⟨rfl, ⟨cs5, hW5⟩, hb5⟩
    have W5 := hide hW5
    have B5 := hide ((unhide B4).trans hb5)
    have hstd5 := hide (show Std (fmt nn) (rs.take 0) by rw [List.take_zero]; exact fmt_std nn hn2 hn3)
    clear hW5 hb5 HSD c744
    go_wp2_with fail
    go_loopw [11, 12] (fun vo vi wr => ∃ (j : Nat) (cs : Array Value) (ds : List (List UInt8)) (k nb : Nat) (dv : Value), j ≤ ms.length ∧ vo = .bool true ∧ vi = .int .i64 j ∧ Wd w.heap.size wr G cs tb s rs ds k nb (8 + 12 * j) (.slice ao2 rs.length cp2) dv ∧ Std ds (rs.take k) ∧ k ≤ rs.length ∧ nb ≤ 2 + 3 * j ∧ Below w.heap.size w wr) (fun _ vi _ => ms.length - (intOf vi).toNat)
    case atStart => exact ⟨0, cs5, fmt nn, 0, 1 + 1, _, Nat.zero_le _, rfl, rfl, unhide W5, unhide hstd5, Nat.zero_le _, by omega, unhide B5⟩
    case round =>
      obtain ⟨j, cs, ds, k, nb, dv, hj, rfl, rfl, hW, hstd, hkr, hnb, hbel⟩ := hrel
      have HW := hide hW
      clear hW
      by_cases hlt : j < ms.length
      · have hd1 : decide ((j : Int) < (ms.length : Int)) = true := by simp; omega
        obtain ⟨x, hx⟩ : ∃ x, ms[j]? = some x := ⟨_, List.getElem?_eq_getElem hlt⟩
        obtain ⟨ao', cp', hev, _, _, hm3⟩ := unhide HM
        injection hev with hev1 hev2 hev3
        rcases hm3 with hm3 | ⟨bm, om, hm3, hmc⟩
        · rw [hm3] at hlt; cases hlt
        rw [← hev1] at hm3
        subst hm3
        obtain ⟨q0, q1, q2, hcb, hnum⟩ := hmc j x hx
        obtain ⟨bt, c, vb, zs⟩ := x
        simp only at q0 q1 q2 hcb hnum
        have hbl := cell_lt q0
        have r0 : wr.cell? ⟨bm, om + j * 3, none⟩ = some (.int .i64 bt) := by rw [hbel.cell (p := ⟨bm, om + j * 3, none⟩) hbl]; exact q0
        have r1 : wr.cell? ⟨bm, om + j * 3 + 1, none⟩ = some (.int .i64 c) := by rw [hbel.cell (p := ⟨bm, om + j * 3 + 1, none⟩) hbl]; exact q1
        have r2 : wr.cell? ⟨bm, om + j * 3 + 2, none⟩ = some vb := by rw [hbel.cell (p := ⟨bm, om + j * 3 + 2, none⟩) hbl]; exact q2
        have hmv := move_any w.heap.size wr G cs tb s ds k nb (8 + 12 * j) (.slice ao2 rs.length cp2) dv bt c vb zs (by rw [unhide HRS]; exact unhide HW) (unhide HOK) (by rw [unhide HRS]; exact hstd) (by rw [unhide HRS]; exact hkr) hs hcb (fun wx hx => hnum.below (hbel.trans hx) (Nat.le_refl _)) (fun wx hx => unhide HT wx (hbel.trans hx)) (by omega) (by omega)
        rw [unhide HRS] at hmv
        have HMV := hide hmv
        have fj0 : (0 : Int) ≤ (j : Int) := by omega
        have fj1 : (j : Int) < (ms.length : Int) := by omega
        clear hmv hmc hev1 hev2 hev3 q0 q1 q2 hnum hstd hx
        go_wp2_with fail
        refine (unhide HMV).mono ?_
        rintro e w6 ⟨rfl, ⟨cs6, ds6, k6, n6, dv6, hW6, hstd6, hkr6, hn6⟩, hb6⟩
        have hho := holds3 72 76 w.heap.size w6 G cs6 n6 (8 + 12 * j + 12) _ hW6.bk (by omega)
        have HHO := hide hho
        have W6 := hide hW6
        have S6 := hide hstd6
        have B6 := hide (hbel.trans hb6)
        clear hho hW6 hstd6 hb6 HMV r0 r1 r2
        go_wp2_with fail
        refine (unhide HHO).mono ?_
        rintro e w7 ⟨rfl, hb7⟩
        have W7 := hide ((unhide W6).later hb7)
        have B7 := hide ((unhide B6).trans (hb7.mono (unhide B6).size))
        clear hb7 W6 B6 HHO
        go_wp2
        go_roundw
        case rel => exact ⟨j + 1, cs6, ds6, k6, n6, dv6, by omega, rfl, by go_num, (unhide W7).more (by omega), unhide S6, hkr6, by omega, unhide B7⟩
        case measure => simp [intOf]; omega
      · have hd1 : decide ((j : Int) < (ms.length : Int)) = false := by simp; omega
        go_wp2
        go_ret
        exact ⟨rfl, hbel⟩
end Go.Proofs.YtanfolfopalbeaaDoor
namespace Go.Proofs.YtanfolfopalbeaaDoor
open Go.ChangeShapes Go.WideShapes Go.ChangeAt Go.RowKit

theorem own : ownKnob Tryd.prog.godebug = none := by kernel_rfl
theorem gS : Tryd.prog.globalNamed "ferry/sums.startWords" = some 0 := by kernel_rfl
theorem gR : Tryd.prog.globalNamed "ferry/sums.roundWords" = some 1 := by kernel_rfl
theorem gSType : (Tryd.prog.globals[0]?).map (·.type) = some 137 := by kernel_rfl
theorem gRType : (Tryd.prog.globals[1]?).map (·.type) = some 159 := by kernel_rfl
theorem cellsW8 : Tryd.prog.cellsOf 137 = 8 := by kernel_rfl
theorem cellsW64 : Tryd.prog.cellsOf 159 = 64 := by kernel_rfl
theorem cellsU32 : Tryd.prog.cellsOf 136 = 1 := by kernel_rfl
theorem cellsStr : Tryd.prog.cellsOf 9 = 1 := by kernel_rfl
theorem laidOutP : laidOutB Tryd.prog = true := by kernel_rfl
def Hi : List Int := [1779033703, 3144134277, 1013904242, 2773480762, 1359893119, 2600822924, 528734635, 1541459225]
def Ki : List Int := [1116352408, 1899447441, 3049323471, 3921009573, 961987163, 1508970993, 2453635748, 2870763221, 3624381080, 310598401, 607225278, 1426881987, 1925078388, 2162078206, 2614888103, 3248222580, 3835390401, 4022224774, 264347078, 604807628, 770255983, 1249150122, 1555081692, 1996064986, 2554220882, 2821834349, 2952996808, 3210313671, 3336571891, 3584528711, 113926993, 338241895, 666307205, 773529912, 1294757372, 1396182291, 1695183700, 1986661051, 2177026350, 2456956037, 2730485921, 2820302411, 3259730800, 3345764771, 3516065817, 3600352804, 4094571909, 275423344, 430227734, 506948616, 659060556, 883997877, 958139571, 1322822218, 1537002063, 1747873779, 1955562222, 2024104815, 2227730452, 2361852424, 2428436474, 2756734187, 3204031479, 3329325298]
theorem Hi_at : ∀ t, t < 8 → Hi.getD t 0 = ((Hl.getD t 0 : Nat) : Int) := by decide
theorem Ki_at : ∀ t, t < 64 → Ki.getD t 0 = ((Kl.getD t 0 : Nat) : Int) := by decide

/-- What the row's list gives: the two tables lie in the world. -/
theorem tables {W : World} (h : laidMet Tryd.prog [("ferry/sums.startWords", Rows.laid_ferry_sums_startWords), ("ferry/sums.roundWords", Rows.laid_ferry_sums_roundWords)] W) : Tabs W := by
  have t0 : Lib.TabIs Tryd.prog W "ferry/sums.startWords" .u32 Hi := Lib.tabIs_of_head (rest := [("ferry/sums.roundWords", Rows.laid_ferry_sums_roundWords)]) gS gSType Tryd.underlying137 Tryd.underlying136 cellsU32 cellsW8 h
  have t1 : Lib.TabIs Tryd.prog W "ferry/sums.roundWords" .u32 Ki := Lib.tabIs_of_head (rest := []) gR gRType Tryd.underlying159 Tryd.underlying136 cellsU32 cellsW64 h.tail
  refine ⟨fun t ht => ?_, fun t ht => ?_, ?_⟩
  · rw [t0.cell gS t ht, Hi_at t ht]
  · rw [t1.cell gR t ht, Ki_at t ht]
  · have := cell_lt (t1.cell gR 0 (by decide))
    omega

def lay8 : Obj → Obj
  | .cells _ t frozen => .cells #[.int .u32 1779033703, .int .u32 3144134277, .int .u32 1013904242, .int .u32 2773480762, .int .u32 1359893119, .int .u32 2600822924, .int .u32 528734635, .int .u32 1541459225] t frozen
  | o => o
def lay64 : Obj → Obj
  | .cells _ t frozen => .cells #[.int .u32 1116352408, .int .u32 1899447441, .int .u32 3049323471, .int .u32 3921009573, .int .u32 961987163, .int .u32 1508970993, .int .u32 2453635748, .int .u32 2870763221, .int .u32 3624381080, .int .u32 310598401, .int .u32 607225278, .int .u32 1426881987, .int .u32 1925078388, .int .u32 2162078206, .int .u32 2614888103, .int .u32 3248222580, .int .u32 3835390401, .int .u32 4022224774, .int .u32 264347078, .int .u32 604807628, .int .u32 770255983, .int .u32 1249150122, .int .u32 1555081692, .int .u32 1996064986, .int .u32 2554220882, .int .u32 2821834349, .int .u32 2952996808, .int .u32 3210313671, .int .u32 3336571891, .int .u32 3584528711, .int .u32 113926993, .int .u32 338241895, .int .u32 666307205, .int .u32 773529912, .int .u32 1294757372, .int .u32 1396182291, .int .u32 1695183700, .int .u32 1986661051, .int .u32 2177026350, .int .u32 2456956037, .int .u32 2730485921, .int .u32 2820302411, .int .u32 3259730800, .int .u32 3345764771, .int .u32 3516065817, .int .u32 3600352804, .int .u32 4094571909, .int .u32 275423344, .int .u32 430227734, .int .u32 506948616, .int .u32 659060556, .int .u32 883997877, .int .u32 958139571, .int .u32 1322822218, .int .u32 1537002063, .int .u32 1747873779, .int .u32 1955562222, .int .u32 2024104815, .int .u32 2227730452, .int .u32 2361852424, .int .u32 2428436474, .int .u32 2756734187, .int .u32 3204031479, .int .u32 3329325298] t frozen
  | o => o
/-- A world for the witness: the settled one, the two tables as their initialisers lay them. -/
noncomputable def laidWorld (os : Os) : World :=
  { World.holding Tryd.prog os ⟨#[], #[], []⟩ with heap := ((World.holding Tryd.prog os ⟨#[], #[], []⟩).heap.modify 0 lay8).modify 1 lay64 }
end Go.Proofs.YtanfolfopalbeaaDoor
namespace Go.Proofs.YtanfolfopalbeaaDoor
open Go.ChangeShapes Go.WideShapes Go.ChangeAt Go.RowKit

set_option maxRecDepth 100000 in
theorem cellsU8 : Tryd.prog.cellsOf 5 = 1 := by kernel_rfl
set_option maxRecDepth 100000 in
theorem cellsDg : Tryd.prog.cellsOf 31 = 32 := by kernel_rfl

theorem wf_u8 {z : Int} (h : (Lit.int .u8 z).wf = true) : 0 ≤ z ∧ z < 256 := by
  simp [Lit.wf] at h
  have h1 : IntKind.u8.min = 0 := rfl
  have h2 : IntKind.u8.max = 255 := rfl
  omega

theorem dig_of_trod {H : Type} {enc : TypeId × Value → H} {w : World} {base : Nat} {sp : Nat → Bool} {held : Bool} {fuel : Nat} {cs : List Value} {x : DataW H × List MemPlace}
    (h : DataW.trod enc Tryd.prog w base sp held fuel 31 cs = some x) : ∃ d : List UInt8, d.length = 32 ∧ cs = bcells d := by
  obtain ⟨xs, m, _, _, hl, hxl, hat⟩ := DataW.trod_array Tryd.underlying31 h
  rw [cellsDg] at hl
  rw [cellsU8] at hat
  have hz : ∀ i, i < 32 → ∃ z : Int, cs[i]? = some (.int .u8 z) ∧ 0 ≤ z ∧ z < 256 := by
    intro i hi
    have h1 := hat i hi
    rw [List.getElem?_eq_getElem (by omega)] at h1
    obtain ⟨z, hc, _, hwf⟩ := DataW.trod_int Tryd.underlying5 h1
    refine ⟨z, ?_, wf_u8 hwf⟩
    have := congrArg (·[0]?) hc
    simpa [List.getElem?_take, List.getElem?_drop] using this
  obtain ⟨f, hf⟩ := Deep.choose_lt hz
  refine ⟨(List.range 32).map fun i => UInt8.ofNat (f i).toNat, by simp, ?_⟩
  apply List.ext_getElem?
  intro i
  by_cases hi : i < 32
  · obtain ⟨h1, h2, h3⟩ := hf i hi
    rw [h1]
    simp only [bcells, List.getElem?_map, List.getElem?_range hi, Option.map_some]
    rw [UInt8.toNat_ofNat', Nat.mod_eq_of_lt (by omega), Int.toNat_of_nonneg h2]
  · rw [List.getElem?_eq_none (by omega), List.getElem?_eq_none (by simp [bcells]; omega)]

set_option maxRecDepth 100000 in
theorem dig_of_arg {H : Type} {enc : TypeId × Value → H} {W : World} {v : Value} {d : DataW H} {ps : List MemPlace} {base : Nat} (hval : Value.okWide Tryd.prog W .any base 31 v)
    (h : DataW.Trod enc Tryd.prog W 0 (fun _ => true) true 31 v d ps) : ∃ r : List UInt8, r.length = 32 ∧ v = .agg (bcells r).toArray := by
  obtain ⟨fuel, hf⟩ := h
  have hv : ∃ cs, v = .agg cs := by
    unfold Value.okWide at hval
    rw [Tryd.underlying31] at hval
    obtain ⟨cs, h1, _⟩ := hval
    exact ⟨cs, h1⟩
  obtain ⟨cs, rfl⟩ := hv
  obtain ⟨r, hr, hc⟩ := dig_of_trod hf
  refine ⟨r, hr, ?_⟩
  have : cs.toList = bcells r := hc
  rw [← this]

theorem bulk_pos {H : Type} (d : DataW H) : 1 ≤ Rows.uptoBulk d := by
  cases d with
  | lit l => cases l <;> simp [Rows.uptoBulk]
  | _ => simp [Rows.uptoBulk]
theorem bulk_length {H : Type} (l : List (DataW H)) : l.length ≤ Rows.uptoBulkAll l := by
  induction l with
  | nil => simp [Rows.uptoBulkAll]
  | cons d r ih =>
    have := bulk_pos d
    simp only [Rows.uptoBulkAll, List.length_cons]
    omega

set_option maxRecDepth 100000 in
theorem digs_of_arg {H : Type} {enc : TypeId × Value → H} {W : World} {v : Value} {d : DataW H} {ps : List MemPlace} {base : Nat} (hval : Value.okWide Tryd.prog W .any base 50 v)
    (h : DataW.Trod enc Tryd.prog W 0 (fun _ => true) true 50 v d ps) : ∃ qs, Digs W v qs ∧ qs.length ≤ Rows.uptoBulk d := by
  obtain ⟨a0, len, cap, rfl⟩ := okWide_slice Tryd.underlying50 hval
  obtain ⟨fuel, hf⟩ := h
  rcases Deep.open_slice Tryd.underlying50 hf with ⟨hcs, _⟩ | ⟨a, len', cap', m, n, D, Pl, hcs, _, hl, hm, hmm, hx, hat⟩
  · have e : Value.slice a0 len cap = .slice none 0 0 := by simpa [Value.cells] using hcs
    rw [e]
    exact ⟨[], ⟨(fun d h => by cases h), none, 0, rfl, Nat.le_refl _, Nat.zero_le _, .inl rfl⟩, Nat.zero_le _⟩
  · have e : Value.slice a0 len cap = .slice (some a) len' cap' := by simpa [Value.cells] using hcs
    rw [e]
    have hd := congrArg Prod.fst hx
    simp only at hd
    have hlm : len' ≤ m := by rw [hmm]; split <;> omega
    rw [cellsDg] at hat
    have hds : ∀ i, i < len' → ∃ r : List UInt8, r.length = 32 ∧ ∀ j, j < 32 → W.cell? ((a.add (i * 32)).add j) = (bcells r)[j]? := by
      intro i hi
      obtain ⟨cs', h1, h2⟩ := hat i (by omega)
      obtain ⟨r, hr, rfl⟩ := dig_of_trod h2
      obtain ⟨_, _, h3⟩ := World.cells?_some h1
      exact ⟨r, hr, h3⟩
    obtain ⟨f, hfx⟩ := Deep.choose_lt hds
    have hql : ((List.range len').map f).length = len' := by simp
    have hqe : ∀ d ∈ (List.range len').map f, d.length = 32 := by
      intro d hd
      simp only [List.mem_map, List.mem_range] at hd
      obtain ⟨i, hi, rfl⟩ := hd
      exact (hfx i hi).1
    refine ⟨(List.range len').map f, ⟨hqe, some a, cap', by rw [hql], by omega, hm, ?_⟩, ?_⟩
    · by_cases h0 : len' = 0
      · left
        rw [h0]
        rfl
      · right
        obtain ⟨b, off, spot⟩ := a
        have hspot : spot = none := by
          have h1 := (hfx 0 (by omega)).2 0 (by omega)
          have hlen := (hfx 0 (by omega)).1
          rw [Nat.zero_mul] at h1
          have h2 : W.cell? ⟨b, off, spot⟩ = some ((bcells (f 0))[0]'(by simp [bcells, hlen])) := by
            rw [← List.getElem?_eq_getElem]
            simpa [Addr.add] using h1
          exact World.cell?_spot h2
        subst hspot
        refine ⟨b, off, rfl, fun j u hu => ?_⟩
        have hj : j < 32 * len' := by
          have h1 := (List.getElem?_eq_some_iff.1 hu).1
          rw [dcells_length _ hqe, hql] at h1
          exact h1
        have hk : j / 32 < ((List.range len').map f).length := by rw [hql]; omega
        rw [dcells_at _ (j / 32) hk] at hu
        have hgd : ((List.range len').map f).getD (j / 32) [] = f (j / 32) := by
          rw [List.getD, List.getElem?_eq_getElem hk]
          simp
        rw [hgd] at hu
        have htl : (dcells (((List.range len').map f).take (j / 32))).length = 32 * (j / 32) := by
          rw [dcells_length _ (fun d hd => hqe d (List.mem_of_mem_take hd)), List.length_take, hql]
          congr 1
          omega
        have hfl := (hfx (j / 32) (by omega)).1
        have hbl : (bcells (f (j / 32))).length = 32 := by simp [bcells, hfl]
        rw [List.append_assoc, List.getElem?_append_right (by omega), htl, List.getElem?_append_left (by omega)] at hu
        have h4 := (hfx (j / 32) (by omega)).2 (j - 32 * (j / 32)) (by omega)
        rw [hu, add_none, add_none] at h4
        rw [← h4]
        congr 2
        omega
    · rw [hql, hd]
      simp only [Rows.uptoBulk]
      have := bulk_length ((List.range len').map D)
      simp at this
      omega
end Go.Proofs.YtanfolfopalbeaaDoor
namespace Go.Proofs.YtanfolfopalbeaaDoor
open Go.ChangeShapes Go.WideShapes Go.ChangeAt Go.RowKit

theorem mv_add_zero (a : Addr) : a.add 0 = a := by
  unfold Addr.add
  split <;> simp_all
set_option maxRecDepth 100000 in
theorem mv_cellsInt : Tryd.prog.cellsOf 3 = 1 := by kernel_rfl
set_option maxRecDepth 100000 in
theorem mv_cellsInts : Tryd.prog.cellsOf 78 = 1 := by kernel_rfl
set_option maxRecDepth 100000 in
theorem mv_cellsMove : Tryd.prog.cellsOf 80 = 3 := by kernel_rfl

theorem nums_of_trod {H : Type} {enc : TypeId × Value → H} {W : World} {base : Nat} {sp : Nat → Bool} {held : Bool} {fuel : Nat} {u : Value} {x : DataW H × List MemPlace}
    (h : DataW.trod enc Tryd.prog W base sp held fuel 78 [u] = some x) : ∃ zs, Nums W u zs := by
  rcases Deep.open_slice1 Tryd.underlying78 mv_cellsInt h with ⟨hcs, _⟩ | ⟨a, len, cap, m, n, V, D, Pl, hcs, _, hl, hm, hmm, hx, hat⟩
  · have e : u = .slice none 0 0 := by simpa using hcs
    rw [e]
    exact ⟨[], none, 0, rfl, Nat.le_refl _, Nat.zero_le _, (fun z hz => by cases hz), .inl rfl⟩
  · have e : u = .slice (some a) len cap := by simpa using hcs
    rw [e]
    have hlm : len ≤ m := by rw [hmm]; split <;> omega
    have hds : ∀ i, i < len → ∃ z : Int, (-9223372036854775808 ≤ z ∧ z ≤ 9223372036854775807) ∧ W.cell? (a.add i) = some (.int .i64 z) := by
      intro i hi
      obtain ⟨h1, h2⟩ := hat i (by omega)
      obtain ⟨z, hc, _, hwf⟩ := DataW.trod_int Tryd.underlying3 h2
      have hb := bounds_i64 hwf
      have hv : V i = .int .i64 z := by simpa using hc
      exact ⟨z, by omega, by rw [h1, hv]⟩
    obtain ⟨f, hfx⟩ := Deep.choose_lt hds
    have hql : ((List.range len).map f).length = len := by simp
    have hgd : ∀ i, i < len → ((List.range len).map f).getD i 0 = f i := fun i hi => by
      rw [List.getD, List.getElem?_eq_getElem (by rw [hql]; exact hi)]
      simp
    refine ⟨(List.range len).map f, some a, cap, by rw [hql], by omega, hm, ?_, ?_⟩
    · intro z hz
      simp only [List.mem_map, List.mem_range] at hz
      obtain ⟨i, hi, rfl⟩ := hz
      exact (hfx i hi).1
    · by_cases h0 : len = 0
      · left
        rw [h0]
        rfl
      · right
        obtain ⟨b, off, spot⟩ := a
        have hspot : spot = none := by simpa [Addr.add] using World.cell?_spot (hfx 0 (by omega)).2
        subst hspot
        refine ⟨b, off, rfl, fun i hi => ?_⟩
        rw [hql] at hi
        rw [hgd i hi, ← add_none]
        exact (hfx i hi).2

set_option maxRecDepth 100000 in
theorem mvs_of_arg {H : Type} {enc : TypeId × Value → H} {W : World} {v : Value} {d : DataW H} {ps : List MemPlace} {base : Nat} (hval : Value.okWide Tryd.prog W .any base 69 v)
    (h : DataW.Trod enc Tryd.prog W 0 (fun _ => true) true 69 v d ps) : ∃ ms, Mvs W v ms ∧ ms.length ≤ Rows.uptoBulk d := by
  obtain ⟨a0, len, cap, rfl⟩ := okWide_slice Tryd.underlying69 hval
  obtain ⟨fuel, hf⟩ := h
  rcases Deep.open_slice Tryd.underlying69 hf with ⟨hcs, _⟩ | ⟨a, len', cap', m, n, D, Pl, hcs, _, hl, hm, hmm, hx, hat⟩
  · have e : Value.slice a0 len cap = .slice none 0 0 := by simpa [Value.cells] using hcs
    rw [e]
    exact ⟨[], ⟨none, 0, rfl, Nat.le_refl _, Nat.zero_le _, .inl rfl⟩, Nat.zero_le _⟩
  · have e : Value.slice a0 len cap = .slice (some a) len' cap' := by simpa [Value.cells] using hcs
    rw [e]
    have hd := congrArg Prod.fst hx
    simp only at hd
    have hlm : len' ≤ m := by rw [hmm]; split <;> omega
    rw [mv_cellsMove] at hat
    have hds : ∀ i, i < len' → ∃ x : Int × Int × Value × List Int, W.cell? (a.add (i * 3)) = some (.int .i64 x.1) ∧ W.cell? ((a.add (i * 3)).add 1) = some (.int .i64 x.2.1) ∧ W.cell? ((a.add (i * 3)).add 2) = some x.2.2.1 ∧
        (-9223372036854775808 ≤ x.2.1 ∧ x.2.1 ≤ 9223372036854775807) ∧ Nums W x.2.2.1 x.2.2.2 := by
      intro i hi
      obtain ⟨cs', h1, h2⟩ := hat i (by omega)
      obtain ⟨_, hlen, h3⟩ := World.cells?_some h1
      obtain ⟨y0, y1, y2, k, _, _, t0, t1, t2⟩ := Deep.trod_struct3 Tryd.underlying80 h2
      match cs', hlen with
      | [c0, c1, c2], _ =>
        have u0 : DataW.trod enc Tryd.prog W 0 (fun _ => true) true k 3 [c0] = some y0 := by
          rw [mv_cellsInt] at t0; exact t0
        have u1 : DataW.trod enc Tryd.prog W 0 (fun _ => true) true k 3 [c1] = some y1 := by
          rw [mv_cellsInt] at t1; exact t1
        have u2 : DataW.trod enc Tryd.prog W 0 (fun _ => true) true k 78 [c2] = some y2 := by
          rw [mv_cellsInts] at t2; exact t2
        obtain ⟨z0, e0, _, _⟩ := DataW.trod_int Tryd.underlying3 u0
        obtain ⟨z1, e1, _, w1⟩ := DataW.trod_int Tryd.underlying3 u1
        obtain ⟨zs, hz⟩ := nums_of_trod u2
        have e0' : c0 = .int .i64 z0 := by simpa using e0
        have e1' : c1 = .int .i64 z1 := by simpa using e1
        have b1 := bounds_i64 w1
        refine ⟨(z0, z1, c2, zs), ?_, ?_, ?_, by omega, hz⟩
        · have := h3 0 (by omega)
          rw [mv_add_zero] at this
          rw [this, e0']; rfl
        · rw [h3 1 (by omega), e1']; rfl
        · rw [h3 2 (by omega)]; rfl
    obtain ⟨f, hfx⟩ := Deep.choose_lt hds
    have hql : ((List.range len').map f).length = len' := by simp
    refine ⟨(List.range len').map f, ⟨some a, cap', by rw [hql], by omega, hm, ?_⟩, ?_⟩
    · by_cases h0 : len' = 0
      · left
        rw [h0]
        rfl
      · right
        obtain ⟨b, off, spot⟩ := a
        have hspot : spot = none := by simpa [Addr.add] using World.cell?_spot (hfx 0 (by omega)).1
        subst hspot
        refine ⟨b, off, rfl, fun i x hix => ?_⟩
        have hi : i < len' := by
          have := (List.getElem?_eq_some_iff.1 hix).1
          omega
        have hx' : f i = x := by
          rw [List.getElem?_map, List.getElem?_range hi] at hix
          simpa using hix
        have := hfx i hi
        rw [hx'] at this
        obtain ⟨g0, g1, g2, g3, g4⟩ := this
        rw [add_none] at g0 g1 g2
        rw [add_none] at g1 g2
        exact ⟨g0, g1, g2, g3, g4⟩
    · rw [hql, hd]
      simp only [Rows.uptoBulk]
      have := bulk_length ((List.range len').map D)
      simp at this
      omega
end Go.Proofs.YtanfolfopalbeaaDoor
