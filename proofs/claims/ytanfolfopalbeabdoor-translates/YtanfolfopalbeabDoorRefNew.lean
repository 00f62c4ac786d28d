import Derived.Test.YtanfolfopalbeabDoorRefBlock
import Derived.Deep.MidRow
import Derived.Deep.RegionWith
namespace Go.Proofs.YtanfolfopalbeabDoor
open Go.RowKit

theorem lenR_length (x k : Nat) : (lenR x k).length = k := by simp [lenR]
theorem padR_length (l : List UInt8) : (padR l).length = l.length + 1 + zs (l.length + 1) + 8 := by
  unfold padR
  rw [List.length_append, List.length_append, List.length_append, List.length_replicate, lenR_length]
  rfl
theorem padR_mod (l : List UInt8) : (padR l).length % 64 = 0 := by
  rw [padR_length]; unfold zs; omega
theorem padR_le (l : List UInt8) : (padR l).length ≤ l.length + 80 := by
  rw [padR_length]; unfold zs; omega
theorem H0_words : H0.words = Hl := rfl
theorem ncells_at (l : List UInt8) (j : Nat) (h : j < l.length) : (ncells l)[j]? = some (.int .u64 ((l.getD j 0).toNat : Int)) := by
  simp [ncells, List.getD, List.getElem?_eq_getElem h]
theorem range_of_urow {w : World} {g : Nat} {ty : TypeId} {l : List Nat} (h : URow w g ty l) (k : Nat) : w.rangeAt g 0 (ucells (l.take k)) := by
  intro j v hv
  rw [Nat.zero_add, cell_of_row w g j _ _ _ h, List.getElem?_toArray]
  unfold ucells at hv ⊢
  rw [List.map_take, List.getElem?_take] at hv
  split at hv
  · exact hv
  · cases hv
theorem there_of_urow {w : World} {g : Nat} {ty : TypeId} {l : List Nat} (h : URow w g ty l) : w.there g 0 l.length := by
  intro j hj
  rw [Nat.zero_add]
  exact ⟨by rw [h.cell j hj]; rfl, h.free j⟩
theorem setCells_row (g : Nat) (ty : TypeId) : ∀ (vs : List Value) (o : Nat) (w : World) (cs : Array Value), w.heap[g]? = some (.cells cs ty (0, 0)) → o + vs.length ≤ cs.size →
    (w.setCells g o vs).heap[g]? = some (.cells (cs.toList.take o ++ vs ++ cs.toList.drop (o + vs.length)).toArray ty (0, 0)) := by
  intro vs
  induction vs with
  | nil =>
    intro o w cs h _
    show w.heap[g]? = _
    rw [h]
    simp
  | cons v r ih =>
    intro o w cs h hl
    simp only [List.length_cons] at hl
    show ((w.setCell ⟨g, o, none⟩ v).setCells g (o + 1) r).heap[g]? = _
    rw [ih (o + 1) _ _ (heap_setCell_same w g o _ _ _ h) (by simp; omega)]
    congr 3
    rw [Array.toList_setIfInBounds]
    have hlt : o < cs.toList.length := by rw [Array.length_toList]; omega
    have e1 : (cs.toList.set o v).take (o + 1) = cs.toList.take o ++ [v] := by
      rw [List.take_succ_eq_append_getElem (by rw [List.length_set]; exact hlt), List.take_set_of_le (Nat.le_refl _)]
      simp
    rw [e1, List.drop_set_of_lt (by omega), show o + 1 + r.length = o + (v :: r).length by simp; omega]
    simp
theorem urow_setCells {w : World} {g : Nat} {ty : TypeId} {l l2 : List Nat} (h : URow w g ty l) (hl : l.length = l2.length) : URow (w.setCells g 0 (ucells l2)) g ty l2 := by
  unfold URow
  rw [setCells_row g ty (ucells l2) 0 w _ h (by rw [ucells_size, ucells_length]; omega)]
  congr 3
  rw [List.take_zero, List.nil_append, List.drop_eq_nil_of_le (by simp [ucells]; omega), List.append_nil]
theorem setCells_other (g k : Nat) (hk : k ≠ g) : ∀ (vs : List Value) (o : Nat) (w : World), (w.setCells g o vs).heap[k]? = w.heap[k]? := by
  intro vs
  induction vs with
  | nil => intro o w; rfl
  | cons v r ih =>
    intro o w
    show ((w.setCell ⟨g, o, none⟩ v).setCells g (o + 1) r).heap[k]? = _
    rw [ih, heap_setCell_other _ _ _ _ (by exact hk)]
theorem below_setCells {B g : Nat} (hg : B ≤ g) : ∀ (vs : List Value) (o : Nat) {a w : World}, Below B a w → Below B a (w.setCells g o vs) := by
  intro vs
  induction vs with
  | nil => intro o a w h; exact h
  | cons v r ih => intro o a w h; exact ih (o + 1) (h.setCell (by exact hg) v)
theorem setCells_size (g : Nat) : ∀ (vs : List Value) (o : Nat) (w : World), (w.setCells g o vs).heap.size = w.heap.size := by
  intro vs
  induction vs with
  | nil => intro o w; rfl
  | cons v r ih =>
    intro o w
    show ((w.setCell ⟨g, o, none⟩ v).setCells g (o + 1) r).heap.size = _
    rw [ih]
    simp [World.setCell]
theorem dig_at (s : S8) (hs : s.ok) (q m : Nat) (hq : q < 8) (hm : m < 4) : ((dig s).getD (4 * q + m) 0).toNat = s.words.getD q 0 / 2 ^ (24 - m * 8) % 256 := by
  obtain ⟨h1, h2, h3, h4, h5, h6, h7, h8⟩ := hs
  have e1 : q = 0 ∨ q = 1 ∨ q = 2 ∨ q = 3 ∨ q = 4 ∨ q = 5 ∨ q = 6 ∨ q = 7 := by omega
  have e2 : m = 0 ∨ m = 1 ∨ m = 2 ∨ m = 3 := by omega
  have key : ∀ (l : List UInt8) (x : Nat), x < 4294967296 → l = w4 x → (l.getD m 0).toNat = x / 2 ^ (24 - m * 8) % 256 := by
    intro l x hx hl
    subst hl
    rcases e2 with rfl | rfl | rfl | rfl <;> simp [w4] <;> omega
  have hw := getD_lt s.words (words_lt s ⟨h1, h2, h3, h4, h5, h6, h7, h8⟩) q
  have hd : ((dig s).drop (4 * q)).take 4 = w4 (s.words.getD q 0) := by
    rcases e1 with rfl | rfl | rfl | rfl | rfl | rfl | rfl | rfl <;> rfl
  have := key _ _ hw hd
  rw [← this, List.getD, List.getD, List.getElem?_take_of_lt hm, List.getElem?_drop]
theorem take_put (d : List UInt8) (i : Nat) (hd : d.length = 32) (hi : i < 32) : (d.take i ++ List.replicate (32 - i) 0).set i (d.getD i 0) = d.take (i + 1) ++ List.replicate (32 - (i + 1)) 0 := by
  rw [List.set_append_right _ _ (by rw [List.length_take]; omega), List.length_take, Nat.min_eq_left (by omega), Nat.sub_self, show 32 - i = (32 - (i + 1)) + 1 by omega, List.replicate_succ, List.set_cons_zero, List.take_succ_eq_append_getElem (by omega), List.append_assoc]
  simp [List.getD, List.getElem?_eq_getElem (show i < d.length by omega)]
theorem byte_val (x e : Nat) : (((x : Int) / 2 ^ e).tmod 256 % 256 : Int) = ((x / 2 ^ e % 256 : Nat) : Int) := by
  have h : ((x : Int) / 2 ^ e) = ((x / 2 ^ e : Nat) : Int) := by simp
  rw [h]
  generalize x / 2 ^ e = y
  rw [Int.tmod_eq_emod_of_nonneg (by omega)]
  omega
theorem info_tab : (Tryd.prog.info? 38).map (·.size) = some 72 := by kernel_rfl

/-- What stands still while the blocks of a text are taken in. -/
structure NewW (w : World) (tb : List Nat) (gp : Nat) (pl : List UInt8) (wr : World) : Prop where
  pc : ∀ j, j < pl.length → wr.cell? ⟨gp, j, none⟩ = some (.int .u64 ((pl.getD j 0).toNat : Int))
  rt : URow wr w.heap.size 38 tb
  rz : BRow wr (w.heap.size + 1) 64 z32
  hb : Below w.heap.size w wr
  gl : gp < wr.heap.size
theorem NewW.heap {w : World} {tb : List Nat} {gp : Nat} {pl : List UInt8} {wr wq : World} (h : NewW w tb gp pl wr) (hs : wr.heap.size ≤ wq.heap.size) (hb : Below w.heap.size w wq) (h1 : wq.heap[gp]? = wr.heap[gp]?) (h2 : wq.heap[w.heap.size]? = wr.heap[w.heap.size]?) (h3 : wq.heap[w.heap.size + 1]? = wr.heap[w.heap.size + 1]?) : NewW w tb gp pl wq :=
  ⟨fun j hj => by rw [World.cell?_of_block h1]; exact h.pc j hj, by unfold URow; rw [h2]; exact h.rt, by unfold BRow; rw [h3]; exact h.rz, hb, Nat.lt_of_lt_of_le h.gl hs⟩

/-- How long a slice is. -/
def lenV : Value → Nat
  | .slice _ m _ => m
  | _ => 0
theorem lenV_slice (a : Option Addr) (m c : Nat) : lenV (.slice a m c) = m := rfl
theorem nums_of_new {w : World} {tb : List Nat} {gp : Nat} {pl : List UInt8} {wr : World} (h : NewW w tb gp pl wr) (k : Nat) (hk : k + 64 ≤ pl.length) : NumsAt wr gp k ((pl.drop k).take 64) := by
  refine ⟨h.gl, fun j hj => ?_⟩
  rw [h.pc (k + j) (by omega)]
  congr 3
  rw [List.getD, List.getD, List.getElem?_take_of_lt hj, List.getElem?_drop]

theorem rblock_tb {tb : List Nat} (ht : Hl ++ Kl = tb) (s : S8) (g off cap : Nat) (bl : List UInt8) (w : World) (hs : s.ok) (hb : bl.length = 64) (hN : NumsAt w g off bl) :
    Calls Tryd.prog 98 #[.agg (ucells tb).toArray, .agg (ucells s.words).toArray, .slice (some ⟨g, off, none⟩) 64 cap] w fun e w' => e = .returned (.agg (ucells (blk s bl).words).toArray) ∧ Below w.heap.size w w' := by
  subst ht
  exact rblock_any s g off cap bl w hs hb hN
theorem nums_drew {w : World} {g off : Nat} {bl : List UInt8} (h : NumsAt w g off bl) : NumsAt w.drew g off bl := ⟨h.1, h.2⟩
theorem below_drew {B : Nat} {w w' : World} (h : Below B w.drew w') : Below B w w' := ⟨h.os, h.tape, h.output, h.size, h.block⟩

set_option maxRecDepth 100000 in
set_option maxHeartbeats 1600000 in
theorem rnew_any (s : ByteArray) (w : World) (hs : s.size ≤ 1048576) :
    Calls Tryd.prog 94 #[tabV, .string s] w fun e w' => e = .returned (.agg (bcells (dig (cmp (padR s.data.toList).length H0 (padR s.data.toList)))).toArray) ∧ Below w.heap.size w w' := by
  unfold tabV
  have htl := tab_length
  have HTK := hide (show (Hl ++ Kl).take 8 = H0.words from rfl)
  generalize hte : Hl ++ Kl = tb at htl HTK ⊢
  have HTE := hide hte
  clear hte
  go_enter Tryd.func94, Tryd.ntmps94
  go_wp2_with fail
  rw [← z32_cells]
  have g0 : ((w.alloc (.cells (ucells tb).toArray 38)).alloc (.cells (bcells z32).toArray 64)).heap[w.heap.size]? = some (.cells (ucells tb).toArray 38 (0, 0)) := heap_alloc2_old w _ _
  have g1 : ((w.alloc (.cells (ucells tb).toArray 38)).alloc (.cells (bcells z32).toArray 64)).heap[w.heap.size + 1]? = some (.cells (bcells z32).toArray 64 (0, 0)) := heap_alloc2_new w _ _
  have hb0 : Below w.heap.size w ((w.alloc (.cells (ucells tb).toArray 38)).alloc (.cells (bcells z32).toArray 64)) := ((Below.refl _ _).alloc (Nat.le_refl _) _).alloc (by simp) _
  generalize ((w.alloc (.cells (ucells tb).toArray 38)).alloc (.cells (bcells z32).toArray 64)) = W0 at g0 g1 hb0 ⊢
  refine (rpad_any s W0 hs).mono ?_
  rintro e w1 ⟨v, rfl, hown, hb1⟩
  have hm := padR_mod s.data.toList
  have hle := padR_le s.data.toList
  have hle2 : s.data.toList.length = s.size := rfl
  have hpos : 0 < (padR s.data.toList).length := by rw [padR_length]; omega
  generalize hpe : padR s.data.toList = pl at hown hm hle hpos
  have HPE := hide hpe
  clear hpe
  obtain ⟨gp, cp, rfl, hgp, hgpl⟩ := hown.form hpos
  have hbel := hb0.trans (hb1.mono hb0.size)
  have hz0 := hb0.size
  have hz1 := hb1.size
  have hl1 := lt_of_block g1
  have hnw : NewW w tb gp pl w1 := by
    refine ⟨fun j hj => ?_, ?_, ?_, hbel, hgpl⟩
    · have := hown.cells (g := gp) rfl j _ (ncells_at pl j hj)
      rwa [Addr.add_lit, Nat.zero_add] at this
    · unfold URow; rw [hb1.block _ (lt_of_block g0)]; exact g0
    · unfold BRow; rw [hb1.block _ hl1]; exact g1
  have hcp : pl.length ≤ cp ∧ cp ≤ maxLen := by
    rcases hown.2 with ⟨h, _⟩ | ⟨g', cap', cur, h, _, _, h1, h2, _⟩
    · cases h
    · injection h with _ _ h3
      subst h3
      exact ⟨h1, h2⟩
  have L1 := hide (range_of_urow hnw.rt 8)
  rw [unhide HTK] at L1
  have G1 := hide (show (Tryd.prog.info? 35).map (·.size) = some (ucells H0.words).length by rw [ucells_length]; exact info_u8w)
  have G2 := hide (show (Tryd.prog.info? 35).map (·.size) = some (ucells H0.words).toArray.size by rw [ucells_size]; exact info_u8w)
  have G3 := hide (show (ucells z8).toArray.size = (ucells H0.words).toArray.size by rw [ucells_size, ucells_size]; rfl)
  have hH : H0.words.length = 8 := rfl
  have HH := hide H0_ok
  generalize hst : H0.words = h0 at L1 G1 G2 G3 hH
  have HST := hide hst
  have HNW := hide hnw
  clear hown hb1 hb0 g0 g1 hbel hnw HTK hst
  go_wp2_with (first | ((with_reducible refine at_load ?_); refine wpList_load_mid rfl 35 _ rfl w.heap.size 0 rfl (ucells h0) _ (unhide L1) Tryd.underlying35 rfl (unhide G1) ?_) | ((with_reducible refine at_store ?_); refine wpList_store_row rfl 35 _ _ rfl w1.heap.size (ucells h0).toArray rfl rfl 35 _ (heap_alloc_new w1 _) (unhide G2) (unhide G3) (ucells_one h0) ?_))
  have hnw : NewW w tb gp pl ((w1.alloc (.cells (ucells z8).toArray 35)).setRow w1.heap.size (ucells h0).toArray) :=
    (unhide HNW).heap (by rw [setRow_size]; simp) (below_row ((unhide HNW).hb.alloc (by omega) _) (by omega) _) (heap_put_old w1 _ _ _ _ hgpl) (heap_put_old w1 _ _ _ _ (by omega)) (heap_put_old w1 _ _ _ _ (by omega))
  have hv0 : URow ((w1.alloc (.cells (ucells z8).toArray 35)).setRow w1.heap.size (ucells h0).toArray) w1.heap.size 35 h0 := heap_put_new _ _ _ _
  have hH1 : gp ≠ w1.heap.size := by omega
  have hH2 : w.heap.size + 1 < w1.heap.size := by omega
  rw [← z8_cells]
  generalize ((w1.alloc (.cells (ucells z8).toArray 35)).setRow w1.heap.size (ucells h0).toArray) = W5 at hnw hv0 ⊢
  clear HNW L1 G1 G2 G3
  generalize w1.heap.size = H at *
  rw [← unhide HST] at hv0
  have hcp1 := hcp.1
  have hcp2 := hcp.2
  clear hcp
  simp only [Act.put]
  go_loopw [5] (fun v wr => ∃ (k f : Nat) (st : S8) (c : Nat) (p : Option Addr), 64 * k ≤ pl.length ∧ v = .slice p (pl.length - 64 * k) c ∧ (0 < pl.length - 64 * k → p = some ⟨gp, 64 * k, none⟩) ∧ pl.length - 64 * k ≤ c ∧ c ≤ maxLen ∧ st.ok ∧ pl.length - 64 * k ≤ f ∧ Hid (cmp pl.length H0 pl = cmp f st (pl.drop (64 * k))) ∧ URow wr H 35 st.words ∧ NewW w tb gp pl wr) (fun v _ => lenV v)
  case atStart => exact ⟨0, pl.length, H0, cp, _, by omega, rfl, fun _ => rfl, hcp1, hcp2, unhide HH, by omega, hide rfl, hv0, hnw⟩
  case round =>
    obtain ⟨k, f, st, c, p, hk, rfl, hp, hc1, hc2, hok, hf, HC, hv, hnw⟩ := hrel
    generalize hre : pl.length - 64 * k = r at hp hc1 hf ⊢
    by_cases hr : 0 < r
    · have h64 : 64 ≤ r := by omega
      cases hp hr
      clear hp
      have HST2 := hide (show cmp f st (pl.drop (64 * k)) = cmp (f - 1) (blk st ((pl.drop (64 * k)).take 64)) (pl.drop (64 * (k + 1))) by
        have h1 : f = (f - 1) + 1 := by omega
        rw [h1, cmp_step _ _ _ (by rw [List.length_drop]; omega), List.drop_drop, show 64 * k + 64 = 64 * (k + 1) by omega]
        rfl)
      have hN := nums_of_new hnw (64 * k) (by omega)
      have hbl : ((pl.drop (64 * k)).take 64).length = 64 := by rw [List.length_take, List.length_drop]; omega
      have hwl := words_length st
      have hR1 : wr.drew.rangeAt w.heap.size 0 (ucells tb) := by have := range_of_urow hnw.rt 72; rw [List.take_of_length_le (by omega)] at this; simpa using this
      have hR2 : wr.drew.rangeAt H 0 (ucells st.words) := by have := range_of_urow hv 8; rw [List.take_of_length_le (by omega)] at this; simpa using this
      have G1 := hide (show (Tryd.prog.info? 38).map (·.size) = some (ucells tb).length by rw [ucells_length, htl]; exact info_tab)
      have G2 := hide (show (Tryd.prog.info? 35).map (·.size) = some (ucells st.words).length by rw [ucells_length]; exact info_u8w)
      have d1 : decide ((0 : Int) < (r : Int)) = true := by simp; omega
      have i1 : (64 : Int) ≤ (r : Int) := by omega
      have i2 : (64 : Int) ≤ (c : Int) := by omega
      have i3 : (r : Int) ≤ (c : Int) := by omega
      have HV := hide hv
      have HNW := hide hnw
      have HN := hide hN
      clear hv hnw hN
      generalize (pl.drop (64 * k)).take 64 = bl at *
      go_wp2_with fail
      refine wp_region_held_drew (S := fun w' => w'.rangeAt w.heap.size 0 (ucells tb)) (by kernel_rfl) hR1 (fun hHeld => ?_)
      refine wpAnyH_take (i := 0) rfl (by kernel_rfl) (by kernel_rfl) (by kernel_rfl) (fun _ _ _ h => h)
          (yieldsIf_load_mid (by rfl) 38 _ rfl w.heap.size 0 rfl (ucells tb) _ (fun _ h => h) Tryd.underlying38 rfl (unhide G1)) hHeld ?_
      refine wpAnyH_take (i := 2) (v := .slice (some ⟨gp, 64 * k, none⟩) r c) rfl (by kernel_rfl) (by kernel_rfl) (by kernel_rfl) (fun _ _ _ h => h) (Or.inl ⟨by rfl, fun _ _ => by go_simp⟩) hHeld ?_
      refine wpAnyH_take (i := 3) (v := .slice (some ⟨gp, 64 * k, none⟩) 64 c) rfl (by kernel_rfl) (by kernel_rfl) (by kernel_rfl) (fun _ _ _ h => h) (Or.inl ⟨by rfl, fun _ _ => by go_simp⟩) hHeld ?_
      refine wpAnyH_ready (rs := [1]) (by kernel_rfl) (by simp) ?_
      refine AllReadyH.cons rfl (fun K hK => ?_) AllReadyH.nil
      rw [if_pos (by rfl)]
      refine wp_load_mid 35 _ rfl H 0 rfl (ucells st.words) _ hR2 Tryd.underlying35 rfl (unhide G2) ?_
      refine hK.out _ _ hHeld (fun hHeld => ?_)
      clear hK K
      refine wpAnyH_ready (rs := [4]) (by kernel_rfl) (by simp) ?_
      refine AllReadyH.cons rfl (fun K hK => ?_) AllReadyH.nil
      go_simp
      go_at_call 98
      refine (rblock_tb (unhide HTE) st gp (64 * k) c bl _ hok hbl (nums_drew (unhide HN))).mono ?_
      rintro e w3 ⟨rfl, hb3⟩
      have hv3 : URow w3 H 35 st.words := by
        unfold URow; rw [hb3.block _ (by simpa using (unhide HV).lt)]; exact unhide HV
      have hnw3 : NewW w tb gp pl w3 := by
        have h0 := unhide HNW
        exact h0.heap (by simpa using hb3.size) (h0.hb.trans ((below_drew hb3).mono h0.hb.size)) (hb3.block _ (by simpa using h0.gl)) (hb3.block _ (by simpa using h0.rt.lt)) (hb3.block _ (by simpa using lt_of_block h0.rz))
      dsimp only
      have hR3 : w3.rangeAt w.heap.size 0 (ucells tb) := by have := range_of_urow hnw3.rt 72; rwa [List.take_of_length_le (by omega)] at this
      refine hK.out _ _ hR3 (fun _ => ?_)
      clear hK K
      have hT : w3.there H 0 (ucells (blk st bl).words).toArray.size := by have := there_of_urow hv3; rwa [words_length, ← words_length (blk st bl), ← ucells_size] at this
      have G3 := hide (show (Tryd.prog.info? 35).map (·.size) = some (ucells (blk st bl).words).toArray.size by rw [ucells_size]; exact info_u8w)
      refine wpAnyH_ready (rs := [5]) (by kernel_rfl) (by simp) ?_
      refine AllReadyH.cons rfl (fun K hK => ?_) AllReadyH.nil
      rw [if_pos (by rfl)]
      refine wp_store_mid 35 _ _ rfl H 0 _ rfl rfl hT (unhide G3) (ucells_one _) ?_
      have hv4 : URow (w3.setCells H 0 (ucells (blk st bl).words)) H 35 (blk st bl).words := urow_setCells hv3 (by rw [words_length, words_length])
      have hnw4 : NewW w tb gp pl (w3.setCells H 0 (ucells (blk st bl).words)) :=
        hnw3.heap (by rw [setCells_size]; exact Nat.le_refl _) (below_setCells (by omega) _ _ hnw3.hb) (setCells_other _ _ hH1 _ _ _) (setCells_other _ _ (by omega) _ _ _) (setCells_other _ _ (by omega) _ _ _)
      rw [show (ucells (blk st bl).words).toArray.toList = ucells (blk st bl).words from rfl]
      have hR4 : (w3.setCells H 0 (ucells (blk st bl).words)).rangeAt w.heap.size 0 (ucells tb) := by have := range_of_urow hnw4.rt 72; rwa [List.take_of_length_le (by omega)] at this
      generalize w3.setCells H 0 (ucells (blk st bl).words) = w4 at hv4 hnw4 hR4 ⊢
      refine hK.out _ _ hR4 (fun _ => ?_)
      clear hK K
      refine wpAnyH_done (by kernel_rfl) ?_ _
      go_wp2_with fail
      refine ⟨⟨k + 1, f - 1, blk st bl, c - 64, _, by omega, by rw [show pl.length - 64 * (k + 1) = r - 64 by omega], fun h => ?_, by omega, by omega, plus_ok _ _, by omega, hide ((unhide HC).trans (unhide HST2)), hv4, hnw4⟩, ?_⟩
      · rw [if_neg (by omega), show 64 * k + 64 = 64 * (k + 1) by omega]
      · simp only [lenV]; omega
    · have hr0 : r = 0 := by omega
      subst hr0
      clear hp
      have HE := hide (show cmp pl.length H0 pl = st by rw [unhide HC]; exact cmp_end _ _ _ (by rw [List.length_drop]; omega))
      have d1 : decide ((0 : Int) < ((0 : Nat) : Int)) = false := rfl
      have hz := hnw.hb.size
      go_wp2_with fail
      rw [← z32_cells]
      have hv2 : URow (wr.alloc (.cells (bcells z32).toArray 64)) H 35 st.words := by
        unfold URow; rw [Below.heap_alloc _ _ _ hv.lt]; exact hv
      have hrz2 : BRow (wr.alloc (.cells (bcells z32).toArray 64)) (w.heap.size + 1) 64 z32 := by
        unfold BRow; rw [Below.heap_alloc _ _ _ (lt_of_block hnw.rz)]; exact hnw.rz
      have ho2 : BRow (wr.alloc (.cells (bcells z32).toArray 64)) wr.heap.size 64 z32 := heap_alloc_new wr _
      have hbe2 : Below w.heap.size w (wr.alloc (.cells (bcells z32).toArray 64)) := hnw.hb.alloc hz _
      have hHlt := hv.lt
      have HDE := hide (dig_at st hok)
      have hdl : (dig st).length = 32 := dgk_length st 8 (Nat.le_refl _)
      have hwlt := words_lt st hok
      have HSE := hide (show dig (cmp pl.length H0 pl) = dig st by rw [unhide HE])
      generalize wr.alloc (.cells (bcells z32).toArray 64) = W6 at hv2 hrz2 ho2 hbe2 ⊢
      generalize wr.heap.size = G at *
      generalize hdd : dig st = dd at HDE hdl HSE
      have hwl := words_length st
      generalize st.words = ws at hv2 HDE hwlt hwl
      clear hv hnw HC HE hdd hok
      go_loopw [8] (fun v wr => ∃ i : Nat, i ≤ 32 ∧ v = .int .i64 i ∧ BRow wr G 64 (dd.take i ++ List.replicate (32 - i) 0) ∧ URow wr H 35 ws ∧ BRow wr (w.heap.size + 1) 64 z32 ∧ Below w.heap.size w wr) (fun v _ => 32 - (intOf v).toNat)
      case atStart => exact ⟨0, by omega, rfl, ho2, hv2, hrz2, hbe2⟩
      case round =>
        obtain ⟨i, hi, rfl, hrow, hv, hrz, hbel⟩ := hrel
        by_cases hlt : i < 32
        · have hq : i / 4 < 8 := by omega
          have hm : i % 4 < 4 := by omega
          have HB := hide ((unhide HDE) (i / 4) (i % 4) hq hm)
          rw [show 4 * (i / 4) + i % 4 = i by omega] at HB
          have ch := hv.cell (i / 4) (by omega)
          have co := hrow.cell i (by rw [List.length_append, List.length_take, List.length_replicate]; omega)
          have fo := hrow.free i
          have bx := getD_lt ws hwlt (i / 4)
          have e1 : Int.tdiv (i : Int) 4 = ((i / 4 : Nat) : Int) := by rw [Int.tdiv_eq_ediv_of_nonneg (by omega)]; omega
          have e2 : Int.tmod (i : Int) 4 = ((i % 4 : Nat) : Int) := by rw [Int.tmod_eq_emod_of_nonneg (by omega)]; omega
          generalize ws.getD (i / 4) 0 = x at ch HB bx
          have hqe : i / 4 * 4 + i % 4 = i := by omega
          generalize i / 4 = q at *
          generalize i % 4 = m at *
          have hd : decide ((i : Int) < 32) = true := by simp; omega
          go_wp2_with fail
          have hval : (((x : Int) / 2 ^ (24 - m * 8)).tmod 256 % 256 : Int) = ((dd.getD i 0).toNat : Int) := by rw [unhide HB]; exact byte_val x _
          rw [hval]
          refine ⟨⟨i + 1, by omega, by go_num, by rw [← take_put dd i hdl hlt]; exact hrow.set i _, hv.other (by omega), ?_, hbel.setCell (by exact hz) _⟩, by simp [intOf]; omega⟩
          unfold BRow
          rw [heap_setCell_other _ _ _ _ (by show w.heap.size + 1 ≠ G; omega)]
          exact hrz
        · have hie : i = 32 := by omega
          rw [hie, show 32 - 32 = 0 from rfl, List.replicate_zero, List.append_nil, List.take_of_length_le (by omega)] at hrow
          have hsd : (bcells dd).toArray.size = 32 := by rw [bcells_size, hdl]
          have K1 : Hid (wr.heap[G]? = some (.cells (bcells dd).toArray 64 (0, 0))) := hide hrow
          have K2 : Hid (wr.heap[w.heap.size + 1]? = some (.cells (bcells z32).toArray 64 (0, 0))) := hide hrz
          have K3 := hide (show (Tryd.prog.info? 64).map (·.size) = some (bcells dd).toArray.size by rw [hsd]; exact info_dg)
          have K4 := hide (show (bcells z32).toArray.size = (bcells dd).toArray.size by rw [hsd, bcells_size]; rfl)
          have hd : decide ((i : Int) < 32) = false := by simp; omega
          clear hrow hv hrz hie hsd hdl
          go_wp2_with (first | ((with_reducible refine at_load ?_); refine wpList_load_row rfl 64 _ rfl G rfl 64 (bcells dd).toArray (0, 0) _ (unhide K1) Tryd.underlying64 rfl (unhide K3) ?_) | ((with_reducible refine at_store ?_); refine wpList_store_row rfl 64 _ _ rfl (w.heap.size + 1) (bcells dd).toArray rfl rfl 64 _ (unhide K2) (unhide K3) (unhide K4) (bcells_one dd) ?_))
          refine bodyPost_ret (v := .agg (bcells dd).toArray) ?_ rfl ⟨by rw [unhide HPE, unhide HSE], below_row hbel (by omega) _⟩
          exact results_cell_row Tryd.results94 _ _ (w.heap.size + 1) 64 _ (0, 0) _ rfl (setRow_heap _ _ _ _ _ _ (unhide K2)) Tryd.underlying64 rfl (unhide K3)
end Go.Proofs.YtanfolfopalbeabDoor
