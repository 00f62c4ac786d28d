import Derived.Test.YtanfolfopalbeaaDoorRefSpread
namespace Go.Proofs.YtanfolfopalbeaaDoor
open Go.RowKit

/-- Block g holds the words l, each in 64 bits. -/
def URow (w : World) (g : Nat) (ty : TypeId) (l : List Nat) : Prop := w.heap[g]? = some (.cells (ucells l).toArray ty (0, 0))
theorem URow.cell {w : World} {g : Nat} {ty : TypeId} {l : List Nat} (h : URow w g ty l) (j : Nat) (hj : j < l.length) : w.cell? ⟨g, j, none⟩ = some (.int .u64 ((l.getD j 0 : Nat) : Int)) := by
  rw [cell_of_row w g j _ _ _ h, List.getElem?_toArray]
  exact ucells_at l j hj
theorem URow.free {w : World} {g : Nat} {ty : TypeId} {l : List Nat} (h : URow w g ty l) (j : Nat) : w.frozen? ⟨g, j, none⟩ = false := frozen_of_row w g j _ _ h
theorem URow.set {w : World} {g : Nat} {ty : TypeId} {l : List Nat} (h : URow w g ty l) (j x : Nat) : URow (w.setCell ⟨g, j, none⟩ (.int .u64 (x : Int))) g ty (l.set j x) := by
  unfold URow
  rw [heap_setCell_same w g j _ _ _ h]
  congr 2
  apply Array.ext'
  simp [ucells, List.map_set]
theorem URow.other {w : World} {g g' j : Nat} {ty : TypeId} {l : List Nat} {v : Value} (h : URow w g ty l) (hg : g ≠ g') : URow (w.setCell ⟨g', j, none⟩ v) g ty l := by
  unfold URow
  rw [heap_setCell_other _ _ _ _ (by exact hg)]
  exact h
theorem URow.lt {w : World} {g : Nat} {ty : TypeId} {l : List Nat} (h : URow w g ty l) : g < w.heap.size := lt_of_block h
theorem URow.below {w w' : World} {B g : Nat} {ty : TypeId} {l : List Nat} (h : URow w g ty l) (hb : Below B w w') (hB : w.heap.size ≤ B) : URow w' g ty l := by
  unfold URow
  rw [hb.block g (Nat.lt_of_lt_of_le h.lt hB)]
  exact h
theorem URow.drewN {w : World} {g : Nat} {ty : TypeId} {l : List Nat} (h : URow w g ty l) (n : Nat) : URow (w.drewN n) g ty l := by
  unfold URow
  rw [heap_drewN']
  exact h
theorem ucells_size (l : List Nat) : (ucells l).toArray.size = l.length := by simp [ucells]
theorem ucells_one (l : List Nat) : (ucells l).toArray.all (·.oneCell') = true := by
  rw [Array.all_eq_true']
  intro v hv
  simp only [ucells, List.mem_toArray, List.mem_map] at hv
  obtain ⟨n, _, rfl⟩ := hv
  rfl
theorem info_u8w : (Tryd.prog.info? 23).map (·.size) = some 8 := by kernel_rfl
theorem z8_cells : (ucells z8).toArray = #[.int .u64 0, .int .u64 0, .int .u64 0, .int .u64 0, .int .u64 0, .int .u64 0, .int .u64 0, .int .u64 0] := rfl

theorem bg0_bits64 (x : Nat) (hx : x < 4294967296) : bits BinOp.xor IntKind.u64 (bits BinOp.xor IntKind.u64 ((rot x 2 : Nat) : Int) ((rot x 13 : Nat) : Int)) ((rot x 22 : Nat) : Int) = ((bg0 x : Nat) : Int) :=
  xor3_bits64 _ _ _ (rot_lt _ _ hx) (rot_lt _ _ hx) (rot_lt _ _ hx)
theorem bg1_bits64 (x : Nat) (hx : x < 4294967296) : bits BinOp.xor IntKind.u64 (bits BinOp.xor IntKind.u64 ((rot x 6 : Nat) : Int) ((rot x 11 : Nat) : Int)) ((rot x 25 : Nat) : Int) = ((bg1 x : Nat) : Int) :=
  xor3_bits64 _ _ _ (rot_lt _ _ hx) (rot_lt _ _ hx) (rot_lt _ _ hx)
theorem ch_or (e f g : Nat) (he : e < 4294967296) : (e &&& f) ||| ((4294967295 - e) &&& g) = chf e f g := by
  unfold chf
  apply Nat.eq_of_testBit_eq
  intro i
  have h := Nat.testBit_two_pow_sub_succ (x := e) (n := 32) (by omega) i
  rw [show 2 ^ 32 - (e + 1) = 4294967295 - e by omega] at h
  rw [Nat.testBit_or, Nat.testBit_xor, Nat.testBit_and, Nat.testBit_and, h]
  cases e.testBit i <;> simp
theorem maj_or (a b c : Nat) : (a &&& b) ||| (a &&& c) ||| (b &&& c) = maj a b c := by
  unfold maj
  apply Nat.eq_of_testBit_eq
  intro i
  simp only [Nat.testBit_or, Nat.testBit_xor, Nat.testBit_and]
  cases a.testBit i <;> cases b.testBit i <;> cases c.testBit i <;> rfl
theorem ch_bits64 (e f g : Nat) (he : e < 4294967296) (hf : f < 4294967296) (hg : g < 4294967296) :
    bits BinOp.or IntKind.u64 (bits BinOp.and IntKind.u64 (e : Int) (f : Int)) (bits BinOp.and IntKind.u64 (4294967295 - (e : Int)) (g : Int)) = ((chf e f g : Nat) : Int) := by
  rw [show (4294967295 - (e : Int)) = ((4294967295 - e : Nat) : Int) by omega, u64_and_nat e f (by omega) (by omega), u64_and_nat _ g (by omega) (by omega), u64_or_nat _ _ (by have := and_lt32 e f he; omega) (by have := and_lt32 (4294967295 - e) g (by omega); omega), ch_or e f g he]
theorem maj_bits64 (a b c : Nat) (ha : a < 4294967296) (hb : b < 4294967296) (hc : c < 4294967296) :
    bits BinOp.or IntKind.u64 (bits BinOp.or IntKind.u64 (bits BinOp.and IntKind.u64 (a : Int) (b : Int)) (bits BinOp.and IntKind.u64 (a : Int) (c : Int))) (bits BinOp.and IntKind.u64 (b : Int) (c : Int)) = ((maj a b c : Nat) : Int) := by
  have h1 := and_lt32 a b ha
  have h2 := and_lt32 a c ha
  have h3 := and_lt32 b c hb
  have h4 : (a &&& b) ||| (a &&& c) < 2 ^ 32 := Nat.or_lt_two_pow (by omega) (by omega)
  rw [u64_and_nat a b (by omega) (by omega), u64_and_nat a c (by omega) (by omega), u64_and_nat b c (by omega) (by omega), u64_or_nat _ _ (by omega) (by omega), u64_or_nat _ _ (by omega) (by omega), maj_or]

/-- Words moved up by one, from place i + 1 on. -/
def mvd (l : List Nat) (i : Nat) : List Nat := l.take (i + 1) ++ (l.drop i).take (7 - i)
theorem mvd_step (l : List Nat) (hl : l.length = 8) (i : Nat) (h : i < 7) : mvd l i = (mvd l (i + 1)).set (i + 1) (l.getD i 0) := by
  match l, hl with
  | [a, b, c, d, e, f, g, h], _ =>
    have : i = 0 ∨ i = 1 ∨ i = 2 ∨ i = 3 ∨ i = 4 ∨ i = 5 ∨ i = 6 := by omega
    rcases this with rfl | rfl | rfl | rfl | rfl | rfl | rfl <;> rfl
theorem mvd_length (l : List Nat) (hl : l.length = 8) (i : Nat) (h : i ≤ 7) : (mvd l i).length = 8 := by
  unfold mvd
  rw [List.length_append, List.length_take, List.length_take, List.length_drop]; omega
theorem mvd_low (l : List Nat) (hl : l.length = 8) (i : Nat) (h : i < 7) : (mvd l (i + 1)).getD i 0 = l.getD i 0 := by
  unfold mvd
  rw [List.getD, List.getD, List.getElem?_append_left (by rw [List.length_take]; omega), List.getElem?_take_of_lt (by omega)]

/-- The words of a state, as cells of 64 bits. -/
def S8.c64 (s : S8) : Array Value := (ucells s.words).toArray
theorem words_length (s : S8) : s.words.length = 8 := rfl
/-- The reference's own tables. -/
def tabV : Value := .agg (ucells (Hl ++ Kl)).toArray
theorem tab_at (t : Nat) (h : t < 64) : (Hl ++ Kl).getD (8 + t) 0 = Kl.getD t 0 := by
  rw [List.getD, List.getD, List.getElem?_append_right (by show 8 ≤ 8 + t; omega), show 8 + t - Hl.length = t by show 8 + t - 8 = t; omega]
theorem tab_length : (Hl ++ Kl).length = 72 := rfl
theorem heap_own {w : World} {base : Nat} {e : TypeId} {v : Value} {n : Nat} {xs : List Value} {w' : World} (h : w.ownsRow base e 1 v n xs) (hs : ∀ k, k < w.heap.size → w'.heap[k]? = w.heap[k]?) : w'.ownsRow base e 1 v n xs := by
  refine ⟨h.1, ?_⟩
  rcases h.2 with hn | ⟨g, cap, cur, rfl, hb, hgg, rest⟩
  · exact .inl hn
  · exact .inr ⟨g, cap, cur, rfl, hb, by rw [hs g (lt_of_block hgg)]; exact hgg, rest⟩

theorem URow.cells8 {w : World} {G : Nat} {ty : TypeId} {a b c d e f g h : Nat} (hr : URow w G ty [a, b, c, d, e, f, g, h]) : w.cell? ⟨G, 0, none⟩ = some (.int .u64 (a : Int)) ∧ w.cell? ⟨G, 1, none⟩ = some (.int .u64 (b : Int)) ∧ w.cell? ⟨G, 2, none⟩ = some (.int .u64 (c : Int)) ∧ w.cell? ⟨G, 3, none⟩ = some (.int .u64 (d : Int)) ∧ w.cell? ⟨G, 4, none⟩ = some (.int .u64 (e : Int)) ∧ w.cell? ⟨G, 5, none⟩ = some (.int .u64 (f : Int)) ∧ w.cell? ⟨G, 6, none⟩ = some (.int .u64 (g : Int)) ∧ w.cell? ⟨G, 7, none⟩ = some (.int .u64 (h : Int)) :=
  ⟨hr.cell 0 (by simp), hr.cell 1 (by simp), hr.cell 2 (by simp), hr.cell 3 (by simp), hr.cell 4 (by simp), hr.cell 5 (by simp), hr.cell 6 (by simp), hr.cell 7 (by simp)⟩
/-- Two lists of eight words put together, as far as k. -/
def pls (v h : List Nat) (k : Nat) : List Nat := (List.range 8).map fun j => if j < k then (v.getD j 0 + h.getD j 0) % 4294967296 else v.getD j 0
theorem pls_length (v h : List Nat) (k : Nat) : (pls v h k).length = 8 := by simp [pls]
theorem pls_get (v h : List Nat) (k j : Nat) (hj : j < 8) : (pls v h k)[j]? = some (if j < k then (v.getD j 0 + h.getD j 0) % 4294967296 else v.getD j 0) := by
  unfold pls
  rw [List.getElem?_map, List.getElem?_range hj, Option.map_some]
theorem pls_at (v h : List Nat) (k : Nat) (hk : k < 8) : (pls v h k).getD k 0 = v.getD k 0 := by
  rw [List.getD, pls_get v h k k hk, Option.getD_some, if_neg (by omega)]
theorem pls_step (v h : List Nat) (k : Nat) (hk : k < 8) : pls v h (k + 1) = (pls v h k).set k ((v.getD k 0 + h.getD k 0) % 4294967296) := by
  apply List.ext_getElem?
  intro j
  by_cases hj : j < 8
  · rw [pls_get v h _ j hj]
    by_cases he : k = j
    · subst he
      rw [List.getElem?_set_self (by rw [pls_length]; exact hk), if_pos (by omega)]
    · rw [List.getElem?_set_ne he, pls_get v h _ j hj]
      by_cases h1 : j < k
      · rw [if_pos h1, if_pos (by omega)]
      · rw [if_neg h1, if_neg (by omega)]
  · rw [List.getElem?_eq_none (by rw [pls_length]; omega), List.getElem?_eq_none (by rw [List.length_set, pls_length]; omega)]
theorem pls_zero (v h : List Nat) (hv : v.length = 8) : pls v h 0 = v := by
  apply List.ext_getElem?
  intro j
  by_cases hj : j < 8
  · rw [pls_get v h _ j hj, if_neg (by omega), List.getD, List.getElem?_eq_getElem (by omega)]
    rfl
  · rw [List.getElem?_eq_none (by rw [pls_length]; omega), List.getElem?_eq_none (by omega)]
theorem pls_end (s r : S8) : pls r.words s.words 8 = (s.plus r).words := by
  obtain ⟨a, b, c, d, e, f, g, h⟩ := s
  obtain ⟨a', b', c', d', e', f', g', h'⟩ := r
  simp only [S8.plus, S8.words, Nat.add_comm a, Nat.add_comm b, Nat.add_comm c, Nat.add_comm d, Nat.add_comm e, Nat.add_comm f, Nat.add_comm g, Nat.add_comm h]
  rfl
theorem stp_flat (a b c d e f g h k x : Nat) : stp ⟨a, b, c, d, e, f, g, h⟩ k x = ⟨(h + bg1 e + chf e f g + k + x + bg0 a + maj a b c) % 4294967296, a, b, c, (d + (h + bg1 e + chf e f g + k + x)) % 4294967296, e, f, g⟩ := by
  simp only [stp, t1, t2, S8.mk.injEq, true_and, and_true]
  constructor
  · omega
  · omega
theorem by_i (x : Nat) (k : Int) (w : World) (hx : x < 4294967296) (h0 : 0 ≤ k) (hk : k ≤ 32) :
    Calls Tryd.prog 92 #[.int .u64 x, .int .u64 k] w fun e w' => e = .returned (.int .u64 (rot x k.toNat)) ∧ w' = w := by
  obtain ⟨n, rfl⟩ := Int.eq_ofNat_of_zero_le h0
  exact by_any x n w hx (by omega)
/-- What stands still while a block is taken in. -/
structure BlkW (w : World) (tb w0 : List Nat) (gw : Nat) (ws : List Nat) (wr : World) : Prop where
  cw : ∀ j, j < 64 → wr.cell? ⟨gw, j, none⟩ = some (.int .u64 ((ws.getD j 0 : Nat) : Int))
  rt : URow wr w.heap.size 26 tb
  rh : URow wr (w.heap.size + 1) 23 w0
  rz : URow wr (w.heap.size + 1 + 1) 23 z8
  hb : Below w.heap.size w wr
theorem BlkW.set {w : World} {tb w0 : List Nat} {gw : Nat} {ws : List Nat} {wr : World} (h : BlkW w tb w0 gw ws wr) {H : Nat} (h1 : gw ≠ H) (h2 : w.heap.size + 1 + 1 < H) (j : Nat) (v : Value) : BlkW w tb w0 gw ws (wr.setCell ⟨H, j, none⟩ v) := by
  refine ⟨fun i hi => ?_, h.rt.other (by omega), h.rh.other (by omega), h.rz.other (by omega), h.hb.setCell (by show w.heap.size ≤ H; omega) v⟩
  rw [World.cell?_of_block (heap_setCell_other _ _ _ _ (by exact h1))]
  exact h.cw i hi
theorem BlkW.drewN {w : World} {tb w0 : List Nat} {gw : Nat} {ws : List Nat} {wr : World} (h : BlkW w tb w0 gw ws wr) (n : Nat) : BlkW w tb w0 gw ws (wr.drewN n) := by
  refine ⟨fun i hi => ?_, h.rt.drewN n, h.rh.drewN n, h.rz.drewN n, below_drewN h.hb n⟩
  rw [World.cell?_of_block (show (wr.drewN n).heap[gw]? = wr.heap[gw]? by rw [heap_drewN'])]
  exact h.cw i hi
theorem BlkW.drew {w : World} {tb w0 : List Nat} {gw : Nat} {ws : List Nat} {wr : World} (h : BlkW w tb w0 gw ws wr) : BlkW w tb w0 gw ws wr.drew := by
  refine ⟨fun i hi => ?_, h.rt, h.rh, h.rz, h.hb.drew⟩
  rw [World.cell?_of_block (show wr.drew.heap[gw]? = wr.heap[gw]? from rfl)]
  exact h.cw i hi

set_option maxRecDepth 100000 in
set_option maxHeartbeats 1600000 in
theorem rblock_any (s : S8) (g off cap : Nat) (bl : List UInt8) (w : World) (hs : s.ok) (hb : bl.length = 64) (hN : NumsAt w g off bl) :
    Calls Tryd.prog 54 #[tabV, .agg s.c64, .slice (some ⟨g, off, none⟩) 64 cap] w fun e w' => e = .returned (.agg (blk s bl).c64) ∧ Below w.heap.size w w' := by
  have HSok := hide hs
  have HN := hide hN
  have HB := hide hb
  clear hs hN hb
  have hc8 : s.c64.size = 8 := ucells_size s.words
  unfold tabV
  have htl := tab_length
  generalize hte : Hl ++ Kl = tb at htl ⊢
  have HTE := hide hte
  clear hte
  have hw0 : s.words.length = 8 := rfl
  unfold S8.c64
  generalize hwe : s.words = w0 at hw0 ⊢
  have HWE := hide hwe
  clear hwe
  go_enter Tryd.func54, Tryd.ntmps54
  go_wp2_with fail
  rw [← z8_cells]
  obtain ⟨g0, g1, g2⟩ := heap3 w (.cells (ucells tb).toArray 26) (.cells (ucells w0).toArray 23) (.cells (ucells z8).toArray 23)
  have hb3 : Below w.heap.size w (((w.alloc (.cells (ucells tb).toArray 26)).alloc (.cells (ucells w0).toArray 23)).alloc (.cells (ucells z8).toArray 23)) := (((Below.refl _ _).alloc (Nat.le_refl _) _).alloc (by simp) _).alloc (by simp; omega) _
  generalize (((w.alloc (.cells (ucells tb).toArray 26)).alloc (.cells (ucells w0).toArray 23)).alloc (.cells (ucells z8).toArray 23)) = W3 at g0 g1 g2 hb3 ⊢
  refine (spread_any g off cap bl W3 (unhide HB) ((unhide HN).below hb3 (Nat.le_refl _))).mono ?_
  rintro e w1 ⟨v, rfl, hown, hb1⟩
  have hz3 := hb3.size
  have k0 : URow w1 w.heap.size 26 tb := by unfold URow; rw [hb1.block _ (lt_of_block g0)]; exact g0
  have k1 : URow w1 (w.heap.size + 1) 23 w0 := by unfold URow; rw [hb1.block _ (lt_of_block g1)]; exact g1
  have k2 : URow w1 (w.heap.size + 1 + 1) 23 z8 := by unfold URow; rw [hb1.block _ (lt_of_block g2)]; exact g2
  have hl3 : w.heap.size + 1 + 1 < W3.heap.size := lt_of_block g2
  have hbel := hb3.trans (hb1.mono hz3)
  have hsz1 := hbel.size
  have hsz2 := hb1.size
  obtain ⟨gw, cw, rfl, hgw, hgwl⟩ := hown.form (by omega)
  have hwl : (sch 48 (be16 bl)).length = 64 := by rw [sch_length, be16_length]
  have hwx := sch_lt 48 _ (be16_lt bl)
  have HBK := hide (show blk s bl = s.plus (rnds (sch 48 (be16 bl)) 64 s) from rfl)
  generalize sch 48 (be16 bl) = ws at hown hwl hwx HBK
  have hcw : ∀ j, j < 64 → w1.cell? ⟨gw, j, none⟩ = some (.int .u64 ((ws.getD j 0 : Nat) : Int)) := fun j hj => by
    have := hown.cells (g := gw) rfl j _ (ucells_at ws j (by omega))
    rwa [Addr.add_lit, Nat.zero_add] at this
  have K1 := hide k1
  have HCW := hide hcw
  have HWX := hide hwx
  have HK0 := hide k0
  have HK2 := hide k2
  have HBEL := hide hbel
  have G1 := hide (show (Tryd.prog.info? 23).map (·.size) = some (ucells w0).toArray.size by rw [ucells_size, hw0]; exact info_u8w)
  have G2 := hide (show (ucells z8).toArray.size = (ucells w0).toArray.size by rw [ucells_size, ucells_size, hw0]; rfl)
  clear hown hb1 hb3 g0 g1 g2 k0 k1 k2 hwx hcw hbel
  go_wp2_with (first | ((with_reducible refine at_load ?_); refine wpList_load_row rfl 23 _ rfl (w.heap.size + 1) rfl 23 (ucells w0).toArray (0, 0) _ (unhide K1) Tryd.underlying23 rfl (unhide G1) ?_) | ((with_reducible refine at_store ?_); refine wpList_store_row rfl 23 _ _ rfl w1.heap.size (ucells w0).toArray rfl rfl 23 _ (heap_alloc_new w1 _) (unhide G1) (unhide G2) (ucells_one w0) ?_))
  have hbw : BlkW w tb w0 gw ws ((w1.alloc (.cells (ucells z8).toArray 23)).setRow w1.heap.size (ucells w0).toArray) := by
    refine ⟨fun j hj => ?_, ?_, ?_, ?_, below_row ((unhide HBEL).alloc hsz1 _) hsz1 _⟩
    · rw [World.cell?_of_block (heap_put_old w1 _ _ _ gw (by omega))]; exact unhide HCW j hj
    · unfold URow; rw [heap_put_old w1 _ _ _ _ (by omega)]; exact unhide HK0
    · unfold URow; rw [heap_put_old w1 _ _ _ _ (by omega)]; exact unhide K1
    · unfold URow; rw [heap_put_old w1 _ _ _ _ (by omega)]; exact unhide HK2
  have hv0 : URow ((w1.alloc (.cells (ucells z8).toArray 23)).setRow w1.heap.size (ucells w0).toArray) w1.heap.size 23 w0 := heap_put_new _ _ _ _
  have hH1 : gw ≠ w1.heap.size := by omega
  have hH2 : w.heap.size + 1 + 1 < w1.heap.size := by omega
  rw [← z8_cells]
  generalize ((w1.alloc (.cells (ucells z8).toArray 23)).setRow w1.heap.size (ucells w0).toArray) = W5 at hbw hv0 ⊢
  clear HK2 K1 HK0 HCW HBEL
  generalize w1.heap.size = H at *
  rw [← unhide HWE] at hv0
  go_loopw [9] (fun i wr => ∃ t : Nat, t ≤ 64 ∧ i = .int .i64 t ∧ URow wr H 23 (rnds ws t s).words ∧ BlkW w tb w0 gw ws wr) (fun i _ => 64 - (intOf i).toNat)
  case atStart => exact ⟨0, by omega, rfl, hv0, hbw⟩
  case round =>
    obtain ⟨t, ht, rfl, hv, hbw⟩ := hrel
    have hok := rnds_ok ws t _ (unhide HSok)
    by_cases hlt : t < 64
    · have HRS := hide (rnds_succ ws t s)
      generalize rnds ws t s = r at hv hok HRS
      obtain ⟨xa, xb, xc, xd, xe, xf, xg, xh⟩ := r
      have hv : URow wr H 23 [xa, xb, xc, xd, xe, xf, xg, xh] := hv
      obtain ⟨c0, c1, c2, c3, c4, c5, c6, c7⟩ := hv.cells8
      obtain ⟨ba, bb, bc, bd, be, bf, bg, bh⟩ := hok
      dsimp only at ba bb bc bd be bf bg bh
      have bk := Kl_lt t
      have bx := getD_lt ws (unhide HWX) t
      have FK : ∀ w', BlkW w tb w0 gw ws w' → w'.cell? ⟨w.heap.size, 8 + t, none⟩ = some (.int .u64 ((Kl.getD t 0 : Nat) : Int)) ∧ w'.cell? ⟨gw, t, none⟩ = some (.int .u64 ((ws.getD t 0 : Nat) : Int)) := fun w' hw' => by
        have ck := hw'.rt.cell (8 + t) (by omega)
        rw [← unhide HTE, tab_at t hlt] at ck
        exact ⟨ck, hw'.cw t hlt⟩
      have HFK := hide FK
      clear FK
      generalize Kl.getD t 0 = kt at *
      generalize ws.getD t 0 = xt at *
      have h0 := bg0_bits64 xa ba
      have h1 := bg1_bits64 xe be
      have l0 := bg0_lt xa ba
      have l1 := bg1_lt xe be
      have h2 := ch_bits64 xe xf xg be bf bg
      have h3 := maj_bits64 xa xb xc ba bb bc
      have l2 := chf_lt xe xf xg be
      have l3 := maj_lt xa xb xc ba bb
      have HST := hide (stp_flat xa xb xc xd xe xf xg xh kt xt)
      generalize bg0 xa = s0 at *
      generalize bg1 xe = s1 at *
      generalize chf xe xf xg = pk at *
      generalize maj xa xb xc = mj at *
      have q1 : IntKind.u64.wrap ((xh : Int) + s1) = (xh : Int) + s1 := u64w _ (by omega)
      have q2 : IntKind.u64.wrap ((xh : Int) + s1 + pk) = (xh : Int) + s1 + pk := u64w _ (by omega)
      have q3 : IntKind.u64.wrap ((xh : Int) + s1 + pk + kt) = (xh : Int) + s1 + pk + kt := u64w _ (by omega)
      have q4 : IntKind.u64.wrap ((xh : Int) + s1 + pk + kt + xt) = (xh : Int) + s1 + pk + kt + xt := u64w _ (by omega)
      have hd : decide ((t : Int) < 64) = true := by simp; omega
      have it : (t : Int) < 64 := by omega
      have it0 : (0 : Int) ≤ (t : Int) := by omega
      go_wp2_with fail
      go_quiet (first | (go_at_call 92; refine Calls.quiet_of_same (by_i xe _ _ be ?_ ?_) <;> decide))
      replace hv := hv.drewN nq
      replace hbw := hbw.drewN nq
      clear c0 c1 c2 c3 c4 c5 c6 c7
      generalize wr.drewN nq = wb at hv hbw ⊢
      obtain ⟨ck, cx⟩ := unhide HFK _ hbw
      obtain ⟨c0, c1, c2, c3, c4, c5, c6, c7⟩ := hv.cells8
      go_wp2_with fail
      go_quiet (fail)
      replace hv := hv.drewN nq
      replace hbw := hbw.drewN nq
      clear c0 c1 c2 c3 c4 c5 c6 c7 ck cx
      generalize wb.drewN nq = wc at hv hbw ⊢
      obtain ⟨c0, c1, c2, c3, c4, c5, c6, c7⟩ := hv.cells8
      go_wp2_with fail
      go_quiet (first | (go_at_call 92; refine Calls.quiet_of_same (by_i xa _ _ ba ?_ ?_) <;> decide))
      replace hv := hv.drewN nq
      replace hbw := hbw.drewN nq
      clear c0 c1 c2 c3 c4 c5 c6 c7
      generalize wc.drewN nq = wd at hv hbw ⊢
      obtain ⟨c0, c1, c2, c3, c4, c5, c6, c7⟩ := hv.cells8
      go_wp2_with fail
      clear c0 c1 c2 c3 c4 c5 c6 c7
      go_loopw [15] (fun i wq => ∃ k : Nat, k ≤ 7 ∧ i = .int .i64 k ∧ URow wq H 23 (mvd [xa, xb, xc, xd, xe, xf, xg, xh] k) ∧ BlkW w tb w0 gw ws wq) (fun i _ => (intOf i).toNat)
      case atStart => exact ⟨7, by omega, rfl, hv, hbw⟩
      case round =>
        obtain ⟨k, hk, rfl, hv2, hbw2⟩ := hrel
        clear hv hbw h0 h1 h2 h3 q1 q2 q3 q4
        by_cases hk0 : 0 < k
        · obtain ⟨j, rfl⟩ : ∃ j, k = j + 1 := ⟨k - 1, by omega⟩
          have cj := hv2.cell j (by rw [mvd_length _ rfl _ hk]; omega)
          rw [mvd_low _ rfl j (by omega)] at cj
          have cj1 := hv2.cell (j + 1) (by rw [mvd_length _ rfl _ hk]; omega)
          have fj1 := hv2.free (j + 1)
          have HM := hide (mvd_step [xa, xb, xc, xd, xe, xf, xg, xh] rfl j (by omega))
          generalize [xa, xb, xc, xd, xe, xf, xg, xh].getD j 0 = y at cj HM
          have hd1 : decide ((0 : Int) < ((j + 1 : Nat) : Int)) = true := by simp
          go_wp2
          go_roundw
          case rel => exact ⟨j, by omega, by go_num, by rw [unhide HM]; exact hv2.set (j + 1) y, hbw2.set hH1 hH2 _ _⟩
          case measure => simp [intOf]
        · obtain rfl : k = 0 := by omega
          have hv2 : URow wr H 23 [xa, xa, xb, xc, xd, xe, xf, xg] := hv2
          obtain ⟨c0, c1, c2, c3, c4, c5, c6, c7⟩ := hv2.cells8
          have f0 := hv2.free 0
          have f4 := hv2.free 4
          clear c1 c2 c3 c5 c6 c7
          go_wp2
          go_roundw
          case rel =>
            have e4 : ((xd : Int) + ((xh : Int) + s1 + pk + kt + xt)) % 4294967296 = (((xd + (xh + s1 + pk + kt + xt)) % 4294967296 : Nat) : Int) := by omega
            have e0 : ((xh : Int) + s1 + pk + kt + xt + s0 + mj) % 4294967296 = (((xh + s1 + pk + kt + xt + s0 + mj) % 4294967296 : Nat) : Int) := by omega
            rw [e4, e0]
            refine ⟨t + 1, by omega, by go_num, ?_, (hbw2.set hH1 hH2 _ _).set hH1 hH2 _ _⟩
            rw [unhide HRS, unhide HST]
            exact (hv2.set 4 _).set 0 _
          case measure => simp [intOf]; omega
    · obtain rfl : t = 64 := by omega
      have hok := rnds_ok ws 64 _ (unhide HSok)
      have HE := hide (pls_end s (rnds ws 64 s))
      rw [← unhide HBK] at HE
      have hrl := words_length (rnds ws 64 s)
      have hrx := words_lt _ hok
      generalize (rnds ws 64 s).words = rw8 at hv hrl hrx HE
      rw [unhide HWE] at HE
      have hsx := words_lt s (unhide HSok)
      rw [unhide HWE] at hsx
      have HRX := hide hrx
      have HSX := hide hsx
      clear hrx hsx hok
      go_wp2
      go_loopw [16] (fun i wq => ∃ k : Nat, k ≤ 8 ∧ i = .int .i64 k ∧ URow wq H 23 (pls rw8 w0 k) ∧ BlkW w tb w0 gw ws wq) (fun i _ => 8 - (intOf i).toNat)
      case atStart => exact ⟨0, by omega, rfl, by rw [pls_zero _ _ hrl]; exact hv, hbw⟩
      case round =>
        obtain ⟨k, hk, rfl, hv2, hbw2⟩ := hrel
        by_cases hlt : k < 8
        · have cv := hv2.cell k (by rw [pls_length]; omega)
          rw [pls_at _ _ k hlt] at cv
          have fv := hv2.free k
          have ch := hbw2.rh.cell k (by omega)
          have bv := getD_lt rw8 (unhide HRX) k
          have bh := getD_lt w0 (unhide HSX) k
          have HP := hide (pls_step rw8 w0 k hlt)
          generalize rw8.getD k 0 = y at *
          generalize w0.getD k 0 = z at *
          have ik : (k : Int) < 8 := by omega
          have ik0 : (0 : Int) ≤ (k : Int) := by omega
          have q1 : IntKind.u64.wrap ((y : Int) + z) = (y : Int) + z := u64w _ (by omega)
          have hd1 : decide ((k : Int) < 8) = true := by simp; omega
          go_wp2
          go_region
          go_wp2
          go_roundw
          case rel =>
            have e4 : ((y : Int) + z) % 4294967296 = (((y + z) % 4294967296 : Nat) : Int) := by omega
            rw [e4]
            refine ⟨k + 1, by omega, by go_num, ?_, (hbw2.set hH1 hH2 _ _).drew⟩
            rw [unhide HP]
            exact hv2.set k _
          case measure => simp [intOf]; omega
        · obtain rfl : k = 8 := by omega
          rw [unhide HE] at hv2
          have hfl := words_length (blk s bl)
          generalize hfe : (blk s bl).words = fin at hv2 hfl
          have HF := hide hfe
          clear hfe
          have K1 : Hid (wr.heap[H]? = some (.cells (ucells fin).toArray 23 (0, 0))) := hide hv2
          have K2 : Hid (wr.heap[w.heap.size + 1 + 1]? = some (.cells (ucells z8).toArray 23 (0, 0))) := hide hbw2.rz
          have K3 := hide (show (Tryd.prog.info? 23).map (·.size) = some (ucells fin).toArray.size by rw [ucells_size, hfl]; exact info_u8w)
          have K4 := hide (show (ucells z8).toArray.size = (ucells fin).toArray.size by rw [ucells_size, ucells_size, hfl]; rfl)
          have hbel := hbw2.hb
          clear hv2 hbw2 hbw hv G1 G2
          go_wp2_with (first | ((with_reducible refine at_load ?_); refine wpList_load_row rfl 23 _ rfl H rfl 23 (ucells fin).toArray (0, 0) _ (unhide K1) Tryd.underlying23 rfl (unhide K3) ?_) | ((with_reducible refine at_store ?_); refine wpList_store_row rfl 23 _ _ rfl (w.heap.size + 1 + 1) (ucells fin).toArray rfl rfl 23 _ (unhide K2) (unhide K3) (unhide K4) (ucells_one fin) ?_))
          refine bodyPost_ret (v := .agg (ucells fin).toArray) ?_ rfl ⟨by rw [unhide HF], below_row hbel (by omega) _⟩
          exact results_cell_row Tryd.results54 _ _ (w.heap.size + 1 + 1) 23 _ (0, 0) _ rfl (setRow_heap _ _ _ _ _ _ (unhide K2)) Tryd.underlying23 rfl (unhide K3)
end Go.Proofs.YtanfolfopalbeaaDoor
