/- Bridged: the contract. -/
import Derived.Test.YtanfolfopalbeabDoorCollided
import Derived.Test.YtanfolfopalbeabDoorDk4
import Derived.Test.YtanfolfopalbeabDoorTreeVerify
import Derived.BigQuiet
import Derived.Deep.QuietTactic
import Derived.Deep.RegionHeld3
namespace Go.Proofs.YtanfolfopalbeabDoor
open Go.RowKit

theorem own_cellsB {w : World} {B : Nat} {e : TypeId} {v : Value} {n : Nat} {ss : List ByteArray} (h : w.ownsRow B e 1 v n (ss.map Value.string)) (h0 : 0 < n) : ∃ g cap, v = .slice (some ⟨g, 0, none⟩) n cap := by
  rcases h.2 with ⟨_, h1⟩ | ⟨g, cap', cur, hv', _⟩
  · omega
  · exact ⟨g, cap', hv'⟩
theorem Strs.cellB {w : World} {g n cap : Nat} {ss : List ByteArray} (h : Strs w (.slice (some ⟨g, 0, none⟩) n cap) ss) (i : Nat) (hi : i < ss.length) : w.cell? ⟨g, i, none⟩ = some (.string (ss.getD i ByteArray.empty)) := by
  obtain ⟨ao, cap', hv, _, _, h3⟩ := h
  injection hv with e1 e2 e3
  rcases h3 with h3 | ⟨b, off, h3, hc⟩
  · rw [h3] at hi; cases hi
  · rw [h3] at e1
    injection e1 with e1
    injection e1 with e4 e5
    have := hc i hi
    rw [← e4, ← e5, Nat.zero_add] at this
    exact this
theorem made_bel {w w' : World} {cs : Array Value} {t : TypeId} (hb : Below (w.alloc (.cells cs t)).drew.heap.size (w.alloc (.cells cs t)).drew w') : Below w.heap.size w w' ∧ w'.cell? ⟨w.heap.size, 0, none⟩ = cs[0]? ∧ w'.cell? ⟨w.heap.size, 1, none⟩ = cs[1]? ∧ w'.frozen? ⟨w.heap.size, 0, none⟩ = false ∧ w'.frozen? ⟨w.heap.size, 1, none⟩ = false := by
  have h1 : Below w.heap.size w (w.alloc (.cells cs t)).drew := ((Below.refl _ _).alloc (Nat.le_refl _) _).drew
  have hsz : (w.alloc (.cells cs t)).drew.heap.size = w.heap.size + 1 := by show (w.alloc (.cells cs t)).heap.size = _; simp
  have hg : w'.heap[w.heap.size]? = some (.cells cs t (0, 0)) := (hb.block _ (by rw [hsz]; omega)).trans (heap_alloc_new w _)
  exact ⟨h1.trans (hb.mono (by rw [hsz]; omega)), cell_of_row w' _ _ _ _ _ hg, cell_of_row w' _ _ _ _ _ hg, frozen_of_row w' _ _ _ _ hg, frozen_of_row w' _ _ _ _ hg⟩
theorem set_two {w w' : World} {G j : Nat} {v : Value} (hG : G < w.heap.size) (a b : Value) (h : w'.cell? ⟨G, j, none⟩ = some v) : ((w'.setCell ⟨w.heap.size, 0, none⟩ a).setCell ⟨w.heap.size, 1, none⟩ b).cell? ⟨G, j, none⟩ = some v := by
  have e1 := heap_setCell_other (w'.setCell ⟨w.heap.size, 0, none⟩ a) ⟨w.heap.size, 1, none⟩ G b (show G ≠ w.heap.size by omega)
  have e2 := heap_setCell_other w' ⟨w.heap.size, 0, none⟩ G a (show G ≠ w.heap.size by omega)
  rw [World.cell?_of_block (e1.trans e2)]
  exact h
theorem made_A {w w' : World} (hb : Below w.heap.size w w') (x v : Value) (t : TypeId) (q : Value) : ∃ GL : Nat, Value.pointer (some ⟨w'.heap.size, 0, none⟩) = .pointer (some ⟨GL, 0, none⟩) ∧ q = q ∧ (w'.alloc (.cells #[x, v] t)).cell? ⟨GL, 0, none⟩ = some x ∧ Below w.heap.size w (w'.alloc (.cells #[x, v] t)) :=
  ⟨w'.heap.size, rfl, rfl, by rw [cell_of_row _ _ _ _ _ _ (heap_alloc_new w' _)]; rfl, hb.alloc hb.size _⟩
theorem made_B {w w' : World} (hb : Below w.heap.size w w') {y : Value} (h0 : w'.cell? ⟨w.heap.size, 0, none⟩ = some y) (x v q : Value) : ∃ GL : Nat, Value.pointer (some ⟨w.heap.size, 0, none⟩) = .pointer (some ⟨GL, 0, none⟩) ∧ q = q ∧ ((w'.setCell ⟨w.heap.size, 0, none⟩ x).setCell ⟨w.heap.size, 1, none⟩ v).cell? ⟨GL, 0, none⟩ = some x ∧ Below w.heap.size w ((w'.setCell ⟨w.heap.size, 0, none⟩ x).setCell ⟨w.heap.size, 1, none⟩ v) := by
  refine ⟨w.heap.size, rfl, rfl, ?_, ?_⟩
  · rw [World.cell?_setCell_other _ _ _ _ (by intro h; injection h with h2 h3; cases h3)]
    exact World.cell?_setCell_same _ _ _ h0
  · exact ⟨hb.os, hb.tape, hb.output, by simp [World.setCell]; exact hb.size, fun k hk => ((heap_setCell_other _ _ _ _ (show k ≠ w.heap.size by omega)).trans (heap_setCell_other _ _ _ _ (show k ≠ w.heap.size by omega))).trans (hb.block k hk)⟩
theorem made_bel3 {w w' : World} {cs : Array Value} {t : TypeId} (hb : Below (w.alloc (.cells cs t)).drew.heap.size (w.alloc (.cells cs t)).drew w') : Below w.heap.size w w' ∧ w'.cell? ⟨w.heap.size, 0, none⟩ = cs[0]? ∧ w'.cell? ⟨w.heap.size, 1, none⟩ = cs[1]? ∧ w'.cell? ⟨w.heap.size, 2, none⟩ = cs[2]? ∧ w'.frozen? ⟨w.heap.size, 0, none⟩ = false ∧ w'.frozen? ⟨w.heap.size, 1, none⟩ = false ∧ w'.frozen? ⟨w.heap.size, 2, none⟩ = false := by
  have h1 : Below w.heap.size w (w.alloc (.cells cs t)).drew := ((Below.refl _ _).alloc (Nat.le_refl _) _).drew
  have hsz : (w.alloc (.cells cs t)).drew.heap.size = w.heap.size + 1 := by show (w.alloc (.cells cs t)).heap.size = _; simp
  have hg : w'.heap[w.heap.size]? = some (.cells cs t (0, 0)) := (hb.block _ (by rw [hsz]; omega)).trans (heap_alloc_new w _)
  exact ⟨h1.trans (hb.mono (by rw [hsz]; omega)), cell_of_row w' _ _ _ _ _ hg, cell_of_row w' _ _ _ _ _ hg, cell_of_row w' _ _ _ _ _ hg, frozen_of_row w' _ _ _ _ hg, frozen_of_row w' _ _ _ _ hg, frozen_of_row w' _ _ _ _ hg⟩
theorem set_three {w w' : World} (hb : Below w.heap.size w w') (a b c : Value) : Below w.heap.size w (((w'.setCell ⟨w.heap.size, 0, none⟩ a).setCell ⟨w.heap.size, 1, none⟩ b).setCell ⟨w.heap.size, 2, none⟩ c) :=
  ⟨hb.os, hb.tape, hb.output, by simp [World.setCell]; exact hb.size, fun k hk => (((heap_setCell_other _ _ _ _ (show k ≠ w.heap.size by omega)).trans (heap_setCell_other _ _ _ _ (show k ≠ w.heap.size by omega))).trans (heap_setCell_other _ _ _ _ (show k ≠ w.heap.size by omega))).trans (hb.block k hk)⟩
theorem made_A3 {w w' : World} {B : Nat} {ps : List (List UInt8)} {ao : Option Addr} {cp : Nat} (hb : Below w.heap.size w w') (hpe : ∀ d ∈ ps, d.length = 32) (ho : w'.ownsRow B 64 32 (.slice ao ps.length cp) ps.length (dcells ps)) (x y : ByteArray) (t : TypeId) (q : Value) : ∃ (GC : Nat) (a : Option Addr) (c : Nat), Value.pointer (some ⟨w'.heap.size, 0, none⟩) = .pointer (some ⟨GC, 0, none⟩) ∧ q = q ∧ (w'.alloc (.cells #[.slice ao ps.length cp, .string x, .string y] t)).cell? ⟨GC, 0, none⟩ = some (.slice a ps.length c) ∧ (w'.alloc (.cells #[.slice ao ps.length cp, .string x, .string y] t)).cell? ⟨GC, 1, none⟩ = some (.string x) ∧ (w'.alloc (.cells #[.slice ao ps.length cp, .string x, .string y] t)).cell? ⟨GC, 2, none⟩ = some (.string y) ∧ Digs (w'.alloc (.cells #[.slice ao ps.length cp, .string x, .string y] t)) (.slice a ps.length c) ps ∧ Below w.heap.size w (w'.alloc (.cells #[.slice ao ps.length cp, .string x, .string y] t)) :=
  ⟨w'.heap.size, ao, cp, rfl, rfl, by rw [cell_of_row _ _ _ _ _ _ (heap_alloc_new w' _)]; rfl, by rw [cell_of_row _ _ _ _ _ _ (heap_alloc_new w' _)]; rfl, by rw [cell_of_row _ _ _ _ _ _ (heap_alloc_new w' _)]; rfl, (digs_of_own hpe ho rfl).below ((Below.refl w'.heap.size w').alloc (Nat.le_refl _) _) (Nat.le_refl _), hb.alloc hb.size _⟩
theorem made_B3 {w w' : World} {o : Obj} {ps : List (List UInt8)} {ao : Option Addr} {cp : Nat} {u0 u1 u2 : Value} (hb : Below w.heap.size w w') (h0 : w'.cell? ⟨w.heap.size, 0, none⟩ = some u0) (h1 : w'.cell? ⟨w.heap.size, 1, none⟩ = some u1) (h2 : w'.cell? ⟨w.heap.size, 2, none⟩ = some u2) (hpe : ∀ d ∈ ps, d.length = 32) (ho : w'.ownsRow (w.alloc o).drew.heap.size 64 32 (.slice ao ps.length cp) ps.length (dcells ps)) (x y : ByteArray) (q : Value) : ∃ (GC : Nat) (a : Option Addr) (c : Nat), Value.pointer (some ⟨w.heap.size, 0, none⟩) = .pointer (some ⟨GC, 0, none⟩) ∧ q = q ∧ (((w'.setCell ⟨w.heap.size, 0, none⟩ (.slice ao ps.length cp)).setCell ⟨w.heap.size, 1, none⟩ (.string x)).setCell ⟨w.heap.size, 2, none⟩ (.string y)).cell? ⟨GC, 0, none⟩ = some (.slice a ps.length c) ∧ (((w'.setCell ⟨w.heap.size, 0, none⟩ (.slice ao ps.length cp)).setCell ⟨w.heap.size, 1, none⟩ (.string x)).setCell ⟨w.heap.size, 2, none⟩ (.string y)).cell? ⟨GC, 1, none⟩ = some (.string x) ∧ (((w'.setCell ⟨w.heap.size, 0, none⟩ (.slice ao ps.length cp)).setCell ⟨w.heap.size, 1, none⟩ (.string x)).setCell ⟨w.heap.size, 2, none⟩ (.string y)).cell? ⟨GC, 2, none⟩ = some (.string y) ∧ Digs (((w'.setCell ⟨w.heap.size, 0, none⟩ (.slice ao ps.length cp)).setCell ⟨w.heap.size, 1, none⟩ (.string x)).setCell ⟨w.heap.size, 2, none⟩ (.string y)) (.slice a ps.length c) ps ∧ Below w.heap.size w (((w'.setCell ⟨w.heap.size, 0, none⟩ (.slice ao ps.length cp)).setCell ⟨w.heap.size, 1, none⟩ (.string x)).setCell ⟨w.heap.size, 2, none⟩ (.string y)) := by
  have n01 : (⟨w.heap.size, 0, none⟩ : Addr) ≠ ⟨w.heap.size, 1, none⟩ := by intro h; injection h with _ h3; cases h3
  have n02 : (⟨w.heap.size, 2, none⟩ : Addr) ≠ ⟨w.heap.size, 0, none⟩ := by intro h; injection h with _ h3; cases h3
  have n12 : (⟨w.heap.size, 2, none⟩ : Addr) ≠ ⟨w.heap.size, 1, none⟩ := by intro h; injection h with _ h3; cases h3
  have e1 : (w'.setCell ⟨w.heap.size, 0, none⟩ (.slice ao ps.length cp)).cell? ⟨w.heap.size, 1, none⟩ = some u1 := by rw [World.cell?_setCell_other _ _ _ _ n01]; exact h1
  have e2 : ((w'.setCell ⟨w.heap.size, 0, none⟩ (.slice ao ps.length cp)).setCell ⟨w.heap.size, 1, none⟩ (.string x)).cell? ⟨w.heap.size, 2, none⟩ = some u2 := by rw [World.cell?_setCell_other _ _ _ _ n12.symm, World.cell?_setCell_other _ _ _ _ n02.symm]; exact h2
  refine ⟨w.heap.size, ao, cp, rfl, rfl, ?_, ?_, ?_, ?_, set_three hb _ _ _⟩
  · rw [World.cell?_setCell_other _ _ _ _ n02, World.cell?_setCell_other _ _ _ _ n01.symm]
    exact World.cell?_setCell_same _ _ _ h0
  · rw [World.cell?_setCell_other _ _ _ _ n12]
    exact World.cell?_setCell_same _ _ _ e1
  · exact World.cell?_setCell_same _ _ _ e2
  · have hsz : (w.alloc o).drew.heap.size = w.heap.size + 1 := by show (w.alloc o).heap.size = _; simp
    rw [hsz] at ho
    refine digs_of_own hpe (own_sameO ho fun k hk => ?_) rfl
    have := (ho.lt k hk).1
    exact ((heap_setCell_other _ _ _ _ (show k ≠ w.heap.size by omega)).trans (heap_setCell_other _ _ _ _ (show k ≠ w.heap.size by omega))).trans (heap_setCell_other _ _ _ _ (show k ≠ w.heap.size by omega))
theorem car_newB (w : World) (cs cs' : Array Value) (t : TypeId) : Below w.heap.size w ((w.alloc (.cells cs t)).setRow w.heap.size cs') ∧ ((w.alloc (.cells cs t)).setRow w.heap.size cs').heap[w.heap.size]? = some (.cells cs' t (0, 0)) ∧ ((w.alloc (.cells cs t)).setRow w.heap.size cs').heap.size = w.heap.size + 1 :=
  ⟨below_rowO ((Below.refl _ _).alloc (Nat.le_refl _) _) (Nat.le_refl _) _, setRow_heap _ _ _ _ _ _ (heap_alloc_new w _), by simp [World.setRow]⟩
theorem range_of_browB {w : World} {g : Nat} {t : TypeId} {d : List UInt8} (h : w.heap[g]? = some (.cells (bcells d).toArray t (0, 0))) : w.rangeAt g 0 (bcells d) := fun j v hv => by
  rw [Nat.zero_add, cell_of_row w g _ _ _ _ h]
  simpa using hv
theorem reads4 {w w' : World} {a b c e : Nat} {i j k : Nat} {R : List Value} {x y z : Value} (h : w.rangeAt a 0 R ∧ w.cell? ⟨b, i, none⟩ = some x ∧ w.cell? ⟨c, j, none⟩ = some y ∧ w.cell? ⟨e, k, none⟩ = some z) (hb : Below w.heap.size w w') : w'.rangeAt a 0 R ∧ w'.cell? ⟨b, i, none⟩ = some x ∧ w'.cell? ⟨c, j, none⟩ = some y ∧ w'.cell? ⟨e, k, none⟩ = some z :=
  ⟨rangeAt_below h.1 hb (Nat.le_refl _), by rw [hb.cell (p := ⟨b, i, none⟩) (cell_lt h.2.1)]; exact h.2.1, by rw [hb.cell (p := ⟨c, j, none⟩) (cell_lt h.2.2.1)]; exact h.2.2.1, by rw [hb.cell (p := ⟨e, k, none⟩) (cell_lt h.2.2.2)]; exact h.2.2.2⟩
/-- The proof of an entry, and what is made of it. -/
theorem opR_at (xs : List ByteArray) (k : Nat) (hk : k < xs.length) (hl : xs.length ≤ 100) (hz : ∀ s ∈ xs, s.size ≤ 20) : opR xs (k : Int) = (last 0 (bs (xs.take k)), xs.drop (k + 1), 0) := by
  have hc : chkI xs (k : Int) = 0 := by
    unfold chkI
    rw [chk_of xs hl hz, if_neg (by decide), if_neg (by omega)]
  unfold opR
  rw [hc, if_neg (by decide), Int.toNat_natCast]
theorem ovR_own (xs : List ByteArray) (k : Nat) (hk : k < xs.length) : ovR (last 0 (bs xs)) xs.length k (xs.getD k ByteArray.empty) (last 0 (bs (xs.take k))) (xs.drop (k + 1)) = true := by
  unfold ovR
  rw [if_neg (by rw [List.length_drop]; omega)]
  have h := last_cut (bs xs) k 0 (by rw [bs_length]; exact hk)
  rw [List.getD_eq_getElem?_getD, bs_getD xs k hk, Option.getD_some] at h
  rw [decide_eq_true_eq, h]
  have e1 : (bs xs).take k = bs (xs.take k) := by simp [bs]
  have e2 : (bs xs).drop (k + 1) = bs (xs.drop (k + 1)) := by simp [bs]
  rw [e1, e2]
theorem trR_ok (xs : List ByteArray) (k : Nat) (hk : k < xs.length) (hl : xs.length ≤ 100) (hz : ∀ s ∈ xs, s.size ≤ 20) : trR (olog 0 (bs xs)) (k : Int) (xs.getD k ByteArray.empty) (last 0 (bs (xs.take k))) (xs.drop (k + 1)) = (pathL xs k, [], [], 0) := by
  rw [trR_own xs hl hz]
  unfold trOf
  rw [if_neg (by decide), if_neg (by rw [bs_length]; omega), if_neg (by rw [bs_length, ovR_own xs k hk]; decide), Int.toNat_natCast, if_pos, mk_bs]
  rw [List.getD_eq_getElem?_getD, bs_getD xs k hk, Option.getD_some]
theorem verR_own (xs : List ByteArray) (k : Nat) (hk : k < xs.length) (hl : xs.length ≤ 100) : verR (rootL xs) xs.length k (xs.getD k ByteArray.empty) (pathL xs k) = true := by
  rw [verR_in _ _ _ _ _ ⟨by omega, by omega, hk⟩, climb_path xs.length xs k (Nat.le_refl _) hk, pathL_length xs.length xs k (Nat.le_refl _) hk]
  simp

set_option maxRecDepth 100000 in
set_option maxHeartbeats 25600000 in
theorem bridged_any (v : Value) (ss xs : List ByteArray) (hxs : ents ss (min 100 ss.length) = xs) (c1 : Int) (w : World) (hS : Strs w v ss) (hsz : ∀ i, i < ss.length → (ss.getD i ByteArray.empty).size ≤ maxLen) (h1 : -9223372036854775808 ≤ c1 ∧ c1 ≤ 9223372036854775807) (hT : Tabs w) :
    Calls Tryd.prog 4 #[v, .int .i64 c1] w fun e w' => e = .returned (.bool true) ∧ Below w.heap.size w w' := by
  have HB := hide (begin_any v ss xs hxs w hS hsz hT)
  have HT := hide hT
  have HTT := hide (fun wq (hb : Below w.heap.size w wq) => hT.below hb (Nat.le_refl _))
  have hxl : xs.length ≤ 100 := by rw [← hxs, ents_length]; omega
  have hxz : ∀ s ∈ xs, s.size ≤ 20 := by rw [← hxs]; exact ents_small ss _
  have HX := hide hxz
  have HRD := hide (read_back (bs xs) (bs_small xs hxz) (by rw [bs_length]; exact hxl))
  clear hS hsz hT hxs hxz
  go_enter Tryd.func4, Tryd.ntmps4
  go_wp2_with fail
  refine (unhide HB).mono ?_
  rintro e w1 ⟨G, vl, vd, rfl, hK1⟩
  have hlen := olog_szs xs 0
  have hsl := szs_le xs (unhide HX)
  have hTz : (mk (olog 0 (bs xs))).size ≤ 2300 := by rw [mk_size, hlen]; omega
  have HTZ := hide (show (mk (olog 0 (bs xs))).size ≤ maxLen by unfold maxLen; omega)
  have HRT := hide (show rdOld (mk (olog 0 (bs xs))).data.toList = (bs (xs.take xs.length), 0, 0) by rw [mk_data, List.take_of_length_le (Nat.le_refl _)]; exact unhide HRD)
  have HTD := hide (show (mk (olog 0 (bs xs))).data.toList = olog 0 (bs xs) from mk_data _)
  generalize mk (olog 0 (bs xs)) = T at HTZ HRT hK1 HTD hTz
  obtain ⟨ao, cap, hvl⟩ := own_shape hK1.ownl
  subst hvl
  have K1 := hide hK1
  clear HB hK1 hlen hsl HRD
  go_wp2_with fail
  go_loopw [6, 7] (fun _ i wr => ∃ (n : Nat) (vd : Value) (ds : List (List UInt8)) (k : Nat), n ≤ k ∧ i = .int .i64 n ∧ k ≤ xs.length ∧ Std ds (bs (xs.take k)) ∧ ds.length = 300 ∧ Dk w wr G T (.slice ao xs.length cap) xs vd ds k) (fun _ i _ => 101 - (intOf i).toNat)
  case atStart => exact ⟨0, _, fmt 300, 0, Nat.zero_le _, rfl, Nat.zero_le _, fmt_std 300 (by omega) (by omega), fmt_length 300 (by omega), unhide K1⟩
  case round =>
    clear K1
    obtain ⟨n, vd, ds, k, hn, rfl, hkx, hstd, hdl, hK⟩ := hrel
    have HK := hide hK
    have HSD := hide hstd
    have hc1 : wr.cell? ⟨G, 1, none⟩ = some (.slice ao xs.length cap) := hK.cells.c1
    have hc3 : wr.cell? ⟨G, 3, none⟩ = some (.int .i64 (k : Int)) := hK.cells.c3
    have hd1 : decide ((n : Int) ≤ 100) = true := by simp; omega
    clear hK hstd
    by_cases hgo : k < xs.length
    · have hd3 : decide ((k : Int) < (xs.length : Int)) = true := by simp; omega
      go_wp2_with fail
      go_quiet (fail)
      have K2 := hide ((unhide HK).below (below_drewN (Below.refl wr.heap.size wr) nq))
      generalize wr.drewN nq = W2 at K2 ⊢
      clear HK hc1 hc3
      have hDS := dstep_full w W2 G T (.slice ao xs.length cap) xs vd ds k 40 xs.length 0 0 (unhide K2) ⟨unhide HSD, hdl, hgo, Nat.le_refl _, hxl, unhide HX, by omega, by omega, .inl ⟨rfl, rfl⟩⟩ (unhide HRT) (unhide HTZ) (unhide HT)
      have ht1 : k < toK xs k 40 := by unfold toK; omega
      have ht2 : toK xs k 40 ≤ xs.length := by unfold toK; omega
      generalize toK xs k 40 = t at hDS ht1 ht2
      have HDS := hide hDS
      clear hDS
      go_wp2_with fail
      refine (unhide HDS).mono ?_
      rintro e w4 ⟨rfl, vd4, ds4, hstd4, hdl4, hK4⟩
      clear HDS K2
      go_wp2_with fail
      go_roundw
      case rel => exact ⟨n + 1, vd4, ds4, t, by omega, by go_num, ht2, hstd4, hdl4, hK4⟩
      case measure => simp [intOf]; omega
    · have hd3 : decide ((k : Int) < (xs.length : Int)) = false := by simp; omega
      obtain rfl : k = xs.length := by omega
      go_wp2_with fail
      go_quiet (fail)
      have K2 := hide ((unhide HK).below (below_drewN (Below.refl wr.heap.size wr) nq))
      generalize wr.drewN nq = W2 at K2 ⊢
      have hc1 : W2.cell? ⟨G, 1, none⟩ = some (.slice ao xs.length cap) := (unhide K2).cells.c1
      clear HK hc3
      by_cases hx0 : xs.length = 0
      · have hxe : ((xs.length : Int) == 0) = true := by rw [beq_iff_eq]; omega
        go_wp2
        go_ret
        exact ⟨rfl, (unhide K2).bel⟩
      have hxe : ((xs.length : Int) == 0) = false := by rw [beq_eq_false_iff_ne]; omega
      have hxn : 0 < xs.length := by omega
      obtain ⟨g, cap', hv'⟩ := own_cellsB (unhide K2).ownl hxn
      injection hv' with hv1 hv2 hv3
      subst hv1 hv3
      clear hx0 hv2
      go_wp2_with fail
      refine (pick_any c1 xs.length _ h1 hxn (by omega)).mono ?_
      rintro e w3 ⟨i, hi, rfl, he3⟩
      have he3' := he3.symm
      clear he3
      subst he3'
      have hop1 := fun vq wq hs => OldProve_any vq xs (i : Int) wq (by omega) hs
      rw [opR_at xs i hi hxl (unhide HX)] at hop1
      simp only at hop1
      have hop2 := fun vq wq hs => OldProve_any vq xs ((xs.length : Int) - 1) wq (by omega) hs
      rw [opR_last xs hxn hxl (unhide HX)] at hop2
      simp only at hop2
      have HOV := hide (ovR_own xs i hi)
      have HTR := hide (trR_ok xs i hi hxl (unhide HX))
      have HVR := hide (verR_own xs i hi hxl)
      have HHL := hide (head_last xs hxn)
      have hBl := last_lt (bs (xs.take i)) 0 (by decide)
      have hLl := last_lt (bs (xs.take (xs.length - 1))) 0 (by decide)
      generalize last 0 (bs (xs.take i)) = bi at hop1 HOV HTR hBl
      generalize last 0 (bs (xs.take (xs.length - 1))) = hL at hop2 HHL hLl
      have hdl2 : (xs.drop (i + 1)).length ≤ 100 := by rw [List.length_drop]; omega
      have hdz : ∀ q, q < (xs.drop (i + 1)).length → ((xs.drop (i + 1)).getD q ByteArray.empty).size ≤ 140737488351232 := fun q hq => by
        have hq2 : i + 1 + q < xs.length := by rw [List.length_drop] at hq; omega
        rw [List.getD_eq_getElem?_getD, List.getElem?_drop, List.getElem?_eq_getElem hq2, Option.getD_some]
        exact Nat.le_trans (unhide HX _ (List.getElem_mem hq2)) (by decide)
      have HDZ := hide hdz
      generalize hrs : xs.drop (i + 1) = rs at hop1 HOV HTR hdl2 HDZ
      clear hdz hrs
      go_wp2_with fail
      refine (hop1 _ _ (unhide K2).strs).mono ?_
      rintro e w4 ⟨v4, rfl, hown4, hb4⟩
      obtain ⟨ao4, cp4, rfl⟩ := own_shape hown4
      have W5 := opf_new w4 #[.int .u16 0, .slice none 0 0] #[.int .u16 (bi : Int), .slice ao4 rs.length cp4] 51
      have K4 := hide ((unhide K2).below hb4)
      have S4 := hide (strs_of_own hown4)
      clear hb4 hown4 K2 hc1 hop1
      go_upto_region 14 with ((with_reducible refine at_store ?_); go_must (refine wpList_store_row rfl 51 _ _ rfl w4.heap.size #[.int .u16 (bi : Int), .slice ao4 rs.length cp4] rfl rfl 51 _ (heap_alloc_new w4 _) info_opf rfl (opf_one _ _ _ _) ?_))
      generalize (w4.alloc (.cells #[.int .u16 0, .slice none 0 0] 51)).setRow w4.heap.size #[.int .u16 (bi : Int), .slice ao4 rs.length cp4] = w5 at W5 ⊢
      obtain ⟨hb5, hp5, hz5⟩ := W5
      have K5 := hide ((unhide K4).below hb5)
      have S5 := hide ((unhide S4).below hb5 (Nat.le_refl _))
      have P5 := hide hp5
      have hgp : w4.heap.size < w5.heap.size := by omega
      generalize w4.heap.size = GP at P5 hgp ⊢
      clear hb5 hp5 hz5 K4 S4
      have hr8 : w5.drew.cell? ⟨G, 1, none⟩ = some (.slice (some ⟨g, 0, none⟩) xs.length cap) := (unhide K5).cells.c1
      have hrA : ∀ o, (w5.alloc o).drew.cell? ⟨G, 1, none⟩ = some (.slice (some ⟨g, 0, none⟩) xs.length cap) := fun o => ((unhide K5).below ((Below.refl w5.heap.size w5).alloc (Nat.le_refl _) o)).cells.c1
      have SDF := hide (fun wq (hb : Below w5.heap.size w5 wq) => ((unhide K5).below hb).strs)
      have fW : IntKind.i64.wrap ((xs.length : Int) - 1) = (xs.length : Int) - 1 := i64w _ (by omega)
      have hGl : G < w5.heap.size := lt_of_block (unhide K5).cells
      have HC1 := hide (fun wq (hb : Below w5.heap.size w5 wq) => ((unhide K5).below hb).cells.c1)
      go_cut [11, 12] from 70 to 83 (fun p q wx => ∃ GL : Nat, p = .pointer (some ⟨GL, 0, none⟩) ∧ q = .int .i64 0 ∧ wx.cell? ⟨GL, 0, none⟩ = some (.int .u16 (hL : Int)) ∧ Below w5.heap.size w5 wx)
      case first =>
        go_region_held3 (fun w' => w'.cell? ⟨G, 1, none⟩ = some (.slice (some ⟨g, 0, none⟩) xs.length cap)) (first | (with_reducible exact hr8) | (with_reducible exact hrA _) | (with_reducible exact hr9) | (with_reducible exact hr10 _) | (with_reducible exact hrB _ _)) ((go_at_call 12; first | (refine (hop2 _ _ (unhide SDF _ (Below.refl w5.heap.size w5).drew)).mono ?_; rintro e w6 ⟨v6, rfl, hown6, hb6⟩; obtain ⟨ao6, cp6, rfl⟩ := own_shape hown6; have hbF := drew_bel hb6; have hr9 := unhide HC1 w6 hbF; have hr10 := fun o => unhide HC1 (w6.alloc o) (hbF.alloc hbF.size o)) | (refine (hop2 _ _ (unhide SDF _ ((Below.refl w5.heap.size w5).alloc (Nat.le_refl _) _).drew)).mono ?_; rintro e w6 ⟨v6, rfl, hown6, hb6⟩; obtain ⟨ao6, cp6, rfl⟩ := own_shape hown6; have hbG := made_bel hb6; have hr9 := unhide HC1 w6 hbG.1; have hrB := fun a b => set_two hGl a b hr9; have q0 := hbG.2.1; have q1 := hbG.2.2.1; have q2 := hbG.2.2.2.1; have q3 := hbG.2.2.2.2)))
        all_goals (go_wp2_with fail; go_meet)
        · exact made_A hbF _ _ _ _
        · exact made_B hbG.1 q0 _ _ _
      case rest =>
        obtain ⟨GL, rfl, rfl, c70, hb7⟩ := hcut
        have K7 := hide ((unhide K5).below hb7)
        have S7 := hide ((unhide S5).below hb7 (Nat.le_refl _))
        have P7 := hide ((hb7.block _ hgp).trans (unhide P5))
        clear hb7 K5 S5 P5 hr8 hrA SDF HC1 hop2
        generalize wc = w7 at K7 S7 P7 c70 ⊢
        obtain ⟨xl, hxle⟩ : ∃ xl, xl = xs.getD (xs.length - 1) ByteArray.empty := ⟨_, rfl⟩
        have hHL := unhide HHL
        rw [← hxle] at hHL
        have hxlz : xl.size ≤ 20 := by
          rw [hxle, List.getD_eq_getElem?_getD, List.getElem?_eq_getElem (by omega), Option.getD_some]
          exact unhide HX _ (List.getElem_mem _)
        have CX := hide (fun wq (hb : Below w7.heap.size w7 wq) => show wq.cell? ⟨G, 1, none⟩ = some (.slice (some ⟨g, 0, none⟩) xs.length cap) ∧ wq.cell? ⟨g, xs.length - 1, none⟩ = some (.string xl) from ⟨((unhide K7).below hb).cells.c1, by rw [hxle]; exact ((unhide K7).below hb).strs.cellB _ (by omega)⟩)
        have hr8 := unhide CX w7.drew (Below.refl w7.heap.size w7).drew
        have hrA := fun o => unhide CX (w7.alloc o).drew ((Below.refl w7.heap.size w7).alloc (Nat.le_refl _) o).drew
        have hw1 : IntKind.u8.wrap ((hL : Int) / 256) = (hL : Int) / 256 := by rw [IntKind.wrap_u8]; omega
        have hw2 : IntKind.u8.wrap (hL : Int) = (hL : Int) % 256 := by rw [IntKind.wrap_u8]
        have hcd : (convert 57 9 (.slice (some ⟨w7.heap.size, 0, none⟩) 2 2)).run Tryd.prog (w7.alloc (.cells #[.int .u8 (hL / 256), .int .u8 (hL % 256)] 5)).drew = .ok (.string ⟨(two hL).toArray⟩) (w7.alloc (.cells #[.int .u8 (hL / 256), .int .u8 (hL % 256)] 5)).drew := str_of_two Tryd.prog w7.drew 57 9 5 5 hL hLl Tryd.underlying57 Tryd.underlying5 Tryd.underlying9
        have hcd2 : (convert 57 9 (.slice (some ⟨w7.heap.size, 0, none⟩) 2 2)).run Tryd.prog (w7.alloc (.cells #[.int .u8 (IntKind.u8.wrap ((hL : Int) / 256)), .int .u8 (IntKind.u8.wrap (hL : Int))] 5)).drew = .ok (.string ⟨(two hL).toArray⟩) (w7.alloc (.cells #[.int .u8 (IntKind.u8.wrap ((hL : Int) / 256)), .int .u8 (IntKind.u8.wrap (hL : Int))] 5)).drew := by rw [hw1, hw2]; exact hcd
        have hos := fun wq => OldSum_bel (ByteArray.mk (two hL).toArray ++ xl) wq (by unfold maxLen; rw [ByteArray.size_append, two_size]; omega)
        rw [show (ByteArray.mk (two hL).toArray ++ xl).data.toList = two hL ++ xl.data.toList by simp, hHL] at hos
        have hz2 : (two hL).length = 2 := rfl
        have f1 : (0 : Int) ≤ (xs.length : Int) - 1 := by omega
        have f2 : (xs.length : Int) - 1 < (xs.length : Int) := by omega
        have f3 : ((xs.length : Int) - 1).toNat = xs.length - 1 := by omega
        have f4 : (1 : Int) ≤ (xs.length : Int) := by omega
        have f6 : xs ≠ [] := fun h => by rw [h] at hxn; cases hxn
        generalize hHD : last 0 (bs xs) = HD at hos HOV
        clear hxle hHL hw1 hw2 hHD
        go_wp2_with fail
        go_cut [14] from 86 to 106 (fun p wx => p = .int .u16 (HD : Int) ∧ Below w7.heap.size w7 wx)
        case first =>
          obtain ⟨k1, k2⟩ := hr8
          have k3 := fun o => (hrA o).1
          have k4 := fun o => (hrA o).2
          clear hrA
          go_region_with (go_at_call 13; refine (hos _).mono ?_; rintro e w8 ⟨rfl, hb8⟩; have hb8F := made_bel hb8)
          all_goals (go_wp2_with fail; go_meet)
          all_goals exact ⟨rfl, hb8F.1⟩
        case rest =>
          obtain ⟨rfl, hb8⟩ := hcut
          have K8 := hide ((unhide K7).below hb8)
          have S8 := hide ((unhide S7).below hb8 (Nat.le_refl _))
          have P8 := hide ((hb8.block _ (lt_of_block (unhide P7))).trans (unhide P7))
          clear hb8 K7 S7 P7 hr8 hrA CX c70 hcd hcd2 hos
          generalize wc = w8 at K8 S8 P8 ⊢
          obtain ⟨xi, hxie⟩ : ∃ xi, xi = xs.getD i ByteArray.empty := ⟨_, rfl⟩
          have hxiz : xi.size ≤ 20 := by
            rw [hxie, List.getD_eq_getElem?_getD, List.getElem?_eq_getElem hi, Option.getD_some]
            exact unhide HX _ (List.getElem_mem _)
          have hOV := unhide HOV
          have hTR := unhide HTR
          have hVR := unhide HVR
          rw [← hxie] at hOV hTR hVR
          have hov := fun wq hs => OldVerify_any HD bi (xs.length : Int) (i : Int) xi (.slice ao4 rs.length cp4) rs wq hBl (by omega) (by omega) (by omega) hs (unhide HDZ)
          rw [hOV] at hov
          have htr := fun wq hr ht => Translate_any T (i : Int) xi bi (.slice ao4 rs.length cp4) rs wq (unhide HTZ) (by omega) (by omega) hBl hr (unhide HDZ) ht
          rw [unhide HTD, hTR] at htr
          simp only at htr
          have hpe := pathL_elem xs.length xs i (Nat.le_refl _)
          have hvf := fun vq wq hd ht => Verify_any (rootL xs) (xs.length : Int) (i : Int) xi vq (pathL xs i) wq (by omega) (by omega) (rootL_length xs) (by omega) hd ht
          rw [hVR] at hvf
          have hrl := rootL_length xs
          have hde : dEnt ds = (bs (xs.take xs.length), 0) := by unfold dEnt; rw [(unhide HSD).ok]
          have hst := fun wq hd ht => Status_any vd ds wq hd ht
          rw [show staRoot ds = rootL xs by unfold staRoot; rw [hde, if_pos rfl, List.take_of_length_le (Nat.le_refl _), mk_bs], hde, List.take_of_length_le (Nat.le_refl _)] at hst
          simp only [bs_length] at hst
          have CI := hide (fun wq (hb : Below w8.heap.size w8 wq) => show wq.cell? ⟨G, 1, none⟩ = some (.slice (some ⟨g, 0, none⟩) xs.length cap) ∧ wq.cell? ⟨g, i, none⟩ = some (.string xi) ∧ wq.cell? ⟨GP, 0, none⟩ = some (.int .u16 (bi : Int)) ∧ wq.cell? ⟨GP, 1, none⟩ = some (.slice ao4 rs.length cp4) from
            ⟨((unhide K8).below hb).cells.c1, by rw [hxie]; exact ((unhide K8).below hb).strs.cellB _ hi, cell_of_opf ((hb.block _ (lt_of_block (unhide P8))).trans (unhide P8))⟩)
          have CT := hide (fun wq (hb : Below w8.heap.size w8 wq) => ((unhide K8).below hb).cells.c0)
          have CD := hide (fun wq (hb : Below w8.heap.size w8 wq) => ((unhide K8).below hb))
          have CS := hide (fun wq (hb : Below w8.heap.size w8 wq) => (unhide S8).below hb (Nat.le_refl _))
          generalize pathL xs i = pth at htr hvf hpe
          generalize rootL xs = R at hst hvf hrl
          have HPE := hide hpe
          have HST := hide hst
          have HVF := hide hvf
          have HTRA := hide htr
          obtain ⟨le, hle⟩ : ∃ le, le = mk [] := ⟨_, rfl⟩
          have hmt : le.toList.isEmpty = true := by rw [hle, ByteArray.toList_eq]; rfl
          rw [← hle] at HTRA
          clear hxie hOV hTR hVR hvf hst htr hpe hde HOV HTR HVR hle P8 S8
          have hr8 := unhide CI w8.drew (Below.refl w8.heap.size w8).drew
          have fi0 : (0 : Int) ≤ (i : Int) := by omega
          have fi1 : (i : Int) < (xs.length : Int) := by omega
          go_wp2_with fail
          go_region_held3 (fun w' => w'.cell? ⟨G, 1, none⟩ = some (.slice (some ⟨g, 0, none⟩) xs.length cap) ∧ w'.cell? ⟨g, i, none⟩ = some (.string xi) ∧ w'.cell? ⟨GP, 0, none⟩ = some (.int .u16 (bi : Int)) ∧ w'.cell? ⟨GP, 1, none⟩ = some (.slice ao4 rs.length cp4)) (first | (with_reducible exact hr8) | (with_reducible exact hr9)) ((go_at_call 14; refine (hov _ (unhide CS _ (Below.refl w8.heap.size w8).drew)).mono ?_; rintro e w9 ⟨rfl, hb9⟩; have hr9 := unhide CI w9 (drew_bel hb9)))
          have KB9 := hide (drew_bel hb9)
          clear hb9 hr8 hr9 hov
          have C9 := hide (fun wq (hb : Below w9.heap.size w9 wq) => show wq.cell? ⟨G, 0, none⟩ = some (.string T) ∧ wq.cell? ⟨G, 1, none⟩ = some (.slice (some ⟨g, 0, none⟩) xs.length cap) ∧ wq.cell? ⟨g, i, none⟩ = some (.string xi) ∧ wq.cell? ⟨GP, 0, none⟩ = some (.int .u16 (bi : Int)) ∧ wq.cell? ⟨GP, 1, none⟩ = some (.slice ao4 rs.length cp4) from
            ⟨unhide CT wq ((unhide KB9).trans (hb.mono (unhide KB9).size)), unhide CI wq ((unhide KB9).trans (hb.mono (unhide KB9).size))⟩)
          have T9 := hide (fun wq (hb : Below w9.heap.size w9 wq) => unhide HTT wq ((unhide CD w9 (unhide KB9)).bel.trans (hb.mono (unhide CD w9 (unhide KB9)).bel.size)))
          have S9 := hide (fun wq (hb : Below w9.heap.size w9 wq) => unhide CS wq ((unhide KB9).trans (hb.mono (unhide KB9).size)))
          have hr8 := unhide C9 w9.drew (Below.refl w9.heap.size w9).drew
          have hrA := fun o => unhide C9 (w9.alloc o).drew ((Below.refl w9.heap.size w9).alloc (Nat.le_refl _) o).drew
          have hGl9 : G < w9.heap.size ∧ g < w9.heap.size ∧ GP < w9.heap.size := ⟨cell_lt (unhide C9 w9 (Below.refl _ _)).1, cell_lt (unhide C9 w9 (Below.refl _ _)).2.2.1, cell_lt (unhide C9 w9 (Below.refl _ _)).2.2.2.1⟩
          go_wp2_with fail
          go_cut [16, 17] from 123 to 139 (fun p q wx => ∃ (GC : Nat) (ao9 : Option Addr) (cp9 : Nat), p = .pointer (some ⟨GC, 0, none⟩) ∧ q = .int .i64 0 ∧ wx.cell? ⟨GC, 0, none⟩ = some (.slice ao9 pth.length cp9) ∧ wx.cell? ⟨GC, 1, none⟩ = some (.string le) ∧ wx.cell? ⟨GC, 2, none⟩ = some (.string le) ∧ Digs wx (.slice ao9 pth.length cp9) pth ∧ Below w9.heap.size w9 wx)
          case first =>
            go_region_held3 (fun w' => w'.cell? ⟨G, 0, none⟩ = some (.string T) ∧ w'.cell? ⟨G, 1, none⟩ = some (.slice (some ⟨g, 0, none⟩) xs.length cap) ∧ w'.cell? ⟨g, i, none⟩ = some (.string xi) ∧ w'.cell? ⟨GP, 0, none⟩ = some (.int .u16 (bi : Int)) ∧ w'.cell? ⟨GP, 1, none⟩ = some (.slice ao4 rs.length cp4)) (first | (with_reducible exact hr8) | (with_reducible exact hrA _) | (with_reducible exact hr9) | (with_reducible exact hr10 _) | (with_reducible exact hrB _ _ _)) ((go_at_call 15; first | (refine (unhide HTRA _ (unhide S9 _ (Below.refl w9.heap.size w9).drew) (unhide T9 _ (Below.refl w9.heap.size w9).drew)).mono ?_; rintro e w10 ⟨v10, rfl, hown10, hb10⟩; obtain ⟨ao10, cp10, rfl⟩ := own_shape hown10; have hbF := drew_bel hb10; have hr9 := unhide C9 w10 hbF; have hr10 := fun o => unhide C9 (w10.alloc o) (hbF.alloc hbF.size o)) | (refine (unhide HTRA _ (unhide S9 _ ((Below.refl w9.heap.size w9).alloc (Nat.le_refl _) _).drew) (unhide T9 _ ((Below.refl w9.heap.size w9).alloc (Nat.le_refl _) _).drew)).mono ?_; rintro e w10 ⟨v10, rfl, hown10, hb10⟩; obtain ⟨ao10, cp10, rfl⟩ := own_shape hown10; have hbG := made_bel3 hb10; have hrB := fun a b c => unhide C9 _ (set_three hbG.1 a b c); have hr9 := unhide C9 w10 hbG.1; have q0 := hbG.2.1; have q1 := hbG.2.2.1; have q2 := hbG.2.2.2.1; have q3 := hbG.2.2.2.2.1; have q4 := hbG.2.2.2.2.2.1; have q5 := hbG.2.2.2.2.2.2)))
            all_goals (go_wp2_with fail; go_meet)
            · exact made_A3 hbF (unhide HPE) hown10 _ _ _ _
            · exact made_B3 hbG.1 q0 q1 q2 (unhide HPE) hown10 _ _ _
          case rest =>
            obtain ⟨GC, ao9, cp9, rfl, rfl, d0, d1, d2, hD10, hb10⟩ := hcut
            generalize wc = w10 at d0 d1 d2 hD10 hb10 ⊢
            have KB10 := hide ((unhide KB9).trans (hb10.mono (unhide KB9).size))
            have K10 := hide (unhide CD w10 (unhide KB10))
            have hc2 := (unhide K10).cells.c2
            have hGC := cell_lt d0
            have VR := hide (v_dg R hrl)
            have ZR := hide (v_z32 R hrl)
            have D10 := hide hD10
            clear hb10 hr8 hrA C9 T9 S9 HTRA hGl9 KB9 hD10
            go_wp2_with fail
            refine (unhide HST _ (unhide K10).digs (unhide HTT _ (unhide K10).bel)).mono ?_
            rintro e w11 ⟨rfl, hb11⟩
            have W12 := car_newB w11 (bcells z32).toArray (bcells R).toArray 64
            have KB11 := hide ((unhide KB10).trans (hb11.mono (unhide KB10).size))
            have e0 : w11.cell? ⟨GC, 0, none⟩ = some (.slice ao9 pth.length cp9) := by rw [hb11.cell (p := ⟨GC, 0, none⟩) hGC]; exact d0
            have e1 : w11.cell? ⟨GC, 1, none⟩ = some (.string le) := by rw [hb11.cell (p := ⟨GC, 1, none⟩) hGC]; exact d1
            have e2 : w11.cell? ⟨GC, 2, none⟩ = some (.string le) := by rw [hb11.cell (p := ⟨GC, 2, none⟩) hGC]; exact d2
            have D11 := hide ((unhide D10).below hb11 (Nat.le_refl _))
            have hGC11 := cell_lt e0
            clear hb11 d0 d1 d2 D10 K10 hc2 HST hGC
            go_upto_region 20 with ((with_reducible refine at_store ?_); go_must (refine wpList_store_row rfl 64 _ _ rfl w11.heap.size (bcells R).toArray rfl rfl 64 _ (heap_alloc_new w11 _) (unhide VR) (unhide ZR) (bcells_one R) ?_))
            rw [← z32_cells]
            generalize (w11.alloc (.cells (bcells z32).toArray 64)).setRow w11.heap.size (bcells R).toArray = w12 at W12 ⊢
            obtain ⟨hb12, hg12, hz12⟩ := W12
            have KB12 := hide ((unhide KB11).trans (hb12.mono (unhide KB11).size))
            have k0 : w12.cell? ⟨GC, 0, none⟩ = some (.slice ao9 pth.length cp9) := by rw [hb12.cell (p := ⟨GC, 0, none⟩) hGC11]; exact e0
            have k1 : w12.cell? ⟨GC, 1, none⟩ = some (.string le) := by rw [hb12.cell (p := ⟨GC, 1, none⟩) hGC11]; exact e1
            have k2 : w12.cell? ⟨GC, 2, none⟩ = some (.string le) := by rw [hb12.cell (p := ⟨GC, 2, none⟩) hGC11]; exact e2
            have D12 := hide ((unhide D11).below hb12 (Nat.le_refl _))
            have G12 := hide (range_of_browB hg12)
            have kc := (unhide CI w12 (unhide KB12)).1
            have hkk : ((xs.length : Int) != (xs.length : Int)) = false := by simp
            generalize w11.heap.size = GR at G12 ⊢
            clear hb12 hg12 hz12 KB11 e0 e1 e2 D11 hGC11
            go_upto_region 22 with fail
            have ci := unhide CI w12.drew ((unhide KB12).drew)
            have hr8 : w12.drew.rangeAt GR 0 (bcells R) ∧ w12.drew.cell? ⟨G, 1, none⟩ = some (.slice (some ⟨g, 0, none⟩) xs.length cap) ∧ w12.drew.cell? ⟨g, i, none⟩ = some (.string xi) ∧ w12.drew.cell? ⟨GC, 0, none⟩ = some (.slice ao9 pth.length cp9) := ⟨unhide G12, ci.1, ci.2.1, k0⟩
            have DD := hide ((unhide D12).below ((Below.refl w12.heap.size w12).drew) (Nat.le_refl _))
            have TD := hide (unhide HTT w12.drew ((unhide CD w12 (unhide KB12)).bel.drew))
            have hu := Tryd.underlying64
            have hmi := v_mid R hrl
            go_region_held3 (fun w' => w'.rangeAt GR 0 (bcells R) ∧ w'.cell? ⟨G, 1, none⟩ = some (.slice (some ⟨g, 0, none⟩) xs.length cap) ∧ w'.cell? ⟨g, i, none⟩ = some (.string xi) ∧ w'.cell? ⟨GC, 0, none⟩ = some (.slice ao9 pth.length cp9)) (first | (with_reducible exact hr8) | (with_reducible exact hr9)) ((go_at_call 17; refine (unhide HVF _ _ (unhide DD) (unhide TD)).mono ?_; rintro e w13 ⟨rfl, hb13⟩; have hr9 := reads4 hr8 hb13))
            have hbE := (unhide CD w12 (unhide KB12)).bel
            have hbF := drew_bel hb13
            clear hr8 hr9 hb13
            go_wp2
            go_ret
            exact ⟨rfl, hbE.trans (hbF.mono hbE.size)⟩
end Go.Proofs.YtanfolfopalbeabDoor
