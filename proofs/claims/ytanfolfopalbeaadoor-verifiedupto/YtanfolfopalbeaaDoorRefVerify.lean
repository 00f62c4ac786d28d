/- The reference's Verify: the contract. -/
import Derived.Test.YtanfolfopalbeaaDoorRefComes
namespace Go.Proofs.YtanfolfopalbeaaDoor
open Go.RowKit

set_option maxRecDepth 100000 in
set_option maxHeartbeats 800000 in
theorem rverify_out (tb : List Nat) (root : List UInt8) (n i : Int) (x : ByteArray) (v : Value) (w : World) (hn : -9223372036854775808 ≤ n ∧ n ≤ 9223372036854775807) (hi : -9223372036854775808 ≤ i ∧ i ≤ 9223372036854775807)
    (h : ¬ (1 ≤ n ∧ n ≤ 1073741824 ∧ 0 ≤ i ∧ i < n)) :
    Calls Tryd.prog 30 #[.agg (ucells tb).toArray, .agg (bcells root).toArray, .int .i64 n, .int .i64 i, .string x, v] w fun e w' => e = .returned (.bool false) ∧ Below w.heap.size w w' := by
  have K0 := hide (two_new w (.cells (ucells tb).toArray 26) (.cells (bcells root).toArray 31)).1
  obtain ⟨hn0, hn1⟩ := hn
  obtain ⟨hi0, hi1⟩ := hi
  by_cases c1 : n < 1
  · have d1 : decide (n < 1) = true := by simp; omega
    clear h
    go_enter Tryd.func30, Tryd.ntmps30
    go_wp2
    go_ret
    exact ⟨rfl, unhide K0⟩
  have d1 : decide (n < 1) = false := by simp; omega
  by_cases c2 : 1073741824 < n
  · have d2 : decide (1073741824 < n) = true := by simp; omega
    clear h
    go_enter Tryd.func30, Tryd.ntmps30
    go_wp2
    go_ret
    exact ⟨rfl, unhide K0⟩
  have d2 : decide (1073741824 < n) = false := by simp; omega
  by_cases c3 : i < 0
  · have d3 : decide (i < 0) = true := by simp; omega
    clear h
    go_enter Tryd.func30, Tryd.ntmps30
    go_wp2
    go_ret
    exact ⟨rfl, unhide K0⟩
  have d3 : decide (i < 0) = false := by simp; omega
  have d4 : decide (n ≤ i) = true := by simp; omega
  clear h
  go_enter Tryd.func30, Tryd.ntmps30
  go_wp2
  go_ret
  exact ⟨rfl, unhide K0⟩

set_option maxRecDepth 100000 in
set_option maxHeartbeats 800000 in
theorem rverify_in (tb : List Nat) (ht : TabOk tb) (root : List UInt8) (n i : Nat) (x : ByteArray) (v : Value) (ps : List (List UInt8)) (w : World) (h : 1 ≤ n ∧ n ≤ 1073741824 ∧ i < n) (hr : root.length = 32) (hx : x.size ≤ 1048575) (hD : Digs w v ps) :
    Calls Tryd.prog 30 #[.agg (ucells tb).toArray, .agg (bcells root).toArray, .int .i64 n, .int .i64 i, .string x, v] w fun e w' => e = .returned (.bool ((comesL x n i ps).2 && decide ((comesL x n i ps).1 = root))) ∧ Below w.heap.size w w' := by
  obtain ⟨h1, h2, h3⟩ := h
  have VT := hide (v_tab tb ht.1)
  have VR := hide (v_dg root hr)
  obtain ⟨hbel0, g0, g1⟩ := two_new w (.cells (ucells tb).toArray 26) (.cells (bcells root).toArray 31)
  have d1 : decide ((n : Int) < 1) = false := by simp; omega
  have d2 : decide (1073741824 < (n : Int)) = false := by simp; omega
  have d3 : decide ((i : Int) < 0) = false := by simp
  have d4 : decide ((n : Int) ≤ (i : Int)) = false := by simp; omega
  have HC := hide (fun wq hd => rcomes_any tb ht x hx n n i v ps wq (Nat.le_refl _) (by omega) h3 hd)
  have HD := hide (hD.below hbel0 (Nat.le_refl _))
  have dc := comesL_length x n i ps
  generalize comesL x n i ps = r at HC dc ⊢
  obtain ⟨dC, ok⟩ := r
  simp only at HC dc ⊢
  have hE := fun wq => digest_eq dC root dc hr wq
  have VC := hide (v_dg dC dc)
  have ZC := hide (v_z32 dC dc)
  have K0 := hide hbel0
  have G0 := hide g0
  have G1 := hide g1
  clear hbel0 g0 g1 hD
  go_enter Tryd.func30, Tryd.ntmps30
  go_wp2_with ((with_reducible refine at_load ?_); refine wpList_load_row rfl 26 _ rfl w.heap.size (by rfl) 26 (ucells tb).toArray (0, 0) _ (unhide G0) Tryd.underlying26 rfl (unhide VT) ?_)
  refine (unhide HC _ (unhide HD)).mono ?_
  rintro e w2 ⟨rfl, hb2⟩
  have hbel2 := (unhide K0).trans (hb2.mono (unhide K0).size)
  have g2 : BRow w2 (w.heap.size + 1) 31 root := (hb2.block _ (lt_of_block (unhide G1))).trans (unhide G1)
  have hl2 := lt_of_block g2
  have G2 := hide g2
  clear g2 hb2 G0 G1 K0 HC HD
  cases ok with
  | true =>
    go_wp2_with (first | ((with_reducible refine at_store ?_); refine wpList_store_row rfl 31 _ _ rfl w2.heap.size (bcells dC).toArray rfl rfl 31 _ (heap_alloc_new w2 _) (unhide VC) (unhide ZC) (bcells_one dC) ?_) | ((with_reducible refine at_load2 ?_); first | refine wpList_load_row_w (by rfl) 31 _ rfl (w.heap.size + 1) (by rfl) 31 (bcells root).toArray (0, 0) _ ((heap_put_old w2 _ _ _ _ hl2).trans (unhide G2)) Tryd.underlying31 rfl (unhide VR) ?_ | refine wpList_load_row_w (by rfl) 31 _ rfl w2.heap.size (by rfl) 31 (bcells dC).toArray (0, 0) _ (heap_put_new w2 _ _ _) Tryd.underlying31 rfl (unhide VC) ?_))
    go_ret
    exact ⟨rfl, below_row (hbel2.alloc hbel2.size _) hbel2.size _⟩
  | false =>
    go_wp2_with ((with_reducible refine at_store ?_); refine wpList_store_row rfl 31 _ _ rfl w2.heap.size (bcells dC).toArray rfl rfl 31 _ (heap_alloc_new w2 _) (unhide VC) (unhide ZC) (bcells_one dC) ?_)
    go_ret
    exact ⟨rfl, below_row (hbel2.alloc hbel2.size _) hbel2.size _⟩

theorem comes_ver (root : List UInt8) (n i : Nat) (x : ByteArray) (ps : List (List UInt8)) (h : 1 ≤ n ∧ n ≤ 1073741824 ∧ i < n) : ((comesL x n i ps).2 && decide ((comesL x n i ps).1 = root)) = verR root n i x ps := by
  obtain ⟨e1, e2⟩ := comes_climb n x n i ps (Nat.le_refl _) h.2.2
  rw [verR_in root n i x ps h, e1]
  by_cases hp : ps.length = plen n i
  · rw [e2 hp]
  · rw [decide_eq_false hp, Bool.false_and, Bool.false_and]
theorem rverify_any (tb : List Nat) (ht : TabOk tb) (root : List UInt8) (n i : Int) (x : ByteArray) (v : Value) (ps : List (List UInt8)) (w : World) (hn : -9223372036854775808 ≤ n ∧ n ≤ 9223372036854775807) (hi : -9223372036854775808 ≤ i ∧ i ≤ 9223372036854775807)
    (hr : root.length = 32) (hx : x.size ≤ 1048575) (hD : Digs w v ps) :
    Calls Tryd.prog 30 #[.agg (ucells tb).toArray, .agg (bcells root).toArray, .int .i64 n, .int .i64 i, .string x, v] w fun e w' => e = .returned (.bool (verR root n i x ps)) ∧ Below w.heap.size w w' := by
  by_cases h : 1 ≤ n ∧ n ≤ 1073741824 ∧ 0 ≤ i ∧ i < n
  · obtain ⟨a, rfl⟩ : ∃ a : Nat, n = (a : Int) := ⟨n.toNat, by omega⟩
    obtain ⟨b, rfl⟩ : ∃ b : Nat, i = (b : Int) := ⟨i.toNat, by omega⟩
    rw [← comes_ver root a b x ps (by omega)]
    exact rverify_in tb ht root a b x v ps w (by omega) hr hx hD
  · rw [verR_out root n i x ps h]
    exact rverify_out tb root n i x v w hn hi h
end Go.Proofs.YtanfolfopalbeaaDoor
