/- Verify: the contract. -/
import Derived.Test.YtanfolfopalbeabDoorTreeClimb
namespace Go.Proofs.YtanfolfopalbeabDoor
open Go.RowKit

/-- What Verify answers. -/
def verR (root : List UInt8) (n i : Int) (x : ByteArray) (ps : List (List UInt8)) : Bool :=
  decide (1 ≤ n ∧ n ≤ 1073741824 ∧ 0 ≤ i ∧ i < n) && (decide (ps.length = plen n.toNat i.toNat) && decide (climbL (lf x) n.toNat i.toNat ps = root))
theorem verR_out (root : List UInt8) (n i : Int) (x : ByteArray) (ps : List (List UInt8)) (h : ¬ (1 ≤ n ∧ n ≤ 1073741824 ∧ 0 ≤ i ∧ i < n)) : verR root n i x ps = false := by
  unfold verR
  rw [decide_eq_false h, Bool.false_and]
theorem verR_in (root : List UInt8) (n i : Nat) (x : ByteArray) (ps : List (List UInt8)) (h : 1 ≤ n ∧ n ≤ 1073741824 ∧ i < n) : verR root n i x ps = (decide (ps.length = plen n i) && decide (climbL (lf x) n i ps = root)) := by
  unfold verR
  rw [decide_eq_true (by omega), Bool.true_and]
  rfl

set_option maxRecDepth 100000 in
set_option maxHeartbeats 800000 in
theorem treeVerify_out (root : List UInt8) (n i : Int) (x : ByteArray) (v : Value) (w : World) (hn : -9223372036854775808 ≤ n ∧ n ≤ 9223372036854775807) (hi : -9223372036854775808 ≤ i ∧ i ≤ 9223372036854775807)
    (h : ¬ (1 ≤ n ∧ n ≤ 1073741824 ∧ 0 ≤ i ∧ i < n)) :
    Calls Tryd.prog 39 #[.agg (bcells root).toArray, .int .i64 n, .int .i64 i, .string x, v] w fun e w' => e = .returned (.bool false) ∧ Below w.heap.size w w' := by
  have K0 := hide (show Below w.heap.size w (w.alloc (.cells (bcells root).toArray 64)) from (Below.refl _ _).alloc (Nat.le_refl _) _)
  obtain ⟨hn0, hn1⟩ := hn
  obtain ⟨hi0, hi1⟩ := hi
  by_cases c1 : n < 1
  · have d1 : decide (n < 1) = true := by simp; omega
    clear h
    go_enter Tryd.func39, Tryd.ntmps39
    go_wp2
    go_ret
    exact ⟨rfl, unhide K0⟩
  have d1 : decide (n < 1) = false := by simp; omega
  by_cases c2 : 1073741824 < n
  · have d2 : decide (1073741824 < n) = true := by simp; omega
    clear h
    go_enter Tryd.func39, Tryd.ntmps39
    go_wp2
    go_ret
    exact ⟨rfl, unhide K0⟩
  have d2 : decide (1073741824 < n) = false := by simp; omega
  by_cases c3 : i < 0
  · have d3 : decide (i < 0) = true := by simp; omega
    clear h
    go_enter Tryd.func39, Tryd.ntmps39
    go_wp2
    go_ret
    exact ⟨rfl, unhide K0⟩
  have d3 : decide (i < 0) = false := by simp; omega
  have d4 : decide (n ≤ i) = true := by simp; omega
  clear h
  go_enter Tryd.func39, Tryd.ntmps39
  go_wp2
  go_ret
  exact ⟨rfl, unhide K0⟩

set_option maxRecDepth 100000 in
set_option maxHeartbeats 800000 in
theorem treeVerify_in (root : List UInt8) (n i : Nat) (x : ByteArray) (v : Value) (ps : List (List UInt8)) (w : World) (h : 1 ≤ n ∧ n ≤ 1073741824 ∧ i < n) (hr : root.length = 32) (hx : x.size ≤ 140737488351231) (hD : Digs w v ps) (hT : Tabs w) :
    Calls Tryd.prog 39 #[.agg (bcells root).toArray, .int .i64 n, .int .i64 i, .string x, v] w fun e w' => e = .returned (.bool (decide (ps.length = plen n i) && decide (climbL (lf x) n i ps = root))) ∧ Below w.heap.size w w' := by
  obtain ⟨h1, h2, h3⟩ := h
  have hbel0 : Below w.heap.size w (w.alloc (.cells (bcells root).toArray 64)) := (Below.refl _ _).alloc (Nat.le_refl _) _
  have K0 := hide hbel0
  have G0 := hide (show (w.alloc (.cells (bcells root).toArray 64)).heap[w.heap.size]? = some (.cells (bcells root).toArray 64 (0, 0)) from heap_alloc_new w _)
  have d1 : decide ((n : Int) < 1) = false := by simp; omega
  have d2 : decide (1073741824 < (n : Int)) = false := by simp; omega
  have d3 : decide ((i : Int) < 0) = false := by simp
  have d4 : decide ((n : Int) ≤ (i : Int)) = false := by simp; omega
  have HD := hide (fun wq hb => hD.below (w' := wq) (B := w.heap.size) hb (Nat.le_refl _))
  have HT := hide (fun wq hb => hT.below (w' := wq) (B := w.heap.size) hb (Nat.le_refl _))
  have hP := fun wq => pathLength_any n i wq h2 h3
  have hL := fun wq ht => leaf_any x wq hx ht
  have hC := fun wq hd ht => climb_any n (lf x) n i v ps wq (Nat.le_refl _) h2 h3 (sha_length _) hd ht
  have dc := climbL_length (lf x) n i ps (sha_length _)
  obtain ⟨_, ao, cap, hv, hc1, hc2, _⟩ := hD
  subst hv
  generalize plen n i = P at hP ⊢
  generalize climbL (lf x) n i ps = dC at hC dc ⊢
  generalize lf x = dL at hL hC
  have hE := fun wq => digest_eq dC root dc hr wq
  have VR := hide (v_dg root hr)
  have VC := hide (v_dg dC dc)
  have ZC := hide (v_z32 dC dc)
  have HC := hide hC
  have HL := hide hL
  clear hbel0 hT hC hL
  by_cases hl : ps.length = P
  · have hd : ((ps.length : Int) != (P : Int)) = false := by rw [hl]; simp
    rw [decide_eq_true hl, Bool.true_and]
    clear hl
    go_enter Tryd.func39, Tryd.ntmps39
    go_wp2_with (go_at_call 66; refine (hP _).mono ?_; rintro e w1 ⟨rfl, he⟩; cases he)
    refine (unhide HL _ (unhide HT _ (unhide K0))).mono ?_
    rintro e w1 ⟨rfl, hb1⟩
    have hbel1 := (unhide K0).trans (hb1.mono (unhide K0).size)
    have g1 : BRow w1 w.heap.size 64 root := (hb1.block _ (lt_of_block (unhide G0))).trans (unhide G0)
    have G1 := hide g1
    clear g1 hb1 G0 K0 HL hP
    go_wp2_with fail
    refine (unhide HC _ (unhide HD _ hbel1) (unhide HT _ hbel1)).mono ?_
    rintro e w2 ⟨rfl, hb2⟩
    have hbel2 := hbel1.trans (hb2.mono hbel1.size)
    have g2 : BRow w2 w.heap.size 64 root := (hb2.block _ (lt_of_block (unhide G1))).trans (unhide G1)
    have hl2 := lt_of_block g2
    have G2 := hide g2
    clear g2 hb2 G1 hbel1 HC HD HT
    go_wp2_with (first | ((with_reducible refine at_store ?_); refine wpList_store_row rfl 64 _ _ rfl w2.heap.size (bcells dC).toArray rfl rfl 64 _ (heap_alloc_new w2 _) (unhide VC) (unhide ZC) (bcells_one dC) ?_) | ((with_reducible refine at_load ?_); first | refine wpList_load_row rfl 64 _ rfl w.heap.size (by rfl) 64 (bcells root).toArray (0, 0) _ ((heap_put_old w2 _ _ _ _ hl2).trans (unhide G2)) Tryd.underlying64 rfl (unhide VR) ?_ | refine wpList_load_row rfl 64 _ rfl w2.heap.size (by rfl) 64 (bcells dC).toArray (0, 0) _ (heap_put_new w2 _ _ _) Tryd.underlying64 rfl (unhide VC) ?_))
    go_ret
    exact ⟨rfl, below_row (hbel2.alloc hbel2.size _) hbel2.size _⟩
  · have hd : ((ps.length : Int) != (P : Int)) = true := by rw [bne_iff_ne]; omega
    rw [decide_eq_false hl, Bool.false_and]
    go_enter Tryd.func39, Tryd.ntmps39
    go_wp2_with (go_at_call 66; refine (hP _).mono ?_; rintro e w1 ⟨rfl, he⟩; cases he)
    go_ret
    exact ⟨rfl, unhide K0⟩

theorem treeVerify_any (root : List UInt8) (n i : Int) (x : ByteArray) (v : Value) (ps : List (List UInt8)) (w : World) (hn : -9223372036854775808 ≤ n ∧ n ≤ 9223372036854775807) (hi : -9223372036854775808 ≤ i ∧ i ≤ 9223372036854775807)
    (hr : root.length = 32) (hx : x.size ≤ 140737488351231) (hD : Digs w v ps) (hT : Tabs w) :
    Calls Tryd.prog 39 #[.agg (bcells root).toArray, .int .i64 n, .int .i64 i, .string x, v] w fun e w' => e = .returned (.bool (verR root n i x ps)) ∧ Below w.heap.size w w' := by
  by_cases h : 1 ≤ n ∧ n ≤ 1073741824 ∧ 0 ≤ i ∧ i < n
  · obtain ⟨a, rfl⟩ : ∃ a : Nat, n = (a : Int) := ⟨n.toNat, by omega⟩
    obtain ⟨b, rfl⟩ : ∃ b : Nat, i = (b : Int) := ⟨i.toNat, by omega⟩
    rw [verR_in root a b x ps (by omega)]
    exact treeVerify_in root a b x v ps w (by omega) hr hx hD hT
  · rw [verR_out root n i x ps h]
    exact treeVerify_out root n i x v w hn hi h

set_option maxRecDepth 100000 in
set_option maxHeartbeats 800000 in
theorem Verify_any (root : List UInt8) (n i : Int) (x : ByteArray) (v : Value) (ps : List (List UInt8)) (w : World) (hn : -9223372036854775808 ≤ n ∧ n ≤ 9223372036854775807) (hi : -9223372036854775808 ≤ i ∧ i ≤ 9223372036854775807)
    (hr : root.length = 32) (hx : x.size ≤ 140737488351231) (hD : Digs w v ps) (hT : Tabs w) :
    Calls Tryd.prog 17 #[.agg (bcells root).toArray, .int .i64 n, .int .i64 i, .string x, v] w fun e w' => e = .returned (.bool (verR root n i x ps)) ∧ Below w.heap.size w w' := by
  have hbel0 : Below w.heap.size w (w.alloc (.cells (bcells root).toArray 64)) := (Below.refl _ _).alloc (Nat.le_refl _) _
  have K0 := hide hbel0
  have G0 := hide (show (w.alloc (.cells (bcells root).toArray 64)).heap[w.heap.size]? = some (.cells (bcells root).toArray 64 (0, 0)) from heap_alloc_new w _)
  have HC := hide (fun wq hd ht => treeVerify_any root n i x v ps wq hn hi hr hx hd ht)
  have HD := hide (hD.below hbel0 (Nat.le_refl _))
  have HT := hide (hT.below hbel0 (Nat.le_refl _))
  have VR := hide (v_dg root hr)
  clear hbel0 hT hD
  generalize verR root n i x ps = r at HC ⊢
  go_enter Tryd.func17, Tryd.ntmps17
  go_wp2_with ((with_reducible refine at_load ?_); refine wpList_load_row rfl 64 _ rfl w.heap.size (by rfl) 64 (bcells root).toArray (0, 0) _ (unhide G0) Tryd.underlying64 rfl (unhide VR) ?_)
  refine (unhide HC _ (unhide HD) (unhide HT)).mono ?_
  rintro e w1 ⟨rfl, hb1⟩
  have hbel1 := (unhide K0).trans (hb1.mono (unhide K0).size)
  go_wp2
  go_ret
  exact ⟨rfl, hbel1⟩
end Go.Proofs.YtanfolfopalbeabDoor
