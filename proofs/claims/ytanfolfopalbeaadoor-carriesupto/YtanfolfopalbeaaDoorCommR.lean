/- The reference's half, leaf and node. lendDigests, sameDigests: the contracts. ferrylaw's lendDisk, lentDisk; ferryref's Planned: the contracts. '==' of two equal items of a plan; samePlans of two equal plans. samePlans of two equal plans: the contract. The book's disksHold, inside an object: the contract. The book takes texts: the contract. The book's holds, inside an object: the contract. The book inside an object, between the calls: one kind's invariant, what begins a call of it, what a call leaves, what another kind's call keeps. The book of texts, disks and plans inside an object: the three calls. The book inside an object: an empty one; another cell of the object written. -/
import Derived.Test.YtanfolfopalbeaaDoorRead
import Derived.Test.YtanfolfopalbeaaDoorCommQ
import Derived.Test.YtanfolfopalbeaaDoorDigSame
import Derived.Test.YtanfolfopalbeaaDoorTreeClimb
import Derived.Deep.RegionHeld3
import Derived.Test.YtanfolfopalbeaaDoorCopyBig
import Derived.Laws.CopyRow
import Derived.Laws.CopyOwn
import Derived.OwnWalk
import Derived.Test.YtanfolfopalbeaaDoorCarry5
import Derived.Laws.StructEq
import Derived.Test.YtanfolfopalbeaaDoorBookHo
import Derived.Test.YtanfolfopalbeaaDoorBookDk
import Derived.Test.YtanfolfopalbeaaDoorBookPl
import Derived.Deep.QuietTactic
import Derived.Test.YtanfolfopalbeaaDoorBookG2
namespace Go.Proofs.YtanfolfopalbeaaDoor
open Go.RowKit

theorem rOld_step (x : Nat) (c : UInt8) (hx : x < 4294967296) : (IntKind.u64.wrap (bits BinOp.xor IntKind.u64 (x : Int) (IntKind.u64.wrap (c.toNat : Int)) * 16777619)).tmod 4294967296 = ((wkStep x c : Nat) : Int) := by
  have hc : c.toNat < 256 := c.toNat_lt
  have hy : x ^^^ c.toNat < 4294967296 := by
    have := Nat.xor_lt_two_pow (n := 32) (x := x) (y := c.toNat) (by omega) (by omega)
    omega
  rw [show IntKind.u64.wrap (c.toNat : Int) = (c.toNat : Int) by rw [IntKind.wrap_u64]; omega, u64_xor_nat x c.toNat (by omega) (by omega)]
  have hw : IntKind.u64.wrap (((x ^^^ c.toNat : Nat) : Int) * 16777619) = ((x ^^^ c.toNat : Nat) : Int) * 16777619 := by rw [IntKind.wrap_u64]; omega
  rw [hw, Int.tmod_eq_emod_of_nonneg (by omega)]
  unfold wkStep
  omega
theorem rOld_end (x : Nat) (hx : x < 4294967296) : IntKind.u16.wrap (bits BinOp.xor IntKind.u64 ((x : Int) / 65536) ((x : Int) % 65536)) = ((x / 65536 ^^^ x % 65536 : Nat) : Int) := by
  have hy : x / 65536 ^^^ x % 65536 < 65536 := by
    have := Nat.xor_lt_two_pow (n := 16) (x := x / 65536) (y := x % 65536) (by omega) (by omega)
    omega
  rw [show ((x : Int) / 65536) = ((x / 65536 : Nat) : Int) by omega, show ((x : Int) % 65536) = ((x % 65536 : Nat) : Int) by omega, u64_xor_nat _ _ (by omega) (by omega), IntKind.wrap_u16]
  omega

set_option maxRecDepth 100000 in
set_option maxHeartbeats 400000 in
theorem rOld_any (s : ByteArray) (w : World) (hs : s.size ≤ maxLen) :
    Calls Tryd.prog 16 #[.string s] w fun e w' => e = .returned (.int .u16 (wk s.data.toList)) ∧ w' = w := by
  unfold maxLen at hs
  go_enter Tryd.func16, Tryd.ntmps16
  go_wp2
  go_loop [3, 4] (fun n i => ∃ (k : Nat), k ≤ s.size ∧ i = .int .i64 k ∧ n = .int .u64 (wk32 (s.data.toList.take k))) (fun _ i => s.size - (intOf i).toNat)
  case atStart => exact ⟨0, Nat.zero_le _, rfl, rfl⟩
  case round =>
    obtain ⟨k, hk, rfl, rfl⟩ := hrel
    have hx := wk32_lt (s.data.toList.take k)
    by_cases hlt : k < s.size
    · have HS : Hid (wk32 (s.data.toList.take (k + 1)) = wkStep (wk32 (s.data.toList.take k)) s[k]) := by rw [take_snoc s k hlt, wk32_snoc]; exact rfl
      go_wp2
      go_round
      case rel =>
        exact ⟨k + 1, by omega, by go_num, val_int (by rw [HS.out]; exact rOld_step _ _ hx)⟩
      case measure => simp [intOf]; omega
    · go_wp2
      go_ret
      exact ⟨ret_int (by rw [rOld_end _ hx, take_all s k hlt]; rfl), rfl⟩
end Go.Proofs.YtanfolfopalbeaaDoor
namespace Go.Proofs.YtanfolfopalbeaaDoor
open Go.RowKit

set_option maxRecDepth 100000 in
theorem len_same (x : Nat) (hx : x < 4294967296) : lenB (x % 18446744073709551616) 8 = lenR x 8 := by
  simp only [lenB, lenR, show List.range 8 = [0, 1, 2, 3, 4, 5, 6, 7] from rfl, List.map_cons, List.map_nil, bsh]
  have e : x % 18446744073709551616 = x := by omega
  rw [e]
  have h0 : x / 72057594037927936 = x / 2 ^ (8 * (7 - 0)) % 256 := by
    simp only [show 2 ^ (8 * (7 - 0)) = 72057594037927936 from rfl]; omega
  have h1 : x * 256 % 18446744073709551616 / 72057594037927936 = x / 2 ^ (8 * (7 - 1)) % 256 := by
    simp only [show 2 ^ (8 * (7 - 1)) = 281474976710656 from rfl]; omega
  have h2 : x * 256 % 18446744073709551616 * 256 % 18446744073709551616 / 72057594037927936 = x / 2 ^ (8 * (7 - 2)) % 256 := by
    simp only [show 2 ^ (8 * (7 - 2)) = 1099511627776 from rfl]; omega
  have h3 : x * 256 % 18446744073709551616 * 256 % 18446744073709551616 * 256 % 18446744073709551616 / 72057594037927936 = x / 2 ^ (8 * (7 - 3)) % 256 := by
    simp only [show 2 ^ (8 * (7 - 3)) = 4294967296 from rfl]; omega
  have b3 : x * 256 % 18446744073709551616 * 256 % 18446744073709551616 * 256 % 18446744073709551616 * 256 % 18446744073709551616 = x * 4294967296 := by omega
  have h4 : x * 4294967296 / 72057594037927936 = x / 2 ^ (8 * (7 - 4)) % 256 := by
    simp only [show 2 ^ (8 * (7 - 4)) = 16777216 from rfl]; omega
  have h5 : x * 4294967296 * 256 % 18446744073709551616 / 72057594037927936 = x / 2 ^ (8 * (7 - 5)) % 256 := by
    simp only [show 2 ^ (8 * (7 - 5)) = 65536 from rfl]; omega
  have h6 : x * 4294967296 * 256 % 18446744073709551616 * 256 % 18446744073709551616 / 72057594037927936 = x / 2 ^ (8 * (7 - 6)) % 256 := by
    simp only [show 2 ^ (8 * (7 - 6)) = 256 from rfl]; omega
  have h7 : x * 4294967296 * 256 % 18446744073709551616 * 256 % 18446744073709551616 * 256 % 18446744073709551616 / 72057594037927936 = x / 2 ^ (8 * (7 - 7)) % 256 := by
    simp only [show 2 ^ (8 * (7 - 7)) = 1 from rfl]; omega
  simp only [List.cons.injEq, and_true]
  exact ⟨congrArg _ h0, congrArg _ h1, congrArg _ h2, congrArg _ h3, congrArg _ (by rw [b3]; exact h4), congrArg _ (by rw [b3]; exact h5), congrArg _ (by rw [b3]; exact h6), congrArg _ (by rw [b3]; exact h7)⟩
theorem cmp_fuel : ∀ (f : Nat) (s : S8) (l : List UInt8) (g : Nat), l.length / 64 ≤ f → l.length / 64 ≤ g → cmp f s l = cmp g s l := by
  intro f
  induction f with
  | zero => intro s l g h1 _; rw [cmp_end _ _ _ (by omega), cmp_end _ _ _ (by omega)]
  | succ f ih =>
    intro s l g h1 h2
    by_cases h : l.length < 64
    · rw [cmp_end _ _ _ h, cmp_end _ _ _ h]
    · cases g with
      | zero => omega
      | succ g =>
        rw [cmp_step _ _ _ h, cmp_step _ _ _ h]
        exact ih _ _ _ (by rw [List.length_drop]; omega) (by rw [List.length_drop]; omega)
theorem cmp_append : ∀ (k : Nat) (s : S8) (a b : List UInt8) (f : Nat), a.length = 64 * k → cmp (f + k) s (a ++ b) = cmp f (cmp k s a) b := by
  intro k
  induction k with
  | zero =>
    intro s a b f h
    obtain rfl : a = [] := List.length_eq_zero_iff.1 (by omega)
    rfl
  | succ k ih =>
    intro s a b f h
    rw [← Nat.add_assoc, cmp_step _ _ _ (by rw [List.length_append]; omega), cmp_step _ _ a (by omega), List.take_append_of_le_length (by omega), List.drop_append_of_le_length (by omega)]
    exact ih _ _ _ _ (by rw [List.length_drop]; omega)
theorem sha_same (l : List UInt8) (h : l.length ≤ 1048576) : dig (cmp (padR l).length H0 (padR l)) = shaL l := by
  unfold shaL
  congr 1
  have hm : l.length - l.length % 64 = 64 * (l.length / 64) := by omega
  generalize hk : l.length / 64 = k at hm
  rw [hm]
  have hpad : padR l = l.take (64 * k) ++ padL (l.drop (64 * k)) l.length := by
    unfold padR padL
    rw [show l.length * 8 = 8 * l.length by omega, len_same _ (by omega), List.length_drop, show zs (l.length - 64 * k + 1) = zs (l.length + 1) by unfold zs; omega]
    simp only [← List.append_assoc]
    rw [List.take_append_drop]
  have ht : (l.take (64 * k)).length = 64 * k := by rw [List.length_take]; omega
  have hf := cmp_fuel (padR l).length H0 (padR l) ((padL (l.drop (64 * k)) l.length).length + k) (by omega) (by
    rw [hpad, List.length_append, ht]; omega)
  rw [hf, hpad, cmp_append k _ _ _ _ ht, cmp_fuel k H0 (l.take (64 * k)) (64 * k) (by rw [ht]; omega) (by rw [ht]; omega)]

set_option maxRecDepth 100000 in
set_option maxHeartbeats 1600000 in
theorem sums_any (x : ByteArray) (w : World) (hx : x.size ≤ 1048576) (hT : Tabs w) :
    Calls Tryd.prog 3 #[.string x] w fun e w' => e = .returned (.bool true) ∧ Below w.heap.size w w' := by
  have HT := hide hT
  clear hT
  have hzt := zero_tab
  have hzl := z72_length
  have hns := newsums_any
  have hrn := fun wq => rnew_any x wq hx
  have htl := tab_length
  have hdl : (shaL x.data.toList).length = 32 := dgk_length _ 8 (Nat.le_refl _)
  rw [sha_same x.data.toList hx] at hrn
  have hpn := fun wq h => NewSum_any x wq (by omega) h
  have hpo := fun wq => OldSum_any x wq (by unfold maxLen; omega)
  have hro := fun wq => rOld_any x wq (by unfold maxLen; omega)
  unfold tabV at hns hrn
  generalize z72 = z7 at hzt hzl
  generalize Hl ++ Kl = tb at hns hrn htl
  generalize shaL x.data.toList = d8 at hrn hpn hdl
  generalize wk x.data.toList = o at hpo hro
  have K1 := hide (show (Tryd.prog.info? 26).map (·.size) = some (ucells tb).toArray.size by rw [ucells_size, htl]; exact info_tab)
  have K2 := hide (show (ucells z7).toArray.size = (ucells tb).toArray.size by rw [ucells_size, ucells_size, htl, hzl])
  have K3 := hide (show (Tryd.prog.info? 31).map (·.size) = some (bcells d8).toArray.size by rw [bcells_size, hdl]; exact info_dg)
  have K4 := hide (show (bcells z32).toArray.size = (bcells d8).toArray.size by rw [bcells_size, bcells_size, hdl]; rfl)
  have hsame := fun wq => digest_same d8 hdl wq
  clear htl hzl hdl
  go_enter Tryd.func3, Tryd.ntmps3
  go_wp2_with (first | (go_at_call 13; (with_reducible refine (hns _).mono ?_); rintro e w1 ⟨rfl, hb1⟩) | ((with_reducible refine at_store ?_); refine wpList_store_row rfl 26 _ _ rfl w1.heap.size (ucells tb).toArray rfl rfl 26 _ (heap_alloc_new w1 _) (unhide K1) (unhide K2) (ucells_one tb) ?_) | (go_at_call 14; (with_reducible refine (hpo _).mono ?_); rintro e w2 ⟨rfl, he⟩; cases he))
  have hbA : Below w.heap.size w ((w1.alloc (.cells (ucells z7).toArray 26)).setRow w1.heap.size (ucells tb).toArray) := below_row (hb1.alloc hb1.size _) hb1.size _
  have gA : URow ((w1.alloc (.cells (ucells z7).toArray 26)).setRow w1.heap.size (ucells tb).toArray) w1.heap.size 26 tb := heap_put_new _ _ _ _
  have hGA := hb1.size
  generalize ((w1.alloc (.cells (ucells z7).toArray 26)).setRow w1.heap.size (ucells tb).toArray) = WA at hbA gA ⊢
  generalize w1.heap.size = GA at *
  clear hb1 hns hzt K2
  refine (hpn _ ((unhide HT).below hbA (Nat.le_refl _))).mono ?_
  rintro e w2 ⟨rfl, hb2⟩
  have gB := gA.below hb2 (Nat.le_refl _)
  have hbB := hbA.trans (hb2.mono hbA.size)
  clear gA hbA hb2 HT hpn hpo
  have hlB := gB.lt
  have GB := hide gB
  clear gB
  go_wp2_with (first | ((with_reducible refine at_store ?_); refine wpList_store_row rfl 31 _ _ rfl w2.heap.size (bcells d8).toArray rfl rfl 31 _ (heap_alloc_new w2 _) (unhide K3) (unhide K4) (bcells_one d8) ?_) | (go_at_call 16; (with_reducible refine (hro _).mono ?_); rintro e w3 ⟨rfl, he⟩; cases he) | ((with_reducible refine at_load ?_); refine wpList_load_row rfl 26 _ rfl GA rfl 26 (ucells tb).toArray (0, 0) _ ((heap_put_old w2 _ _ _ _ hlB).trans (unhide GB)) Tryd.underlying26 rfl (unhide K1) ?_))
  rw [← z32_cells]
  have hbC : Below w.heap.size w ((w2.alloc (.cells (bcells z32).toArray 31)).setRow w2.heap.size (bcells d8).toArray) := below_row (hbB.alloc hbB.size _) hbB.size _
  have gC : BRow ((w2.alloc (.cells (bcells z32).toArray 31)).setRow w2.heap.size (bcells d8).toArray) w2.heap.size 31 d8 := heap_put_new _ _ _ _
  have hGC := hbB.size
  generalize ((w2.alloc (.cells (bcells z32).toArray 31)).setRow w2.heap.size (bcells d8).toArray) = WC at hbC gC ⊢
  generalize w2.heap.size = GC at *
  clear hbB GB
  refine (hrn _).mono ?_
  rintro e w4 ⟨rfl, hb4⟩
  have gD : BRow w4 GC 31 d8 := by unfold BRow; rw [hb4.block _ (lt_of_block gC)]; exact gC
  have hbD := hbC.trans (hb4.mono hbC.size)
  have hlD := lt_of_block gD
  clear gC hbC hb4 hrn hro
  have GD := hide gD
  clear gD
  go_wp2_with (first | ((with_reducible refine at_store ?_); refine wpList_store_row rfl 31 _ _ rfl w4.heap.size (bcells d8).toArray rfl rfl 31 _ (heap_alloc_new w4 _) (unhide K3) (unhide K4) (bcells_one d8) ?_) | ((with_reducible refine at_load2 ?_); first | refine wpList_load_row_w (by rfl) 31 _ rfl GC (by rfl) 31 (bcells d8).toArray (0, 0) _ ((heap_put_old w4 _ _ _ _ hlD).trans (unhide GD)) Tryd.underlying31 rfl (unhide K3) ?_ | refine wpList_load_row_w (by rfl) 31 _ rfl w4.heap.size (by rfl) 31 (bcells d8).toArray (0, 0) _ (heap_put_new w4 _ _ _) Tryd.underlying31 rfl (unhide K3) ?_))
  go_ret
  exact ⟨rfl, below_row (hbD.alloc hbD.size _) hbD.size _⟩
end Go.Proofs.YtanfolfopalbeaaDoor
namespace Go.Proofs.YtanfolfopalbeaaDoor
open Go.RowKit

set_option maxHeartbeats 400000 in
theorem rhalf_any (n : Nat) (w : World) (hn : n ≤ 1099511627776) :
    Calls Tryd.prog 64 #[.int .i64 n] w fun e w' => e = .returned (.int .i64 (half n)) ∧ w' = w := by
  go_enter Tryd.func64, Tryd.ntmps64
  go_wp2
  go_loop [3] (fun v => ∃ m : Nat, (∃ j, m = 2 ^ j) ∧ (m < n ∨ m = 1) ∧ 0 < m ∧ v = .int .i64 m) (fun v => n - (intOf v).toNat)
  case atStart => exact ⟨1, ⟨0, rfl⟩, .inr rfl, by omega, rfl⟩
  case round =>
    obtain ⟨m, hj, hm, hm0, rfl⟩ := hrel
    have HJ := hide hj
    clear hj
    have hm1 : (m : Int) ≤ 1099511627776 := by omega
    by_cases hlt : m + m < n
    · have hd : decide ((m : Int) + (m : Int) < (n : Int)) = true := by simp; omega
      go_wp2
      go_round
      case rel =>
        obtain ⟨j, hj⟩ := unhide HJ
        exact ⟨m + m, ⟨j + 1, by rw [Nat.pow_succ, hj]; omega⟩, .inl hlt, by omega, val_int (by omega)⟩
      case measure => simp [intOf]; omega
    · have hd : decide ((m : Int) + (m : Int) < (n : Int)) = false := by simp; omega
      go_wp2
      go_ret
      obtain ⟨j, hj⟩ := unhide HJ
      refine ⟨ret_int ?_, rfl⟩
      by_cases h2 : m < n
      · rw [half_of n j (by omega) (by omega), hj]
      · rw [half_small n (by omega)]; omega

/-- A table by which the reference's New is the strong sum. -/
def TabOk (tb : List Nat) : Prop := tb.length = 72 ∧ ∀ (s : ByteArray) (w : World), s.size ≤ 1048576 →
  Calls Tryd.prog 17 #[.agg (ucells tb).toArray, .string s] w fun e w' => e = .returned (.agg (bcells (shaL s.data.toList)).toArray) ∧ Below w.heap.size w w'
theorem tabOk : TabOk (Hl ++ Kl) := ⟨tab_length, fun s w hs => by
  have := rnew_any s w hs
  rw [sha_same s.data.toList hs] at this
  exact this⟩
theorem v_tab (tb : List Nat) (h : tb.length = 72) : (Tryd.prog.info? 26).map (·.size) = some (ucells tb).toArray.size := by rw [ucells_size, h]; exact info_tab
theorem v_tabm (tb : List Nat) (h : tb.length = 72) : (Tryd.prog.info? 26).map (·.size) = some (ucells tb).length := by rw [ucells_length, h]; exact info_tab

set_option maxRecDepth 100000 in
set_option maxHeartbeats 400000 in
theorem rleaf_any (tb : List Nat) (ht : TabOk tb) (x : ByteArray) (w : World) (hx : x.size ≤ 1048575) :
    Calls Tryd.prog 63 #[.agg (ucells tb).toArray, .string x] w fun e w' => e = .returned (.agg (bcells (lf x)).toArray) ∧ Below w.heap.size w w' := by
  have VT := hide (v_tab tb ht.1)
  have hN := fun wq => ht.2 (ByteArray.mk #[0] ++ x) wq (by rw [cons_size]; omega)
  rw [cons_data] at hN
  have hdl : (lf x).length = 32 := sha_length _
  rw [show shaL (0 :: x.data.toList) = lf x from rfl] at hN
  generalize lf x = d8 at hN hdl ⊢
  have V2 := hide (v_dg d8 hdl)
  have V3 := hide (v_z32 d8 hdl)
  obtain ⟨hbel0, g0, g1⟩ := two_new w (.cells (ucells tb).toArray 26) (.cells (bcells z32).toArray 31)
  have K0 := hide hbel0
  have G0 := hide g0
  have G1 := hide g1
  clear hbel0 g0 g1
  go_enter Tryd.func63, Tryd.ntmps63
  go_upto_region 1 with fail
  rw [← z32_cells]
  generalize ((w.alloc (.cells (ucells tb).toArray 26)).alloc (.cells (bcells z32).toArray 31)) = W0 at K0 G0 G1 ⊢
  go_wp2_with ((with_reducible refine at_load ?_); refine wpList_load_row rfl 26 _ rfl w.heap.size (by rfl) 26 (ucells tb).toArray (0, 0) _ (unhide G0) Tryd.underlying26 rfl (unhide VT) ?_)
  refine (hN _).mono ?_
  rintro e w1 ⟨rfl, hb1⟩
  have hbel1 := (unhide K0).trans (hb1.mono (unhide K0).size)
  have V1 := hide (show BRow w1 (w.heap.size + 1) 31 z32 from (hb1.block _ (lt_of_block (unhide G1))).trans (unhide G1))
  clear hb1 hN K0 G0 G1
  go_wp2_with ((with_reducible refine at_store ?_); refine wpList_store_row rfl 31 _ _ rfl (w.heap.size + 1) (bcells d8).toArray rfl rfl 31 _ (unhide V1) (unhide V2) (unhide V3) (bcells_one d8) ?_)
  refine bodyPost_ret (v := .agg (bcells d8).toArray) ?_ rfl ⟨rfl, below_row hbel1 (by omega) _⟩
  exact results_cell_row Tryd.results63 _ _ (w.heap.size + 1) 31 _ (0, 0) _ rfl (setRow_heap _ _ _ _ _ _ (unhide V1)) Tryd.underlying31 rfl (unhide V2)

theorem there_of_brow {w : World} {g : Nat} {t : TypeId} {d : List UInt8} (h : BRow w g t d) (hd : d.length = 32) : w.there g 0 32 := fun j hj => by
  rw [Nat.zero_add]
  exact ⟨by rw [h.cell j (by omega)]; rfl, h.free j⟩
/-- What the node's region reads. -/
theorem node_S {g : Nat} {tb : List Nat} {a b c : List UInt8} {w' : World} (ha : a.length = 32) (hb : b.length = 32) (hc : c.length = 32) (htl : tb.length = 72) (h0 : URow w' g 26 tb) (h1 : BRow w' (g + 1) 31 a) (h2 : BRow w' (g + 1 + 1) 31 b) (h3 : BRow w' (g + 1 + 1 + 1) 31 c) :
    w'.rangeAt g 0 (ucells tb) ∧ w'.there (g + 1 + 1 + 1) 0 32 ∧ Sem.run Tryd.prog (convert 45 9 (.slice (some ⟨g + 1, 0, none⟩) 32 32)) w' = .ok (.string (mk a)) w' ∧ Sem.run Tryd.prog (convert 45 9 (.slice (some ⟨g + 1 + 1, 0, none⟩) 32 32)) w' = .ok (.string (mk b)) w' := by
  refine ⟨?_, there_of_brow h3 hc, conv_row _ a w' ha h1, conv_row _ b w' hb h2⟩
  have := range_of_urow h0 72
  rwa [List.take_of_length_le (by omega)] at this
theorem brow_setCells {w : World} {g : Nat} {ty : TypeId} {l l2 : List UInt8} (h : BRow w g ty l) (hl : l.length = l2.length) : BRow (w.setCells g 0 (bcells l2)) g ty l2 := by
  unfold BRow
  rw [setCells_row g ty (bcells l2) 0 w _ h (by rw [bcells_size]; simp [bcells]; omega)]
  congr 3
  rw [List.take_zero, List.nil_append, List.drop_eq_nil_of_le (by simp [bcells]; omega), List.append_nil]
theorem four_new (w : World) (A B C E : Obj) : Below w.heap.size w ((((w.alloc A).alloc B).alloc C).alloc E) ∧ ((((w.alloc A).alloc B).alloc C).alloc E).heap[w.heap.size]? = some A ∧ ((((w.alloc A).alloc B).alloc C).alloc E).heap[w.heap.size + 1]? = some B ∧ ((((w.alloc A).alloc B).alloc C).alloc E).heap[w.heap.size + 1 + 1]? = some C ∧ ((((w.alloc A).alloc B).alloc C).alloc E).heap[w.heap.size + 1 + 1 + 1]? = some E := by
  obtain ⟨g0, g1, g2⟩ := heap3 w A B C
  have hb3 : Below w.heap.size w (((w.alloc A).alloc B).alloc C) := (((Below.refl _ _).alloc (Nat.le_refl _) _).alloc (by simp) _).alloc (by simp; omega) _
  have hs : (((w.alloc A).alloc B).alloc C).heap.size = w.heap.size + 1 + 1 + 1 := by simp
  have hbE := (Below.refl (((w.alloc A).alloc B).alloc C).heap.size (((w.alloc A).alloc B).alloc C)).alloc (Nat.le_refl _) E
  refine ⟨hb3.alloc (by omega) _, (hbE.block _ (by omega)).trans g0, (hbE.block _ (by omega)).trans g1, (hbE.block _ (by omega)).trans g2, ?_⟩
  have := heap_alloc_new (((w.alloc A).alloc B).alloc C) E
  rwa [hs] at this

set_option maxRecDepth 100000 in
set_option maxHeartbeats 1600000 in
theorem rnode_any (tb : List Nat) (ht : TabOk tb) (a b : List UInt8) (w : World) (ha : a.length = 32) (hb : b.length = 32) :
    Calls Tryd.prog 65 #[.agg (ucells tb).toArray, .agg (bcells a).toArray, .agg (bcells b).toArray] w fun e w' => e = .returned (.agg (bcells (nd a b)).toArray) ∧ Below w.heap.size w w' := by
  have htl := ht.1
  have VT := v_tabm tb htl
  have hnd : nd a b = shaL ((ByteArray.mk #[1] ++ mk a ++ mk b).data.toList) := by
    unfold nd
    rw [ByteArray.data_append, Array.toList_append, cons_data, mk_data, mk_data]
    rfl
  have hN := fun wq => ht.2 (ByteArray.mk #[1] ++ mk a ++ mk b) wq (by rw [ByteArray.size_append, cons_size, mk_size, mk_size]; omega)
  rw [← hnd] at hN
  have hdl : (nd a b).length = 32 := sha_length _
  generalize nd a b = d8 at hN hdl ⊢
  have V2 := hide (v_dg d8 hdl)
  have V4 := v_mid d8 hdl
  have hcl : (bcells d8).length = 32 := by simp [bcells, hdl]
  have hone := bcells_one' d8
  have hsA : (mk a).size = 32 := by rw [mk_size, ha]
  have hsB : (mk b).size = 32 := by rw [mk_size, hb]
  have hu26 := Tryd.underlying26
  have hu31 := Tryd.underlying31
  obtain ⟨hbel0, g0, g1, g2, g3⟩ := four_new w (.cells (ucells tb).toArray 26) (.cells (bcells a).toArray 31) (.cells (bcells b).toArray 31) (.cells (bcells z32).toArray 31)
  have K0 := hide hbel0
  have G0 := hide g0
  have G1 := hide g1
  have G2 := hide g2
  have G3 := hide g3
  clear hbel0 g0 g1 g2 g3 hnd
  go_enter Tryd.func65, Tryd.ntmps65
  go_upto_region 1 with fail
  rw [← z32_cells]
  generalize ((((w.alloc (.cells (ucells tb).toArray 26)).alloc (.cells (bcells a).toArray 31)).alloc (.cells (bcells b).toArray 31)).alloc (.cells (bcells z32).toArray 31)) = W0 at K0 G0 G1 G2 G3 ⊢
  have hr8 := node_S (w' := W0.drew) ha hb (show z32.length = 32 from rfl) htl (unhide G0) (unhide G1) (unhide G2) (unhide G3)
  have hu26 := Tryd.underlying26
  refine wp_region_held_drew (S := fun w' => w'.rangeAt w.heap.size 0 (ucells tb) ∧ w'.there (w.heap.size + 1 + 1 + 1) 0 32 ∧ Sem.run Tryd.prog (convert 45 9 (.slice (some ⟨w.heap.size + 1, 0, none⟩) 32 32)) w' = .ok (.string (mk a)) w' ∧ Sem.run Tryd.prog (convert 45 9 (.slice (some ⟨w.heap.size + 1 + 1, 0, none⟩) 32 32)) w' = .ok (.string (mk b)) w') (by kernel_rfl) hr8 (fun hHeld => ?_)
  refine wpAnyH_take (i := 0) rfl (by kernel_rfl) (by kernel_rfl) (by kernel_rfl) (fun _ _ _ h => h)
      (yieldsIf_load_mid (by rfl) 26 _ rfl w.heap.size 0 rfl (ucells tb) _ (fun _ h => h.1) Tryd.underlying26 rfl VT) hHeld ?_
  refine wpAnyH_take (i := 1) (v := .slice (some ⟨w.heap.size + 1, 0, none⟩) 32 32) rfl (by kernel_rfl) (by kernel_rfl) (by kernel_rfl) (fun _ _ _ h => h) (Or.inl ⟨by rfl, fun _ _ => by go_simp⟩) hHeld ?_
  refine wpAnyH_take (i := 2) (v := .string (mk a)) rfl (by kernel_rfl) (by kernel_rfl) (by kernel_rfl) (fun _ _ _ h => h) (Or.inl ⟨by rfl, fun _ hq => by have hq2 := hq.2.2.1; clear hq; go_simp⟩) hHeld ?_
  refine wpAnyH_take (i := 3) (v := .string (ByteArray.mk #[1] ++ mk a)) rfl (by kernel_rfl) (by kernel_rfl) (by kernel_rfl) (fun _ _ _ h => h) (Or.inl ⟨by rfl, fun _ _ => by go_simp⟩) hHeld ?_
  refine wpAnyH_take (i := 4) (v := .slice (some ⟨w.heap.size + 1 + 1, 0, none⟩) 32 32) rfl (by kernel_rfl) (by kernel_rfl) (by kernel_rfl) (fun _ _ _ h => h) (Or.inl ⟨by rfl, fun _ _ => by go_simp⟩) hHeld ?_
  refine wpAnyH_take (i := 5) (v := .string (mk b)) rfl (by kernel_rfl) (by kernel_rfl) (by kernel_rfl) (fun _ _ _ h => h) (Or.inl ⟨by rfl, fun _ hq => by have hq2 := hq.2.2.2; clear hq; go_simp⟩) hHeld ?_
  refine wpAnyH_take (i := 6) (v := .string (ByteArray.mk #[1] ++ mk a ++ mk b)) rfl (by kernel_rfl) (by kernel_rfl) (by kernel_rfl) (fun _ _ _ h => h) (Or.inl ⟨by rfl, fun _ _ => by go_simp⟩) hHeld ?_
  refine wpAnyH_ready (rs := [7]) (by kernel_rfl) (by simp) ?_
  refine AllReadyH.cons rfl (fun K hK => ?_) AllReadyH.nil
  go_simp
  go_at_call 17
  refine (hN _).mono ?_
  rintro e w1 ⟨rfl, hb1⟩
  have hbw1 : Below W0.heap.size W0 w1 := ⟨hb1.os, hb1.tape, hb1.output, hb1.size, hb1.block⟩
  have g0 : URow w1 w.heap.size 26 tb := (hbw1.block _ (lt_of_block (unhide G0))).trans (unhide G0)
  have g1 : BRow w1 (w.heap.size + 1) 31 a := (hbw1.block _ (lt_of_block (unhide G1))).trans (unhide G1)
  have g2 : BRow w1 (w.heap.size + 1 + 1) 31 b := (hbw1.block _ (lt_of_block (unhide G2))).trans (unhide G2)
  have g3 : BRow w1 (w.heap.size + 1 + 1 + 1) 31 z32 := (hbw1.block _ (lt_of_block (unhide G3))).trans (unhide G3)
  have hbel1 := (unhide K0).trans (hbw1.mono (unhide K0).size)
  dsimp only
  refine hK.out _ _ (node_S ha hb (show z32.length = 32 from rfl) htl g0 g1 g2 g3) (fun _ => ?_)
  clear hK K
  refine wpAnyH_ready (rs := [8]) (by kernel_rfl) (by simp) ?_
  refine AllReadyH.cons rfl (fun K hK => ?_) AllReadyH.nil
  rw [if_pos (by rfl)]
  refine wp_store_mid 31 _ _ rfl (w.heap.size + 1 + 1 + 1) 0 (bcells d8).toArray rfl rfl (by rw [bcells_size, hdl]; exact there_of_brow g3 rfl) (unhide V2) (bcells_one d8) ?_
  rw [show (bcells d8).toArray.toList = bcells d8 from rfl]
  have g4 : BRow (w1.setCells (w.heap.size + 1 + 1 + 1) 0 (bcells d8)) (w.heap.size + 1 + 1 + 1) 31 d8 := brow_setCells g3 (by rw [hdl]; rfl)
  have hbel2 : Below w.heap.size w (w1.setCells (w.heap.size + 1 + 1 + 1) 0 (bcells d8)) := below_setCells (by omega) _ _ hbel1
  have hS2 := node_S ha hb hdl htl (show URow (w1.setCells (w.heap.size + 1 + 1 + 1) 0 (bcells d8)) w.heap.size 26 tb from (setCells_other _ _ (by omega) _ _ _).trans g0) (show BRow (w1.setCells (w.heap.size + 1 + 1 + 1) 0 (bcells d8)) (w.heap.size + 1) 31 a from (setCells_other _ _ (by omega) _ _ _).trans g1) (show BRow (w1.setCells (w.heap.size + 1 + 1 + 1) 0 (bcells d8)) (w.heap.size + 1 + 1) 31 b from (setCells_other _ _ (by omega) _ _ _).trans g2) g4
  generalize w1.setCells (w.heap.size + 1 + 1 + 1) 0 (bcells d8) = w2 at g4 hbel2 hS2 ⊢
  refine hK.out _ _ hS2 (fun _ => ?_)
  clear hK K
  refine wpAnyH_done (by kernel_rfl) ?_ _
  go_wp2_with fail
  refine bodyPost_ret (v := .agg (bcells d8).toArray) ?_ rfl ⟨rfl, hbel2⟩
  exact results_cell_row Tryd.results65 _ _ (w.heap.size + 1 + 1 + 1) 31 _ (0, 0) _ rfl g4 Tryd.underlying31 rfl (unhide V2)
end Go.Proofs.YtanfolfopalbeaaDoor
namespace Go.Proofs.YtanfolfopalbeaaDoor
open Go.RowKit

/-- What lendDigests lays behind a list. -/
def d7 : List UInt8 := [7, 7, 7] ++ List.replicate 29 0
theorem d7_length : d7.length = 32 := rfl
theorem d7_cells : (bcells d7).toArray = #[.int .u8 7, .int .u8 7, .int .u8 7, .int .u8 0, .int .u8 0, .int .u8 0, .int .u8 0, .int .u8 0, .int .u8 0, .int .u8 0, .int .u8 0, .int .u8 0, .int .u8 0, .int .u8 0, .int .u8 0, .int .u8 0, .int .u8 0, .int .u8 0, .int .u8 0, .int .u8 0, .int .u8 0, .int .u8 0, .int .u8 0, .int .u8 0, .int .u8 0, .int .u8 0, .int .u8 0, .int .u8 0, .int .u8 0, .int .u8 0, .int .u8 0, .int .u8 0] := rfl
def lentD (ps : List (List UInt8)) : List (List UInt8) := ps ++ [d7, d7]
theorem lentD_length (ps : List (List UInt8)) : (lentD ps).length = ps.length + 2 := by simp [lentD]
theorem lentD_elem (ps : List (List UInt8)) (h : ∀ d ∈ ps, d.length = 32) : ∀ d ∈ lentD ps, d.length = 32 := by
  intro d hd
  simp only [lentD, List.mem_append, List.mem_cons, List.not_mem_nil, or_false, or_self] at hd
  rcases hd with hd | rfl
  · exact h d hd
  · rfl
theorem lentD_at (ps : List (List UInt8)) (k : Nat) (h0 : ps.length ≤ k) (h1 : k < ps.length + 2) : (lentD ps).getD k [] = d7 := by
  unfold lentD
  rw [List.getD, List.getElem?_append_right h0]
  have : k - ps.length = 0 ∨ k - ps.length = 1 := by omega
  rcases this with h | h <;> simp [h]

set_option maxRecDepth 100000 in
set_option maxHeartbeats 1600000 in
theorem lendD_any (v : Value) (ps : List (List UInt8)) (w : World) (h : Digs w v ps) (hm : ps.length ≤ 1048576) :
    Calls Tryd.prog 28 #[v] w fun e w' => e = .returned (.slice (some ⟨w.heap.size, 0, none⟩) (ps.length + 2) (ps.length + 2)) ∧
      w'.ownsRow w.heap.size 31 32 (.slice (some ⟨w.heap.size, 0, none⟩) (ps.length + 2) (ps.length + 2)) (ps.length + 2) (dcells (lentD ps)) ∧ Below w.heap.size w w' := by
  obtain ⟨i0, hi, hz0, hz1, hz2⟩ := info_parts info_dig
  obtain ⟨h0, ao, cap, rfl, hc1, hc2, hc⟩ := h
  have HC := hide hc
  have H0 := hide h0
  have HDL := hide (dcells_length ps h0)
  clear hc h0
  go_enter Tryd.func28, Tryd.ntmps28
  go_wp2_with (at_make; go_must (refine wpList_make_full _ rfl _ _ 50 rfl w.heap.size 31 i0 (.agg (bcells z32).toArray) 32 Tryd.underlying50 hi hz0 hz1 _ _ _ _ (ps.length + 2) rfl rfl (by omega) (by omega) (by rw [hz2]; omega) (by unfold maxLen; omega) (Nat.le_refl _) ?_))
  intro w1 hown1 hgrow1
  have hbel1 : Below w.heap.size w w1 := (Below.refl _ _).grown hgrow1 (Nat.le_refl _) (fun k h => by cases h)
  obtain ⟨hl1, h1⟩ := hown1
  rcases h1 with ⟨h1, _⟩ | ⟨g, cap1, cur, hv, hg1, hg2, hg3, hg4, hg5, hg6⟩
  · simp at h1
  simp only [Value.slice.injEq, Option.some.injEq, Addr.mk.injEq, and_true, true_and] at hv
  obtain ⟨hgB, hcap1⟩ := hv
  rw [← hcap1] at hg5
  rw [← hgB] at hg2
  have hcl : cur.toList.length = (ps.length + 2) * 32 := by rw [Array.length_toList]; exact hg5
  have hsrc : 0 < ps.length → ∃ ad, ao = some ad ∧ ∀ j v, (dcells ps)[j]? = some v → w1.cell? (ad.add j) = some v := by
    intro hp
    rcases unhide HC with rfl | ⟨b, off, rfl, hcc⟩
    · cases hp
    · refine ⟨_, rfl, fun j v hj => ?_⟩
      rw [add_none, hbel1.cell (p := ⟨b, off + j, none⟩) (cell_lt (hcc j v hj))]
      exact hcc j v hj
  have HG : Hid (w1.heap[w.heap.size]? = some (.cells cur.toList.toArray 31 (0, 0))) := hide (by rw [Array.toArray_toList]; exact hg2)
  have HSRC := hide hsrc
  have HCL := hide hcl
  have HINF := hide (show (Tryd.prog.info? 31).map (·.size) = some 32 from info_dg)
  clear hsrc hcl hg1 hg2 hg3 hg4 hg5 hg6 hl1 hgB hcap1 hgrow1
  go_wp2_with ((with_reducible refine at_copyD ?_); go_must (refine wpList_copy_big rfl (.tmp 9) (.tmp 10) 50 50 rfl 31 Tryd.underlying50 32 (unhide HINF) _ _ _ _ _ w.heap.size rfl rfl cur.toList 31 (unhide HG) (dcells ps) (by omega) ?c1 (unhide HSRC) ?c2 (dcells_one2 ps) w.heap.size w hbel1 (Nat.le_refl _) ?_))
  case c1 => have := unhide HDL; omega
  case c2 => have h5 := unhide HCL; have h6 := unhide HDL; omega
  intro w2 HG2 hbel2
  have hl0 : (dcells ps ++ cur.toList.drop (dcells ps).length).length = (ps.length + 2) * 32 := by
    rw [List.length_append, List.length_drop]
    have h5 := unhide HCL
    have h6 := unhide HDL
    omega
  have ht0 : (dcells ps ++ cur.toList.drop (dcells ps).length).take (ps.length * 32) = (dcells (lentD ps)).take (ps.length * 32) := by
    have h6 := unhide HDL
    have e : dcells (lentD ps) = dcells ps ++ dcells [d7, d7] := by simp [dcells, lentD]
    rw [e, List.take_left' (by omega), List.take_left' (by omega)]
  have hLe := lentD_elem ps (unhide H0)
  have hLl := lentD_length ps
  have hLa := lentD_at ps
  have hdL := dcells_length (lentD ps) hLe
  generalize dcells ps ++ cur.toList.drop (dcells ps).length = l0 at hl0 ht0 HG2
  generalize hLE : lentD ps = L at hLe hLl hLa hdL ht0
  have HLE := hide hLE
  clear hLE
  rw [hLl] at hdL
  have HDAT := hide (fun k hk => dcells_at L k hk)
  have HDTK := hide (fun k => dcells_length (L.take k) (fun d hd => hLe d (List.mem_of_mem_take hd)))
  have H7 := hide (v_dg d7 rfl)
  have HLA := hide hLa
  have HDL2 := hide hdL
  clear HC HSRC HG HCL hLe hLa hdL hbel1 HDL
  go_wp2_with fail
  go_loopw [4] (fun i wr => ∃ (k : Nat) (l2 : List Value), ps.length ≤ k ∧ k ≤ ps.length + 2 ∧ i = .int .i64 k ∧ l2.length = (ps.length + 2) * 32 ∧ l2.take (k * 32) = (dcells L).take (k * 32) ∧ wr.heap[w.heap.size]? = some (.cells l2.toArray 31 (0, 0)) ∧ Below w.heap.size w wr) (fun i _ => ps.length + 2 - (intOf i).toNat)
  case atStart => exact ⟨ps.length, l0, Nat.le_refl _, by omega, rfl, hl0, ht0, unhide HG2, hbel2⟩
  case round =>
    obtain ⟨k, l2, hk0, hk2, rfl, hl2, htk, hg, hbel⟩ := hrel
    have HGK := hide hg
    have HTK := hide htk
    clear hg htk
    by_cases hlt : k < ps.length + 2
    · have hthere : wr.there w.heap.size (k * 32) (bcells d7).toArray.size := fun j hj => by
        rw [bcells_size, d7_length] at hj
        refine ⟨?_, frozen_of_row wr w.heap.size _ _ _ (unhide HGK)⟩
        rw [cell_of_row wr w.heap.size _ _ _ _ (unhide HGK), List.getElem?_toArray, List.getElem?_eq_getElem (by omega)]
        rfl
      have HTH := hide hthere
      clear hthere
      have hd1 : decide ((k : Int) < (ps.length : Int) + 2) = true := by simp; omega
      have hka : (0 : Int) ≤ (k : Int) := by omega
      have hkb : (k : Int) < (ps.length : Int) + 2 := by omega
      go_wp2_with ((with_reducible refine at_store ?_); rw [← d7_cells]; refine wpList_store_mid rfl 31 _ _ rfl w.heap.size (k * 32) (bcells d7).toArray (by rfl) (by rfl) (unhide HTH) (unhide H7) (bcells_one d7) ?_)
      refine ⟨⟨k + 1, l2.take (k * 32) ++ bcells d7 ++ l2.drop (k * 32 + 32), by omega, by omega, by go_num, ?_, ?_, ?_, below_setCells (Nat.le_refl _) _ _ hbel⟩, by simp [intOf]; omega⟩
      · simp [bcells, d7_length]
        omega
      · have h6 := unhide HDTK k
        rw [List.length_take] at h6
        have e1 := unhide HDAT k (by omega)
        rw [unhide HLA k hk0 hlt] at e1
        have e2 : (dcells L).take (k * 32) = dcells (L.take k) := by
          rw [e1, List.append_assoc, List.take_left' (by omega)]
        rw [unhide HTK, e2]
        have hb7 : (bcells d7).length = 32 := rfl
        rw [List.take_left' (by rw [List.length_append]; omega)]
        rw [e1, List.take_left' (by rw [List.length_append]; omega)]
      · rw [setCells_row w.heap.size 31 (bcells d7) (k * 32) wr _ (unhide HGK) (by simp [bcells, d7_length]; omega)]
        rfl
    · have hd1 : decide ((k : Int) < (ps.length : Int) + 2) = false := by simp; omega
      have hle : l2 = dcells L := by
        have h5 := unhide HTK
        have h6 := unhide HDL2
        rw [List.take_of_length_le (by omega), List.take_of_length_le (by omega)] at h5
        exact h5
      have HO := hide (show wr.ownsRow w.heap.size 31 32 (.slice (some ⟨w.heap.size, 0, none⟩) (ps.length + 2) (ps.length + 2)) (ps.length + 2) (dcells (lentD ps)) from
        ⟨by rw [unhide HLE, unhide HDL2]; omega, .inr ⟨w.heap.size, ps.length + 2, _, rfl, Nat.le_refl _, unhide HGK, Nat.le_refl _, by unfold maxLen; omega, by simp [hl2], by rw [unhide HLE, ← hle, List.take_of_length_le (by simp [hl2])]⟩⟩)
      clear hle
      go_wp2
      go_ret
      exact ⟨rfl, unhide HO, hbel⟩

set_option maxRecDepth 100000 in
set_option maxHeartbeats 400000 in
theorem sameD_empty (ao ao' : Option Addr) (cap cap' : Nat) (w : World) :
    Calls Tryd.prog 31 #[.slice ao 0 cap, .slice ao' 0 cap'] w fun e w' => e = .returned (.bool true) ∧ Below w.heap.size w w' := by
  go_enter Tryd.func31, Tryd.ntmps31
  go_wp2
  refine wp_loop_rounds 1 ?_
  rw [rounds_succ]
  go_wp2
  go_ret
  exact ⟨rfl, Below.refl _ _⟩

set_option maxRecDepth 100000 in
set_option maxHeartbeats 1600000 in
theorem sameD_some (b off cap b' off' cap' : Nat) (ps : List (List UInt8)) (w : World) (hm : ps.length ≤ 2097152) (hD : Digs w (.slice (some ⟨b, off, none⟩) ps.length cap) ps) (hD' : Digs w (.slice (some ⟨b', off', none⟩) ps.length cap') ps) :
    Calls Tryd.prog 31 #[.slice (some ⟨b, off, none⟩) ps.length cap, .slice (some ⟨b', off', none⟩) ps.length cap'] w fun e w' => e = .returned (.bool true) ∧ Below w.heap.size w w' := by
  have HD := hide hD
  have HD' := hide hD'
  clear hD hD'
  have hne : ((ps.length : Int) != (ps.length : Int)) = false := by simp
  have hu31 := Tryd.underlying31
  go_enter Tryd.func31, Tryd.ntmps31
  go_wp2
  go_loopw [5] (fun i wr => ∃ k : Nat, k ≤ ps.length ∧ i = .int .i64 k ∧ Below w.heap.size w wr) (fun i _ => ps.length - (intOf i).toNat)
  case atStart => exact ⟨0, Nat.zero_le _, rfl, Below.refl _ _⟩
  case round =>
    obtain ⟨k, hk, rfl, hbel⟩ := hrel
    by_cases hlt : k < ps.length
    · have hr1 := rangeAt_below (digs_at (unhide HD) k hlt) hbel (Nat.le_refl _)
      have hr2 := rangeAt_below (digs_at (unhide HD') k hlt) hbel (Nat.le_refl _)
      have hdl := digs_len (unhide HD) k hlt
      generalize ps.getD k [] = d at hr1 hr2 hdl
      have hmi := v_mid d hdl
      have hsame := fun wq => digest_same d hdl wq
      have hlti : (k : Int) < (ps.length : Int) := by omega
      have hk0 : (0 : Int) ≤ (k : Int) := by omega
      have hr8 : wr.drew.rangeAt b (off + k * 32) (bcells d) ∧ wr.drew.rangeAt b' (off' + k * 32) (bcells d) := ⟨hr1, hr2⟩
      clear hr1 hr2
      go_wp2_with fail
      refine wp_region_held_drew (S := fun w' => w'.rangeAt b (off + k * 32) (bcells d) ∧ w'.rangeAt b' (off' + k * 32) (bcells d)) (by kernel_rfl) hr8 (fun hHeld => ?_)
      refine wpAnyH_take (i := 0) (v := .slice (some ⟨b, off, none⟩) ps.length cap) rfl (by kernel_rfl) (by kernel_rfl) (by kernel_rfl) (fun _ _ _ h => h) (Or.inl ⟨by rfl, fun _ _ => by go_simp⟩) hHeld ?_
      simp only [List.getElem_toArray, List.getElem_cons_zero, Act.put, List.setIfInBounds_toArray, List.set_cons_zero, List.set_cons_succ]
      refine wpAnyH_take (i := 1) (v := .int .i64 k) rfl (by kernel_rfl) (by kernel_rfl) (by kernel_rfl) (fun _ _ _ h => h) (Or.inl ⟨by rfl, fun _ _ => by go_simp⟩) hHeld ?_
      simp only [List.getElem_toArray, List.getElem_cons_zero, List.getElem_cons_succ, Act.put, List.setIfInBounds_toArray, List.set_cons_zero, List.set_cons_succ]
      refine wpAnyH_take (i := 2) (v := .pointer (some ⟨b, off + k * 32, none⟩)) rfl (by kernel_rfl) (by kernel_rfl) (by kernel_rfl) (fun _ _ _ h => h) (Or.inl ⟨by rfl, fun _ _ => by go_simp⟩) hHeld ?_
      simp only [List.getElem_toArray, List.getElem_cons_zero, List.getElem_cons_succ, Act.put, List.setIfInBounds_toArray, List.set_cons_zero, List.set_cons_succ]
      refine wpAnyH_take (i := 3) rfl (by kernel_rfl) (by kernel_rfl) (by kernel_rfl) (fun _ _ _ h => h) (yieldsIf_load_mid (by rfl) 31 _ rfl b (off + k * 32) rfl (bcells d) _ (fun _ h => h.1) Tryd.underlying31 rfl hmi) hHeld ?_
      simp only [List.getElem_toArray, List.getElem_cons_zero, List.getElem_cons_succ, Act.put, List.setIfInBounds_toArray, List.set_cons_zero, List.set_cons_succ]
      refine wpAnyH_take (i := 4) (v := .slice (some ⟨b', off', none⟩) ps.length cap') rfl (by kernel_rfl) (by kernel_rfl) (by kernel_rfl) (fun _ _ _ h => h) (Or.inl ⟨by rfl, fun _ _ => by go_simp⟩) hHeld ?_
      simp only [List.getElem_toArray, List.getElem_cons_zero, List.getElem_cons_succ, Act.put, List.setIfInBounds_toArray, List.set_cons_zero, List.set_cons_succ]
      refine wpAnyH_take (i := 5) (v := .int .i64 k) rfl (by kernel_rfl) (by kernel_rfl) (by kernel_rfl) (fun _ _ _ h => h) (Or.inl ⟨by rfl, fun _ _ => by go_simp⟩) hHeld ?_
      simp only [List.getElem_toArray, List.getElem_cons_zero, List.getElem_cons_succ, Act.put, List.setIfInBounds_toArray, List.set_cons_zero, List.set_cons_succ]
      refine wpAnyH_take (i := 6) (v := .pointer (some ⟨b', off' + k * 32, none⟩)) rfl (by kernel_rfl) (by kernel_rfl) (by kernel_rfl) (fun _ _ _ h => h) (Or.inl ⟨by rfl, fun _ _ => by go_simp⟩) hHeld ?_
      simp only [List.getElem_toArray, List.getElem_cons_zero, List.getElem_cons_succ, Act.put, List.setIfInBounds_toArray, List.set_cons_zero, List.set_cons_succ]
      refine wpAnyH_take (i := 7) rfl (by kernel_rfl) (by kernel_rfl) (by kernel_rfl) (fun _ _ _ h => h) (yieldsIf_load_mid (by rfl) 31 _ rfl b' (off' + k * 32) rfl (bcells d) _ (fun _ h => h.2) Tryd.underlying31 rfl hmi) hHeld ?_
      simp only [List.getElem_toArray, List.getElem_cons_zero, List.getElem_cons_succ, Act.put, List.setIfInBounds_toArray, List.set_cons_zero, List.set_cons_succ]
      refine wpAnyH_take (i := 8) (v := .bool false) rfl (by kernel_rfl) (by kernel_rfl) (by kernel_rfl) (fun _ _ _ h => h) (Or.inl ⟨by rfl, fun _ _ => by go_simp⟩) hHeld ?_
      simp only [List.getElem_toArray, List.getElem_cons_zero, List.getElem_cons_succ, Act.put, List.setIfInBounds_toArray, List.set_cons_zero, List.set_cons_succ]
      refine wpAnyH_done (by kernel_rfl) ?_ _
      clear hsame hr8 hHeld hu31
      go_wp2_with fail
      go_roundw
      case rel => exact ⟨k + 1, by omega, by go_num, hbel.drew⟩
      case measure => simp [intOf]; omega
    · go_wp2
      go_ret
      exact ⟨rfl, hbel⟩
theorem sameD_any (v v' : Value) (ps : List (List UInt8)) (w : World) (h : Digs w v ps) (h' : Digs w v' ps) (hm : ps.length ≤ 2097152) :
    Calls Tryd.prog 31 #[v, v'] w fun e w' => e = .returned (.bool true) ∧ Below w.heap.size w w' := by
  by_cases h0 : ps.length = 0
  · obtain ⟨_, ao, cap, rfl, _⟩ := h
    obtain ⟨_, ao', cap', rfl, _⟩ := h'
    rw [h0]
    exact sameD_empty ao ao' cap cap' w
  · obtain ⟨b, off, cap, rfl, _, _⟩ := digs_shape h (by omega)
    obtain ⟨b', off', cap', rfl, _, _⟩ := digs_shape h' (by omega)
    exact sameD_some b off cap b' off' cap' ps w hm h h'
end Go.Proofs.YtanfolfopalbeaaDoor
namespace Go.Proofs.YtanfolfopalbeaaDoor
open Go.RowKit

set_option maxRecDepth 100000 in
set_option maxHeartbeats 1600000 in
theorem lendK_any (v : Value) (ps : List (List UInt8)) (w : World) (h : Digs w v ps) (hm : ps.length * 32 ≤ 140737488351232) :
    Calls Tryd.prog 39 #[v] w fun e w' => e = .returned (.slice (some ⟨w.heap.size, 0, none⟩) (ps.length + 2) (ps.length + 2)) ∧
      w'.ownsRow w.heap.size 126 32 (.slice (some ⟨w.heap.size, 0, none⟩) (ps.length + 2) (ps.length + 2)) (ps.length + 2) (dcells (lentD ps)) ∧ Below w.heap.size w w' := by
  obtain ⟨i0, hi, hz0, hz1, hz2⟩ := info_parts info_sec
  obtain ⟨h0, ao, cap, rfl, hc1, hc2, hc⟩ := h
  have HC := hide hc
  have H0 := hide h0
  have HDL := hide (dcells_length ps h0)
  clear hc h0
  go_enter Tryd.func39, Tryd.ntmps39
  go_wp2_with (at_make; go_must (refine wpList_make_full _ rfl _ _ 52 rfl w.heap.size 126 i0 (.agg (bcells z32).toArray) 32 Tryd.underlying52 hi hz0 hz1 _ _ _ _ (ps.length + 2) rfl rfl (by omega) (by omega) (by rw [hz2]; omega) (by unfold maxLen; omega) (Nat.le_refl _) ?_))
  intro w1 hown1 hgrow1
  have hbel1 : Below w.heap.size w w1 := (Below.refl _ _).grown hgrow1 (Nat.le_refl _) (fun k h => by cases h)
  obtain ⟨hl1, h1⟩ := hown1
  rcases h1 with ⟨h1, _⟩ | ⟨g, cap1, cur, hv, hg1, hg2, hg3, hg4, hg5, hg6⟩
  · simp at h1
  simp only [Value.slice.injEq, Option.some.injEq, Addr.mk.injEq, and_true, true_and] at hv
  obtain ⟨hgB, hcap1⟩ := hv
  rw [← hcap1] at hg5
  rw [← hgB] at hg2
  have hcl : cur.toList.length = (ps.length + 2) * 32 := by rw [Array.length_toList]; exact hg5
  have hsrc : 0 < ps.length → ∃ ad, ao = some ad ∧ ∀ j v, (dcells ps)[j]? = some v → w1.cell? (ad.add j) = some v := by
    intro hp
    rcases unhide HC with rfl | ⟨b, off, rfl, hcc⟩
    · cases hp
    · refine ⟨_, rfl, fun j v hj => ?_⟩
      rw [add_none, hbel1.cell (p := ⟨b, off + j, none⟩) (cell_lt (hcc j v hj))]
      exact hcc j v hj
  have HG : Hid (w1.heap[w.heap.size]? = some (.cells cur.toList.toArray 126 (0, 0))) := hide (by rw [Array.toArray_toList]; exact hg2)
  have HSRC := hide hsrc
  have HCL := hide hcl
  have HINF := hide (show (Tryd.prog.info? 126).map (·.size) = some 32 from info_sc)
  clear hsrc hcl hg1 hg2 hg3 hg4 hg5 hg6 hl1 hgB hcap1 hgrow1
  go_wp2_with ((with_reducible refine at_copyD ?_); go_must (refine wpList_copy_big rfl (.tmp 9) (.tmp 10) 52 52 rfl 126 Tryd.underlying52 32 (unhide HINF) _ _ _ _ _ w.heap.size rfl rfl cur.toList 126 (unhide HG) (dcells ps) (by omega) ?c1 (unhide HSRC) ?c2 (dcells_one2 ps) w.heap.size w hbel1 (Nat.le_refl _) ?_))
  case c1 => have := unhide HDL; omega
  case c2 => have h5 := unhide HCL; have h6 := unhide HDL; omega
  intro w2 HG2 hbel2
  have hl0 : (dcells ps ++ cur.toList.drop (dcells ps).length).length = (ps.length + 2) * 32 := by
    rw [List.length_append, List.length_drop]
    have h5 := unhide HCL
    have h6 := unhide HDL
    omega
  have ht0 : (dcells ps ++ cur.toList.drop (dcells ps).length).take (ps.length * 32) = (dcells (lentD ps)).take (ps.length * 32) := by
    have h6 := unhide HDL
    have e : dcells (lentD ps) = dcells ps ++ dcells [d7, d7] := by simp [dcells, lentD]
    rw [e, List.take_left' (by omega), List.take_left' (by omega)]
  have hLe := lentD_elem ps (unhide H0)
  have hLl := lentD_length ps
  have hLa := lentD_at ps
  have hdL := dcells_length (lentD ps) hLe
  generalize dcells ps ++ cur.toList.drop (dcells ps).length = l0 at hl0 ht0 HG2
  generalize hLE : lentD ps = L at hLe hLl hLa hdL ht0
  have HLE := hide hLE
  clear hLE
  rw [hLl] at hdL
  have HDAT := hide (fun k hk => dcells_at L k hk)
  have HDTK := hide (fun k => dcells_length (L.take k) (fun d hd => hLe d (List.mem_of_mem_take hd)))
  have H7 := hide (v_sc d7 rfl)
  have HLA := hide hLa
  have HDL2 := hide hdL
  clear HC HSRC HG HCL hLe hLa hdL hbel1 HDL
  go_wp2_with fail
  go_loopw [4] (fun i wr => ∃ (k : Nat) (l2 : List Value), ps.length ≤ k ∧ k ≤ ps.length + 2 ∧ i = .int .i64 k ∧ l2.length = (ps.length + 2) * 32 ∧ l2.take (k * 32) = (dcells L).take (k * 32) ∧ wr.heap[w.heap.size]? = some (.cells l2.toArray 126 (0, 0)) ∧ Below w.heap.size w wr) (fun i _ => ps.length + 2 - (intOf i).toNat)
  case atStart => exact ⟨ps.length, l0, Nat.le_refl _, by omega, rfl, hl0, ht0, unhide HG2, hbel2⟩
  case round =>
    obtain ⟨k, l2, hk0, hk2, rfl, hl2, htk, hg, hbel⟩ := hrel
    have HGK := hide hg
    have HTK := hide htk
    clear hg htk
    by_cases hlt : k < ps.length + 2
    · have hthere : wr.there w.heap.size (k * 32) (bcells d7).toArray.size := fun j hj => by
        rw [bcells_size, d7_length] at hj
        refine ⟨?_, frozen_of_row wr w.heap.size _ _ _ (unhide HGK)⟩
        rw [cell_of_row wr w.heap.size _ _ _ _ (unhide HGK), List.getElem?_toArray, List.getElem?_eq_getElem (by omega)]
        rfl
      have HTH := hide hthere
      clear hthere
      have hd1 : decide ((k : Int) < (ps.length : Int) + 2) = true := by simp; omega
      have hka : (0 : Int) ≤ (k : Int) := by omega
      have hkb : (k : Int) < (ps.length : Int) + 2 := by omega
      go_wp2_with ((with_reducible refine at_store ?_); rw [← d7_cells]; refine wpList_store_mid rfl 126 _ _ rfl w.heap.size (k * 32) (bcells d7).toArray (by rfl) (by rfl) (unhide HTH) (unhide H7) (bcells_one d7) ?_)
      refine ⟨⟨k + 1, l2.take (k * 32) ++ bcells d7 ++ l2.drop (k * 32 + 32), by omega, by omega, by go_num, ?_, ?_, ?_, below_setC (Nat.le_refl _) _ _ hbel⟩, by simp [intOf]; omega⟩
      · simp [bcells, d7_length]
        omega
      · have h6 := unhide HDTK k
        rw [List.length_take] at h6
        have e1 := unhide HDAT k (by omega)
        rw [unhide HLA k hk0 hlt] at e1
        have e2 : (dcells L).take (k * 32) = dcells (L.take k) := by
          rw [e1, List.append_assoc, List.take_left' (by omega)]
        rw [unhide HTK, e2]
        have hb7 : (bcells d7).length = 32 := rfl
        rw [List.take_left' (by rw [List.length_append]; omega)]
        rw [e1, List.take_left' (by rw [List.length_append]; omega)]
      · rw [setC_row w.heap.size 126 (bcells d7) (k * 32) wr _ (unhide HGK) (by simp [bcells, d7_length]; omega)]
        rfl
    · have hd1 : decide ((k : Int) < (ps.length : Int) + 2) = false := by simp; omega
      have hle : l2 = dcells L := by
        have h5 := unhide HTK
        have h6 := unhide HDL2
        rw [List.take_of_length_le (by omega), List.take_of_length_le (by omega)] at h5
        exact h5
      have HO := hide (show wr.ownsRow w.heap.size 126 32 (.slice (some ⟨w.heap.size, 0, none⟩) (ps.length + 2) (ps.length + 2)) (ps.length + 2) (dcells (lentD ps)) from
        ⟨by rw [unhide HLE, unhide HDL2]; omega, .inr ⟨w.heap.size, ps.length + 2, _, rfl, Nat.le_refl _, unhide HGK, Nat.le_refl _, by unfold maxLen; omega, by simp [hl2], by rw [unhide HLE, ← hle, List.take_of_length_le (by simp [hl2])]⟩⟩)
      clear hle
      go_wp2
      go_ret
      exact ⟨rfl, unhide HO, hbel⟩

theorem sector_same (d : List UInt8) (hd : d.length = 32) (w : World) : Sem.run Tryd.prog (Op.equalIn 10000 126 (.agg (bcells d).toArray) (.agg (bcells d).toArray)) w = .ok true w := by
  rw [sector_eq d d hd hd]
  simp
set_option maxRecDepth 100000 in
set_option maxHeartbeats 1600000 in
theorem lentK_any (x v : Value) (ds : List (List UInt8)) (w : World) (hx : Digs w x (lentD ds)) (h : Digs w v ds) (hm : ds.length * 32 ≤ 140737488351232) :
    Calls Tryd.prog 43 #[x, v] w fun e w' => e = .returned (.bool true) ∧ Below w.heap.size w w' := by
  have hLl := lentD_length ds
  obtain ⟨b, off, cap, hvx, hcap, _⟩ := digs_shape hx (by omega)
  subst hvx
  have HLD := hide (lendK_any v ds w h hm)
  have HX := hide hx
  have HLE := hide (lentD_elem ds h.1)
  generalize hps : lentD ds = ps at *
  clear hps hx
  have hu31 := Tryd.underlying126
  go_enter Tryd.func43, Tryd.ntmps43
  go_wp2_with fail
  refine (unhide HLD).mono ?_
  rintro e w1 ⟨rfl, hown1, hb1⟩
  have hD1 := (unhide HX).below hb1 (Nat.le_refl _)
  have hD1' := digs_of_own (unhide HLE) hown1 (by omega)
  rw [← hLl] at hD1' ⊢
  have HD := hide hD1
  have HD' := hide hD1'
  obtain ⟨b', hb'⟩ : ∃ b', b' = w.heap.size := ⟨_, rfl⟩
  rw [← hb'] at HD' ⊢
  have hbel1 := hb1
  clear hown1 hb1 HLD HX hD1 hD1' h
  go_wp2_with fail
  go_loopw [6] (fun i wr => ∃ k : Nat, k ≤ ps.length ∧ i = .int .i64 k ∧ Below w1.heap.size w1 wr) (fun i _ => ps.length - (intOf i).toNat)
  case atStart => exact ⟨0, Nat.zero_le _, rfl, Below.refl _ _⟩
  case round =>
    obtain ⟨k, hk, rfl, hbel⟩ := hrel
    by_cases hlt : k < ps.length
    · have hr1 := rangeAt_below (digs_at (unhide HD) k hlt) hbel (Nat.le_refl _)
      have hr2 := rangeAt_below (digs_at (unhide HD') k hlt) hbel (Nat.le_refl _)
      have hdl := digs_len (unhide HD) k hlt
      generalize ps.getD k [] = d at hr1 hr2 hdl
      have hmi := v_scm d hdl
      have hsame := fun wq => sector_same d hdl wq
      have hlti : (k : Int) < (ps.length : Int) := by omega
      have hk0 : (0 : Int) ≤ (k : Int) := by omega
      have hr8 : wr.drew.rangeAt b (off + k * 32) (bcells d) ∧ wr.drew.rangeAt b' (0 + k * 32) (bcells d) := ⟨hr1, hr2⟩
      clear hr1 hr2
      go_wp2_with fail
      refine wp_region_held_drew (S := fun w' => w'.rangeAt b (off + k * 32) (bcells d) ∧ w'.rangeAt b' (0 + k * 32) (bcells d)) (by kernel_rfl) hr8 (fun hHeld => ?_)
      refine wpAnyH_take (i := 0) (v := .slice (some ⟨b, off, none⟩) ps.length cap) rfl (by kernel_rfl) (by kernel_rfl) (by kernel_rfl) (fun _ _ _ h => h) (Or.inl ⟨by rfl, fun _ _ => by go_simp⟩) hHeld ?_
      simp only [List.getElem_toArray, List.getElem_cons_zero, Act.put, List.setIfInBounds_toArray, List.set_cons_zero, List.set_cons_succ]
      refine wpAnyH_take (i := 1) (v := .int .i64 k) rfl (by kernel_rfl) (by kernel_rfl) (by kernel_rfl) (fun _ _ _ h => h) (Or.inl ⟨by rfl, fun _ _ => by go_simp⟩) hHeld ?_
      simp only [List.getElem_toArray, List.getElem_cons_zero, List.getElem_cons_succ, Act.put, List.setIfInBounds_toArray, List.set_cons_zero, List.set_cons_succ]
      refine wpAnyH_take (i := 2) (v := .pointer (some ⟨b, off + k * 32, none⟩)) rfl (by kernel_rfl) (by kernel_rfl) (by kernel_rfl) (fun _ _ _ h => h) (Or.inl ⟨by rfl, fun _ _ => by go_simp⟩) hHeld ?_
      simp only [List.getElem_toArray, List.getElem_cons_zero, List.getElem_cons_succ, Act.put, List.setIfInBounds_toArray, List.set_cons_zero, List.set_cons_succ]
      refine wpAnyH_take (i := 3) rfl (by kernel_rfl) (by kernel_rfl) (by kernel_rfl) (fun _ _ _ h => h) (yieldsIf_load_mid (by rfl) 126 _ rfl b (off + k * 32) rfl (bcells d) _ (fun _ h => h.1) Tryd.underlying126 rfl hmi) hHeld ?_
      simp only [List.getElem_toArray, List.getElem_cons_zero, List.getElem_cons_succ, Act.put, List.setIfInBounds_toArray, List.set_cons_zero, List.set_cons_succ]
      refine wpAnyH_take (i := 4) (v := .slice (some ⟨b', 0, none⟩) ps.length ps.length) rfl (by kernel_rfl) (by kernel_rfl) (by kernel_rfl) (fun _ _ _ h => h) (Or.inl ⟨by rfl, fun _ _ => by go_simp⟩) hHeld ?_
      simp only [List.getElem_toArray, List.getElem_cons_zero, List.getElem_cons_succ, Act.put, List.setIfInBounds_toArray, List.set_cons_zero, List.set_cons_succ]
      refine wpAnyH_take (i := 5) (v := .int .i64 k) rfl (by kernel_rfl) (by kernel_rfl) (by kernel_rfl) (fun _ _ _ h => h) (Or.inl ⟨by rfl, fun _ _ => by go_simp⟩) hHeld ?_
      simp only [List.getElem_toArray, List.getElem_cons_zero, List.getElem_cons_succ, Act.put, List.setIfInBounds_toArray, List.set_cons_zero, List.set_cons_succ]
      refine wpAnyH_take (i := 6) (v := .pointer (some ⟨b', 0 + k * 32, none⟩)) rfl (by kernel_rfl) (by kernel_rfl) (by kernel_rfl) (fun _ _ _ h => h) (Or.inl ⟨by rfl, fun _ _ => by go_simp⟩) hHeld ?_
      simp only [List.getElem_toArray, List.getElem_cons_zero, List.getElem_cons_succ, Act.put, List.setIfInBounds_toArray, List.set_cons_zero, List.set_cons_succ]
      refine wpAnyH_take (i := 7) rfl (by kernel_rfl) (by kernel_rfl) (by kernel_rfl) (fun _ _ _ h => h) (yieldsIf_load_mid (by rfl) 126 _ rfl b' (0 + k * 32) rfl (bcells d) _ (fun _ h => h.2) Tryd.underlying126 rfl hmi) hHeld ?_
      simp only [List.getElem_toArray, List.getElem_cons_zero, List.getElem_cons_succ, Act.put, List.setIfInBounds_toArray, List.set_cons_zero, List.set_cons_succ]
      refine wpAnyH_take (i := 8) (v := .bool false) rfl (by kernel_rfl) (by kernel_rfl) (by kernel_rfl) (fun _ _ _ h => h) (Or.inl ⟨by rfl, fun _ _ => by go_simp⟩) hHeld ?_
      simp only [List.getElem_toArray, List.getElem_cons_zero, List.getElem_cons_succ, Act.put, List.setIfInBounds_toArray, List.set_cons_zero, List.set_cons_succ]
      refine wpAnyH_done (by kernel_rfl) ?_ _
      clear hsame hr8 hHeld hu31
      go_wp2_with fail
      go_roundw
      case rel => exact ⟨k + 1, by omega, by go_num, hbel.drew⟩
      case measure => simp [intOf]; omega
    · go_wp2
      go_ret
      exact ⟨rfl, hbel1.trans (hbel.mono hbel1.size)⟩

set_option maxRecDepth 100000 in
set_option maxHeartbeats 400000 in
theorem planned_nil (ao : Option Addr) (cap n : Nat) (w : World) :
    Calls Tryd.prog 46 #[.slice ao 0 cap, .int .i64 n] w fun e w' => e = .returned (.bool true) ∧ w' = w := by
  go_enter Tryd.func46, Tryd.ntmps46
  go_wp2
  refine wp_loop_rounds 1 ?_
  rw [rounds_succ]
  go_wp2
  go_ret
  exact ⟨rfl, rfl⟩
def itAtL (l : List It) (k : Nat) : It := l.getD k fIt0
theorem itAtL_mem (l : List It) (k : Nat) (h : k < l.length) : itAtL l k ∈ l := by
  unfold itAtL
  rw [List.getD, List.getElem?_eq_getElem h]
  exact List.getElem_mem h
theorem pcellsL_at (l : List It) (h : ∀ x ∈ l, x.data.length = 32) (k : Nat) (hk : k < l.length) : ∀ j, j < 34 → (pcells l)[k * 34 + j]? = (itcells (itAtL l k))[j]? := by
  intro j hj
  have e : l = l.take k ++ (itAtL l k :: l.drop (k + 1)) := by
    unfold itAtL
    rw [List.getD, List.getElem?_eq_getElem hk, Option.getD_some, List.getElem_cons_drop, List.take_append_drop]
  have hl : (pcells (l.take k)).length = k * 34 := by
    rw [pcells_length _ (fun x hx => h x (List.mem_of_mem_take hx)), List.length_take]
    rw [Nat.min_eq_left (by omega)]
    omega
  have hc : pcells l = pcells (l.take k) ++ (itcells (itAtL l k) ++ pcells (l.drop (k + 1))) := by
    conv => lhs; rw [e]
    simp [pcells]
  rw [hc, List.getElem?_append_right (by omega), hl, show k * 34 + j - k * 34 = j by omega, List.getElem?_append_left (by rw [itcells_length _ (h _ (itAtL_mem l k hk))]; exact hj)]
theorem plan_cell {w : World} {B gp cp n : Nat} {its : List It} (h : w.ownsRow B 131 34 (.slice (some ⟨gp, 0, none⟩) n cp) n (pcells its)) (hn : n = its.length) (hd : ∀ x ∈ its, x.data.length = 32) : ∀ k, k < its.length → ∀ j, j < 34 → w.cell? ⟨gp, k * 34 + j, none⟩ = (itcells (itAtL its k))[j]? := by
  intro k hk j hj
  obtain ⟨hpl, hp⟩ := h
  rcases hp with ⟨hp, _⟩ | ⟨g, c, cur, hv, _, hg, hp1, hp2, hp3, hp4⟩
  · simp at hp
  simp only [Value.slice.injEq, Option.some.injEq, Addr.mk.injEq, and_true, true_and] at hv
  obtain ⟨rfl, rfl⟩ := hv
  subst hn
  rw [cell_of_row w gp _ _ _ _ hg, ← pcellsL_at its hd k hk j hj, ← hp4]
  rw [List.getElem?_take_of_lt (by omega)]
  simp
set_option maxRecDepth 100000 in
set_option maxHeartbeats 800000 in
theorem planned_some (gp cp B : Nat) (its : List It) (n : Nat) (w : World) (h : w.ownsRow B 131 34 (.slice (some ⟨gp, 0, none⟩) its.length cp) its.length (pcells its)) (hl : its.length ≤ 1000) (hi : ∀ x ∈ its, x.data.length = 32 ∧ x.at_ < n) :
    Calls Tryd.prog 46 #[.slice (some ⟨gp, 0, none⟩) its.length cp, .int .i64 n] w fun e w' => e = .returned (.bool true) ∧ w' = w := by
  have HC := hide (plan_cell h rfl (fun x hx => (hi x hx).1))
  have HI := hide hi
  have hd0 : decide ((1000 : Int) < (its.length : Int)) = false := by simp; omega
  clear h hi
  go_enter Tryd.func46, Tryd.ntmps46
  go_wp2
  go_loop [5] (fun i => ∃ k : Nat, k ≤ its.length ∧ i = .int .i64 k) (fun i => its.length - (intOf i).toNat)
  case atStart => exact ⟨0, Nat.zero_le _, rfl⟩
  case round =>
    obtain ⟨k, hk, rfl⟩ := hrel
    by_cases hlt : k < its.length
    · have hd1 : decide ((k : Int) < (its.length : Int)) = true := by simp; omega
      have hx := unhide HI _ (itAtL_mem its k hlt)
      have c0 := unhide HC k hlt 0 (by omega)
      have c1 := unhide HC k hlt 1 (by omega)
      generalize itAtL its k = x at hx c0 c1
      rw [Nat.add_zero] at c0
      have c0' : w.cell? ⟨gp, k * 34, none⟩ = some (.bool x.fl) := c0
      have c1' : w.cell? ⟨gp, k * 34 + 1, none⟩ = some (.int .i64 (x.at_ : Int)) := c1
      have hk0 : (0 : Int) ≤ (k : Int) := by omega
      have hk1 : (k : Int) < (its.length : Int) := by omega
      have hd3 : decide ((x.at_ : Int) < 0) = false := by simp
      have hd4 : decide ((n : Int) ≤ (x.at_ : Int)) = false := by simp; omega
      have hd5 : ¬ n ≤ x.at_ := by omega
      clear c0 c1 hx
      cases hf : x.fl with
      | true =>
        rw [hf] at c0'
        go_wp2
        go_round
        case rel => exact ⟨k + 1, by omega, by go_num⟩
        case measure => simp [intOf]; omega
      | false =>
        rw [hf] at c0'
        go_wp2
        go_round
        case rel => exact ⟨k + 1, by omega, by go_num⟩
        case measure => simp [intOf]; omega
    · have hd1 : decide ((k : Int) < (its.length : Int)) = false := by simp; omega
      go_wp2
      go_ret
      exact ⟨rfl, rfl⟩
theorem planned_any (v : Value) (B : Nat) (its : List It) (n : Nat) (w : World) (h : w.ownsRow B 131 34 v its.length (pcells its)) (hl : its.length ≤ 1000) (hi : ∀ x ∈ its, x.data.length = 32 ∧ x.at_ < n) :
    Calls Tryd.prog 46 #[v, .int .i64 n] w fun e w' => e = .returned (.bool true) ∧ w' = w := by
  have h' := h
  rcases h.2 with ⟨rfl, h0⟩ | ⟨g, c, cur, hv, _⟩
  · rw [h0] at *
    exact planned_nil none 0 n w
  · subst hv
    exact planned_some g c B its n w h' hl hi
end Go.Proofs.YtanfolfopalbeaaDoor
namespace Go.Proofs.YtanfolfopalbeaaDoor
open Go.RowKit

/-- An item's cells. -/
def ixcells (f : Bool) (a : Int) (d : List UInt8) : List Value := .bool f :: .int .i64 a :: bcells d
theorem row_same (n : Nat) (a : List UInt8) (w : World) : ∀ is : List Nat, (∀ i ∈ is, i < a.length) → (Op.eqItems (n + 1) 5 1 (bcells a).toArray (bcells a).toArray is).run Tryd.prog w = .ok true w := by
  intro is
  induction is with
  | nil => intro _; simp [Op.eqItems]
  | cons i is ih =>
    intro h
    have hi := h i (by simp)
    have hc : (bcells a).toArray[i * 1]? = some (.int .u8 ((a.getD i 0).toNat : Int)) := by
      rw [Nat.mul_one]
      simp [bcells, List.getD, List.getElem?_eq_getElem hi]
    have hp := run_part_plain w plain_u8 hc
    have he := run_equalIn_int (P := Tryd.prog) (w := w) n 5 .u8 _ ((a.getD i 0).toNat : Int) ((a.getD i 0).toNat : Int) Tryd.underlying5
    rw [beq_self_eq_true] at he
    simp only [Op.eqItems, Sem.run_bind, hp, Result.andThen_ok, he, Bool.not_true, Bool.false_eq_true, if_false]
    exact ih fun j hj => h j (by simp [hj])
theorem sector_same_at (n : Nat) (d : List UInt8) (hd : d.length = 32) (w : World) : Sem.run Tryd.prog (Op.equalIn (n + 2) 126 (.agg (bcells d).toArray) (.agg (bcells d).toArray)) w = .ok true w := by
  have h := info_u8
  cases hi : Tryd.prog.info? 5 with
  | none => rw [hi] at h; cases h
  | some i =>
    have := run_equalIn_array (P := Tryd.prog) w (n + 1) (bcells d).toArray (bcells d).toArray Tryd.underlying126 hi
    rw [this, cells_u8, row_same n d w _ fun j hj => by rw [hd]; exact List.mem_range.1 hj]
theorem wr_fields : ((Tryd.prog.fieldsOf 131).toList.map fun f => (f.name, f.type, f.offset)) = [("Flush", 4, 0), ("At", 3, 1), ("Data", 126, 2)] := by kernel_rfl
theorem wr_struct : Tryd.prog.underlying 131 = some (.struct (Tryd.prog.fieldsOf 131)) := by kernel_rfl
theorem wr_held : Tryd.prog.stoodInHeld 131 = false := by kernel_rfl
theorem plain_bool : Tryd.prog.plainKey 4 = true := by kernel_rfl
theorem plain_int : Tryd.prog.plainKey 3 = true := by kernel_rfl
theorem cells_sec : Tryd.prog.cellsOf 126 = 32 := by kernel_rfl
theorem cut_two (x y : Value) (l : List Value) (h : l.length = 32) : (x :: y :: l).toArray.extract 2 (2 + 32) = l.toArray := by
  apply Array.toList_inj.1
  rw [Array.toList_extract, List.extract]
  show List.take (2 + 32 - 2) l = l
  rw [List.take_of_length_le (by omega)]
theorem part_data (f : Bool) (a : Int) (d : List UInt8) (hd : d.length = 32) (w : World) : (part 126 (ixcells f a d).toArray 2).run Tryd.prog w = .ok (.agg (bcells d).toArray) w := by
  have hu := Tryd.underlying126
  obtain ⟨i, hi⟩ := info_of_underlying hu
  have ha : (isAgg 126).run Tryd.prog w = .ok true w := by
    simp [isAgg, run_underlying hu]
  have hs := run_sizeOf w hi
  rw [cells_sec] at hs
  simp only [part, Sem.run_bind, ha, Result.andThen_ok, if_true, hs, Sem.run_pure]
  have hl : (bcells d).length = 32 := by rw [bcells_length, hd]
  rw [ixcells, cut_two _ _ _ hl]
theorem three_of {fs : List Field} {x y z : String × TypeId × Nat} (h : (fs.map fun f => (f.name, f.type, f.offset)) = [x, y, z]) : ∃ f1 f2 f3 : Field, fs = [f1, f2, f3] ∧ (f1.name = x.1 ∧ f1.type = x.2.1 ∧ f1.offset = x.2.2) ∧ (f2.name = y.1 ∧ f2.type = y.2.1 ∧ f2.offset = y.2.2) ∧ (f3.name = z.1 ∧ f3.type = z.2.1 ∧ f3.offset = z.2.2) := by
  match fs, h with
  | [f1, f2, f3], h =>
    simp only [List.map_cons, List.map_nil, List.cons.injEq, and_true] at h
    obtain ⟨rfl, rfl, rfl⟩ := h
    exact ⟨f1, f2, f3, rfl, ⟨rfl, rfl, rfl⟩, ⟨rfl, rfl, rfl⟩, ⟨rfl, rfl, rfl⟩⟩
theorem eq_three {P : Program} (w : World) (n : Nat) (f1 f2 f3 : Field) (X : Array Value) (a b c : Value) (n1 : f1.name ≠ "_") (n2 : f2.name ≠ "_") (n3 : f3.name ≠ "_")
    (p1 : (part f1.type X f1.offset).run P w = .ok a w) (p2 : (part f2.type X f2.offset).run P w = .ok b w) (p3 : (part f3.type X f3.offset).run P w = .ok c w)
    (e1 : (Op.equalIn n f1.type a a).run P w = .ok true w) (e2 : (Op.equalIn n f2.type b b).run P w = .ok true w) (e3 : (Op.equalIn n f3.type c c).run P w = .ok true w) : (Op.eqFields n X X [f1, f2, f3]).run P w = .ok true w := by
  simp only [Op.eqFields, if_pos n1, if_pos n2, if_pos n3, Sem.run_bind, p1, p2, p3, Result.andThen_ok, e1, e2, e3, Bool.not_true, Bool.false_eq_true, if_false, Sem.run_pure]
/-- '==' of an item with itself. -/
theorem item_same_at (n : Nat) (f : Bool) (a : Int) (d : List UInt8) (hd : d.length = 32) (w : World) : Sem.run Tryd.prog (Op.equalIn (n + 3) 131 (.agg (ixcells f a d).toArray) (.agg (ixcells f a d).toArray)) w = .ok true w := by
  obtain ⟨f1, f2, f3, hfs, ⟨n1, t1, o1⟩, ⟨n2, t2, o2⟩, n3, t3, o3⟩ := three_of wr_fields
  refine (run_equalIn_struct (P := Tryd.prog) w (n + 2) 131 _ _ wr_struct wr_held).trans ?_
  rw [hfs]
  clear hfs
  have c0 : (ixcells f a d).toArray[0]? = some (.bool f) := by simp [ixcells]
  have c1 : (ixcells f a d).toArray[1]? = some (.int .i64 a) := by simp [ixcells]
  have p0 := run_part_plain w plain_bool c0
  have p1 := run_part_plain w plain_int c1
  have p2 := part_data f a d hd w
  have e0 := run_equalIn_bool' (P := Tryd.prog) (w := w) (n + 1) 4 f f Tryd.underlying4
  have e1 := run_equalIn_int (P := Tryd.prog) (w := w) (n + 1) 3 .i64 _ a a Tryd.underlying3
  have e2 := sector_same_at n d hd w
  rw [beq_self_eq_true] at e0 e1
  refine eq_three w (n + 2) f1 f2 f3 _ (.bool f) (.int .i64 a) (.agg (bcells d).toArray) ?_ ?_ ?_ ?_ ?_ ?_ ?_ ?_ ?_
  · rw [n1]; decide
  · rw [n2]; decide
  · rw [n3]; decide
  · rw [t1, o1]; exact p0
  · rw [t2, o2]; exact p1
  · rw [t3, o3]; exact p2
  · rw [t1]; exact e0
  · rw [t2]; exact e1
  · rw [t3]; exact e2
theorem item_same (f : Bool) (a : Int) (d : List UInt8) (hd : d.length = 32) (w : World) : Sem.run Tryd.prog (Op.equalIn 10000 131 (.agg (ixcells f a d).toArray) (.agg (ixcells f a d).toArray)) w = .ok true w := item_same_at 9997 f a d hd w
end Go.Proofs.YtanfolfopalbeaaDoor
namespace Go.Proofs.YtanfolfopalbeaaDoor
open Go.RowKit

theorem v_wrm (f : Bool) (a : Int) (d : List UInt8) (h : d.length = 32) : (Tryd.prog.info? 131).map (·.size) = some (ixcells f a d).length := by
  have e : (ixcells f a d).length = 34 := by simp [ixcells, bcells_length, h]
  rw [e]
  exact info_wrs
/-- An item of a plan, where it stands. -/
theorem item_at {w : World} {B g c : Nat} {its : List It} (h : w.ownsRow B 131 34 (.slice (some ⟨g, 0, none⟩) its.length c) its.length (pcells its)) (h32 : ∀ x ∈ its, x.data.length = 32) (k : Nat) (hk : k < its.length) : w.rangeAt g (k * 34) (itcells (itAtL its k)) := by
  intro j u hu
  have hj : j < 34 := by
    have := (List.getElem?_eq_some_iff.1 hu).1
    rw [itcells_length _ (h32 _ (itAtL_mem its k hk))] at this
    exact this
  have := h.cells (g := g) rfl (k * 34 + j) u (by rw [pcellsL_at its h32 k hk j hj]; exact hu)
  rwa [Addr.add_lit, Nat.zero_add] at this
set_option maxRecDepth 100000 in
set_option maxHeartbeats 1600000 in
theorem plansame_some (g c g' c' B B' : Nat) (its : List It) (w : World) (h : w.ownsRow B 131 34 (.slice (some ⟨g, 0, none⟩) its.length c) its.length (pcells its)) (h' : w.ownsRow B' 131 34 (.slice (some ⟨g', 0, none⟩) its.length c') its.length (pcells its)) (hl : its.length ≤ 1000) (h32 : ∀ x ∈ its, x.data.length = 32) :
    Calls Tryd.prog 75 #[.slice (some ⟨g, 0, none⟩) its.length c, .slice (some ⟨g', 0, none⟩) its.length c'] w fun e w' => e = .returned (.bool true) ∧ Below w.heap.size w w' := by
  have HA := hide (item_at h h32)
  have HB := hide (item_at h' h32)
  have H32 := hide h32
  clear h h' h32
  have hu31 := Tryd.underlying131
  have hne : (decide ((its.length : Int) ≠ (its.length : Int))) = false := by simp
  go_enter Tryd.func75, Tryd.ntmps75
  go_wp2_with fail
  go_loopw [5] (fun i wr => ∃ k : Nat, k ≤ its.length ∧ i = .int .i64 k ∧ Below w.heap.size w wr) (fun i _ => its.length - (intOf i).toNat)
  case atStart => exact ⟨0, Nat.zero_le _, rfl, Below.refl _ _⟩
  case round =>
    obtain ⟨k, hk, rfl, hbel⟩ := hrel
    by_cases hlt : k < its.length
    · have hr1 := rangeAt_below (unhide HA k hlt) hbel (Nat.le_refl _)
      have hr2 := rangeAt_below (unhide HB k hlt) hbel (Nat.le_refl _)
      have hdl := unhide H32 _ (itAtL_mem its k hlt)
      generalize itAtL its k = x at hr1 hr2 hdl
      obtain ⟨f, a0, d⟩ := x
      simp only at hdl
      have hx : ∀ j : Nat, itcells ⟨f, j, d⟩ = ixcells f (j : Int) d := fun _ => rfl
      rw [hx] at hr1 hr2
      generalize ((a0 : Nat) : Int) = a at hr1 hr2
      have hmi := v_wrm f a d hdl
      have hsame := fun wq => item_same f a d hdl wq
      have hlti : (k : Int) < (its.length : Int) := by omega
      have hk0 : (0 : Int) ≤ (k : Int) := by omega
      have hr8 : wr.drew.rangeAt g (k * 34) (ixcells f a d) ∧ wr.drew.rangeAt g' (k * 34) (ixcells f a d) := ⟨hr1, hr2⟩
      clear hr1 hr2 hx
      go_wp2_with fail
      refine wp_region_held_drew (S := fun w' => w'.rangeAt g (k * 34) (ixcells f a d) ∧ w'.rangeAt g' (k * 34) (ixcells f a d)) (by kernel_rfl) hr8 (fun hHeld => ?_)
      refine wpAnyH_take (i := 0) (v := .slice (some ⟨g, 0, none⟩) its.length c) rfl (by kernel_rfl) (by kernel_rfl) (by kernel_rfl) (fun _ _ _ h => h) (Or.inl ⟨by rfl, fun _ _ => by go_simp⟩) hHeld ?_
      simp only [List.getElem_toArray, List.getElem_cons_zero, Act.put, List.setIfInBounds_toArray, List.set_cons_zero, List.set_cons_succ]
      refine wpAnyH_take (i := 1) (v := .int .i64 k) rfl (by kernel_rfl) (by kernel_rfl) (by kernel_rfl) (fun _ _ _ h => h) (Or.inl ⟨by rfl, fun _ _ => by go_simp⟩) hHeld ?_
      simp only [List.getElem_toArray, List.getElem_cons_zero, List.getElem_cons_succ, Act.put, List.setIfInBounds_toArray, List.set_cons_zero, List.set_cons_succ]
      refine wpAnyH_take (i := 2) (v := .pointer (some ⟨g, k * 34, none⟩)) rfl (by kernel_rfl) (by kernel_rfl) (by kernel_rfl) (fun _ _ _ h => h) (Or.inl ⟨by rfl, fun _ _ => by go_simp⟩) hHeld ?_
      simp only [List.getElem_toArray, List.getElem_cons_zero, List.getElem_cons_succ, Act.put, List.setIfInBounds_toArray, List.set_cons_zero, List.set_cons_succ]
      refine wpAnyH_take (i := 3) rfl (by kernel_rfl) (by kernel_rfl) (by kernel_rfl) (fun _ _ _ h => h) (yieldsIf_load_mid (by rfl) 131 _ rfl g (k * 34) rfl (ixcells f a d) _ (fun _ h => h.1) Tryd.underlying131 rfl hmi) hHeld ?_
      simp only [List.getElem_toArray, List.getElem_cons_zero, List.getElem_cons_succ, Act.put, List.setIfInBounds_toArray, List.set_cons_zero, List.set_cons_succ]
      refine wpAnyH_take (i := 4) (v := .slice (some ⟨g', 0, none⟩) its.length c') rfl (by kernel_rfl) (by kernel_rfl) (by kernel_rfl) (fun _ _ _ h => h) (Or.inl ⟨by rfl, fun _ _ => by go_simp⟩) hHeld ?_
      simp only [List.getElem_toArray, List.getElem_cons_zero, List.getElem_cons_succ, Act.put, List.setIfInBounds_toArray, List.set_cons_zero, List.set_cons_succ]
      refine wpAnyH_take (i := 5) (v := .int .i64 k) rfl (by kernel_rfl) (by kernel_rfl) (by kernel_rfl) (fun _ _ _ h => h) (Or.inl ⟨by rfl, fun _ _ => by go_simp⟩) hHeld ?_
      simp only [List.getElem_toArray, List.getElem_cons_zero, List.getElem_cons_succ, Act.put, List.setIfInBounds_toArray, List.set_cons_zero, List.set_cons_succ]
      refine wpAnyH_take (i := 6) (v := .pointer (some ⟨g', k * 34, none⟩)) rfl (by kernel_rfl) (by kernel_rfl) (by kernel_rfl) (fun _ _ _ h => h) (Or.inl ⟨by rfl, fun _ _ => by go_simp⟩) hHeld ?_
      simp only [List.getElem_toArray, List.getElem_cons_zero, List.getElem_cons_succ, Act.put, List.setIfInBounds_toArray, List.set_cons_zero, List.set_cons_succ]
      refine wpAnyH_take (i := 7) rfl (by kernel_rfl) (by kernel_rfl) (by kernel_rfl) (fun _ _ _ h => h) (yieldsIf_load_mid (by rfl) 131 _ rfl g' (k * 34) rfl (ixcells f a d) _ (fun _ h => h.2) Tryd.underlying131 rfl hmi) hHeld ?_
      simp only [List.getElem_toArray, List.getElem_cons_zero, List.getElem_cons_succ, Act.put, List.setIfInBounds_toArray, List.set_cons_zero, List.set_cons_succ]
      refine wpAnyH_take (i := 8) (v := .bool false) rfl (by kernel_rfl) (by kernel_rfl) (by kernel_rfl) (fun _ _ _ h => h) (Or.inl ⟨by rfl, fun _ _ => by go_simp⟩) hHeld ?_
      simp only [List.getElem_toArray, List.getElem_cons_zero, List.getElem_cons_succ, Act.put, List.setIfInBounds_toArray, List.set_cons_zero, List.set_cons_succ]
      refine wpAnyH_done (by kernel_rfl) ?_ _
      clear hsame hr8 hHeld hu31
      go_wp2_with fail
      go_roundw
      case rel => exact ⟨k + 1, by omega, by go_num, hbel.drew⟩
      case measure => simp [intOf]; omega
    · go_wp2
      go_ret
      exact ⟨rfl, hbel⟩
set_option maxRecDepth 100000 in
set_option maxHeartbeats 400000 in
theorem plansame_nil (ao ao' : Option Addr) (c c' : Nat) (w : World) :
    Calls Tryd.prog 75 #[.slice ao 0 c, .slice ao' 0 c'] w fun e w' => e = .returned (.bool true) ∧ Below w.heap.size w w' := by
  go_enter Tryd.func75, Tryd.ntmps75
  go_wp2
  refine wp_loop_rounds 1 ?_
  rw [rounds_succ]
  go_wp2
  go_ret
  exact ⟨rfl, Below.refl _ _⟩
theorem plansame_any (v v' : Value) (B B' : Nat) (its : List It) (w : World) (h : w.ownsRow B 131 34 v its.length (pcells its)) (h' : w.ownsRow B' 131 34 v' its.length (pcells its)) (hl : its.length ≤ 1000) (h32 : ∀ x ∈ its, x.data.length = 32) :
    Calls Tryd.prog 75 #[v, v'] w fun e w' => e = .returned (.bool true) ∧ Below w.heap.size w w' := by
  have q := h
  have q' := h'
  rcases h.2 with ⟨rfl, h0⟩ | ⟨g, c, cur, hv, _⟩
  · rcases h'.2 with ⟨rfl, _⟩ | ⟨g', c', cur', hv', _⟩
    · exact plansame_nil _ _ _ _ w
    · subst hv'
      rw [h0]
      exact plansame_nil _ _ _ _ w
  · subst hv
    rcases h'.2 with ⟨rfl, h0⟩ | ⟨g', c', cur', hv', _⟩
    · rw [h0]
      exact plansame_nil _ _ _ _ w
    · subst hv'
      exact plansame_some g c g' c' B B' its w q q' hl h32
end Go.Proofs.YtanfolfopalbeaaDoor
namespace Go.Proofs.YtanfolfopalbeaaDoor
open Go.RowKit

theorem bel_of_grown {w w' : World} (h : w.grownBy w' none) : Below w.heap.size w w' := ⟨h.os, h.tape, h.output, h.size, fun k hk => h.block k hk (fun e => by cases e)⟩
set_option maxRecDepth 100000 in
set_option maxHeartbeats 3200000 in
theorem disksG_any (ty : TypeId) (o : Nat) (P P' : Nat → Prop) (B B' G : Nat) (cs : Array Value) (tv xv pv qv : Value) (w0 w0' w : World) (recs recp : List (Value × List Value))
    (S : StG (Ks ty o) P B w0 w G cs tv xv (recs.map (·.1)) (recs.map (·.2)) recs (.slice none 0 0) 0 []) (Sp : StG (Kp ty o) P' B' w0' w G cs pv qv (recp.map (·.1)) (recp.map (·.2)) recp (.slice none 0 0) 0 []) (hM : Marked Ms P recs) (hN : Marked Mp P' recp) (hl : recs.length ≤ 1099511627776) (hp : recp.length ≤ 1099511627776) :
    Calls Tryd.prog 62 #[.pointer (some ⟨G, o, none⟩)] w fun e w' => e = .returned (.bool true) ∧ Below w.heap.size w w' := by
  have HS := hide S
  have HP := hide Sp
  have HM := hide hM
  have HN := hide hN
  clear S Sp hM hN
  go_enter Tryd.func62, Tryd.ntmps62
  go_wp2
  go_loopw [3] (fun v wr => ∃ k : Nat, k ≤ recs.length ∧ v = .int .i64 k ∧ w.grownBy wr none) (fun v _ => recs.length - (intOf v).toNat)
  case atStart => exact ⟨0, Nat.zero_le _, rfl, grown_refl _ _⟩
  case round =>
    obtain ⟨k, hk, rfl, hgr⟩ := hrel
    have HGR := hide hgr
    clear hgr
    by_cases hlt : k < recs.length
    · have hd : decide ((k : Int) < (recs.length : Int)) = true := by simp; omega
      have j1 : (k : Int) < (recs.length : Int) := by omega
      have S := (unhide HS).later (unhide HGR)
      obtain ⟨gt, ct, gx, cx, ao, n, cap, rfl, rfl, hrk1, hn1, hn2⟩ := S.look k hlt
      obtain ⟨mk, hrk⟩ : ∃ mk, recs[k] = (.slice ao n cap, mk) := ⟨recs[k].2, Prod.ext hrk1 rfl⟩
      obtain ⟨d, hd32, rfl⟩ : Ms mk := by
        have := (unhide HM recs[k] (List.getElem_mem hlt)).1
        rwa [hrk] at this
      have c1 : wr.cell? ⟨G, o + 5, none⟩ = some (.slice (some ⟨gt, 0, none⟩) recs.length ct) := S.bk.cell1
      have ctk := (S.read k hlt hrk).1
      have HRK := hide hrk
      have hmi := v_scm d hd32
      have hsame := fun wq => sector_same d hd32 wq
      unfold maxLen at hn2
      clear S hrk hrk1
      go_wp2
      go_loopw [4] (fun v wq => ∃ i : Nat, i ≤ n ∧ v = .int .i64 i ∧ wr.grownBy wq none) (fun v _ => n - (intOf v).toNat)
      case atStart => exact ⟨0, Nat.zero_le _, rfl, grown_refl _ _⟩
      case round =>
        obtain ⟨i, hi, rfl, hgq⟩ := hrel
        have S := ((unhide HS).later (unhide HGR)).later hgq
        have HGQ := hide hgq
        have e1 : wr.cell? ⟨G, o + 5, none⟩ = some (.slice (some ⟨gt, 0, none⟩) recs.length ct) := S.bk.cell1
        have e3 : wr.cell? ⟨G, o + 6, none⟩ = some (.slice (some ⟨gx, 0, none⟩) recs.length cx) := S.bk.cell2
        obtain ⟨e2, e4, h3⟩ := S.read k hlt (unhide HRK)
        by_cases hin : i < n
        · have hd2 : decide ((i : Int) < (n : Int)) = true := by simp; omega
          have j2 : (i : Int) < (n : Int) := by omega
          obtain ⟨g, hao, hc⟩ := h3 (by omega)
          subst hao
          have e5 := hc i hin
          have hS0 : wr.drew.cell? ⟨G, o + 5, none⟩ = some (.slice (some ⟨gt, 0, none⟩) recs.length ct) ∧ wr.drew.cell? ⟨gt, k, none⟩ = some (.slice (some ⟨g, 0, none⟩) n cap) ∧ wr.drew.cell? ⟨G, o + 6, none⟩ = some (.slice (some ⟨gx, 0, none⟩) recs.length cx) ∧ wr.drew.rangeAt g (i * 32) (bcells d) ∧ wr.drew.rangeAt gx (k * 32) (bcells d) := ⟨e1, e2, e3, e5, e4⟩
          clear hc h3 S hgq
          go_wp2
          clear e4 e5
          have hu31 := Tryd.underlying126
          refine wp_region_held_drew (S := fun w' => w'.cell? ⟨G, o + 5, none⟩ = some (.slice (some ⟨gt, 0, none⟩) recs.length ct) ∧ w'.cell? ⟨gt, k, none⟩ = some (.slice (some ⟨g, 0, none⟩) n cap) ∧ w'.cell? ⟨G, o + 6, none⟩ = some (.slice (some ⟨gx, 0, none⟩) recs.length cx) ∧ w'.rangeAt g (i * 32) (bcells d) ∧ w'.rangeAt gx (k * 32) (bcells d)) (by kernel_rfl) hS0 (fun hHeld => ?_)
          refine wpAnyH_take (i := 0) (v := .pointer (some ⟨G, o, none⟩)) rfl (by kernel_rfl) (by kernel_rfl) (by kernel_rfl) (fun _ _ _ h => h) (Or.inl ⟨by rfl, fun _ _ => by go_simp⟩) hHeld ?_
          simp only [List.getElem_toArray, List.getElem_cons_zero, Act.put, List.setIfInBounds_toArray, List.set_cons_zero, List.set_cons_succ]
          refine wpAnyH_take (i := 1) (v := .pointer (some ⟨G, o, none⟩)) rfl (by kernel_rfl) (by kernel_rfl) (by kernel_rfl) (fun _ _ _ h => h) (Or.inl ⟨by rfl, fun _ _ => by go_simp⟩) hHeld ?_
          simp only [List.getElem_toArray, List.getElem_cons_zero, List.getElem_cons_succ, Act.put, List.setIfInBounds_toArray, List.set_cons_zero, List.set_cons_succ]
          refine wpAnyH_take (i := 2) (v := .pointer (some ⟨G, o + 5, none⟩)) rfl (by kernel_rfl) (by kernel_rfl) (by kernel_rfl) (fun _ _ _ h => h) (Or.inl ⟨by rfl, fun _ _ => by go_simp⟩) hHeld ?_
          simp only [List.getElem_toArray, List.getElem_cons_zero, List.getElem_cons_succ, Act.put, List.setIfInBounds_toArray, List.set_cons_zero, List.set_cons_succ]
          refine wpAnyH_take (i := 3) (v := .slice (some ⟨gt, 0, none⟩) recs.length ct) rfl (by kernel_rfl) (by kernel_rfl) (by kernel_rfl) (fun _ _ _ h => h) (Or.inl ⟨by rfl, fun _ hq => by have h5 := hq.1; clear hq; go_simp⟩) hHeld ?_
          simp only [List.getElem_toArray, List.getElem_cons_zero, List.getElem_cons_succ, Act.put, List.setIfInBounds_toArray, List.set_cons_zero, List.set_cons_succ]
          refine wpAnyH_take (i := 4) (v := .int .i64 k) rfl (by kernel_rfl) (by kernel_rfl) (by kernel_rfl) (fun _ _ _ h => h) (Or.inl ⟨by rfl, fun _ _ => by go_simp⟩) hHeld ?_
          simp only [List.getElem_toArray, List.getElem_cons_zero, List.getElem_cons_succ, Act.put, List.setIfInBounds_toArray, List.set_cons_zero, List.set_cons_succ]
          refine wpAnyH_take (i := 5) (v := .pointer (some ⟨gt, k, none⟩)) rfl (by kernel_rfl) (by kernel_rfl) (by kernel_rfl) (fun _ _ _ h => h) (Or.inl ⟨by rfl, fun _ _ => by go_simp⟩) hHeld ?_
          simp only [List.getElem_toArray, List.getElem_cons_zero, List.getElem_cons_succ, Act.put, List.setIfInBounds_toArray, List.set_cons_zero, List.set_cons_succ]
          refine wpAnyH_take (i := 6) (v := .slice (some ⟨g, 0, none⟩) n cap) rfl (by kernel_rfl) (by kernel_rfl) (by kernel_rfl) (fun _ _ _ h => h) (Or.inl ⟨by rfl, fun _ hq => by have h5 := hq.2.1; clear hq; go_simp⟩) hHeld ?_
          simp only [List.getElem_toArray, List.getElem_cons_zero, List.getElem_cons_succ, Act.put, List.setIfInBounds_toArray, List.set_cons_zero, List.set_cons_succ]
          refine wpAnyH_take (i := 7) (v := .int .i64 i) rfl (by kernel_rfl) (by kernel_rfl) (by kernel_rfl) (fun _ _ _ h => h) (Or.inl ⟨by rfl, fun _ _ => by go_simp⟩) hHeld ?_
          simp only [List.getElem_toArray, List.getElem_cons_zero, List.getElem_cons_succ, Act.put, List.setIfInBounds_toArray, List.set_cons_zero, List.set_cons_succ]
          refine wpAnyH_take (i := 8) (v := .pointer (some ⟨g, i * 32, none⟩)) rfl (by kernel_rfl) (by kernel_rfl) (by kernel_rfl) (fun _ _ _ h => h) (Or.inl ⟨by rfl, fun _ _ => by go_simp⟩) hHeld ?_
          simp only [List.getElem_toArray, List.getElem_cons_zero, List.getElem_cons_succ, Act.put, List.setIfInBounds_toArray, List.set_cons_zero, List.set_cons_succ]
          refine wpAnyH_take (i := 9) rfl (by kernel_rfl) (by kernel_rfl) (by kernel_rfl) (fun _ _ _ h => h) (yieldsIf_load_mid (by rfl) 126 _ rfl g (i * 32) rfl (bcells d) _ (fun _ hq => hq.2.2.2.1) Tryd.underlying126 rfl hmi) hHeld ?_
          simp only [List.getElem_toArray, List.getElem_cons_zero, List.getElem_cons_succ, Act.put, List.setIfInBounds_toArray, List.set_cons_zero, List.set_cons_succ]
          refine wpAnyH_take (i := 10) (v := .pointer (some ⟨G, o, none⟩)) rfl (by kernel_rfl) (by kernel_rfl) (by kernel_rfl) (fun _ _ _ h => h) (Or.inl ⟨by rfl, fun _ _ => by go_simp⟩) hHeld ?_
          simp only [List.getElem_toArray, List.getElem_cons_zero, List.getElem_cons_succ, Act.put, List.setIfInBounds_toArray, List.set_cons_zero, List.set_cons_succ]
          refine wpAnyH_take (i := 11) (v := .pointer (some ⟨G, o, none⟩)) rfl (by kernel_rfl) (by kernel_rfl) (by kernel_rfl) (fun _ _ _ h => h) (Or.inl ⟨by rfl, fun _ _ => by go_simp⟩) hHeld ?_
          simp only [List.getElem_toArray, List.getElem_cons_zero, List.getElem_cons_succ, Act.put, List.setIfInBounds_toArray, List.set_cons_zero, List.set_cons_succ]
          refine wpAnyH_take (i := 12) (v := .pointer (some ⟨G, o + 6, none⟩)) rfl (by kernel_rfl) (by kernel_rfl) (by kernel_rfl) (fun _ _ _ h => h) (Or.inl ⟨by rfl, fun _ _ => by go_simp⟩) hHeld ?_
          simp only [List.getElem_toArray, List.getElem_cons_zero, List.getElem_cons_succ, Act.put, List.setIfInBounds_toArray, List.set_cons_zero, List.set_cons_succ]
          refine wpAnyH_take (i := 13) (v := .slice (some ⟨gx, 0, none⟩) recs.length cx) rfl (by kernel_rfl) (by kernel_rfl) (by kernel_rfl) (fun _ _ _ h => h) (Or.inl ⟨by rfl, fun _ hq => by have h5 := hq.2.2.1; clear hq; go_simp⟩) hHeld ?_
          simp only [List.getElem_toArray, List.getElem_cons_zero, List.getElem_cons_succ, Act.put, List.setIfInBounds_toArray, List.set_cons_zero, List.set_cons_succ]
          refine wpAnyH_take (i := 14) (v := .int .i64 k) rfl (by kernel_rfl) (by kernel_rfl) (by kernel_rfl) (fun _ _ _ h => h) (Or.inl ⟨by rfl, fun _ _ => by go_simp⟩) hHeld ?_
          simp only [List.getElem_toArray, List.getElem_cons_zero, List.getElem_cons_succ, Act.put, List.setIfInBounds_toArray, List.set_cons_zero, List.set_cons_succ]
          refine wpAnyH_take (i := 15) (v := .pointer (some ⟨gx, k * 32, none⟩)) rfl (by kernel_rfl) (by kernel_rfl) (by kernel_rfl) (fun _ _ _ h => h) (Or.inl ⟨by rfl, fun _ _ => by go_simp⟩) hHeld ?_
          simp only [List.getElem_toArray, List.getElem_cons_zero, List.getElem_cons_succ, Act.put, List.setIfInBounds_toArray, List.set_cons_zero, List.set_cons_succ]
          refine wpAnyH_take (i := 16) rfl (by kernel_rfl) (by kernel_rfl) (by kernel_rfl) (fun _ _ _ h => h) (yieldsIf_load_mid (by rfl) 126 _ rfl gx (k * 32) rfl (bcells d) _ (fun _ hq => hq.2.2.2.2) Tryd.underlying126 rfl hmi) hHeld ?_
          simp only [List.getElem_toArray, List.getElem_cons_zero, List.getElem_cons_succ, Act.put, List.setIfInBounds_toArray, List.set_cons_zero, List.set_cons_succ]
          refine wpAnyH_take (i := 17) (v := .bool false) rfl (by kernel_rfl) (by kernel_rfl) (by kernel_rfl) (fun _ _ _ h => h) (Or.inl ⟨by rfl, fun _ _ => by go_simp⟩) hHeld ?_
          simp only [List.getElem_toArray, List.getElem_cons_zero, List.getElem_cons_succ, Act.put, List.setIfInBounds_toArray, List.set_cons_zero, List.set_cons_succ]
          refine wpAnyH_done (by kernel_rfl) ?_ _
          clear hsame hS0 hHeld e1 e2 e3 hmi
          go_wp2
          exact ⟨⟨i + 1, by omega, by go_num, grown_trans (unhide HGQ) (grown_drew (grown_refl _ _))⟩, by simp [intOf]; omega⟩
        · have hd2 : decide ((i : Int) < (n : Int)) = false := by simp; omega
          clear S hgq h3 e4 hsame hmi
          go_wp2
          exact ⟨⟨k + 1, by omega, by go_num, grown_trans (unhide HGR) (unhide HGQ)⟩, by simp [intOf]; omega⟩
    · have hke : k = recs.length := by omega
      have S := (unhide HS).later (unhide HGR)
      obtain ⟨at1, ct, hdv⟩ := S.head
      have c1 : wr.cell? ⟨G, o + 5, none⟩ = some (.slice at1 recs.length ct) := by rw [← hdv]; exact S.bk.cell1
      have hd : decide ((k : Int) < (recs.length : Int)) = false := by simp; omega
      clear S hdv
      go_wp2
      go_loopw [5] (fun v wr => ∃ k : Nat, k ≤ recp.length ∧ v = .int .i64 k ∧ w.grownBy wr none) (fun v _ => recp.length - (intOf v).toNat)
      case atStart => exact ⟨0, Nat.zero_le _, rfl, unhide HGR⟩
      case round =>
        obtain ⟨k, hk, rfl, hgr⟩ := hrel
        have HGR := hide hgr
        clear hgr
        by_cases hlt : k < recp.length
        · have hd : decide ((k : Int) < (recp.length : Int)) = true := by simp; omega
          have j1 : (k : Int) < (recp.length : Int) := by omega
          have S := (unhide HP).later (unhide HGR)
          obtain ⟨gt, ct, gx, cx, ao, n, cap, rfl, rfl, hrk1, hn1, hn2⟩ := S.look k hlt
          obtain ⟨mk, hrk⟩ : ∃ mk, recp[k] = (.slice ao n cap, mk) := ⟨recp[k].2, Prod.ext hrk1 rfl⟩
          obtain ⟨d, hd32, rfl⟩ : Mp mk := by
            have := (unhide HN recp[k] (List.getElem_mem hlt)).1
            rwa [hrk] at this
          have c1 : wr.cell? ⟨G, o + 7, none⟩ = some (.slice (some ⟨gt, 0, none⟩) recp.length ct) := S.bk.cell1
          have ctk := (S.read k hlt hrk).1
          have HRK := hide hrk
          have hmi := v_wrm false (-1) d hd32
          have hsame := fun wq => item_same false (-1) d hd32 wq
          unfold maxLen at hn2
          clear S hrk hrk1
          go_wp2
          go_loopw [6] (fun v wq => ∃ i : Nat, i ≤ n ∧ v = .int .i64 i ∧ wr.grownBy wq none) (fun v _ => n - (intOf v).toNat)
          case atStart => exact ⟨0, Nat.zero_le _, rfl, grown_refl _ _⟩
          case round =>
            obtain ⟨i, hi, rfl, hgq⟩ := hrel
            have S := ((unhide HP).later (unhide HGR)).later hgq
            have HGQ := hide hgq
            have e1 : wr.cell? ⟨G, o + 7, none⟩ = some (.slice (some ⟨gt, 0, none⟩) recp.length ct) := S.bk.cell1
            have e3 : wr.cell? ⟨G, o + 8, none⟩ = some (.slice (some ⟨gx, 0, none⟩) recp.length cx) := S.bk.cell2
            obtain ⟨e2, e4, h3⟩ := S.read k hlt (unhide HRK)
            by_cases hin : i < n
            · have hd2 : decide ((i : Int) < (n : Int)) = true := by simp; omega
              have j2 : (i : Int) < (n : Int) := by omega
              obtain ⟨g, hao, hc⟩ := h3 (by omega)
              subst hao
              have e5 := hc i hin
              have hS0 : wr.drew.cell? ⟨G, o + 7, none⟩ = some (.slice (some ⟨gt, 0, none⟩) recp.length ct) ∧ wr.drew.cell? ⟨gt, k, none⟩ = some (.slice (some ⟨g, 0, none⟩) n cap) ∧ wr.drew.cell? ⟨G, o + 8, none⟩ = some (.slice (some ⟨gx, 0, none⟩) recp.length cx) ∧ wr.drew.rangeAt g (i * 34) (ixcells false (-1) d) ∧ wr.drew.rangeAt gx (k * 34) (ixcells false (-1) d) := ⟨e1, e2, e3, e5, e4⟩
              clear hc h3 S hgq
              go_wp2
              clear e4 e5
              have hu31 := Tryd.underlying131
              refine wp_region_held_drew (S := fun w' => w'.cell? ⟨G, o + 7, none⟩ = some (.slice (some ⟨gt, 0, none⟩) recp.length ct) ∧ w'.cell? ⟨gt, k, none⟩ = some (.slice (some ⟨g, 0, none⟩) n cap) ∧ w'.cell? ⟨G, o + 8, none⟩ = some (.slice (some ⟨gx, 0, none⟩) recp.length cx) ∧ w'.rangeAt g (i * 34) (ixcells false (-1) d) ∧ w'.rangeAt gx (k * 34) (ixcells false (-1) d)) (by kernel_rfl) hS0 (fun hHeld => ?_)
              refine wpAnyH_take (i := 0) (v := .pointer (some ⟨G, o, none⟩)) rfl (by kernel_rfl) (by kernel_rfl) (by kernel_rfl) (fun _ _ _ h => h) (Or.inl ⟨by rfl, fun _ _ => by go_simp⟩) hHeld ?_
              simp only [List.getElem_toArray, List.getElem_cons_zero, Act.put, List.setIfInBounds_toArray, List.set_cons_zero, List.set_cons_succ]
              refine wpAnyH_take (i := 1) (v := .pointer (some ⟨G, o, none⟩)) rfl (by kernel_rfl) (by kernel_rfl) (by kernel_rfl) (fun _ _ _ h => h) (Or.inl ⟨by rfl, fun _ _ => by go_simp⟩) hHeld ?_
              simp only [List.getElem_toArray, List.getElem_cons_zero, List.getElem_cons_succ, Act.put, List.setIfInBounds_toArray, List.set_cons_zero, List.set_cons_succ]
              refine wpAnyH_take (i := 2) (v := .pointer (some ⟨G, o + 7, none⟩)) rfl (by kernel_rfl) (by kernel_rfl) (by kernel_rfl) (fun _ _ _ h => h) (Or.inl ⟨by rfl, fun _ _ => by go_simp⟩) hHeld ?_
              simp only [List.getElem_toArray, List.getElem_cons_zero, List.getElem_cons_succ, Act.put, List.setIfInBounds_toArray, List.set_cons_zero, List.set_cons_succ]
              refine wpAnyH_take (i := 3) (v := .slice (some ⟨gt, 0, none⟩) recp.length ct) rfl (by kernel_rfl) (by kernel_rfl) (by kernel_rfl) (fun _ _ _ h => h) (Or.inl ⟨by rfl, fun _ hq => by have h5 := hq.1; clear hq; go_simp⟩) hHeld ?_
              simp only [List.getElem_toArray, List.getElem_cons_zero, List.getElem_cons_succ, Act.put, List.setIfInBounds_toArray, List.set_cons_zero, List.set_cons_succ]
              refine wpAnyH_take (i := 4) (v := .int .i64 k) rfl (by kernel_rfl) (by kernel_rfl) (by kernel_rfl) (fun _ _ _ h => h) (Or.inl ⟨by rfl, fun _ _ => by go_simp⟩) hHeld ?_
              simp only [List.getElem_toArray, List.getElem_cons_zero, List.getElem_cons_succ, Act.put, List.setIfInBounds_toArray, List.set_cons_zero, List.set_cons_succ]
              refine wpAnyH_take (i := 5) (v := .pointer (some ⟨gt, k, none⟩)) rfl (by kernel_rfl) (by kernel_rfl) (by kernel_rfl) (fun _ _ _ h => h) (Or.inl ⟨by rfl, fun _ _ => by go_simp⟩) hHeld ?_
              simp only [List.getElem_toArray, List.getElem_cons_zero, List.getElem_cons_succ, Act.put, List.setIfInBounds_toArray, List.set_cons_zero, List.set_cons_succ]
              refine wpAnyH_take (i := 6) (v := .slice (some ⟨g, 0, none⟩) n cap) rfl (by kernel_rfl) (by kernel_rfl) (by kernel_rfl) (fun _ _ _ h => h) (Or.inl ⟨by rfl, fun _ hq => by have h5 := hq.2.1; clear hq; go_simp⟩) hHeld ?_
              simp only [List.getElem_toArray, List.getElem_cons_zero, List.getElem_cons_succ, Act.put, List.setIfInBounds_toArray, List.set_cons_zero, List.set_cons_succ]
              refine wpAnyH_take (i := 7) (v := .int .i64 i) rfl (by kernel_rfl) (by kernel_rfl) (by kernel_rfl) (fun _ _ _ h => h) (Or.inl ⟨by rfl, fun _ _ => by go_simp⟩) hHeld ?_
              simp only [List.getElem_toArray, List.getElem_cons_zero, List.getElem_cons_succ, Act.put, List.setIfInBounds_toArray, List.set_cons_zero, List.set_cons_succ]
              refine wpAnyH_take (i := 8) (v := .pointer (some ⟨g, i * 34, none⟩)) rfl (by kernel_rfl) (by kernel_rfl) (by kernel_rfl) (fun _ _ _ h => h) (Or.inl ⟨by rfl, fun _ _ => by go_simp⟩) hHeld ?_
              simp only [List.getElem_toArray, List.getElem_cons_zero, List.getElem_cons_succ, Act.put, List.setIfInBounds_toArray, List.set_cons_zero, List.set_cons_succ]
              refine wpAnyH_take (i := 9) rfl (by kernel_rfl) (by kernel_rfl) (by kernel_rfl) (fun _ _ _ h => h) (yieldsIf_load_mid (by rfl) 131 _ rfl g (i * 34) rfl (ixcells false (-1) d) _ (fun _ hq => hq.2.2.2.1) Tryd.underlying131 rfl hmi) hHeld ?_
              simp only [List.getElem_toArray, List.getElem_cons_zero, List.getElem_cons_succ, Act.put, List.setIfInBounds_toArray, List.set_cons_zero, List.set_cons_succ]
              refine wpAnyH_take (i := 10) (v := .pointer (some ⟨G, o, none⟩)) rfl (by kernel_rfl) (by kernel_rfl) (by kernel_rfl) (fun _ _ _ h => h) (Or.inl ⟨by rfl, fun _ _ => by go_simp⟩) hHeld ?_
              simp only [List.getElem_toArray, List.getElem_cons_zero, List.getElem_cons_succ, Act.put, List.setIfInBounds_toArray, List.set_cons_zero, List.set_cons_succ]
              refine wpAnyH_take (i := 11) (v := .pointer (some ⟨G, o, none⟩)) rfl (by kernel_rfl) (by kernel_rfl) (by kernel_rfl) (fun _ _ _ h => h) (Or.inl ⟨by rfl, fun _ _ => by go_simp⟩) hHeld ?_
              simp only [List.getElem_toArray, List.getElem_cons_zero, List.getElem_cons_succ, Act.put, List.setIfInBounds_toArray, List.set_cons_zero, List.set_cons_succ]
              refine wpAnyH_take (i := 12) (v := .pointer (some ⟨G, o + 8, none⟩)) rfl (by kernel_rfl) (by kernel_rfl) (by kernel_rfl) (fun _ _ _ h => h) (Or.inl ⟨by rfl, fun _ _ => by go_simp⟩) hHeld ?_
              simp only [List.getElem_toArray, List.getElem_cons_zero, List.getElem_cons_succ, Act.put, List.setIfInBounds_toArray, List.set_cons_zero, List.set_cons_succ]
              refine wpAnyH_take (i := 13) (v := .slice (some ⟨gx, 0, none⟩) recp.length cx) rfl (by kernel_rfl) (by kernel_rfl) (by kernel_rfl) (fun _ _ _ h => h) (Or.inl ⟨by rfl, fun _ hq => by have h5 := hq.2.2.1; clear hq; go_simp⟩) hHeld ?_
              simp only [List.getElem_toArray, List.getElem_cons_zero, List.getElem_cons_succ, Act.put, List.setIfInBounds_toArray, List.set_cons_zero, List.set_cons_succ]
              refine wpAnyH_take (i := 14) (v := .int .i64 k) rfl (by kernel_rfl) (by kernel_rfl) (by kernel_rfl) (fun _ _ _ h => h) (Or.inl ⟨by rfl, fun _ _ => by go_simp⟩) hHeld ?_
              simp only [List.getElem_toArray, List.getElem_cons_zero, List.getElem_cons_succ, Act.put, List.setIfInBounds_toArray, List.set_cons_zero, List.set_cons_succ]
              refine wpAnyH_take (i := 15) (v := .pointer (some ⟨gx, k * 34, none⟩)) rfl (by kernel_rfl) (by kernel_rfl) (by kernel_rfl) (fun _ _ _ h => h) (Or.inl ⟨by rfl, fun _ _ => by go_simp⟩) hHeld ?_
              simp only [List.getElem_toArray, List.getElem_cons_zero, List.getElem_cons_succ, Act.put, List.setIfInBounds_toArray, List.set_cons_zero, List.set_cons_succ]
              refine wpAnyH_take (i := 16) rfl (by kernel_rfl) (by kernel_rfl) (by kernel_rfl) (fun _ _ _ h => h) (yieldsIf_load_mid (by rfl) 131 _ rfl gx (k * 34) rfl (ixcells false (-1) d) _ (fun _ hq => hq.2.2.2.2) Tryd.underlying131 rfl hmi) hHeld ?_
              simp only [List.getElem_toArray, List.getElem_cons_zero, List.getElem_cons_succ, Act.put, List.setIfInBounds_toArray, List.set_cons_zero, List.set_cons_succ]
              refine wpAnyH_take (i := 17) (v := .bool false) rfl (by kernel_rfl) (by kernel_rfl) (by kernel_rfl) (fun _ _ _ h => h) (Or.inl ⟨by rfl, fun _ _ => by go_simp⟩) hHeld ?_
              simp only [List.getElem_toArray, List.getElem_cons_zero, List.getElem_cons_succ, Act.put, List.setIfInBounds_toArray, List.set_cons_zero, List.set_cons_succ]
              refine wpAnyH_done (by kernel_rfl) ?_ _
              clear hsame hS0 hHeld e1 e2 e3 hmi
              go_wp2
              exact ⟨⟨i + 1, by omega, by go_num, grown_trans (unhide HGQ) (grown_drew (grown_refl _ _))⟩, by simp [intOf]; omega⟩
            · have hd2 : decide ((i : Int) < (n : Int)) = false := by simp; omega
              clear S hgq h3 e4 hsame hmi
              go_wp2
              exact ⟨⟨k + 1, by omega, by go_num, grown_trans (unhide HGR) (unhide HGQ)⟩, by simp [intOf]; omega⟩
        · have hke : k = recp.length := by omega
          have S := (unhide HP).later (unhide HGR)
          obtain ⟨at1, ct, hdv⟩ := S.head
          have c1 : wr.cell? ⟨G, o + 7, none⟩ = some (.slice at1 recp.length ct) := by rw [← hdv]; exact S.bk.cell1
          have hd : decide ((k : Int) < (recp.length : Int)) = false := by simp; omega
          clear S hdv
          go_wp2
          go_ret
          exact ⟨rfl, bel_of_grown (unhide HGR)⟩
end Go.Proofs.YtanfolfopalbeaaDoor
namespace Go.Proofs.YtanfolfopalbeaaDoor
open Go.RowKit

/-- The kind of texts. -/
def Kt (ty : TypeId) (o : Nat) : Kd := ⟨ty, 34, 9, 1, o + 1, o + 2⟩
theorem info_strs : (Tryd.prog.info? 34).map (fun i => (i.zero, i.size, i.bytes)) = some (some (.slice none 0 0), 1, 24) := by kernel_rfl
theorem v_a32 (d : List UInt8) (h : d.length = 32) : (Tryd.prog.info? 30).map (·.size) = some (bcells d).toArray.size := by rw [bcells_size, h]; exact info_a32
theorem one_str (s : ByteArray) : ∀ u ∈ [Value.string s], u.oneCell' = true := by intro u hu; rw [List.mem_singleton.1 hu]; rfl

/-- A mark of this kind. -/
def Mt (m : List Value) : Prop := ∃ s : ByteArray, m = [.string s]
set_option maxRecDepth 100000 in
set_option maxHeartbeats 3200000 in
theorem bKt_any (ty : TypeId) (o : Nat) (P : Nat → Prop) (B G n : Nat) (cs : Array Value) (tv xv : Value) (w0 w : World) (recs : List (Value × List Value)) (lv : Value) (nl : Nat) (ls : List (List Value)) (S : StG (Kt ty o) P B w0 w G cs tv xv (recs.map (·.1)) (recs.map (·.2)) recs lv nl ls)
    (hn : cs[o]? = some (.int .i64 (n : Int))) (hb : n ≤ 1099511627776) (hnl : nl ≤ 1000) (hll : ls.length = nl) (hl32 : ∀ d ∈ ls, d.length = 1) (hrl : recs.length ≤ 1099511627776) (hnew : ∀ r ∈ recs, ∀ g, lv.ownBlock = some g → r.1.ownBlock ≠ some g) (hmk0 : Marked Mt P recs) :
    Calls Tryd.prog 73 #[.pointer (some ⟨G, o, none⟩), lv] w fun e w' => ∃ cs' tv' xv' recs', StG (Kt ty o) P B w0 w' G cs' tv' xv' (recs'.map (·.1)) (recs'.map (·.2)) recs' (.slice none 0 0) 0 [] ∧ Marked Mt P recs' ∧ recs'.length = recs.length + 4 ∧ CsK (Kt ty o) o cs cs' (n + 1) ∧ e = .returned (.tuple #[]) := by
  have hmk := markO_any G o cs ty n w S.bk.1 hn hb
  obtain ⟨iS, hiS, hzS0, hzS1, hzS2⟩ := info_parts info_strs
  obtain ⟨i0, hi0, hz0, hz1, hz2⟩ := info_parts info_str
  have HS := hide S
  have HM0 := hide hmk0
  clear S hmk0
  obtain ⟨ao, cap, rfl⟩ := own_shape (unhide HS).hl
  go_enter Tryd.func73, Tryd.ntmps73
  go_wp2_with fail
  refine hmk.mono ?_
  rintro e w1 ⟨tb, htb, rfl, hB1, hg1⟩
  have S1 := (unhide HS).count hg1 ((unhide HS).bk.num hB1 (by simp [Kt]) (by simp [Kt]))
  have HCS0 := hide (CsK.start (K := Kt ty o) (n := n + 1) hn)
  generalize cs.setIfInBounds o (.int .i64 ((n + 1 : Nat) : Int)) = cs1 at S1 HCS0
  have K1 := hide (v_a32 tb htb)
  have K2 := hide (v_z32 tb htb)
  have hrow : ((w1.alloc (.cells (bcells z32).toArray 30)).setRow w1.heap.size (bcells tb).toArray).heap[w1.heap.size]? = some (.cells (bcells tb).toArray 30 (0, 0)) := heap_put_new _ _ _ _
  have HS2 := hide (S1.later (put_grown w1 (.cells (bcells z32).toArray 30) (bcells tb).toArray))
  have HNEW := hide (fun r hr g hg => hnew r hr g hg)
  have HROW := hide hrow
  clear hrow hB1 hg1 S1 HS hmk hnew hn
  go_upto_region 1 with (((with_reducible refine at_store ?_); rw [← z32_cells]; go_must (refine wpList_store_row rfl 30 _ _ rfl w1.heap.size (bcells tb).toArray rfl rfl 30 _ (heap_alloc_new w1 _) (unhide K1) (unhide K2) (bcells_one tb) ?_)))
  generalize ((w1.alloc (.cells (bcells z32).toArray 30)).setRow w1.heap.size (bcells tb).toArray) = W2 at HS2 HROW ⊢
  generalize w1.heap.size = R at HROW ⊢
  have hcv := run_convert_bytes_back (P := Tryd.prog) W2 45 9 5 ⟨R, 0, none⟩ 32 tb Tryd.underlying45 Tryd.underlying5 Tryd.underlying9 (by
    intro j hj
    rw [Addr.add_lit, cell_of_row W2 R _ _ _ _ (unhide HROW)]
    simp [bcells, List.getElem?_eq_getElem hj])
  rw [htb] at hcv
  generalize (ByteArray.mk tb.toArray) = s at hcv
  have HMT := hide (show Mt [.string s] from ⟨s, rfl⟩)
  have ht : [Value.string s].length = 1 := rfl
  go_wp2_with fail
  clear hcv HROW K1 K2
  go_loopw [6] (fun v wr => ∃ i : Nat, i ≤ nl ∧ v = .int .i64 i ∧ StG (Kt ty o) P B w0 wr G cs1 tv xv (recs.map (·.1)) (recs.map (·.2)) recs (.slice ao nl cap) nl (List.replicate i [.string s] ++ ls.drop i)) (fun v _ => nl - (intOf v).toNat)
  case atStart => exact ⟨0, Nat.zero_le _, rfl, unhide HS2⟩
  case round =>
    clear HS2
    obtain ⟨i, hi, rfl, S⟩ := hrel
    have HS := hide S
    by_cases hlt : i < nl
    · have hd : decide ((i : Int) < (nl : Int)) = true := by simp; omega
      have j0 : (0 : Int) ≤ (i : Int) := by omega
      have j1 : (i : Int) < (nl : Int) := by omega
      obtain ⟨g, hao⟩ : ∃ g, ao = some ⟨g, 0, none⟩ := by
        rcases S.hl.2 with ⟨h, h0⟩ | ⟨g, cap', cur, h, _⟩
        · omega
        · injection h with h _ _; exact ⟨g, h⟩
      subst hao
      have hth := S.room rfl hlt 0 (by show 0 < 1; omega)
      obtain ⟨u, hu⟩ := Option.isSome_iff_exists.1 hth.1
      have hcu : wr.cell? ⟨g, i, none⟩ = some u := by
        have : i * (Kt ty o).sz + 0 = i := by show i * 1 + 0 = i; omega
        rw [this] at hu
        exact hu
      have hfu : wr.frozen? ⟨g, i, none⟩ = false := by
        have : i * (Kt ty o).sz + 0 = i := by show i * 1 + 0 = i; omega
        have h9 := hth.2
        rw [this] at h9
        exact h9
      clear S hth hu
      go_wp2
      refine ⟨⟨i + 1, by omega, by go_num, ?_⟩, by simp [intOf]; omega⟩
      have := (unhide HS).put (i := i) (x := [.string s]) rfl (fun d hd => by
        rcases List.mem_append.1 hd with hd | hd
        · rw [(List.mem_replicate.1 hd).2]; rfl
        · exact hl32 d (List.mem_of_mem_drop hd)) (by simp; omega) (by simp; omega) rfl (fun r hr => unhide HNEW r hr g rfl)
      rw [fill_el _ _ _ (by omega)] at this
      have e1 : i * (Kt ty o).sz = i := Nat.mul_one i
      rw [e1] at this
      exact this
    · have hd : decide ((i : Int) < (nl : Int)) = false := by simp; omega
      have S5 : StG (Kt ty o) P B w0 wr G cs1 tv xv (recs.map (·.1)) (recs.map (·.2)) recs (.slice ao nl cap) nl (List.replicate nl [.string s]) := by
        have h9 := S
        rw [show i = nl by omega, List.drop_eq_nil_of_le (by omega), List.append_nil] at h9
        exact h9
      have HS5 := hide S5
      clear S HS S5
      go_wp2
      go_loopw [1, 7] (fun lv tk wr => ∃ (k : Nat) (cs' : Array Value) (tv' xv' : Value) (recs' : List (Value × List Value)), k ≤ 4 ∧ tk = .int .i64 k ∧ recs'.length = recs.length + k ∧ Marked Mt P recs' ∧ CsK (Kt ty o) o cs cs' (n + 1) ∧ StG (Kt ty o) P B w0 wr G cs' tv' xv' (recs'.map (·.1)) (recs'.map (·.2)) recs' lv (nl + k) (List.replicate (nl + k) [.string s])) (fun _ tk _ => 4 - (intOf tk).toNat)
      case atStart => exact ⟨0, cs1, tv, xv, recs, by omega, rfl, rfl, unhide HM0, unhide HCS0, unhide HS5⟩
      case round =>
        clear HS5 HCS0
        obtain ⟨k, cs', tv', xv', recs', hk, rfl, hrl', hmk', hcs', S⟩ := hrel
        have HMK := hide hmk'
        clear hmk'
        have HCS := hide hcs'
        clear hcs'
        obtain ⟨al, cl, rfl⟩ := own_shape S.hl
        by_cases hlt4 : k < 4
        · have hd4 : decide ((k : Int) < 4) = true := by simp; omega
          have c3 : wr.cell? ⟨G, o + 1, none⟩ = some tv' := S.bk.cell1
          have hN1 : (recs'.map (·.1)).length = recs.length + k := by rw [List.length_map]; exact hrl'
          have hN2 : (recs'.map (·.2)).length = recs.length + k := by rw [List.length_map]; exact hrl'
          have hB := S.sz
          have hbG := S.bk.lt
          have HRL := hide hrl'
          have HT1 := hide (show ∀ (y : Value) (z : List Value), (recs' ++ [(y, z)]).map (fun r : Value × List Value => r.1) = recs'.map (fun r : Value × List Value => r.1) ++ [y] from fun y z => by simp)
          have HT2 := hide (show ∀ (y : Value) (z : List Value), (recs' ++ [(y, z)]).map (fun r : Value × List Value => r.2) = recs'.map (fun r : Value × List Value => r.2) ++ [z] from fun y z => by simp)
          obtain ⟨q1, q2, _⟩ := bq_lenG (recs'.map (·.1)).length (by omega)
          obtain ⟨q3, _, _, _, q4⟩ := bq_lenG (recs'.map (·.2)).length (by omega)
          obtain ⟨q5, _, _, _, q6⟩ := bq_lenG (nl + k) (by omega)
          generalize recs'.map (·.1) = tl at S q1 q2 HT1
          generalize recs'.map (·.2) = xl at S q3 q4 HT2
          have HS := hide S
          clear S hN1 hN2 hrl'
          go_upto_region 10 with (at_builtin; (with_reducible refine at_app 30 ?_); refine wpList_append_keeps _ rfl (.tmp 30) (.tmp 32) 48 rfl B 34 iS (.slice none 0 0) 1 24 Tryd.underlying48 hiS hzS0 hzS1 hzS2 rfl (by decide) _ _ _ rfl ((unhide HS).ht.alloc _) ⟨wr.heap.size, 0, none⟩ 1 1 [.slice al (nl + k) cl] rfl rfl (one_new _ _ _ _ rfl) (one_slc _ _ _) (by decide) q1 q2 (by simp; omega) ?_; intro ga ca wa hownA hgrowA hatA _ _; have hsA := hgrowA.size; have hBa := (unhide HS).bk.same ((grown_trans (World.grownBy_alloc wr _ _) hgrowA).block G hbG (fun e => (unhide HS).tG e.symm)); have c3a : wa.cell? ⟨G, o + 1, none⟩ = some tv' := hBa.cell1; have f3a : wa.frozen? ⟨G, o + 1, none⟩ = false := hBa.free _; have SA : Hid (StG (Kt ty o) P B w0 (wa.setCell ⟨G, o + 1, none⟩ (.slice (some ⟨ga, 0, none⟩) (tl.length + 1) ca)) G _ (.slice (some ⟨ga, 0, none⟩) (tl.length + 1) ca) xv' (tl ++ [.slice al (nl + k) cl]) xl _ (.slice al (nl + k) cl) (nl + k) (List.replicate (nl + k) [.string s])) := hide ((unhide HS).texts hownA hgrowA hatA); clear hBa hownA hgrowA hatA)
          generalize (wa.setCell ⟨G, o + 1, none⟩ (.slice (some ⟨ga, 0, none⟩) (tl.length + 1) ca)) = WA at SA ⊢
          clear c3 c3a f3a
          have c4 : WA.cell? ⟨G, o + 2, none⟩ = some xv' := (unhide SA).bk.cell2
          go_upto_region 11 with (at_builtin; (with_reducible refine at_app 40 ?_); refine wpList_append_keeps _ rfl (.tmp 40) (.tmp 42) 34 rfl B 9 i0 (.string ⟨#[]⟩) 1 16 Tryd.underlying34 hi0 hz0 hz1 hz2 rfl (by decide) _ _ _ rfl ((unhide SA).hx.alloc _) ⟨WA.heap.size, 0, none⟩ 1 1 [.string s] rfl rfl (one_new _ _ _ _ rfl) (one_str s) (by decide) q3 q4 (Nat.le_of_lt (Nat.lt_of_le_of_lt (unhide SA).sz (by simp))) ?_; intro gx cx wx hownX hgrowX hatX _ _; have hBx := (unhide SA).bk.same ((grown_trans (World.grownBy_alloc _ _ _) hgrowX).block G (unhide SA).bk.lt (fun e => (unhide SA).xG e.symm)); have c4x : wx.cell? ⟨G, o + 2, none⟩ = some xv' := hBx.cell2; have f4x : wx.frozen? ⟨G, o + 2, none⟩ = false := hBx.free _; have SX : Hid (StG (Kt ty o) P B w0 (wx.setCell ⟨G, o + 2, none⟩ (.slice (some ⟨gx, 0, none⟩) (xl.length + 1) cx)) G _ _ (.slice (some ⟨gx, 0, none⟩) (xl.length + 1) cx) _ (xl ++ [[.string s]]) _ (.slice al (nl + k) cl) (nl + k) (List.replicate (nl + k) [.string s])) := hide ((unhide SA).text rfl rfl hownX hgrowX hatX); clear hBx hownX hgrowX hatX)
          generalize (wx.setCell ⟨G, o + 2, none⟩ (.slice (some ⟨gx, 0, none⟩) (xl.length + 1) cx)) = WX at SX ⊢
          clear c4 c4x f4x SA HS
          go_wp2_with (at_builtin; refine wpList_append_keeps _ rfl (.tmp 46) (.tmp 48) 34 rfl B 9 i0 (.string ⟨#[]⟩) 1 16 Tryd.underlying34 hi0 hz0 hz1 hz2 rfl (by decide) _ _ _ rfl ((unhide SX).hl.alloc _) ⟨WX.heap.size, 0, none⟩ 1 1 [.string s] rfl rfl (one_new _ _ _ _ rfl) (one_str s) (by decide) q5 q6 (Nat.le_of_lt (Nat.lt_of_le_of_lt (unhide SX).sz (by simp))) ?_; intro gl cll wl hownL hgrowL hatL _ hkeepL; have SL := hide ((unhide SX).grow (ls' := List.replicate (nl + k + 1) [.string s]) (by rw [List.replicate_succ', fl_snoc]; exact hownL) hgrowL hatL hkeepL); clear hownL hgrowL hatL hkeepL)
          refine ⟨⟨k + 1, (cs'.setIfInBounds (Kt ty o).i1 (.slice (some ⟨ga, 0, none⟩) (tl.length + 1) ca)).setIfInBounds (Kt ty o).i2 (.slice (some ⟨gx, 0, none⟩) (xl.length + 1) cx), .slice (some ⟨ga, 0, none⟩) (tl.length + 1) ca, .slice (some ⟨gx, 0, none⟩) (xl.length + 1) cx, recs' ++ [(.slice al (nl + k) cl, [.string s])], by omega, by go_num, by rw [List.length_append, unhide HRL]; rfl, (unhide HMK).snoc (unhide HMT) (fun k hk => ((unhide SX).pr k hk).2.2.2.2.2), ((unhide HCS).set1 (by simp [Kt]) _).set2 (by simp [Kt]) _, ?_⟩, by simp [intOf]; omega⟩
          have hSL := unhide SL
          rw [← unhide HT1 (.slice al (nl + k) cl) [.string s], ← unhide HT2 (.slice al (nl + k) cl) [.string s]] at hSL
          exact hSL
        · have hd4 : decide ((k : Int) < 4) = false := by simp; omega
          have hk4 : k = 4 := by omega
          have HS := hide S.drop
          clear S
          rw [hk4] at hrl'
          have HRL := hide hrl'
          clear hrl' hk4
          go_wp2
          exact bodyPost_end (results_none Tryd.results73 _ _ _) rfl ⟨cs', tv', xv', recs', unhide HS, unhide HMK, unhide HRL, unhide HCS, rfl⟩
end Go.Proofs.YtanfolfopalbeaaDoor
namespace Go.Proofs.YtanfolfopalbeaaDoor
open Go.RowKit

theorem drewN_bgrown (w : World) : ∀ n, w.grownBy (w.drewN n) none := fun _ => ⟨rfl, rfl, rfl, Nat.le_refl _, fun _ _ _ => rfl⟩
theorem range_one {w : World} {g i : Nat} {v : Value} (h : w.rangeAt g (i * 1) [v]) : w.cell? ⟨g, i, none⟩ = some v := by
  have := h 0 v rfl
  rwa [Nat.mul_one, Nat.add_zero] at this
set_option maxRecDepth 100000 in
set_option maxHeartbeats 3200000 in
theorem holdsG_any (ty : TypeId) (o : Nat) (P P' P2 : Nat → Prop) (B B' B2 G : Nat) (cs : Array Value) (tv xv pv qv lv mv : Value) (w0 w0' w02 w : World) (recs recp rect : List (Value × List Value))
    (S : StG (Ks ty o) P B w0 w G cs tv xv (recs.map (·.1)) (recs.map (·.2)) recs (.slice none 0 0) 0 []) (Sp : StG (Kp ty o) P' B' w0' w G cs pv qv (recp.map (·.1)) (recp.map (·.2)) recp (.slice none 0 0) 0 []) (St : StG (Kt ty o) P2 B2 w02 w G cs lv mv (rect.map (·.1)) (rect.map (·.2)) rect (.slice none 0 0) 0 [])
    (hM : Marked Ms P recs) (hN : Marked Mp P' recp) (hT : Marked Mt P2 rect) (hl : recs.length ≤ 1099511627776) (hp : recp.length ≤ 1099511627776) (ht : rect.length ≤ 1099511627776) (hd3 : cs[o + 3]? = some (.slice none 0 0)) :
    Calls Tryd.prog 26 #[.pointer (some ⟨G, o, none⟩)] w fun e w' => e = .returned (.bool true) ∧ Below w.heap.size w w' := by
  have HS := hide St
  have HM := hide hT
  have hdk := fun (wq : World) (h : w.grownBy wq none) => disksG_any ty o P P' B B' G cs tv xv pv qv w0 w0' wq recs recp (S.later h) (Sp.later h) hM hN hl hp
  have HDK := hide hdk
  clear S Sp St hM hN hT hdk hl hp
  go_enter Tryd.func26, Tryd.ntmps26
  go_wp2
  go_loopw [3] (fun v wr => ∃ k : Nat, k ≤ rect.length ∧ v = .int .i64 k ∧ w.grownBy wr none) (fun v _ => rect.length - (intOf v).toNat)
  case atStart => exact ⟨0, Nat.zero_le _, rfl, grown_refl _ _⟩
  case round =>
    obtain ⟨k, hk, rfl, hgr⟩ := hrel
    have HGR := hide hgr
    clear hgr
    by_cases hlt : k < rect.length
    · have hd : decide ((k : Int) < (rect.length : Int)) = true := by simp; omega
      have j1 : (k : Int) < (rect.length : Int) := by omega
      have S := (unhide HS).later (unhide HGR)
      obtain ⟨gt, ct, gx, cx, ao, n, cap, rfl, rfl, hrk1, hn1, hn2⟩ := S.look k hlt
      obtain ⟨mk, hrk⟩ : ∃ mk, rect[k] = (.slice ao n cap, mk) := ⟨rect[k].2, Prod.ext hrk1 rfl⟩
      obtain ⟨s, rfl⟩ : Mt mk := by
        have := (unhide HM rect[k] (List.getElem_mem hlt)).1
        rwa [hrk] at this
      have c1 : wr.cell? ⟨G, o + 1, none⟩ = some (.slice (some ⟨gt, 0, none⟩) rect.length ct) := S.bk.cell1
      have ctk := (S.read k hlt hrk).1
      have HRK := hide hrk
      unfold maxLen at hn2
      clear S hrk hrk1
      go_wp2
      go_loopw [4] (fun v wq => ∃ i : Nat, i ≤ n ∧ v = .int .i64 i ∧ wr.grownBy wq none) (fun v _ => n - (intOf v).toNat)
      case atStart => exact ⟨0, Nat.zero_le _, rfl, grown_refl _ _⟩
      case round =>
        obtain ⟨i, hi, rfl, hgq⟩ := hrel
        have S := ((unhide HS).later (unhide HGR)).later hgq
        have HGQ := hide hgq
        have e1 : wr.cell? ⟨G, o + 1, none⟩ = some (.slice (some ⟨gt, 0, none⟩) rect.length ct) := S.bk.cell1
        have e3 : wr.cell? ⟨G, o + 2, none⟩ = some (.slice (some ⟨gx, 0, none⟩) rect.length cx) := S.bk.cell2
        obtain ⟨e2, e4', h3⟩ := S.read k hlt (unhide HRK)
        have e4 := range_one (show wr.rangeAt gx (k * 1) [.string s] from e4')
        clear e4'
        by_cases hin : i < n
        · have hd2 : decide ((i : Int) < (n : Int)) = true := by simp; omega
          have j2 : (i : Int) < (n : Int) := by omega
          obtain ⟨g, hao, hc⟩ := h3 (by omega)
          subst hao
          have e5 := range_one (show wr.rangeAt g (i * 1) [.string s] from hc i hin)
          clear hc h3 S hgq
          go_wp2
          go_quiet (fail)
          go_wp2
          exact ⟨⟨i + 1, by omega, by go_num, grown_trans (unhide HGQ) (drewN_bgrown _ _)⟩, by simp [intOf]; omega⟩
        · have hd2 : decide ((i : Int) < (n : Int)) = false := by simp; omega
          clear S hgq h3
          go_wp2
          exact ⟨⟨k + 1, by omega, by go_num, grown_trans (unhide HGR) (unhide HGQ)⟩, by simp [intOf]; omega⟩
    · have hke : k = rect.length := by omega
      have S := (unhide HS).later (unhide HGR)
      obtain ⟨at1, ct, hdv⟩ := S.head
      have c1 : wr.cell? ⟨G, o + 1, none⟩ = some (.slice at1 rect.length ct) := by rw [← hdv]; exact S.bk.cell1
      have c3 : wr.cell? ⟨G, o + 3, none⟩ = some (.slice none 0 0) := by rw [cell_of_row wr G _ _ _ _ S.bk.1]; exact hd3
      have hd : decide ((k : Int) < (rect.length : Int)) = false := by simp; omega
      have hdk2 := unhide HDK wr (unhide HGR)
      clear S hdv HDK
      go_wp2
      go_loopw [5] (fun v wq => v = .int .i64 0 ∧ wq = wr) (fun _ _ => 0)
      case atStart => exact ⟨rfl, rfl⟩
      case round =>
        obtain ⟨rfl, rfl⟩ := hrel
        go_wp2_with (go_at_call 62; refine hdk2.mono ?_; rintro e wz ⟨rfl, hbz⟩)
        go_ret
        exact ⟨rfl, (bel_of_grown (unhide HGR)).trans (hbz.mono (unhide HGR).size)⟩
end Go.Proofs.YtanfolfopalbeaaDoor
namespace Go.Proofs.YtanfolfopalbeaaDoor
open Go.RowKit

/-- A block of the lists, of their marks, or of one of them. -/
def InB (tv xv : Value) (recs : List (Value × List Value)) (k : Nat) : Prop := tv.ownBlock = some k ∨ xv.ownBlock = some k ∨ ∃ r ∈ recs, r.1.ownBlock = some k
/-- A block that a call with the list lv leaves as it is. -/
def FreeB (w : World) (G : Nat) (tv xv : Value) (recs : List (Value × List Value)) (lv : Value) (k : Nat) : Prop := k < w.heap.size ∧ k ≠ G ∧ ¬ InB tv xv recs k ∧ lv.ownBlock ≠ some k
/-- What holds of a kind's lists between the calls. -/
structure BkV (K : Kd) (M : List Value → Prop) (B : Nat) (w : World) (G : Nat) (cs : Array Value) (tv xv : Value) (recs : List (Value × List Value)) : Prop where
  bk : ObK K w G cs tv xv
  base : B ≤ G
  ht : w.ownsRow B K.eT 1 tv (recs.map (·.1)).length (recs.map (·.1))
  hx : w.ownsRow B K.eL K.sz xv (recs.map (·.2)).length (fl (recs.map (·.2)))
  hf : ∀ r ∈ recs, FullG K.sz w r.1 r.2
  hs : ∀ r ∈ recs, ∀ g, r.1.ownBlock = some g → g < w.heap.size ∧ g ≠ G ∧ tv.ownBlock ≠ some g ∧ xv.ownBlock ≠ some g
  tG : tv.ownBlock ≠ some G
  xG : xv.ownBlock ≠ some G
  tx : ∀ g, tv.ownBlock = some g → xv.ownBlock ≠ some g
  mrk : ∀ r ∈ recs, M r.2
theorem BkV.start {K : Kd} {M : List Value → Prop} {B : Nat} {w : World} {G : Nat} {cs : Array Value} {tv xv : Value} {recs : List (Value × List Value)} (I : BkV K M B w G cs tv xv recs) {lv : Value} {nl : Nat} {ls : List (List Value)} (hl : w.ownsRow B K.eL K.sz lv nl (fl ls)) (hlG : lv.ownBlock ≠ some G) (hln : ∀ k, lv.ownBlock = some k → ¬ InB tv xv recs k) :
    StG K (FreeB w G tv xv recs lv) B w w G cs tv xv (recs.map (·.1)) (recs.map (·.2)) recs lv nl ls ∧ Marked M (FreeB w G tv xv recs lv) recs := by
  refine ⟨⟨I.bk, I.base, I.ht, I.hx, hl, I.hf, fun r hr g hg => ?_, I.tG, I.xG, hlG, I.tx, fun g h h2 => hln g h2 (.inl h), fun g h h2 => hln g h2 (.inr (.inl h)), Below.refl _ _, fun k hk => ?_⟩, fun r hr => ⟨I.mrk r hr, fun k hk h => hk.2.2.1 (.inr (.inr ⟨r, hr, h⟩))⟩⟩
  · obtain ⟨h1, h2, h3, h4⟩ := I.hs r hr g hg
    exact ⟨h1, h2, h3, h4, fun h => absurd (.inr (.inr ⟨r, hr, hg⟩)) (hln g h)⟩
  · exact ⟨hk.1, rfl, hk.2.1, fun h => hk.2.2.1 (.inl h), fun h => hk.2.2.1 (.inr (.inl h)), hk.2.2.2⟩
theorem StG.stop {K : Kd} {M : List Value → Prop} {P : Nat → Prop} {B : Nat} {w0 w : World} {G : Nat} {cs : Array Value} {tv xv : Value} {recs : List (Value × List Value)} (S : StG K P B w0 w G cs tv xv (recs.map (·.1)) (recs.map (·.2)) recs (.slice none 0 0) 0 []) (hm : Marked M P recs) :
    BkV K M B w G cs tv xv recs ∧ ∀ k, P k → k < w.heap.size ∧ w.heap[k]? = w0.heap[k]? ∧ ¬ InB tv xv recs k := by
  refine ⟨⟨S.bk, S.base, S.ht, S.hx, S.hf, fun r hr g hg => ?_, S.tG, S.xG, S.tx, fun r hr => (hm r hr).1⟩, fun k hk => ?_⟩
  · obtain ⟨h1, h2, h3, h4, _⟩ := S.hs r hr g hg
    exact ⟨h1, h2, h3, h4⟩
  · obtain ⟨h1, h2, _, h4, h5, _⟩ := S.pr k hk
    refine ⟨h1, h2, ?_⟩
    rintro (h | h | ⟨r, hr, h⟩)
    · exact h4 h
    · exact h5 h
    · exact (hm r hr).2 k hk h
theorem own_sameB {w w' : World} {B : Nat} {e : TypeId} {s : Nat} {v : Value} {n : Nat} {xs : List Value} (h : w.ownsRow B e s v n xs) (hk : ∀ k, v.ownBlock = some k → w'.heap[k]? = w.heap[k]?) : w'.ownsRow B e s v n xs := by
  obtain ⟨h1, h2⟩ := h
  refine ⟨h1, ?_⟩
  rcases h2 with h2 | ⟨g, cap, cur, rfl, h3, h4, h5⟩
  · exact .inl h2
  · exact .inr ⟨g, cap, cur, rfl, h3, (hk g rfl).trans h4, h5⟩
theorem cell_sameB {w w' : World} {g j : Nat} (h : w'.heap[g]? = w.heap[g]?) : w'.cell? ⟨g, j, none⟩ = w.cell? ⟨g, j, none⟩ := by
  exact World.cell?_of_block h
theorem BkV.other {K : Kd} {M : List Value → Prop} {B : Nat} {w : World} {G : Nat} {cs : Array Value} {tv xv : Value} {recs : List (Value × List Value)} (I : BkV K M B w G cs tv xv recs) {w' : World} {cs' : Array Value} (hob : ObK K w' G cs' tv xv) (hk : ∀ k, InB tv xv recs k → w'.heap[k]? = w.heap[k]?) (hsz : w.heap.size ≤ w'.heap.size) : BkV K M B w' G cs' tv xv recs := by
  refine ⟨hob, I.base, own_sameB I.ht fun k h => hk k (.inl h), own_sameB I.hx fun k h => hk k (.inr (.inl h)), fun r hr => (I.hf r hr).keep fun g j hg _ => cell_sameB (hk g (.inr (.inr ⟨r, hr, hg⟩))), fun r hr g hg => ?_, I.tG, I.xG, I.tx, I.mrk⟩
  obtain ⟨h1, h2⟩ := I.hs r hr g hg
  exact ⟨Nat.lt_of_lt_of_le h1 hsz, h2⟩
/-- A world that grew, and changed no block. -/
theorem BkV.later {K : Kd} {M : List Value → Prop} {B : Nat} {w : World} {G : Nat} {cs : Array Value} {tv xv : Value} {recs : List (Value × List Value)} (I : BkV K M B w G cs tv xv recs) {w' : World} (hb : Below w.heap.size w w') : BkV K M B w' G cs tv xv recs :=
  I.other (I.bk.same (hb.block G I.bk.lt)) (fun k h => hb.block k (by
    rcases h with h | h | ⟨r, hr, h⟩
    · exact (I.ht.lt k h).2
    · exact (I.hx.lt k h).2
    · exact (I.hs r hr k h).1)) hb.size
theorem BkV.inB_lt {K : Kd} {M : List Value → Prop} {B : Nat} {w : World} {G : Nat} {cs : Array Value} {tv xv : Value} {recs : List (Value × List Value)} (I : BkV K M B w G cs tv xv recs) {k : Nat} (h : InB tv xv recs k) : k < w.heap.size ∧ k ≠ G := by
  rcases h with h | h | ⟨r, hr, h⟩
  · exact ⟨(I.ht.lt k h).2, fun e => I.tG (by rw [← e]; exact h)⟩
  · exact ⟨(I.hx.lt k h).2, fun e => I.xG (by rw [← e]; exact h)⟩
  · exact ⟨(I.hs r hr k h).1, (I.hs r hr k h).2.1⟩
/-- Behind a call of one kind, another kind stands as it was, and apart. -/
theorem BkV.beside {KA KB : Kd} {M : List Value → Prop} {B : Nat} {w : World} {G o n : Nat} {cs : Array Value} {tA xA tB xB : Value} {rA rB : List (Value × List Value)} {lv : Value} (I : BkV KB M B w G cs tB xB rB) (hty : KB.ty = KA.ty) (h1 : KB.i1 ≠ o ∧ KB.i1 ≠ KA.i1 ∧ KB.i1 ≠ KA.i2) (h2 : KB.i2 ≠ o ∧ KB.i2 ≠ KA.i1 ∧ KB.i2 ≠ KA.i2)
    {w' : World} {cs' : Array Value} {tA' xA' : Value} {rA' : List (Value × List Value)} (hob : ObK KA w' G cs' tA' xA') (hc : CsK KA o cs cs' n) (hfree : ∀ k, FreeB w G tA xA rA lv k → k < w'.heap.size ∧ w'.heap[k]? = w.heap[k]? ∧ ¬ InB tA' xA' rA' k) (hdis : ∀ k, InB tB xB rB k → ¬ InB tA xA rA k) (hlv : ∀ k, InB tB xB rB k → lv.ownBlock ≠ some k) (hsz : w.heap.size ≤ w'.heap.size) :
    BkV KB M B w' G cs' tB xB rB ∧ ∀ k, InB tB xB rB k → ¬ InB tA' xA' rA' k := by
  have hF : ∀ k, InB tB xB rB k → FreeB w G tA xA rA lv k := fun k hk => ⟨(I.inB_lt hk).1, (I.inB_lt hk).2, hdis k hk, hlv k hk⟩
  refine ⟨I.other ⟨?_, ?_, ?_, I.bk.2.2.2⟩ (fun k hk => (hfree k (hF k hk)).2.1) hsz, fun k hk => (hfree k (hF k hk)).2.2⟩
  · rw [hty]; exact hob.1
  · rw [hc.other _ h1.1 h1.2.1 h1.2.2]; exact I.bk.2.1
  · rw [hc.other _ h2.1 h2.2.1 h2.2.2]; exact I.bk.2.2.1
end Go.Proofs.YtanfolfopalbeaaDoor
namespace Go.Proofs.YtanfolfopalbeaaDoor
open Go.RowKit

/-- What holds of the book between the calls. -/
structure Bk3 (ty : TypeId) (o B : Nat) (w : World) (G : Nat) (cs : Array Value) (n : Nat) (tT xT tS xS tP xP : Value) (rT rS rP : List (Value × List Value)) : Prop where
  T : BkV (Kt ty o) Mt B w G cs tT xT rT
  S : BkV (Ks ty o) Ms B w G cs tS xS rS
  P : BkV (Kp ty o) Mp B w G cs tP xP rP
  num : cs[o]? = some (.int .i64 (n : Int))
  d3 : cs[o + 3]? = some (.slice none 0 0)
  st : ∀ k, InB tS xS rS k → ¬ InB tT xT rT k
  pt : ∀ k, InB tP xP rP k → ¬ InB tT xT rT k
  ps : ∀ k, InB tP xP rP k → ¬ InB tS xS rS k
def InK (tT xT tS xS tP xP : Value) (rT rS rP : List (Value × List Value)) (k : Nat) : Prop := InB tT xT rT k ∨ InB tS xS rS k ∨ InB tP xP rP k
/-- The book, its lists not more than m of a kind, the blocks of Q not among its own. -/
def Bk3E (ty : TypeId) (o B : Nat) (w : World) (G : Nat) (cs : Array Value) (n m : Nat) (Q : Nat → Prop) : Prop :=
  ∃ tT xT tS xS tP xP rT rS rP, Bk3 ty o B w G cs n tT xT tS xS tP xP rT rS rP ∧ rT.length ≤ m ∧ rS.length ≤ m ∧ rP.length ≤ m ∧ ∀ k, Q k → k < w.heap.size ∧ k ≠ G ∧ ¬ InK tT xT tS xS tP xP rT rS rP k
theorem Bk3.later {ty : TypeId} {o B : Nat} {w : World} {G : Nat} {cs : Array Value} {n : Nat} {tT xT tS xS tP xP : Value} {rT rS rP : List (Value × List Value)} (h : Bk3 ty o B w G cs n tT xT tS xS tP xP rT rS rP) {w' : World} (hb : Below w.heap.size w w') : Bk3 ty o B w' G cs n tT xT tS xS tP xP rT rS rP :=
  ⟨h.T.later hb, h.S.later hb, h.P.later hb, h.num, h.d3, h.st, h.pt, h.ps⟩
theorem Bk3.inK_lt {ty : TypeId} {o B : Nat} {w : World} {G : Nat} {cs : Array Value} {n : Nat} {tT xT tS xS tP xP : Value} {rT rS rP : List (Value × List Value)} (h : Bk3 ty o B w G cs n tT xT tS xS tP xP rT rS rP) {k : Nat} (hk : InK tT xT tS xS tP xP rT rS rP k) : k < w.heap.size ∧ k ≠ G := by
  rcases hk with hk | hk | hk
  · exact h.T.inB_lt hk
  · exact h.S.inB_lt hk
  · exact h.P.inB_lt hk

theorem strings3 (ty : TypeId) (o B : Nat) (w : World) (G : Nat) (cs : Array Value) (n m : Nat) (Q Q' : Nat → Prop) (h : Bk3E ty o B w G cs n m Q) (lv : Value) (nl : Nat) (ls : List (List Value)) (hl : w.ownsRow B 9 1 lv nl (fl ls)) (hlQ : ∀ k, lv.ownBlock = some k → Q k) (hnl : nl ≤ 1000) (hll : ls.length = nl) (hl32 : ∀ d ∈ ls, d.length = 1)
    (hQ : ∀ k, Q' k → Q k ∧ lv.ownBlock ≠ some k) (hn : n ≤ 1099511627776) (hm : m ≤ 1099511627776) :
    Calls Tryd.prog 73 #[.pointer (some ⟨G, o, none⟩), lv] w fun e w' => ∃ cs', Bk3E ty o B w' G cs' (n + 1) (m + 4) Q' ∧ (∀ j, j < o → cs'[j]? = cs[j]?) ∧ (∀ k, Q' k → w'.heap[k]? = w.heap[k]?) ∧ Below B w w' ∧ e = .returned (.tuple #[]) := by
  obtain ⟨tT, xT, tS, xS, tP, xP, rT, rS, rP, H, hT, hS, hP, hq⟩ := h
  have hlK : ∀ k, InK tT xT tS xS tP xP rT rS rP k → lv.ownBlock ≠ some k := fun k hk e => (hq k (hlQ k e)).2.2 hk
  obtain ⟨S, M⟩ := H.T.start hl (fun e => (hq G (hlQ G e)).2.1 rfl) (fun k e hk => hlK k (.inl hk) e)
  refine (bKt_any ty o _ B G n cs _ _ w w rT lv nl ls S H.num hn hnl hll hl32 (by omega) (fun r hr g hg h2 => hlK g (.inl (.inr (.inr ⟨r, hr, h2⟩))) hg) M).mono ?_
  rintro e w' ⟨cs', tv', xv', recs', S', M', hlen, hcs, rfl⟩
  have J := S'.stop M'
  have hbel := S'.bel
  have hsz2 : w.heap.size ≤ w'.heap.size := hbel.size
  have D1 := H.S.beside (KA := Kt ty o) (o := o) rfl (by simp [Kt, Ks]) (by simp [Kt, Ks]) J.1.bk hcs J.2 H.st (fun k hk => hlK k (.inr (.inl hk))) hsz2
  have D2 := H.P.beside (KA := Kt ty o) (o := o) rfl (by simp [Kt, Kp]) (by simp [Kt, Kp]) J.1.bk hcs J.2 H.pt (fun k hk => hlK k (.inr (.inr hk))) hsz2
  have hf : ∀ k, Q' k → FreeB w G tT xT rT lv k ∧ ¬ InK tT xT tS xS tP xP rT rS rP k := by
    intro k hk
    obtain ⟨h2, h3⟩ := hQ k hk
    obtain ⟨h1, h4, h5⟩ := hq k h2
    exact ⟨⟨h1, h4, fun hi => h5 (.inl hi), h3⟩, h5⟩
  refine ⟨cs', ⟨tv', xv', tS, xS, tP, xP, recs', rS, rP, ⟨J.1, D1.1, D2.1, hcs.num, by rw [hcs.other _ (by simp) (by simp [Kt]) (by simp [Kt])]; exact H.d3, D1.2, D2.2, H.ps⟩, by rw [hlen]; omega, by omega, by omega, fun k hk => ?_⟩, fun j hj => hcs.other j (by omega) (by simp only [Kt]; omega) (by simp only [Kt]; omega), fun k hk => (J.2 k (hf k hk).1).2.1, hbel, rfl⟩
  refine ⟨(J.2 k (hf k hk).1).1, (hf k hk).1.2.1, ?_⟩
  rintro (hi | hi | hi)
  · exact (J.2 k (hf k hk).1).2.2 hi
  · exact (hf k hk).2 (.inr (.inl hi))
  · exact (hf k hk).2 (.inr (.inr hi))

theorem disk3 (ty : TypeId) (o B : Nat) (w : World) (G : Nat) (cs : Array Value) (n m : Nat) (Q Q' : Nat → Prop) (h : Bk3E ty o B w G cs n m Q) (lv : Value) (nl : Nat) (ls : List (List Value)) (hl : w.ownsRow B 126 32 lv nl (fl ls)) (hlQ : ∀ k, lv.ownBlock = some k → Q k) (hnl : nl ≤ 1000) (hll : ls.length = nl) (hl32 : ∀ d ∈ ls, d.length = 32)
    (hQ : ∀ k, Q' k → Q k ∧ lv.ownBlock ≠ some k) (hn : n ≤ 1099511627776) (hm : m ≤ 1099511627776) :
    Calls Tryd.prog 71 #[.pointer (some ⟨G, o, none⟩), lv] w fun e w' => ∃ cs', Bk3E ty o B w' G cs' (n + 1) (m + 4) Q' ∧ (∀ j, j < o → cs'[j]? = cs[j]?) ∧ (∀ k, Q' k → w'.heap[k]? = w.heap[k]?) ∧ Below B w w' ∧ e = .returned (.tuple #[]) := by
  obtain ⟨tT, xT, tS, xS, tP, xP, rT, rS, rP, H, hT, hS, hP, hq⟩ := h
  have hlK : ∀ k, InK tT xT tS xS tP xP rT rS rP k → lv.ownBlock ≠ some k := fun k hk e => (hq k (hlQ k e)).2.2 hk
  obtain ⟨S, M⟩ := H.S.start hl (fun e => (hq G (hlQ G e)).2.1 rfl) (fun k e hk => hlK k (.inr (.inl hk)) e)
  refine (bKs_any ty o _ B G n cs _ _ w w rS lv nl ls S H.num hn hnl hll hl32 (by omega) (fun r hr g hg h2 => hlK g (.inr (.inl (.inr (.inr ⟨r, hr, h2⟩)))) hg) M).mono ?_
  rintro e w' ⟨cs', tv', xv', recs', S', M', hlen, hcs, rfl⟩
  have J := S'.stop M'
  have hbel := S'.bel
  have hsz2 : w.heap.size ≤ w'.heap.size := hbel.size
  have D1 := H.T.beside (KA := Ks ty o) (o := o) rfl (by simp [Ks, Kt]) (by simp [Ks, Kt]) J.1.bk hcs J.2 (fun k h1 h2 => H.st k h2 h1) (fun k hk => hlK k (.inl hk)) hsz2
  have D2 := H.P.beside (KA := Ks ty o) (o := o) rfl (by simp [Ks, Kp]) (by simp [Ks, Kp]) J.1.bk hcs J.2 H.ps (fun k hk => hlK k (.inr (.inr hk))) hsz2
  have hf : ∀ k, Q' k → FreeB w G tS xS rS lv k ∧ ¬ InK tT xT tS xS tP xP rT rS rP k := by
    intro k hk
    obtain ⟨h2, h3⟩ := hQ k hk
    obtain ⟨h1, h4, h5⟩ := hq k h2
    exact ⟨⟨h1, h4, fun hi => h5 (.inr (.inl hi)), h3⟩, h5⟩
  refine ⟨cs', ⟨tT, xT, tv', xv', tP, xP, rT, recs', rP, ⟨D1.1, J.1, D2.1, hcs.num, by rw [hcs.other _ (by simp) (by simp [Ks]) (by simp [Ks])]; exact H.d3, (fun k h1 h2 => D1.2 k h2 h1), H.pt, D2.2⟩, by omega, by rw [hlen]; omega, by omega, fun k hk => ?_⟩, fun j hj => hcs.other j (by omega) (by simp only [Ks]; omega) (by simp only [Ks]; omega), fun k hk => (J.2 k (hf k hk).1).2.1, hbel, rfl⟩
  refine ⟨(J.2 k (hf k hk).1).1, (hf k hk).1.2.1, ?_⟩
  rintro (hi | hi | hi)
  · exact (hf k hk).2 (.inl hi)
  · exact (J.2 k (hf k hk).1).2.2 hi
  · exact (hf k hk).2 (.inr (.inr hi))

theorem plan3 (ty : TypeId) (o B : Nat) (w : World) (G : Nat) (cs : Array Value) (n m : Nat) (Q Q' : Nat → Prop) (h : Bk3E ty o B w G cs n m Q) (lv : Value) (nl : Nat) (ls : List (List Value)) (hl : w.ownsRow B 131 34 lv nl (fl ls)) (hlQ : ∀ k, lv.ownBlock = some k → Q k) (hnl : nl ≤ 1000) (hll : ls.length = nl) (hl32 : ∀ d ∈ ls, d.length = 34)
    (hQ : ∀ k, Q' k → Q k ∧ lv.ownBlock ≠ some k) (hn : n ≤ 1099511627776) (hm : m ≤ 1099511627776) :
    Calls Tryd.prog 79 #[.pointer (some ⟨G, o, none⟩), lv] w fun e w' => ∃ cs', Bk3E ty o B w' G cs' (n + 1) (m + 4) Q' ∧ (∀ j, j < o → cs'[j]? = cs[j]?) ∧ (∀ k, Q' k → w'.heap[k]? = w.heap[k]?) ∧ Below B w w' ∧ e = .returned (.tuple #[]) := by
  obtain ⟨tT, xT, tS, xS, tP, xP, rT, rS, rP, H, hT, hS, hP, hq⟩ := h
  have hlK : ∀ k, InK tT xT tS xS tP xP rT rS rP k → lv.ownBlock ≠ some k := fun k hk e => (hq k (hlQ k e)).2.2 hk
  obtain ⟨S, M⟩ := H.P.start hl (fun e => (hq G (hlQ G e)).2.1 rfl) (fun k e hk => hlK k (.inr (.inr hk)) e)
  refine (bKp_any ty o _ B G n cs _ _ w w rP lv nl ls S H.num hn hnl hll hl32 (by omega) (fun r hr g hg h2 => hlK g (.inr (.inr (.inr (.inr ⟨r, hr, h2⟩)))) hg) M).mono ?_
  rintro e w' ⟨cs', tv', xv', recs', S', M', hlen, hcs, rfl⟩
  have J := S'.stop M'
  have hbel := S'.bel
  have hsz2 : w.heap.size ≤ w'.heap.size := hbel.size
  have D1 := H.T.beside (KA := Kp ty o) (o := o) rfl (by simp [Kp, Kt]) (by simp [Kp, Kt]) J.1.bk hcs J.2 (fun k h1 h2 => H.pt k h2 h1) (fun k hk => hlK k (.inl hk)) hsz2
  have D2 := H.S.beside (KA := Kp ty o) (o := o) rfl (by simp [Kp, Ks]) (by simp [Kp, Ks]) J.1.bk hcs J.2 (fun k h1 h2 => H.ps k h2 h1) (fun k hk => hlK k (.inr (.inl hk))) hsz2
  have hf : ∀ k, Q' k → FreeB w G tP xP rP lv k ∧ ¬ InK tT xT tS xS tP xP rT rS rP k := by
    intro k hk
    obtain ⟨h2, h3⟩ := hQ k hk
    obtain ⟨h1, h4, h5⟩ := hq k h2
    exact ⟨⟨h1, h4, fun hi => h5 (.inr (.inr hi)), h3⟩, h5⟩
  refine ⟨cs', ⟨tT, xT, tS, xS, tv', xv', rT, rS, recs', ⟨D1.1, D2.1, J.1, hcs.num, by rw [hcs.other _ (by simp) (by simp [Kp]) (by simp [Kp])]; exact H.d3, H.st, (fun k h1 h2 => D1.2 k h2 h1), (fun k h1 h2 => D2.2 k h2 h1)⟩, by omega, by omega, by rw [hlen]; omega, fun k hk => ?_⟩, fun j hj => hcs.other j (by omega) (by simp only [Kp]; omega) (by simp only [Kp]; omega), fun k hk => (J.2 k (hf k hk).1).2.1, hbel, rfl⟩
  refine ⟨(J.2 k (hf k hk).1).1, (hf k hk).1.2.1, ?_⟩
  rintro (hi | hi | hi)
  · exact (hf k hk).2 (.inl hi)
  · exact (hf k hk).2 (.inr (.inl hi))
  · exact (J.2 k (hf k hk).1).2.2 hi
theorem holds3 (ty : TypeId) (o B : Nat) (w : World) (G : Nat) (cs : Array Value) (n m : Nat) (Q : Nat → Prop) (h : Bk3E ty o B w G cs n m Q) (hm : m ≤ 1099511627776) :
    Calls Tryd.prog 26 #[.pointer (some ⟨G, o, none⟩)] w fun e w' => e = .returned (.bool true) ∧ Below w.heap.size w w' := by
  obtain ⟨tT, xT, tS, xS, tP, xP, rT, rS, rP, H, hT, hS, hP, _⟩ := h
  have hn : ∀ (k : Nat) (x : Prop), (Value.slice none 0 0).ownBlock = some k → x := fun k x h => nomatch h
  obtain ⟨S1, M1⟩ := H.T.start (lv := .slice none 0 0) (nl := 0) (ls := []) (World.ownsRow_nil _ _ _ _) (fun h => hn _ _ h) (fun k h => hn _ _ h)
  obtain ⟨S2, M2⟩ := H.S.start (lv := .slice none 0 0) (nl := 0) (ls := []) (World.ownsRow_nil _ _ _ _) (fun h => hn _ _ h) (fun k h => hn _ _ h)
  obtain ⟨S3, M3⟩ := H.P.start (lv := .slice none 0 0) (nl := 0) (ls := []) (World.ownsRow_nil _ _ _ _) (fun h => hn _ _ h) (fun k h => hn _ _ h)
  exact holdsG_any ty o _ _ _ B B B G cs _ _ _ _ _ _ w w w w rS rP rT S2 S3 S1 M2 M3 M1 (by omega) (by omega) (by omega) H.d3
theorem Bk3E.later {ty : TypeId} {o B : Nat} {w : World} {G : Nat} {cs : Array Value} {n m : Nat} {Q Q' : Nat → Prop} (h : Bk3E ty o B w G cs n m Q) {w' : World} (hb : Below w.heap.size w w') (hQ : ∀ k, Q' k → k < w'.heap.size ∧ (Q k ∨ w.heap.size ≤ k)) : Bk3E ty o B w' G cs n m Q' := by
  obtain ⟨tT, xT, tS, xS, tP, xP, rT, rS, rP, H, hT, hS, hP, hq⟩ := h
  refine ⟨tT, xT, tS, xS, tP, xP, rT, rS, rP, H.later hb, hT, hS, hP, fun k hk => ?_⟩
  obtain ⟨h1, h2⟩ := hQ k hk
  rcases h2 with h2 | h2
  · exact ⟨h1, (hq k h2).2⟩
  · have hG := H.T.bk.lt
    exact ⟨h1, by omega, fun hi => by have := (H.inK_lt hi).1; omega⟩
end Go.Proofs.YtanfolfopalbeaaDoor
namespace Go.Proofs.YtanfolfopalbeaaDoor
open Go.RowKit

theorem heap_setCell_far (w : World) (G j k : Nat) (x : Value) (hk : k < w.heap.size) (h : k ≠ G) : (w.setCell ⟨G, j, none⟩ x).heap[k]? = w.heap[k]? :=
  (grown_setCell (grown_refl w (some G)) ⟨G, j, none⟩ x (.inl rfl)).block k hk (fun e => h (by injection e))
theorem BkV.set {K : Kd} {M : List Value → Prop} {B : Nat} {w : World} {G : Nat} {cs : Array Value} {tv xv : Value} {recs : List (Value × List Value)} (I : BkV K M B w G cs tv xv recs) (j : Nat) (x : Value) (h1 : j ≠ K.i1) (h2 : j ≠ K.i2) : BkV K M B (w.setCell ⟨G, j, none⟩ x) G (cs.setIfInBounds j x) tv xv recs := by
  refine I.other ⟨heap_setCell_same w G _ _ _ _ I.bk.1, ?_, ?_, I.bk.2.2.2⟩ (fun k hk => heap_setCell_far w G j k x (I.inB_lt hk).1 (I.inB_lt hk).2) (by simp [World.setCell])
  · rw [Array.getElem?_setIfInBounds, if_neg h1]; exact I.bk.2.1
  · rw [Array.getElem?_setIfInBounds, if_neg h2]; exact I.bk.2.2.1
theorem Bk3E.set {ty : TypeId} {o B : Nat} {w : World} {G : Nat} {cs : Array Value} {n m : Nat} {Q : Nat → Prop} (h : Bk3E ty o B w G cs n m Q) (j : Nat) (x : Value) (hj : j < o) : Bk3E ty o B (w.setCell ⟨G, j, none⟩ x) G (cs.setIfInBounds j x) n m Q := by
  obtain ⟨tT, xT, tS, xS, tP, xP, rT, rS, rP, H, hT, hS, hP, hq⟩ := h
  refine ⟨tT, xT, tS, xS, tP, xP, rT, rS, rP, ⟨H.T.set j x (by simp only [Kt]; omega) (by simp only [Kt]; omega), H.S.set j x (by simp only [Ks]; omega) (by simp only [Ks]; omega), H.P.set j x (by simp only [Kp]; omega) (by simp only [Kp]; omega), ?_, ?_, H.st, H.pt, H.ps⟩, hT, hS, hP, fun k hk => ?_⟩
  · rw [Array.getElem?_setIfInBounds, if_neg (by omega)]; exact H.num
  · rw [Array.getElem?_setIfInBounds, if_neg (by omega)]; exact H.d3
  · obtain ⟨h1, h2⟩ := hq k hk
    exact ⟨by simpa [World.setCell] using h1, h2⟩
theorem inB_nil (k : Nat) : ¬ InB (.slice none 0 0) (.slice none 0 0) [] k := by
  rintro (h | h | ⟨r, hr, _⟩)
  · cases h
  · cases h
  · cases hr
theorem BkV.nil (K : Kd) (M : List Value → Prop) (B : Nat) (w : World) (G : Nat) (cs : Array Value) (hG : w.heap[G]? = some (.cells cs K.ty (0, 0))) (hB : B ≤ G) (h1 : cs[K.i1]? = some (.slice none 0 0)) (h2 : cs[K.i2]? = some (.slice none 0 0)) (h3 : K.i1 ≠ K.i2) : BkV K M B w G cs (.slice none 0 0) (.slice none 0 0) [] :=
  ⟨⟨hG, h1, h2, h3⟩, hB, World.ownsRow_nil _ _ _ _, World.ownsRow_nil _ _ _ _, (fun _ hr => nomatch hr), (fun _ hr => nomatch hr), (fun h => nomatch h), (fun h => nomatch h), (fun _ h => nomatch h), (fun _ hr => nomatch hr)⟩
theorem Bk3E.nil (ty : TypeId) (o B : Nat) (w : World) (G : Nat) (cs : Array Value) (Q : Nat → Prop) (hG : w.heap[G]? = some (.cells cs ty (0, 0))) (hB : B ≤ G) (h0 : cs[o]? = some (.int .i64 0)) (hs : ∀ j, 1 ≤ j → j ≤ 8 → cs[o + j]? = some (.slice none 0 0)) (hQ : ∀ k, Q k → k < w.heap.size ∧ k ≠ G) : Bk3E ty o B w G cs 0 0 Q := by
  refine ⟨_, _, _, _, _, _, [], [], [], ⟨BkV.nil (Kt ty o) Mt B w G cs hG hB (hs 1 (by omega) (by omega)) (hs 2 (by omega) (by omega)) (by simp [Kt]), BkV.nil (Ks ty o) Ms B w G cs hG hB (hs 5 (by omega) (by omega)) (hs 6 (by omega) (by omega)) (by simp [Ks]), BkV.nil (Kp ty o) Mp B w G cs hG hB (hs 7 (by omega) (by omega)) (hs 8 (by omega) (by omega)) (by simp [Kp]), h0, hs 3 (by omega) (by omega), fun k _ => inB_nil k, fun k _ => inB_nil k, fun k _ => inB_nil k⟩, Nat.le_refl _, Nat.le_refl _, Nat.le_refl _, fun k hk => ⟨(hQ k hk).1, (hQ k hk).2, ?_⟩⟩
  rintro (h | h | h) <;> exact inB_nil k h
end Go.Proofs.YtanfolfopalbeaaDoor
