import Derived.Test.YtanfolfopalbeaaDoorRefTab
import Derived.Test.YtanfolfopalbeaaDoorRefOld
import Derived.Test.YtanfolfopalbeaaDoorDigSame
namespace Go.Proofs.YtanfolfopalbeaaDoor
open Go.RowKit

set_option maxRecDepth 100000 in
theorem len_same (x : Nat) (hx : x < 4294967296) : lenB (x % 18446744073709551616) 8 = lenR x 8 := by
  simp only [lenB, lenR, show List.range 8 = [0, 1, 2, 3, 4, 5, 6, 7] from rfl, List.map_cons, List.map_nil, bsh]
  have e : x % 18446744073709551616 = x := by omega
  rw [e]
  have h0 : x / 72057594037927936 = x / 2 ^ (8 * (7 - 0)) % 256 := by
    simp only [show 2 ^ (8 * (7 - 0)) = 72057594037927936 from rfl]; omega
  have h1 : x * 256 % 18446744073709551616 / 72057594037927936 = x / 2 ^ (8 * (7 - 1)) % 256 := by
    simp only [show 2 ^ (8 * (7 - 1)) = 281474976710656 from rfl]; omega
  have h2 : x * 256 % 18446744073709551616 * 256 % 18446744073709551616 / 72057594037927936 = x / 2 ^ (8 * (7 - 2)) % 256 := by
    simp only [show 2 ^ (8 * (7 - 2)) = 1099511627776 from rfl]; omega
  have h3 : x * 256 % 18446744073709551616 * 256 % 18446744073709551616 * 256 % 18446744073709551616 / 72057594037927936 = x / 2 ^ (8 * (7 - 3)) % 256 := by
    simp only [show 2 ^ (8 * (7 - 3)) = 4294967296 from rfl]; omega
  have b3 : x * 256 % 18446744073709551616 * 256 % 18446744073709551616 * 256 % 18446744073709551616 * 256 % 18446744073709551616 = x * 4294967296 := by omega
  have h4 : x * 4294967296 / 72057594037927936 = x / 2 ^ (8 * (7 - 4)) % 256 := by
    simp only [show 2 ^ (8 * (7 - 4)) = 16777216 from rfl]; omega
  have h5 : x * 4294967296 * 256 % 18446744073709551616 / 72057594037927936 = x / 2 ^ (8 * (7 - 5)) % 256 := by
    simp only [show 2 ^ (8 * (7 - 5)) = 65536 from rfl]; omega
  have h6 : x * 4294967296 * 256 % 18446744073709551616 * 256 % 18446744073709551616 / 72057594037927936 = x / 2 ^ (8 * (7 - 6)) % 256 := by
    simp only [show 2 ^ (8 * (7 - 6)) = 256 from rfl]; omega
  have h7 : x * 4294967296 * 256 % 18446744073709551616 * 256 % 18446744073709551616 * 256 % 18446744073709551616 / 72057594037927936 = x / 2 ^ (8 * (7 - 7)) % 256 := by
    simp only [show 2 ^ (8 * (7 - 7)) = 1 from rfl]; omega
  simp only [List.cons.injEq, and_true]
  exact ⟨congrArg _ h0, congrArg _ h1, congrArg _ h2, congrArg _ h3, congrArg _ (by rw [b3]; exact h4), congrArg _ (by rw [b3]; exact h5), congrArg _ (by rw [b3]; exact h6), congrArg _ (by rw [b3]; exact h7)⟩
theorem cmp_fuel : ∀ (f : Nat) (s : S8) (l : List UInt8) (g : Nat), l.length / 64 ≤ f → l.length / 64 ≤ g → cmp f s l = cmp g s l := by
  intro f
  induction f with
  | zero => intro s l g h1 _; rw [cmp_end _ _ _ (by omega), cmp_end _ _ _ (by omega)]
  | succ f ih =>
    intro s l g h1 h2
    by_cases h : l.length < 64
    · rw [cmp_end _ _ _ h, cmp_end _ _ _ h]
    · cases g with
      | zero => omega
      | succ g =>
        rw [cmp_step _ _ _ h, cmp_step _ _ _ h]
        exact ih _ _ _ (by rw [List.length_drop]; omega) (by rw [List.length_drop]; omega)
theorem cmp_append : ∀ (k : Nat) (s : S8) (a b : List UInt8) (f : Nat), a.length = 64 * k → cmp (f + k) s (a ++ b) = cmp f (cmp k s a) b := by
  intro k
  induction k with
  | zero =>
    intro s a b f h
    obtain rfl : a = [] := List.length_eq_zero_iff.1 (by omega)
    rfl
  | succ k ih =>
    intro s a b f h
    rw [← Nat.add_assoc, cmp_step _ _ _ (by rw [List.length_append]; omega), cmp_step _ _ a (by omega), List.take_append_of_le_length (by omega), List.drop_append_of_le_length (by omega)]
    exact ih _ _ _ _ (by rw [List.length_drop]; omega)
theorem sha_same (l : List UInt8) (h : l.length ≤ 1048576) : dig (cmp (padR l).length H0 (padR l)) = shaL l := by
  unfold shaL
  congr 1
  have hm : l.length - l.length % 64 = 64 * (l.length / 64) := by omega
  generalize hk : l.length / 64 = k at hm
  rw [hm]
  have hpad : padR l = l.take (64 * k) ++ padL (l.drop (64 * k)) l.length := by
    unfold padR padL
    rw [show l.length * 8 = 8 * l.length by omega, len_same _ (by omega), List.length_drop, show zs (l.length - 64 * k + 1) = zs (l.length + 1) by unfold zs; omega]
    simp only [← List.append_assoc]
    rw [List.take_append_drop]
  have ht : (l.take (64 * k)).length = 64 * k := by rw [List.length_take]; omega
  have hf := cmp_fuel (padR l).length H0 (padR l) ((padL (l.drop (64 * k)) l.length).length + k) (by omega) (by
    rw [hpad, List.length_append, ht]; omega)
  rw [hf, hpad, cmp_append k _ _ _ _ ht, cmp_fuel k H0 (l.take (64 * k)) (64 * k) (by rw [ht]; omega) (by rw [ht]; omega)]

set_option maxRecDepth 100000 in
set_option maxHeartbeats 1600000 in
theorem sums_any (x : ByteArray) (w : World) (hx : x.size ≤ 1048576) (hT : Tabs w) :
    Calls Tryd.prog 3 #[.string x] w fun e w' => e = .returned (.bool true) ∧ Below w.heap.size w w' := by
  have HT := hide hT
  clear hT
  have hzt := zero_tab
  have hzl := z72_length
  have hns := newsums_any
  have hrn := fun wq => rnew_any x wq hx
  have htl := tab_length
  have hdl : (shaL x.data.toList).length = 32 := dgk_length _ 8 (Nat.le_refl _)
  rw [sha_same x.data.toList hx] at hrn
  have hpn := fun wq h => NewSum_any x wq (by omega) h
  have hpo := fun wq => OldSum_any x wq (by unfold maxLen; omega)
  have hro := fun wq => rOld_any x wq (by unfold maxLen; omega)
  unfold tabV at hns hrn
  generalize z72 = z7 at hzt hzl
  generalize Hl ++ Kl = tb at hns hrn htl
  generalize shaL x.data.toList = d8 at hrn hpn hdl
  generalize wk x.data.toList = o at hpo hro
  have K1 := hide (show (Tryd.prog.info? 26).map (·.size) = some (ucells tb).toArray.size by rw [ucells_size, htl]; exact info_tab)
  have K2 := hide (show (ucells z7).toArray.size = (ucells tb).toArray.size by rw [ucells_size, ucells_size, htl, hzl])
  have K3 := hide (show (Tryd.prog.info? 31).map (·.size) = some (bcells d8).toArray.size by rw [bcells_size, hdl]; exact info_dg)
  have K4 := hide (show (bcells z32).toArray.size = (bcells d8).toArray.size by rw [bcells_size, bcells_size, hdl]; rfl)
  have hsame := fun wq => digest_same d8 hdl wq
  clear htl hzl hdl
  go_enter Tryd.func3, Tryd.ntmps3
  go_wp2_with (first | (go_at_call 13; (with_reducible refine (hns _).mono ?_); rintro e w1 ⟨rfl, hb1⟩) | ((with_reducible refine at_store ?_); refine wpList_store_row rfl 26 _ _ rfl w1.heap.size (ucells tb).toArray rfl rfl 26 _ (heap_alloc_new w1 _) (unhide K1) (unhide K2) (ucells_one tb) ?_) | (go_at_call 14; (with_reducible refine (hpo _).mono ?_); rintro e w2 ⟨rfl, he⟩; cases he))
  have hbA : Below w.heap.size w ((w1.alloc (.cells (ucells z7).toArray 26)).setRow w1.heap.size (ucells tb).toArray) := below_row (hb1.alloc hb1.size _) hb1.size _
  have gA : URow ((w1.alloc (.cells (ucells z7).toArray 26)).setRow w1.heap.size (ucells tb).toArray) w1.heap.size 26 tb := heap_put_new _ _ _ _
  have hGA := hb1.size
  generalize ((w1.alloc (.cells (ucells z7).toArray 26)).setRow w1.heap.size (ucells tb).toArray) = WA at hbA gA ⊢
  generalize w1.heap.size = GA at *
  clear hb1 hns hzt K2
  refine (hpn _ ((unhide HT).below hbA (Nat.le_refl _))).mono ?_
  rintro e w2 ⟨rfl, hb2⟩
  have gB := gA.below hb2 (Nat.le_refl _)
  have hbB := hbA.trans (hb2.mono hbA.size)
  clear gA hbA hb2 HT hpn hpo
  have hlB := gB.lt
  have GB := hide gB
  clear gB
  go_wp2_with (first | ((with_reducible refine at_store ?_); refine wpList_store_row rfl 31 _ _ rfl w2.heap.size (bcells d8).toArray rfl rfl 31 _ (heap_alloc_new w2 _) (unhide K3) (unhide K4) (bcells_one d8) ?_) | (go_at_call 16; (with_reducible refine (hro _).mono ?_); rintro e w3 ⟨rfl, he⟩; cases he) | ((with_reducible refine at_load ?_); refine wpList_load_row rfl 26 _ rfl GA rfl 26 (ucells tb).toArray (0, 0) _ ((heap_put_old w2 _ _ _ _ hlB).trans (unhide GB)) Tryd.underlying26 rfl (unhide K1) ?_))
  rw [← z32_cells]
  have hbC : Below w.heap.size w ((w2.alloc (.cells (bcells z32).toArray 31)).setRow w2.heap.size (bcells d8).toArray) := below_row (hbB.alloc hbB.size _) hbB.size _
  have gC : BRow ((w2.alloc (.cells (bcells z32).toArray 31)).setRow w2.heap.size (bcells d8).toArray) w2.heap.size 31 d8 := heap_put_new _ _ _ _
  have hGC := hbB.size
  generalize ((w2.alloc (.cells (bcells z32).toArray 31)).setRow w2.heap.size (bcells d8).toArray) = WC at hbC gC ⊢
  generalize w2.heap.size = GC at *
  clear hbB GB
  refine (hrn _).mono ?_
  rintro e w4 ⟨rfl, hb4⟩
  have gD : BRow w4 GC 31 d8 := by unfold BRow; rw [hb4.block _ (lt_of_block gC)]; exact gC
  have hbD := hbC.trans (hb4.mono hbC.size)
  have hlD := lt_of_block gD
  clear gC hbC hb4 hrn hro
  have GD := hide gD
  clear gD
  go_wp2_with (first | ((with_reducible refine at_store ?_); refine wpList_store_row rfl 31 _ _ rfl w4.heap.size (bcells d8).toArray rfl rfl 31 _ (heap_alloc_new w4 _) (unhide K3) (unhide K4) (bcells_one d8) ?_) | ((with_reducible refine at_load2 ?_); first | refine wpList_load_row_w (by rfl) 31 _ rfl GC (by rfl) 31 (bcells d8).toArray (0, 0) _ ((heap_put_old w4 _ _ _ _ hlD).trans (unhide GD)) Tryd.underlying31 rfl (unhide K3) ?_ | refine wpList_load_row_w (by rfl) 31 _ rfl w4.heap.size (by rfl) 31 (bcells d8).toArray (0, 0) _ (heap_put_new w4 _ _ _) Tryd.underlying31 rfl (unhide K3) ?_))
  go_ret
  exact ⟨rfl, below_row (hbD.alloc hbD.size _) hbD.size _⟩
end Go.Proofs.YtanfolfopalbeaaDoor
