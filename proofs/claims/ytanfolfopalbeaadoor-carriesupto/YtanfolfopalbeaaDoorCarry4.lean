/- package carry: Format, plan: the contracts. -/
import Derived.Test.YtanfolfopalbeaaDoorCarry3
import Derived.Deep.RegionLaw
namespace Go.Proofs.YtanfolfopalbeaaDoor
open Go.RowKit

set_option maxRecDepth 100000 in
set_option maxHeartbeats 800000 in
theorem Status_any (v : Value) (ds : List (List UInt8)) (w : World) (hD : Digs w v ds) (hT : Tabs w) :
    Calls Tryd.prog 40 #[v] w fun e w' => e = .returned (.tuple #[.int .i64 (dEnt ds).1.length, .agg (bcells (staRoot ds)).toArray, .int .i64 (dEnt ds).2]) ∧ Below w.heap.size w w' := by
  have hbel0 : Below w.heap.size w (w.alloc (.cells (bcells z32).toArray 31)) := (Below.refl _ _).alloc (Nat.le_refl _) _
  have hres0 : (w.alloc (.cells (bcells z32).toArray 31)).heap[w.heap.size]? = some (.cells (bcells z32).toArray 31 (0, 0)) := heap_alloc_new w _
  have HR := hide (status_any v ds _ (hD.below hbel0 (Nat.le_refl _)) (hT.below hbel0 (Nat.le_refl _)))
  have K0 := hide hbel0
  have R0 := hide hres0
  have hdl := staRoot_length ds
  generalize staRoot ds = d8 at HR hdl ⊢
  generalize (dEnt ds).1.length = n at HR ⊢
  generalize (dEnt ds).2 = c at HR ⊢
  have V2 := hide (v_dg d8 hdl)
  have V3 := hide (v_z32 d8 hdl)
  clear hT hbel0 hres0 hD
  go_enter Tryd.func40, Tryd.ntmps40
  go_wp2_with fail
  rw [← z32_cells]
  refine (unhide HR).mono ?_
  rintro e w1 ⟨rfl, hb1⟩
  have hbel1 := (unhide K0).trans (hb1.mono (unhide K0).size)
  have V1 := hide (show BRow w1 w.heap.size 31 z32 from (hb1.block _ (lt_of_block (unhide R0))).trans (unhide R0))
  clear hb1 HR
  go_wp2_with ((with_reducible refine at_store ?_); go_must (refine wpList_store_row rfl 31 _ _ rfl w.heap.size (bcells d8).toArray rfl rfl 31 _ (unhide V1) (unhide V2) (unhide V3) (bcells_one d8) ?_))
  refine bodyPost_ret (v := .tuple #[.int .i64 n, .agg (bcells d8).toArray, .int .i64 c]) ?_ rfl ⟨rfl, below_row hbel1 (Nat.le_refl _) _⟩
  exact results_row3 Tryd.results40 _ _ w.heap.size 31 _ (0, 0) _ rfl (setRow_heap _ _ _ _ _ _ (unhide V1)) Tryd.underlying31 rfl (unhide V2)

/-- A disk that Format gave. -/
def fmt (n : Nat) : List (List UInt8) := hd 0 :: List.replicate (n - 1) z32
theorem fmt_length (n : Nat) (h : 1 ≤ n) : (fmt n).length = n := by simp [fmt]; omega
theorem fmt_elem (n : Nat) : ∀ s ∈ fmt n, s.length = 32 := by
  intro s hs
  simp only [fmt, List.mem_cons, List.mem_replicate] at hs
  rcases hs with rfl | ⟨_, rfl⟩ <;> rfl
theorem fmt_std (n : Nat) (h2 : 2 ≤ n) (h3 : n ≤ 300) : Std (fmt n) [] := by
  have hl := fmt_length n (by omega)
  exact ⟨by omega, by omega, fmt_elem n, rfl, by simp, by simp, by simp [wb], fun j hj => by simp [wb] at hj⟩
theorem made_zero (n : Nat) : (madeCells (bcells z32).toArray (n * 32)).toList = List.replicate (n * 32) (.int .u8 0) := by
  rw [List.eq_replicate_iff]
  refine ⟨by rw [Array.length_toList, size_madeCells], ?_⟩
  intro b hb
  simp only [madeCells, Array.toList_map, List.mem_map] at hb
  obtain ⟨i, _, rfl⟩ := hb
  have hz : ∀ j, j < 32 → ((bcells z32).toArray)[j]! = Value.int .u8 0 := by
    intro j hj
    have e : bcells z32 = List.replicate 32 (.int .u8 0) := rfl
    rw [e, List.getElem!_toArray, List.getElem!_eq_getElem?_getD, List.getElem?_replicate, if_pos hj]
    rfl
  exact hz _ (Nat.mod_lt _ (by decide))
theorem dcells_zero (n : Nat) : dcells (List.replicate n z32) = List.replicate (n * 32) (.int .u8 0) := by
  induction n with
  | zero => rfl
  | succ n ih =>
    rw [List.replicate_succ, show (n + 1) * 32 = 32 + n * 32 by omega, ← List.replicate_append_replicate, ← ih]
    rfl
theorem fmt_cells (n : Nat) : List.take 0 (List.replicate (n * 32) (Value.int .u8 0)).toArray.toList ++ bcells (hd 0) ++ List.drop (0 + 32) (List.replicate (n * 32) (Value.int .u8 0)).toArray.toList = dcells (fmt n) := by
  have e : dcells (fmt n) = bcells (hd 0) ++ dcells (List.replicate (n - 1) z32) := rfl
  rw [e, dcells_zero, List.take_zero, List.nil_append, List.drop_replicate, show n * 32 - (0 + 32) = (n - 1) * 32 by omega]
theorem info_sec : (Tryd.prog.info? 126).map (fun i => (i.zero, i.size, i.bytes)) = some (some (.agg (bcells z32).toArray), 32, 32) := by kernel_rfl

set_option maxRecDepth 100000 in
set_option maxHeartbeats 400000 in
theorem format_bad (n : Int) (w : World) (hn : -9223372036854775808 ≤ n ∧ n ≤ 9223372036854775807) (h : n < 2 ∨ 300 < n) :
    Calls Tryd.prog 108 #[.int .i64 n] w fun e w' => e = .returned (.tuple #[.slice none 0 0, .int .i64 6]) ∧ w' = w := by
  by_cases h2 : n < 2
  · have hd1 : decide (n < 2) = true := by simp; omega
    go_enter Tryd.func108, Tryd.ntmps108
    go_wp2
    go_ret2
    exact ⟨rfl, rfl⟩
  · have hd1 : decide (n < 2) = false := by simp; omega
    have hd2 : decide (300 < n) = true := by simp; omega
    go_enter Tryd.func108, Tryd.ntmps108
    go_wp2
    go_ret2
    exact ⟨rfl, rfl⟩

set_option maxRecDepth 100000 in
set_option maxHeartbeats 800000 in
theorem format_in (n : Nat) (w : World) (h2 : 2 ≤ n) (h3 : n ≤ 300) :
    Calls Tryd.prog 108 #[.int .i64 n] w fun e w' => e = .returned (.tuple #[.slice (some ⟨w.heap.size, 0, none⟩) n n, .int .i64 0]) ∧
      w'.ownsRow w.heap.size 126 32 (.slice (some ⟨w.heap.size, 0, none⟩) n n) n (dcells (fmt n)) ∧ Below w.heap.size w w' := by
  obtain ⟨i0, hi, hz0, hz1, hz2⟩ := info_parts info_sec
  have hd1 : decide ((n : Int) < 2) = false := by simp; omega
  have hd2 : decide ((300 : Int) < (n : Int)) = false := by simp; omega
  have hq1 : 0 < n := by omega
  go_enter Tryd.func108, Tryd.ntmps108
  go_wp2_with (at_make; go_must (refine wpList_make_full _ rfl _ _ 52 rfl w.heap.size 126 i0 (.agg (bcells z32).toArray) 32 Tryd.underlying52 hi hz0 hz1 _ _ _ _ n rfl rfl rfl rfl (by rw [hz2]; omega) (by unfold maxLen; omega) (Nat.le_refl _) ?_))
  intro w1 hown1 hgrow1
  have hbel1 : Below w.heap.size w w1 := (Below.refl _ _).grown hgrow1 (Nat.le_refl _) (fun k h => by cases h)
  rw [made_zero] at hown1
  obtain ⟨hl1, h1⟩ := hown1
  rcases h1 with ⟨h1, _⟩ | ⟨g, cap1, cur, hv, hg1, hg2, hg3, hg4, hg5, hg6⟩
  · simp at h1
  simp only [Value.slice.injEq, Option.some.injEq, Addr.mk.injEq, and_true, true_and] at hv
  obtain ⟨hgB, hcap1⟩ := hv
  rw [← hcap1] at hg5
  rw [← hgB] at hg2
  have hcl : cur.toList.length = n * 32 := by rw [Array.length_toList]; exact hg5
  rw [List.take_of_length_le (by omega)] at hg6
  have HG : Hid (w1.heap[w.heap.size]? = some (.cells (List.replicate (n * 32) (Value.int .u8 0)).toArray 126 (0, 0))) := hide (by rw [← hg6, Array.toArray_toList]; exact hg2)
  clear hl1 hg1 hg2 hg3 hg4 hg5 hg6 hcl hgB hcap1 hgrow1
  have hlt := lt_of_block (unhide HG)
  go_wp2_with fail
  refine (headK_any 0 _ (by decide)).mono ?_
  rintro e w2 ⟨rfl, hb2⟩
  have hbel2 := hbel1.trans (hb2.mono hbel1.size)
  have g2 : w2.heap[w.heap.size]? = some (.cells (List.replicate (n * 32) (Value.int .u8 0)).toArray 126 (0, 0)) := (hb2.block _ hlt).trans (unhide HG)
  have hthere : w2.there w.heap.size 0 (bcells (hd 0)).toArray.size := fun j hj => by
    rw [bcells_size, hd_length] at hj
    refine ⟨?_, frozen_of_row w2 w.heap.size _ _ _ g2⟩
    rw [cell_of_row w2 w.heap.size _ _ _ _ g2, List.getElem?_toArray, List.getElem?_eq_getElem (by simp; omega)]
    rfl
  have hrow := setC_row w.heap.size 126 (bcells (hd 0)) 0 w2 _ g2 (by simp [bcells_length, hd_length]; omega)
  have hcells : List.take 0 (List.replicate (n * 32) (Value.int .u8 0)).toArray.toList ++ bcells (hd 0) ++ List.drop (0 + (bcells (hd 0)).length) (List.replicate (n * 32) (Value.int .u8 0)).toArray.toList = dcells (fmt n) := by
    rw [bcells_length, hd_length]
    exact fmt_cells n
  rw [hcells] at hrow
  have hbel3 : Below w.heap.size w (w2.setCells w.heap.size 0 (bcells (hd 0))) := below_setC (Nat.le_refl _) _ _ hbel2
  have hown3 : (w2.setCells w.heap.size 0 (bcells (hd 0))).ownsRow w.heap.size 126 32 (.slice (some ⟨w.heap.size, 0, none⟩) n n) n (dcells (fmt n)) := by
    have hdl : (dcells (fmt n)).length = n * 32 := by rw [dcells_length _ (fmt_elem n), fmt_length n (by omega)]; omega
    exact ⟨hdl, .inr ⟨w.heap.size, n, _, rfl, Nat.le_refl _, hrow, Nat.le_refl _, by unfold maxLen; omega, by rw [List.size_toArray]; exact hdl, by rw [List.take_of_length_le (Nat.le_of_eq hdl)]⟩⟩
  have HTH := hide hthere
  have HO := hide hown3
  have HB := hide hbel3
  have V := hide (v_sc (hd 0) (hd_length 0))
  clear hthere hown3 hbel3 hrow hcells g2 hb2 hbel2 hbel1
  go_wp2_with ((with_reducible refine at_store ?_); go_must (refine wpList_store_mid rfl 126 _ _ rfl w.heap.size 0 (bcells (hd 0)).toArray (by rfl) (by rfl) (unhide HTH) (unhide V) (bcells_one (hd 0)) ?_))
  generalize w2.setCells w.heap.size 0 (bcells (hd 0)) = W3 at *
  go_wp2
  go_ret2
  exact ⟨rfl, unhide HO, unhide HB⟩

set_option maxRecDepth 100000 in
set_option maxHeartbeats 400000 in
theorem Format_in (n : Nat) (w : World) (h2 : 2 ≤ n) (h3 : n ≤ 300) :
    Calls Tryd.prog 70 #[.int .i64 n] w fun e w' => e = .returned (.tuple #[.slice (some ⟨w.heap.size, 0, none⟩) n n, .int .i64 0]) ∧
      w'.ownsRow w.heap.size 126 32 (.slice (some ⟨w.heap.size, 0, none⟩) n n) n (dcells (fmt n)) ∧ Below w.heap.size w w' := by
  have HF := hide (format_in n w h2 h3)
  go_enter Tryd.func70, Tryd.ntmps70
  go_wp2_with fail
  refine (unhide HF).mono ?_
  rintro e w2 ⟨rfl, hown2, hb2⟩
  go_wp2
  go_ret2
  exact ⟨rfl, hown2, hb2⟩
set_option maxRecDepth 100000 in
set_option maxHeartbeats 400000 in
theorem Format_bad (n : Int) (w : World) (hn : -9223372036854775808 ≤ n ∧ n ≤ 9223372036854775807) (h : n < 2 ∨ 300 < n) :
    Calls Tryd.prog 70 #[.int .i64 n] w fun e w' => e = .returned (.tuple #[.slice none 0 0, .int .i64 6]) ∧ w' = w := by
  have HF := hide (format_bad n w hn h)
  clear h
  go_enter Tryd.func70, Tryd.ntmps70
  go_wp2_with fail
  refine (unhide HF).mono ?_
  rintro e w2 ⟨rfl, rfl⟩
  go_wp2
  go_ret2
  exact ⟨rfl, rfl⟩
end Go.Proofs.YtanfolfopalbeaaDoor
