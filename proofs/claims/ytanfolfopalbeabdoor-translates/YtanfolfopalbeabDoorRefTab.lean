import Derived.Test.YtanfolfopalbeabDoorRefRoots
import Derived.Test.YtanfolfopalbeabDoorRefNew
namespace Go.Proofs.YtanfolfopalbeabDoor
open Go.RowKit

theorem z72_length : z72.length = 72 := rfl
theorem info_zero : (Tryd.prog.info? 38).map (·.zero) = some (some (.agg (ucells z72).toArray)) := by kernel_rfl
theorem zero_tab (w : World) : Sem.run Tryd.prog (zeroValue 38) w = .ok (.agg (ucells z72).toArray) w := by
  have h := info_zero
  cases hi : Tryd.prog.info? 38 with
  | none => rw [hi] at h; cases h
  | some i =>
    rw [hi] at h
    have hz : i.zero = some (.agg (ucells z72).toArray) := by injection h
    generalize (ucells z72).toArray = cs at hz
    simp [zeroValue, typeInfo, hi, hz]

theorem gfw_step (f n k : Nat) (t : List Nat) : gfw (f + 1) n k t = if prm n then gfw f (n + 1) (k + 1) (lay1 t k n) else gfw f (n + 1) k t := rfl

set_option maxRecDepth 100000 in
set_option maxHeartbeats 1600000 in
theorem newsums_any (w : World) :
    Calls Tryd.prog 6 #[] w fun e w' => e = .returned tabV ∧ Below w.heap.size w w' := by
  have hzt := zero_tab
  have hzl := z72_length
  have HALL := hide gfw_all
  have HCNT := hide cnt_all
  generalize z72 = z7 at hzt hzl HALL
  obtain ⟨T, HT0⟩ : ∃ T, Hid (T = gfw 310 2 0 z7) := ⟨_, hide rfl⟩
  rw [← unhide HT0] at HALL
  go_enter Tryd.func6, Tryd.ntmps6
  go_wp2
  have g0 : URow ((w.alloc (.cells (ucells z7).toArray 38)).alloc (.cells (ucells z7).toArray 38)) w.heap.size 38 z7 := heap_alloc2_old w _ _
  have g1 : URow ((w.alloc (.cells (ucells z7).toArray 38)).alloc (.cells (ucells z7).toArray 38)) (w.heap.size + 1) 38 z7 := heap_alloc2_new w _ _
  have hb0 : Below w.heap.size w ((w.alloc (.cells (ucells z7).toArray 38)).alloc (.cells (ucells z7).toArray 38)) := ((Below.refl _ _).alloc (Nat.le_refl _) _).alloc (by simp) _
  generalize ((w.alloc (.cells (ucells z7).toArray 38)).alloc (.cells (ucells z7).toArray 38)) = W0 at g0 g1 hb0 ⊢
  clear hzt
  go_loopw [2, 3] (fun tk tn wr => ∃ (f n k : Nat) (t : List Nat), n + f = 312 ∧ 2 ≤ n ∧ tn = .int .i64 n ∧ tk = .int .i64 k ∧ Hid (k + cnt f n = 64) ∧ t.length = 72 ∧ Hid (T = gfw f n k t) ∧ URow wr (w.heap.size + 1) 38 t ∧ URow wr w.heap.size 38 z7 ∧ Below w.heap.size w wr) (fun _ tn _ => 312 - (intOf tn).toNat)
  case atStart => exact ⟨310, 2, 0, z7, rfl, Nat.le_refl _, rfl, rfl, hide (by rw [unhide HCNT]), hzl, HT0, g1, g0, hb0⟩
  case round =>
    clear g0 g1 hb0 HT0
    obtain ⟨f, n, k, t, hf, hn2, rfl, rfl, HK, htl, HG, g1, g0, hbel⟩ := hrel
    cases f with
    | zero =>
      have hk : k = 64 := by have := unhide HK; simpa [cnt] using this
      have hd : decide ((k : Int) < 64) = false := by simp; omega
      have HT := hide (show tabV = .agg (ucells t).toArray by unfold tabV; rw [← unhide HALL, unhide HG]; rfl)
      have K1 : Hid (wr.heap[w.heap.size + 1]? = some (.cells (ucells t).toArray 38 (0, 0))) := hide g1
      have K2 : Hid (wr.heap[w.heap.size]? = some (.cells (ucells z7).toArray 38 (0, 0))) := hide g0
      have K3 := hide (show (Tryd.prog.info? 38).map (·.size) = some (ucells t).toArray.size by rw [ucells_size, htl]; exact info_tab)
      have K4 := hide (show (ucells z7).toArray.size = (ucells t).toArray.size by rw [ucells_size, ucells_size, htl, hzl])
      clear g0 g1 HG hk
      go_wp2_with (first | ((with_reducible refine at_load ?_); refine wpList_load_row rfl 38 _ rfl (w.heap.size + 1) rfl 38 (ucells t).toArray (0, 0) _ (unhide K1) Tryd.underlying38 rfl (unhide K3) ?_) | ((with_reducible refine at_store ?_); refine wpList_store_row rfl 38 _ _ rfl w.heap.size (ucells t).toArray rfl rfl 38 _ (unhide K2) (unhide K3) (unhide K4) (ucells_one t) ?_))
      refine bodyPost_ret (v := .agg (ucells t).toArray) ?_ rfl ⟨by rw [unhide HT], below_row hbel (Nat.le_refl _) _⟩
      exact results_cell_row Tryd.results6 _ _ w.heap.size 38 _ (0, 0) _ rfl (setRow_heap _ _ _ _ _ _ (unhide K2)) Tryd.underlying38 rfl (unhide K3)
    | succ f =>
      have hcp := cnt_pos f n hf
      have hk : k < 64 := by have := unhide HK; omega
      have hd : decide ((k : Int) < 64) = true := by simp; omega
      have hpr := fun wq => prime_any n wq hn2 (by omega)
      have hg1l := g1.lt
      have hbs := hbel.size
      by_cases hp : prm n = true
      · rw [hp] at hpr
        have HK2 := hide (show k + 1 + cnt f (n + 1) = 64 by have h9 := unhide HK; simp only [cnt, hp, if_true] at h9; omega)
        have HG2 := hide (show T = gfw f (n + 1) (k + 1) (lay1 t k n) by rw [unhide HG, gfw_step, if_pos hp])
        have hr3 : ∀ wq, Calls Tryd.prog 22 #[.int .i64 n, .int .i64 3] wq fun e w' => e = .returned (.int .u64 (rt n 3)) ∧ Below wq.heap.size wq w' := fun wq => rooted_any n 3 wq (by omega) (by omega)
        have hr2 : ∀ wq, Calls Tryd.prog 22 #[.int .i64 n, .int .i64 2] wq fun e w' => e = .returned (.int .u64 (rt n 2)) ∧ Below wq.heap.size wq w' := fun wq => rooted_any n 2 wq (by omega) (by omega)
        have HLY := hide (show lay1 t k n = if k < 8 then (t.set (8 + k) (rt n 3)).set k (rt n 2) else t.set (8 + k) (rt n 3) from rfl)
        have hll := lay1_length t k n
        generalize rt n 3 = y3 at hr3 HLY
        generalize rt n 2 = y2 at hr2 HLY
        generalize lay1 t k n = t2 at HLY HG2 hll
        have G1 := hide g1
        have G0 := hide g0
        have HBEL := hide hbel
        clear g1 g0 hbel HG HK
        have i1 : (k : Int) < 64 := by omega
        by_cases h8 : k < 8
        · have hd8 : decide ((k : Int) < 8) = true := by simp; omega
          rw [if_pos h8] at HLY
          go_wp2_with (first | (go_at_call 21; (with_reducible refine (hpr _).mono ?_); rintro e wa ⟨rfl, he⟩; cases he) | (go_at_call 22; first | ((with_reducible refine (hr3 _).mono ?_); rintro e wb ⟨rfl, hbb⟩; have g3 := (unhide G1).below hbb (Nat.le_refl _); have c3 := g3.cell (8 + k) (by omega); have f3 := g3.free (8 + k); have G3 := hide g3; clear g3) | ((with_reducible refine (hr2 _).mono ?_); rintro e wc ⟨rfl, hbc⟩; have g4 := ((unhide G3).set (8 + k) y3).below hbc (Nat.le_refl _); have c4 := g4.cell k (by rw [List.length_set]; omega); have f4 := g4.free k; have G4 := hide g4; clear g4)))
          have g0b := (unhide G0).below hbb (Nat.le_refl _)
          have hB1 : Below w.heap.size w (wb.setCell ⟨w.heap.size + 1, 8 + k, none⟩ (.int .u64 (y3 : Int))) := ((unhide HBEL).trans (hbb.mono hbs)).setCell (by show w.heap.size ≤ w.heap.size + 1; omega) _
          have hB2 := hB1.trans (hbc.mono hB1.size)
          have g0c := (g0b.other (g' := w.heap.size + 1) (j := 8 + k) (v := .int .u64 (y3 : Int)) (by omega)).below hbc (Nat.le_refl _)
          refine ⟨⟨f, n + 1, k + 1, t2, by omega, by omega, by go_num, by go_num, HK2, by rw [hll]; exact htl, HG2, by rw [unhide HLY]; exact (unhide G4).set k y2, g0c.other (by omega), hB2.setCell (by show w.heap.size ≤ w.heap.size + 1; omega) _⟩, by simp [intOf]; omega⟩
        · have hd8 : decide ((k : Int) < 8) = false := by simp; omega
          rw [if_neg h8] at HLY
          go_wp2_with (first | (go_at_call 21; (with_reducible refine (hpr _).mono ?_); rintro e wa ⟨rfl, he⟩; cases he) | (go_at_call 22; (with_reducible refine (hr3 _).mono ?_); rintro e wb ⟨rfl, hbb⟩; have g3 := (unhide G1).below hbb (Nat.le_refl _); have c3 := g3.cell (8 + k) (by omega); have f3 := g3.free (8 + k); have G3 := hide g3; clear g3))
          have g0b := (unhide G0).below hbb (Nat.le_refl _)
          have hB1 : Below w.heap.size w (wb.setCell ⟨w.heap.size + 1, 8 + k, none⟩ (.int .u64 (y3 : Int))) := ((unhide HBEL).trans (hbb.mono hbs)).setCell (by show w.heap.size ≤ w.heap.size + 1; omega) _
          refine ⟨⟨f, n + 1, k + 1, t2, by omega, by omega, by go_num, by go_num, HK2, by rw [hll]; exact htl, HG2, by rw [unhide HLY]; exact (unhide G3).set (8 + k) y3, g0b.other (by omega), hB1⟩, by simp [intOf]; omega⟩
      · have hp2 : prm n = false := by simpa using hp
        rw [hp2] at hpr
        have HK2 := hide (show k + cnt f (n + 1) = 64 by have h9 := unhide HK; simp only [cnt, hp2, Bool.false_eq_true, if_false] at h9; omega)
        have HG2 := hide (show T = gfw f (n + 1) k t by rw [unhide HG, gfw_step, if_neg hp])
        clear HG HK hp hp2
        go_wp2_with (go_at_call 21; (with_reducible refine (hpr _).mono ?_); rintro e wa ⟨rfl, he⟩; cases he)
        exact ⟨⟨f, n + 1, k, t, by omega, by omega, by go_num, rfl, HK2, htl, HG2, g1, g0, hbel⟩, by simp [intOf]; omega⟩
end Go.Proofs.YtanfolfopalbeabDoor
