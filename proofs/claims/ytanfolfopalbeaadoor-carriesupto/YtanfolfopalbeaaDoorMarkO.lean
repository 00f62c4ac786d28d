/- The book's mark, wherever the book lies, and whatever its number. -/
import Derived.Test.YtanfolfopalbeaaDoorBookG
namespace Go.Proofs.YtanfolfopalbeaaDoor
open Go.RowKit

theorem mark_keepO {w : World} {G o R : Nat} {v : Value} (hne : G ≠ R) (vs : List Value) (h : w.cell? ⟨G, o, none⟩ = some v ∧ w.there R 0 32) : (w.setCells R 0 vs).cell? ⟨G, o, none⟩ = some v ∧ (w.setCells R 0 vs).there R 0 32 :=
  ⟨by rw [World.cell?_of_block (setCells_other2 R G hne vs 0 w)]; exact h.1, World.there_setCells h.2 _ _ _⟩

set_option maxRecDepth 100000 in
set_option maxHeartbeats 800000 in
theorem markO_any (G o : Nat) (cs : Array Value) (ty : TypeId) (n : Nat) (w : World) (hG : w.heap[G]? = some (.cells cs ty (0, 0))) (hc : cs[o]? = some (.int .i64 (n : Int))) (hn : n ≤ 1099511627776) :
    Calls Tryd.prog 99 #[.pointer (some ⟨G, o, none⟩)] w fun e w' => ∃ l : List UInt8, l.length = 32 ∧ e = .returned (.agg (bcells l).toArray) ∧ w'.heap[G]? = some (.cells (cs.setIfInBounds o (.int .i64 ((n + 1 : Nat) : Int))) ty (0, 0)) ∧ w.grownBy w' (some G) := by
  have hl := lt_of_block hG
  have c0 : w.cell? ⟨G, o, none⟩ = some (.int .i64 (n : Int)) := (cell_of_row w G o _ _ _ hG).trans hc
  have f0 := frozen_of_row w G o _ _ hG
  have HG := hide hG
  have hol := (Array.getElem?_eq_some_iff.1 hc).1
  clear hG hc
  go_enter Tryd.func99, Tryd.ntmps99
  go_wp2
  rw [← z32k_cells, show (n : Int) + 1 = ((n + 1 : Nat) : Int) by simp]
  have hR : ((w.setCell ⟨G, o, none⟩ (.int .i64 ((n + 1 : Nat) : Int))).alloc (.cells z32k 30)).heap[w.heap.size]? = some (.cells z32k 30 (0, 0)) := by
    have := heap_alloc_new (w.setCell ⟨G, o, none⟩ (.int .i64 ((n + 1 : Nat) : Int))) (.cells z32k 30)
    simpa [World.setCell] using this
  have hB : ((w.setCell ⟨G, o, none⟩ (.int .i64 ((n + 1 : Nat) : Int))).alloc (.cells z32k 30)).heap[G]? = some (.cells (cs.setIfInBounds o (.int .i64 ((n + 1 : Nat) : Int))) ty (0, 0)) :=
    (Below.heap_alloc _ _ _ (by simpa [World.setCell] using hl)).trans (heap_setCell_same w G o _ _ _ (unhide HG))
  have hgr : w.grownBy ((w.setCell ⟨G, o, none⟩ (.int .i64 ((n + 1 : Nat) : Int))).alloc (.cells z32k 30)) (some G) := grown_alloc (grown_setCell (grown_refl w _) _ _ (.inl rfl)) _
  have hne : G ≠ w.heap.size := by omega
  generalize ((w.setCell ⟨G, o, none⟩ (.int .i64 ((n + 1 : Nat) : Int))).alloc (.cells z32k 30)) = W1 at hR hB hgr ⊢
  have hS0 : W1.drew.cell? ⟨G, o, none⟩ = some (.int .i64 ((n + 1 : Nat) : Int)) ∧ W1.drew.there w.heap.size 0 32 := ⟨(cell_of_row W1 G o _ _ _ hB).trans (by rw [Array.getElem?_setIfInBounds, if_pos rfl, if_pos hol]), by rw [World.there_drew]; exact z32k_there hR⟩
  have hi50 := info_a32
  obtain ⟨x0, hx0⟩ : ∃ x0 : UInt8, (((n + 1 : Nat) : Int)) % 256 = (x0.toNat : Int) := ⟨UInt8.ofNat ((n + 1) % 256), by rw [UInt8.toNat_ofNat']; omega⟩
  obtain ⟨qq, hq⟩ : ∃ qq : Nat, (((n + 1 : Nat) : Int)) / 256 = (qq : Int) := ⟨(n + 1) / 256, by omega⟩
  obtain ⟨x1, hx1⟩ : ∃ x1 : UInt8, ((qq : Int)) % 256 = (x1.toNat : Int) := ⟨UInt8.ofNat (qq % 256), by rw [UInt8.toNat_ofNat']; omega⟩
  have hw0 : IntKind.u8.wrap ((n + 1 : Nat) : Int) = (x0.toNat : Int) := by rw [IntKind.wrap_u8]; exact hx0
  have hw1 : IntKind.i64.wrap (qq : Int) = (qq : Int) := i64w _ (by omega)
  have hw2 : IntKind.u8.wrap (qq : Int) = (x1.toNat : Int) := by rw [IntKind.wrap_u8]; exact hx1
  have hone := mkb_one x0 x1
  have HR := hide hR
  have HB := hide hB
  have HGR := hide hgr
  generalize hwe : w.heap.size = R at *
  have HWE := hide hwe
  clear hwe
  generalize hm : n + 1 = m at *
  have h1m : m ≤ 1099511627777 := by omega
  have HM := hide hm
  clear hR hB hgr c0 f0 hm hx0 hx1
  go_region_held3 (fun w' => w'.cell? ⟨G, o, none⟩ = some (.int .i64 (m : Int)) ∧ w'.there R 0 32) (first | (with_reducible exact hS0) | exact mark_keepO hne _ (by assumption)) (fail)
  rw [← mkb_cells]
  have hR2 : (W1.drew.setCells R 0 (bcells (mkb x0 x1))).heap[R]? = some (.cells (bcells (mkb x0 x1)).toArray 30 (0, 0)) := setCells_whole R _ _ _ _ (unhide HR) rfl
  have hB2 : (W1.drew.setCells R 0 (bcells (mkb x0 x1))).heap[G]? = some (.cells (cs.setIfInBounds o (.int .i64 (m : Int))) ty (0, 0)) := (setCells_other2 R G hne _ _ _).trans (unhide HB)
  have hg2 : w.grownBy (W1.drew.setCells R 0 (bcells (mkb x0 x1))) (some G) := setCells_grown R (.inr (by rw [unhide HWE]; exact Nat.le_refl _)) _ _ (grown_drew (unhide HGR))
  have hlen : (mkb x0 x1).length = 32 := rfl
  have hi2 : (Tryd.prog.info? 30).map (·.size) = some (bcells (mkb x0 x1)).toArray.size := info_a32
  generalize W1.drew.setCells R 0 (bcells (mkb x0 x1)) = W2 at hR2 hB2 hg2 ⊢
  generalize mkb x0 x1 = l at hR2 hlen hi2 ⊢
  have K1 := hide hR2
  have K2 := hide hB2
  have K3 := hide hg2
  have K4 := hide hi2
  clear hS0 hone hR2 hB2 hg2 hi2
  go_wp2
  refine bodyPost_ret (v := .agg (bcells l).toArray) ?_ rfl ⟨l, hlen, rfl, by rw [unhide HM]; exact unhide K2, unhide K3⟩
  exact results_cell_row Tryd.results99 _ _ R 30 _ (0, 0) _ rfl (unhide K1) Tryd.underlying30 rfl (unhide K4)
end Go.Proofs.YtanfolfopalbeaaDoor
