import Derived.Test.YtanfolfopalbeaaDoorRead
import Derived.BigQuiet
import Derived.Deep.QuietTactic
import Derived.Test.YtanfolfopalbeaaDoorAppend
import Derived.BigRegion
import Derived.Deep.MidRow
import Derived.Deep.RegionHeld3
namespace Go.Proofs.YtanfolfopalbeaaDoor
open Go.RowKit

/-- What a book holds. -/
structure Bk where
  n : Nat
  tv : Value
  xv : Value
  dv : Value
  ev : Value
  kv : Value
  sv : Value
  pv : Value
  iv : Value
def Bk.cells (b : Bk) : Array Value := #[.int .i64 (b.n : Int), b.tv, b.xv, b.dv, b.ev, b.kv, b.sv, b.pv, b.iv]
def BkAt (w : World) (G : Nat) (b : Bk) : Prop := w.heap[G]? = some (.cells b.cells 56 (0, 0))
theorem BkAt.c0 {w : World} {G : Nat} {b : Bk} (h : BkAt w G b) : w.cell? ⟨G, 0, none⟩ = some (.int .i64 (b.n : Int)) := by rw [cell_of_row w G 0 _ _ _ h]; rfl
theorem BkAt.c1 {w : World} {G : Nat} {b : Bk} (h : BkAt w G b) : w.cell? ⟨G, 1, none⟩ = some b.tv := by rw [cell_of_row w G 1 _ _ _ h]; rfl
theorem BkAt.c2 {w : World} {G : Nat} {b : Bk} (h : BkAt w G b) : w.cell? ⟨G, 2, none⟩ = some b.xv := by rw [cell_of_row w G 2 _ _ _ h]; rfl
theorem BkAt.c3 {w : World} {G : Nat} {b : Bk} (h : BkAt w G b) : w.cell? ⟨G, 3, none⟩ = some b.dv := by rw [cell_of_row w G 3 _ _ _ h]; rfl
theorem BkAt.c4 {w : World} {G : Nat} {b : Bk} (h : BkAt w G b) : w.cell? ⟨G, 4, none⟩ = some b.ev := by rw [cell_of_row w G 4 _ _ _ h]; rfl
theorem BkAt.c5 {w : World} {G : Nat} {b : Bk} (h : BkAt w G b) : w.cell? ⟨G, 5, none⟩ = some b.kv := by rw [cell_of_row w G 5 _ _ _ h]; rfl
theorem BkAt.c7 {w : World} {G : Nat} {b : Bk} (h : BkAt w G b) : w.cell? ⟨G, 7, none⟩ = some b.pv := by rw [cell_of_row w G 7 _ _ _ h]; rfl
theorem BkAt.free {w : World} {G : Nat} {b : Bk} (h : BkAt w G b) (j : Nat) : w.frozen? ⟨G, j, none⟩ = false := frozen_of_row w G j _ _ h
theorem BkAt.lt {w : World} {G : Nat} {b : Bk} (h : BkAt w G b) : G < w.heap.size := lt_of_block h
theorem BkAt.set0 {w : World} {G : Nat} {b : Bk} (h : BkAt w G b) (x : Nat) : BkAt (w.setCell ⟨G, 0, none⟩ (.int .i64 (x : Int))) G { b with n := x } := by
  unfold BkAt; rw [heap_setCell_same w G 0 _ _ _ h]; rfl
theorem BkAt.set1 {w : World} {G : Nat} {b : Bk} (h : BkAt w G b) (x : Value) : BkAt (w.setCell ⟨G, 1, none⟩ x) G { b with tv := x } := by
  unfold BkAt; rw [heap_setCell_same w G 1 _ _ _ h]; rfl
theorem BkAt.set2 {w : World} {G : Nat} {b : Bk} (h : BkAt w G b) (x : Value) : BkAt (w.setCell ⟨G, 2, none⟩ x) G { b with xv := x } := by
  unfold BkAt; rw [heap_setCell_same w G 2 _ _ _ h]; rfl
theorem BkAt.set3 {w : World} {G : Nat} {b : Bk} (h : BkAt w G b) (x : Value) : BkAt (w.setCell ⟨G, 3, none⟩ x) G { b with dv := x } := by
  unfold BkAt; rw [heap_setCell_same w G 3 _ _ _ h]; rfl
theorem BkAt.set4 {w : World} {G : Nat} {b : Bk} (h : BkAt w G b) (x : Value) : BkAt (w.setCell ⟨G, 4, none⟩ x) G { b with ev := x } := by
  unfold BkAt; rw [heap_setCell_same w G 4 _ _ _ h]; rfl
theorem BkAt.same {w w' : World} {G : Nat} {b : Bk} (h : BkAt w G b) (hs : w'.heap[G]? = w.heap[G]?) : BkAt w' G b := by
  unfold BkAt; rw [hs]; exact h
theorem grown_refl (w : World) (r : Option Nat) : w.grownBy w r := ⟨rfl, rfl, rfl, Nat.le_refl _, fun _ _ _ => rfl⟩
theorem grown_trans {a b c : World} {r : Option Nat} (h : a.grownBy b r) (k : b.grownBy c r) : a.grownBy c r :=
  ⟨k.os.trans h.os, k.tape.trans h.tape, k.output.trans h.output, Nat.le_trans h.size k.size, fun i hi hn => (k.block i (Nat.lt_of_lt_of_le hi h.size) hn).trans (h.block i hi hn)⟩
theorem grown_setCell {a w : World} {r : Option Nat} (h : a.grownBy w r) (p : Addr) (v : Value) (hp : r = some p.block ∨ a.heap.size ≤ p.block) : a.grownBy (w.setCell p v) r :=
  ⟨h.os, h.tape, h.output, by simpa [World.setCell] using h.size, fun i hi hn => by
    rw [heap_setCell_other _ _ _ _ (fun e => ?_)]
    · exact h.block i hi hn
    · rcases hp with rfl | hp
      · exact hn (by rw [e])
      · omega⟩
theorem grown_drew {a w : World} {r : Option Nat} (h : a.grownBy w r) : a.grownBy w.drew r := ⟨h.os, h.tape, h.output, h.size, h.block⟩
theorem grown_alloc {a w : World} {r : Option Nat} (h : a.grownBy w r) (o : Obj) : a.grownBy (w.alloc o) r := grown_trans h (World.grownBy_alloc w o r)

theorem setCells_other2 (g k : Nat) (hk : k ≠ g) : ∀ (vs : List Value) (o : Nat) (w : World), (w.setCells g o vs).heap[k]? = w.heap[k]? := by
  intro vs
  induction vs with
  | nil => intro o w; rfl
  | cons v r ih =>
    intro o w
    show ((w.setCell ⟨g, o, none⟩ v).setCells g (o + 1) r).heap[k]? = _
    rw [ih, heap_setCell_other _ _ _ _ (by exact hk)]
theorem setCells_grown {a : World} {r : Option Nat} (g : Nat) (hp : r = some g ∨ a.heap.size ≤ g) : ∀ (vs : List Value) (o : Nat) {w : World}, a.grownBy w r → a.grownBy (w.setCells g o vs) r := by
  intro vs
  induction vs with
  | nil => intro o w h; exact h
  | cons v t ih => intro o w h; exact ih (o + 1) (grown_setCell h _ v (by exact hp))
theorem setCells_row2 (g : Nat) (ty : TypeId) : ∀ (vs : List Value) (o : Nat) (w : World) (cs : Array Value), w.heap[g]? = some (.cells cs ty (0, 0)) → o + vs.length ≤ cs.size →
    (w.setCells g o vs).heap[g]? = some (.cells (cs.toList.take o ++ vs ++ cs.toList.drop (o + vs.length)).toArray ty (0, 0)) := by
  intro vs
  induction vs with
  | nil =>
    intro o w cs h _
    show w.heap[g]? = _
    rw [h]
    simp
  | cons v r ih =>
    intro o w cs h hl
    simp only [List.length_cons] at hl
    show ((w.setCell ⟨g, o, none⟩ v).setCells g (o + 1) r).heap[g]? = _
    rw [ih (o + 1) _ _ (heap_setCell_same w g o _ _ _ h) (by simp; omega)]
    congr 3
    rw [Array.toList_setIfInBounds]
    have hlt : o < cs.toList.length := by rw [Array.length_toList]; omega
    have e1 : (cs.toList.set o v).take (o + 1) = cs.toList.take o ++ [v] := by
      rw [List.take_succ_eq_append_getElem (by rw [List.length_set]; exact hlt), List.take_set_of_le (Nat.le_refl _)]
      simp
    rw [e1, List.drop_set_of_lt (by omega), show o + 1 + r.length = o + (v :: r).length by simp; omega]
    simp
theorem setCells_whole (g : Nat) (ty : TypeId) (vs : List Value) (w : World) (cs : Array Value) (h : w.heap[g]? = some (.cells cs ty (0, 0))) (hl : vs.length = cs.size) : (w.setCells g 0 vs).heap[g]? = some (.cells vs.toArray ty (0, 0)) := by
  rw [setCells_row2 g ty vs 0 w cs h (by omega), List.take_zero, List.nil_append, Nat.zero_add, List.drop_eq_nil_of_le (by rw [Array.length_toList]; omega), List.append_nil]
def z32k : Array Value := #[.int .u8 0, .int .u8 0, .int .u8 0, .int .u8 0, .int .u8 0, .int .u8 0, .int .u8 0, .int .u8 0, .int .u8 0, .int .u8 0, .int .u8 0, .int .u8 0, .int .u8 0, .int .u8 0, .int .u8 0, .int .u8 0, .int .u8 0, .int .u8 0, .int .u8 0, .int .u8 0, .int .u8 0, .int .u8 0, .int .u8 0, .int .u8 0, .int .u8 0, .int .u8 0, .int .u8 0, .int .u8 0, .int .u8 0, .int .u8 0, .int .u8 0, .int .u8 0]
theorem z32k_cells : z32k = #[.int .u8 0, .int .u8 0, .int .u8 0, .int .u8 0, .int .u8 0, .int .u8 0, .int .u8 0, .int .u8 0, .int .u8 0, .int .u8 0, .int .u8 0, .int .u8 0, .int .u8 0, .int .u8 0, .int .u8 0, .int .u8 0, .int .u8 0, .int .u8 0, .int .u8 0, .int .u8 0, .int .u8 0, .int .u8 0, .int .u8 0, .int .u8 0, .int .u8 0, .int .u8 0, .int .u8 0, .int .u8 0, .int .u8 0, .int .u8 0, .int .u8 0, .int .u8 0] := rfl
theorem info_a32 : (Tryd.prog.info? 30).map (·.size) = some 32 := by kernel_rfl
theorem z32k_there {w : World} {R : Nat} {ty : TypeId} (h : w.heap[R]? = some (.cells z32k ty (0, 0))) : w.there R 0 32 := by
  intro j hj
  rw [Nat.zero_add, cell_of_row w R j _ _ _ h]
  refine ⟨?_, frozen_of_row w R j _ _ h⟩
  rw [Array.getElem?_eq_getElem (show j < z32k.size from hj)]
  rfl
theorem mark_keep {w : World} {G R : Nat} {v : Value} (hne : G ≠ R) (vs : List Value) (h : w.cell? ⟨G, 0, none⟩ = some v ∧ w.there R 0 32) : (w.setCells R 0 vs).cell? ⟨G, 0, none⟩ = some v ∧ (w.setCells R 0 vs).there R 0 32 :=
  ⟨by rw [World.cell?_of_block (setCells_other2 R G hne vs 0 w)]; exact h.1, World.there_setCells h.2 _ _ _⟩
/-- A mark's bytes. -/
def mkb (x0 x1 : UInt8) : List UInt8 := x0 :: x1 :: 99 :: List.replicate 29 0
theorem mkb_cells (x0 x1 : UInt8) : bcells (mkb x0 x1) = [Value.int .u8 (x0.toNat : Int), .int .u8 (x1.toNat : Int), .int .u8 99, .int .u8 0, .int .u8 0, .int .u8 0, .int .u8 0, .int .u8 0, .int .u8 0, .int .u8 0, .int .u8 0, .int .u8 0, .int .u8 0, .int .u8 0, .int .u8 0, .int .u8 0, .int .u8 0, .int .u8 0, .int .u8 0, .int .u8 0, .int .u8 0, .int .u8 0, .int .u8 0, .int .u8 0, .int .u8 0, .int .u8 0, .int .u8 0, .int .u8 0, .int .u8 0, .int .u8 0, .int .u8 0, .int .u8 0] := rfl
theorem mkb_one (x0 x1 : UInt8) : ∀ v ∈ [Value.int .u8 (x0.toNat : Int), .int .u8 (x1.toNat : Int), .int .u8 99, .int .u8 0, .int .u8 0, .int .u8 0, .int .u8 0, .int .u8 0, .int .u8 0, .int .u8 0, .int .u8 0, .int .u8 0, .int .u8 0, .int .u8 0, .int .u8 0, .int .u8 0, .int .u8 0, .int .u8 0, .int .u8 0, .int .u8 0, .int .u8 0, .int .u8 0, .int .u8 0, .int .u8 0, .int .u8 0, .int .u8 0, .int .u8 0, .int .u8 0, .int .u8 0, .int .u8 0, .int .u8 0, .int .u8 0], v.oneCell' = true := by
  rw [← mkb_cells]
  intro v hv
  simp only [bcells, List.mem_map] at hv
  obtain ⟨x, _, rfl⟩ := hv
  rfl

set_option maxRecDepth 100000 in
set_option maxHeartbeats 800000 in
theorem mark_any (G : Nat) (b : Bk) (w : World) (hG : BkAt w G b) (hn : b.n ≤ 1000) :
    Calls Tryd.prog 99 #[.pointer (some ⟨G, 0, none⟩)] w fun e w' => ∃ l : List UInt8, l.length = 32 ∧ e = .returned (.agg (bcells l).toArray) ∧ BkAt w' G { b with n := b.n + 1 } ∧ w.grownBy w' (some G) := by
  have hl := hG.lt
  have c0 := hG.c0
  have f0 := hG.free 0
  have HG := hide hG
  clear hG
  have HBN := hide (Eq.refl b.n)
  generalize b.n = n at c0 hn HBN ⊢
  go_enter Tryd.func99, Tryd.ntmps99
  go_wp2
  rw [← z32k_cells, show (n : Int) + 1 = ((n + 1 : Nat) : Int) by simp]
  have hR : ((w.setCell ⟨G, 0, none⟩ (.int .i64 ((n + 1 : Nat) : Int))).alloc (.cells z32k 30)).heap[w.heap.size]? = some (.cells z32k 30 (0, 0)) := by
    have := heap_alloc_new (w.setCell ⟨G, 0, none⟩ (.int .i64 ((n + 1 : Nat) : Int))) (.cells z32k 30)
    simpa [World.setCell] using this
  have hB : BkAt ((w.setCell ⟨G, 0, none⟩ (.int .i64 ((n + 1 : Nat) : Int))).alloc (.cells z32k 30)) G { b with n := n + 1 } := by
    refine ((unhide HG).set0 (n + 1)).same ?_
    exact Below.heap_alloc _ _ _ (by simpa [World.setCell] using hl)
  have hgr : w.grownBy ((w.setCell ⟨G, 0, none⟩ (.int .i64 ((n + 1 : Nat) : Int))).alloc (.cells z32k 30)) (some G) := grown_alloc (grown_setCell (grown_refl w _) _ _ (.inl rfl)) _
  have hne : G ≠ w.heap.size := by omega
  have hle : w.heap.size ≤ w.heap.size := Nat.le_refl _
  generalize ((w.setCell ⟨G, 0, none⟩ (.int .i64 ((n + 1 : Nat) : Int))).alloc (.cells z32k 30)) = W1 at hR hB hgr ⊢
  have hS0 : W1.drew.cell? ⟨G, 0, none⟩ = some (.int .i64 ((n + 1 : Nat) : Int)) ∧ W1.drew.there w.heap.size 0 32 := ⟨hB.c0, by rw [World.there_drew]; exact z32k_there hR⟩
  have hi50 := info_a32
  obtain ⟨x0, hx0⟩ : ∃ x0 : UInt8, (((n + 1 : Nat) : Int)) % 256 = (x0.toNat : Int) := ⟨UInt8.ofNat ((n + 1) % 256), by rw [UInt8.toNat_ofNat']; omega⟩
  obtain ⟨x1, hx1⟩ : ∃ x1 : UInt8, (((n + 1 : Nat) : Int)) / 256 = (x1.toNat : Int) := ⟨UInt8.ofNat ((n + 1) / 256), by rw [UInt8.toNat_ofNat']; omega⟩
  have hw0 : IntKind.u8.wrap ((n + 1 : Nat) : Int) = (x0.toNat : Int) := by rw [IntKind.wrap_u8]; exact hx0
  have hw1 : IntKind.i64.wrap (x1.toNat : Int) = (x1.toNat : Int) := i64w _ (by have := x1.toNat_lt; omega)
  have hw2 : IntKind.u8.wrap (x1.toNat : Int) = (x1.toNat : Int) := by rw [IntKind.wrap_u8]; have := x1.toNat_lt; omega
  have hone := mkb_one x0 x1
  have HR := hide hR
  have HB := hide hB
  have HGR := hide hgr
  generalize hwe : w.heap.size = R at *
  have HWE := hide hwe
  clear hwe
  generalize hm : n + 1 = m at *
  have h1m : m ≤ 1001 := by omega
  have HM := hide hm
  clear hR hB hgr c0 f0 hm
  go_region_held3 (fun w' => w'.cell? ⟨G, 0, none⟩ = some (.int .i64 (m : Int)) ∧ w'.there R 0 32) (first | (with_reducible exact hS0) | exact mark_keep hne _ (by assumption)) (fail)
  rw [← mkb_cells]
  have hR2 : (W1.drew.setCells R 0 (bcells (mkb x0 x1))).heap[R]? = some (.cells (bcells (mkb x0 x1)).toArray 30 (0, 0)) := setCells_whole R _ _ _ _ (unhide HR) rfl
  have hB2 : BkAt (W1.drew.setCells R 0 (bcells (mkb x0 x1))) G { b with n := m } := (unhide HB).same (setCells_other2 R G hne _ _ _)
  have hg2 : w.grownBy (W1.drew.setCells R 0 (bcells (mkb x0 x1))) (some G) := setCells_grown R (.inr (by rw [unhide HWE]; exact Nat.le_refl _)) _ _ (grown_drew (unhide HGR))
  have hlen : (mkb x0 x1).length = 32 := rfl
  have hi2 : (Tryd.prog.info? 30).map (·.size) = some (bcells (mkb x0 x1)).toArray.size := info_a32
  generalize W1.drew.setCells R 0 (bcells (mkb x0 x1)) = W2 at hR2 hB2 hg2 ⊢
  generalize mkb x0 x1 = l at hR2 hlen hi2 ⊢
  have K1 := hide hR2
  have K2 := hide hB2
  have K3 := hide hg2
  have K4 := hide hi2
  clear hS0 hone hR2 hB2 hg2 hi2
  go_wp2
  refine bodyPost_ret (v := .agg (bcells l).toArray) ?_ rfl ⟨l, hlen, rfl, by rw [unhide HM]; exact unhide K2, unhide K3⟩
  exact results_cell_row Tryd.results99 _ _ R 30 _ (0, 0) _ rfl (unhide K1) Tryd.underlying30 rfl (unhide K4)
end Go.Proofs.YtanfolfopalbeaaDoor
