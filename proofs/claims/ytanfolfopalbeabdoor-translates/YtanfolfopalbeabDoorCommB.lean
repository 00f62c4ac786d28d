/- The book, as far as it holds digests: what stands while a list of them is put in, and between the calls. The book's sums: the contract. The book's holds, of a book of digests: the contract. -/
import Derived.Test.YtanfolfopalbeabDoorRead
import Derived.BigQuiet
import Derived.Deep.QuietTactic
import Derived.Test.YtanfolfopalbeabDoorAppend
import Derived.BigRegion
import Derived.Deep.MidRow
import Derived.Deep.RegionHeld3
import Derived.Test.YtanfolfopalbeabDoorTreeClimb
import Derived.Test.YtanfolfopalbeabDoorDigSame
namespace Go.Proofs.YtanfolfopalbeabDoor
open Go.RowKit

/-- What a book holds. -/
structure Bk where
  n : Nat
  tv : Value
  xv : Value
  dv : Value
  ev : Value
  kv : Value
  sv : Value
  pv : Value
  iv : Value
def Bk.cells (b : Bk) : Array Value := #[.int .i64 (b.n : Int), b.tv, b.xv, b.dv, b.ev, b.kv, b.sv, b.pv, b.iv]
def BkAt (w : World) (G : Nat) (b : Bk) : Prop := w.heap[G]? = some (.cells b.cells 33 (0, 0))
theorem BkAt.c0 {w : World} {G : Nat} {b : Bk} (h : BkAt w G b) : w.cell? ⟨G, 0, none⟩ = some (.int .i64 (b.n : Int)) := by rw [cell_of_row w G 0 _ _ _ h]; rfl
theorem BkAt.c1 {w : World} {G : Nat} {b : Bk} (h : BkAt w G b) : w.cell? ⟨G, 1, none⟩ = some b.tv := by rw [cell_of_row w G 1 _ _ _ h]; rfl
theorem BkAt.c2 {w : World} {G : Nat} {b : Bk} (h : BkAt w G b) : w.cell? ⟨G, 2, none⟩ = some b.xv := by rw [cell_of_row w G 2 _ _ _ h]; rfl
theorem BkAt.c3 {w : World} {G : Nat} {b : Bk} (h : BkAt w G b) : w.cell? ⟨G, 3, none⟩ = some b.dv := by rw [cell_of_row w G 3 _ _ _ h]; rfl
theorem BkAt.c4 {w : World} {G : Nat} {b : Bk} (h : BkAt w G b) : w.cell? ⟨G, 4, none⟩ = some b.ev := by rw [cell_of_row w G 4 _ _ _ h]; rfl
theorem BkAt.c5 {w : World} {G : Nat} {b : Bk} (h : BkAt w G b) : w.cell? ⟨G, 5, none⟩ = some b.kv := by rw [cell_of_row w G 5 _ _ _ h]; rfl
theorem BkAt.c7 {w : World} {G : Nat} {b : Bk} (h : BkAt w G b) : w.cell? ⟨G, 7, none⟩ = some b.pv := by rw [cell_of_row w G 7 _ _ _ h]; rfl
theorem BkAt.free {w : World} {G : Nat} {b : Bk} (h : BkAt w G b) (j : Nat) : w.frozen? ⟨G, j, none⟩ = false := frozen_of_row w G j _ _ h
theorem BkAt.lt {w : World} {G : Nat} {b : Bk} (h : BkAt w G b) : G < w.heap.size := lt_of_block h
theorem BkAt.set0 {w : World} {G : Nat} {b : Bk} (h : BkAt w G b) (x : Nat) : BkAt (w.setCell ⟨G, 0, none⟩ (.int .i64 (x : Int))) G { b with n := x } := by
  unfold BkAt; rw [heap_setCell_same w G 0 _ _ _ h]; rfl
theorem BkAt.set1 {w : World} {G : Nat} {b : Bk} (h : BkAt w G b) (x : Value) : BkAt (w.setCell ⟨G, 1, none⟩ x) G { b with tv := x } := by
  unfold BkAt; rw [heap_setCell_same w G 1 _ _ _ h]; rfl
theorem BkAt.set2 {w : World} {G : Nat} {b : Bk} (h : BkAt w G b) (x : Value) : BkAt (w.setCell ⟨G, 2, none⟩ x) G { b with xv := x } := by
  unfold BkAt; rw [heap_setCell_same w G 2 _ _ _ h]; rfl
theorem BkAt.set3 {w : World} {G : Nat} {b : Bk} (h : BkAt w G b) (x : Value) : BkAt (w.setCell ⟨G, 3, none⟩ x) G { b with dv := x } := by
  unfold BkAt; rw [heap_setCell_same w G 3 _ _ _ h]; rfl
theorem BkAt.set4 {w : World} {G : Nat} {b : Bk} (h : BkAt w G b) (x : Value) : BkAt (w.setCell ⟨G, 4, none⟩ x) G { b with ev := x } := by
  unfold BkAt; rw [heap_setCell_same w G 4 _ _ _ h]; rfl
theorem BkAt.same {w w' : World} {G : Nat} {b : Bk} (h : BkAt w G b) (hs : w'.heap[G]? = w.heap[G]?) : BkAt w' G b := by
  unfold BkAt; rw [hs]; exact h
theorem grown_refl (w : World) (r : Option Nat) : w.grownBy w r := ⟨rfl, rfl, rfl, Nat.le_refl _, fun _ _ _ => rfl⟩
theorem grown_trans {a b c : World} {r : Option Nat} (h : a.grownBy b r) (k : b.grownBy c r) : a.grownBy c r :=
  ⟨k.os.trans h.os, k.tape.trans h.tape, k.output.trans h.output, Nat.le_trans h.size k.size, fun i hi hn => (k.block i (Nat.lt_of_lt_of_le hi h.size) hn).trans (h.block i hi hn)⟩
theorem grown_setCell {a w : World} {r : Option Nat} (h : a.grownBy w r) (p : Addr) (v : Value) (hp : r = some p.block ∨ a.heap.size ≤ p.block) : a.grownBy (w.setCell p v) r :=
  ⟨h.os, h.tape, h.output, by simpa [World.setCell] using h.size, fun i hi hn => by
    rw [heap_setCell_other _ _ _ _ (fun e => ?_)]
    · exact h.block i hi hn
    · rcases hp with rfl | hp
      · exact hn (by rw [e])
      · omega⟩
theorem grown_drew {a w : World} {r : Option Nat} (h : a.grownBy w r) : a.grownBy w.drew r := ⟨h.os, h.tape, h.output, h.size, h.block⟩
theorem grown_alloc {a w : World} {r : Option Nat} (h : a.grownBy w r) (o : Obj) : a.grownBy (w.alloc o) r := grown_trans h (World.grownBy_alloc w o r)

theorem setCells_other2 (g k : Nat) (hk : k ≠ g) : ∀ (vs : List Value) (o : Nat) (w : World), (w.setCells g o vs).heap[k]? = w.heap[k]? := by
  intro vs
  induction vs with
  | nil => intro o w; rfl
  | cons v r ih =>
    intro o w
    show ((w.setCell ⟨g, o, none⟩ v).setCells g (o + 1) r).heap[k]? = _
    rw [ih, heap_setCell_other _ _ _ _ (by exact hk)]
theorem setCells_grown {a : World} {r : Option Nat} (g : Nat) (hp : r = some g ∨ a.heap.size ≤ g) : ∀ (vs : List Value) (o : Nat) {w : World}, a.grownBy w r → a.grownBy (w.setCells g o vs) r := by
  intro vs
  induction vs with
  | nil => intro o w h; exact h
  | cons v t ih => intro o w h; exact ih (o + 1) (grown_setCell h _ v (by exact hp))
theorem setCells_row2 (g : Nat) (ty : TypeId) : ∀ (vs : List Value) (o : Nat) (w : World) (cs : Array Value), w.heap[g]? = some (.cells cs ty (0, 0)) → o + vs.length ≤ cs.size →
    (w.setCells g o vs).heap[g]? = some (.cells (cs.toList.take o ++ vs ++ cs.toList.drop (o + vs.length)).toArray ty (0, 0)) := by
  intro vs
  induction vs with
  | nil =>
    intro o w cs h _
    show w.heap[g]? = _
    rw [h]
    simp
  | cons v r ih =>
    intro o w cs h hl
    simp only [List.length_cons] at hl
    show ((w.setCell ⟨g, o, none⟩ v).setCells g (o + 1) r).heap[g]? = _
    rw [ih (o + 1) _ _ (heap_setCell_same w g o _ _ _ h) (by simp; omega)]
    congr 3
    rw [Array.toList_setIfInBounds]
    have hlt : o < cs.toList.length := by rw [Array.length_toList]; omega
    have e1 : (cs.toList.set o v).take (o + 1) = cs.toList.take o ++ [v] := by
      rw [List.take_succ_eq_append_getElem (by rw [List.length_set]; exact hlt), List.take_set_of_le (Nat.le_refl _)]
      simp
    rw [e1, List.drop_set_of_lt (by omega), show o + 1 + r.length = o + (v :: r).length by simp; omega]
    simp
theorem setCells_whole (g : Nat) (ty : TypeId) (vs : List Value) (w : World) (cs : Array Value) (h : w.heap[g]? = some (.cells cs ty (0, 0))) (hl : vs.length = cs.size) : (w.setCells g 0 vs).heap[g]? = some (.cells vs.toArray ty (0, 0)) := by
  rw [setCells_row2 g ty vs 0 w cs h (by omega), List.take_zero, List.nil_append, Nat.zero_add, List.drop_eq_nil_of_le (by rw [Array.length_toList]; omega), List.append_nil]
def z32k : Array Value := #[.int .u8 0, .int .u8 0, .int .u8 0, .int .u8 0, .int .u8 0, .int .u8 0, .int .u8 0, .int .u8 0, .int .u8 0, .int .u8 0, .int .u8 0, .int .u8 0, .int .u8 0, .int .u8 0, .int .u8 0, .int .u8 0, .int .u8 0, .int .u8 0, .int .u8 0, .int .u8 0, .int .u8 0, .int .u8 0, .int .u8 0, .int .u8 0, .int .u8 0, .int .u8 0, .int .u8 0, .int .u8 0, .int .u8 0, .int .u8 0, .int .u8 0, .int .u8 0]
theorem z32k_cells : z32k = #[.int .u8 0, .int .u8 0, .int .u8 0, .int .u8 0, .int .u8 0, .int .u8 0, .int .u8 0, .int .u8 0, .int .u8 0, .int .u8 0, .int .u8 0, .int .u8 0, .int .u8 0, .int .u8 0, .int .u8 0, .int .u8 0, .int .u8 0, .int .u8 0, .int .u8 0, .int .u8 0, .int .u8 0, .int .u8 0, .int .u8 0, .int .u8 0, .int .u8 0, .int .u8 0, .int .u8 0, .int .u8 0, .int .u8 0, .int .u8 0, .int .u8 0, .int .u8 0] := rfl
theorem info_a32 : (Tryd.prog.info? 63).map (·.size) = some 32 := by kernel_rfl
theorem z32k_there {w : World} {R : Nat} {ty : TypeId} (h : w.heap[R]? = some (.cells z32k ty (0, 0))) : w.there R 0 32 := by
  intro j hj
  rw [Nat.zero_add, cell_of_row w R j _ _ _ h]
  refine ⟨?_, frozen_of_row w R j _ _ h⟩
  rw [Array.getElem?_eq_getElem (show j < z32k.size from hj)]
  rfl
theorem mark_keep {w : World} {G R : Nat} {v : Value} (hne : G ≠ R) (vs : List Value) (h : w.cell? ⟨G, 0, none⟩ = some v ∧ w.there R 0 32) : (w.setCells R 0 vs).cell? ⟨G, 0, none⟩ = some v ∧ (w.setCells R 0 vs).there R 0 32 :=
  ⟨by rw [World.cell?_of_block (setCells_other2 R G hne vs 0 w)]; exact h.1, World.there_setCells h.2 _ _ _⟩
/-- A mark's bytes. -/
def mkb (x0 x1 : UInt8) : List UInt8 := x0 :: x1 :: 99 :: List.replicate 29 0
theorem mkb_cells (x0 x1 : UInt8) : bcells (mkb x0 x1) = [Value.int .u8 (x0.toNat : Int), .int .u8 (x1.toNat : Int), .int .u8 99, .int .u8 0, .int .u8 0, .int .u8 0, .int .u8 0, .int .u8 0, .int .u8 0, .int .u8 0, .int .u8 0, .int .u8 0, .int .u8 0, .int .u8 0, .int .u8 0, .int .u8 0, .int .u8 0, .int .u8 0, .int .u8 0, .int .u8 0, .int .u8 0, .int .u8 0, .int .u8 0, .int .u8 0, .int .u8 0, .int .u8 0, .int .u8 0, .int .u8 0, .int .u8 0, .int .u8 0, .int .u8 0, .int .u8 0] := rfl
theorem mkb_one (x0 x1 : UInt8) : ∀ v ∈ [Value.int .u8 (x0.toNat : Int), .int .u8 (x1.toNat : Int), .int .u8 99, .int .u8 0, .int .u8 0, .int .u8 0, .int .u8 0, .int .u8 0, .int .u8 0, .int .u8 0, .int .u8 0, .int .u8 0, .int .u8 0, .int .u8 0, .int .u8 0, .int .u8 0, .int .u8 0, .int .u8 0, .int .u8 0, .int .u8 0, .int .u8 0, .int .u8 0, .int .u8 0, .int .u8 0, .int .u8 0, .int .u8 0, .int .u8 0, .int .u8 0, .int .u8 0, .int .u8 0, .int .u8 0, .int .u8 0], v.oneCell' = true := by
  rw [← mkb_cells]
  intro v hv
  simp only [bcells, List.mem_map] at hv
  obtain ⟨x, _, rfl⟩ := hv
  rfl

set_option maxRecDepth 100000 in
set_option maxHeartbeats 800000 in
theorem mark_any (G : Nat) (b : Bk) (w : World) (hG : BkAt w G b) (hn : b.n ≤ 1000) :
    Calls Tryd.prog 52 #[.pointer (some ⟨G, 0, none⟩)] w fun e w' => ∃ l : List UInt8, l.length = 32 ∧ e = .returned (.agg (bcells l).toArray) ∧ BkAt w' G { b with n := b.n + 1 } ∧ w.grownBy w' (some G) := by
  have hl := hG.lt
  have c0 := hG.c0
  have f0 := hG.free 0
  have HG := hide hG
  clear hG
  have HBN := hide (Eq.refl b.n)
  generalize b.n = n at c0 hn HBN ⊢
  go_enter Tryd.func52, Tryd.ntmps52
  go_wp2
  rw [← z32k_cells, show (n : Int) + 1 = ((n + 1 : Nat) : Int) by simp]
  have hR : ((w.setCell ⟨G, 0, none⟩ (.int .i64 ((n + 1 : Nat) : Int))).alloc (.cells z32k 63)).heap[w.heap.size]? = some (.cells z32k 63 (0, 0)) := by
    have := heap_alloc_new (w.setCell ⟨G, 0, none⟩ (.int .i64 ((n + 1 : Nat) : Int))) (.cells z32k 63)
    simpa [World.setCell] using this
  have hB : BkAt ((w.setCell ⟨G, 0, none⟩ (.int .i64 ((n + 1 : Nat) : Int))).alloc (.cells z32k 63)) G { b with n := n + 1 } := by
    refine ((unhide HG).set0 (n + 1)).same ?_
    exact Below.heap_alloc _ _ _ (by simpa [World.setCell] using hl)
  have hgr : w.grownBy ((w.setCell ⟨G, 0, none⟩ (.int .i64 ((n + 1 : Nat) : Int))).alloc (.cells z32k 63)) (some G) := grown_alloc (grown_setCell (grown_refl w _) _ _ (.inl rfl)) _
  have hne : G ≠ w.heap.size := by omega
  have hle : w.heap.size ≤ w.heap.size := Nat.le_refl _
  generalize ((w.setCell ⟨G, 0, none⟩ (.int .i64 ((n + 1 : Nat) : Int))).alloc (.cells z32k 63)) = W1 at hR hB hgr ⊢
  have hS0 : W1.drew.cell? ⟨G, 0, none⟩ = some (.int .i64 ((n + 1 : Nat) : Int)) ∧ W1.drew.there w.heap.size 0 32 := ⟨hB.c0, by rw [World.there_drew]; exact z32k_there hR⟩
  have hi50 := info_a32
  obtain ⟨x0, hx0⟩ : ∃ x0 : UInt8, (((n + 1 : Nat) : Int)) % 256 = (x0.toNat : Int) := ⟨UInt8.ofNat ((n + 1) % 256), by rw [UInt8.toNat_ofNat']; omega⟩
  obtain ⟨x1, hx1⟩ : ∃ x1 : UInt8, (((n + 1 : Nat) : Int)) / 256 = (x1.toNat : Int) := ⟨UInt8.ofNat ((n + 1) / 256), by rw [UInt8.toNat_ofNat']; omega⟩
  have hw0 : IntKind.u8.wrap ((n + 1 : Nat) : Int) = (x0.toNat : Int) := by rw [IntKind.wrap_u8]; exact hx0
  have hw1 : IntKind.i64.wrap (x1.toNat : Int) = (x1.toNat : Int) := i64w _ (by have := x1.toNat_lt; omega)
  have hw2 : IntKind.u8.wrap (x1.toNat : Int) = (x1.toNat : Int) := by rw [IntKind.wrap_u8]; have := x1.toNat_lt; omega
  have hone := mkb_one x0 x1
  have HR := hide hR
  have HB := hide hB
  have HGR := hide hgr
  generalize hwe : w.heap.size = R at *
  have HWE := hide hwe
  clear hwe
  generalize hm : n + 1 = m at *
  have h1m : m ≤ 1001 := by omega
  have HM := hide hm
  clear hR hB hgr c0 f0 hm
  go_region_held3 (fun w' => w'.cell? ⟨G, 0, none⟩ = some (.int .i64 (m : Int)) ∧ w'.there R 0 32) (first | (with_reducible exact hS0) | exact mark_keep hne _ (by assumption)) (fail)
  rw [← mkb_cells]
  have hR2 : (W1.drew.setCells R 0 (bcells (mkb x0 x1))).heap[R]? = some (.cells (bcells (mkb x0 x1)).toArray 63 (0, 0)) := setCells_whole R _ _ _ _ (unhide HR) rfl
  have hB2 : BkAt (W1.drew.setCells R 0 (bcells (mkb x0 x1))) G { b with n := m } := (unhide HB).same (setCells_other2 R G hne _ _ _)
  have hg2 : w.grownBy (W1.drew.setCells R 0 (bcells (mkb x0 x1))) (some G) := setCells_grown R (.inr (by rw [unhide HWE]; exact Nat.le_refl _)) _ _ (grown_drew (unhide HGR))
  have hlen : (mkb x0 x1).length = 32 := rfl
  have hi2 : (Tryd.prog.info? 63).map (·.size) = some (bcells (mkb x0 x1)).toArray.size := info_a32
  generalize W1.drew.setCells R 0 (bcells (mkb x0 x1)) = W2 at hR2 hB2 hg2 ⊢
  generalize mkb x0 x1 = l at hR2 hlen hi2 ⊢
  have K1 := hide hR2
  have K2 := hide hB2
  have K3 := hide hg2
  have K4 := hide hi2
  clear hS0 hone hR2 hB2 hg2 hi2
  go_wp2
  refine bodyPost_ret (v := .agg (bcells l).toArray) ?_ rfl ⟨l, hlen, rfl, by rw [unhide HM]; exact unhide K2, unhide K3⟩
  exact results_cell_row Tryd.results52 _ _ R 63 _ (0, 0) _ rfl (unhide K1) Tryd.underlying63 rfl (unhide K4)
end Go.Proofs.YtanfolfopalbeabDoor
namespace Go.Proofs.YtanfolfopalbeabDoor
open Go.RowKit

def lenS : Value → Nat
  | .slice _ m _ => m
  | _ => 0
theorem dcells_set (ls : List (List UInt8)) (i : Nat) (x : List UInt8) (hi : i < ls.length) : dcells (ls.set i x) = dcells (ls.take i) ++ (bcells x ++ dcells (ls.drop (i + 1))) := by
  rw [List.set_eq_take_append_cons_drop, if_pos hi]
  simp [dcells]
/-- A list that reads as its mark all over. -/
def FullD (w : World) (v : Value) (m : List UInt8) : Prop :=
  m.length = 32 ∧ ∃ ao n cap, v = .slice ao n cap ∧ n ≤ cap ∧ cap ≤ maxLen ∧ (0 < n → ∃ g, ao = some ⟨g, 0, none⟩ ∧ ∀ i, i < n → w.rangeAt g (i * 32) (bcells m))
theorem FullD.keep {w w' : World} {v : Value} {m : List UInt8} (h : FullD w v m) (hk : ∀ g j, v.ownBlock = some g → j < lenS v * 32 → w'.cell? ⟨g, j, none⟩ = w.cell? ⟨g, j, none⟩) : FullD w' v m := by
  obtain ⟨h0, ao, n, cap, rfl, h1, h2, h3⟩ := h
  refine ⟨h0, ao, n, cap, rfl, h1, h2, fun hn => ?_⟩
  obtain ⟨g, rfl, hc⟩ := h3 hn
  refine ⟨g, rfl, fun i hi j u hu => ?_⟩
  have hj : j < 32 := by
    have := (List.getElem?_eq_some_iff.1 hu).1
    simpa [bcells, h0] using this
  rw [hk g (i * 32 + j) rfl (by simp only [lenS]; omega)]
  exact hc i hi j u hu
theorem FullD.of_own {w : World} {B : Nat} {e : TypeId} {v : Value} {n : Nat} {t : List UInt8} (ht : t.length = 32) (h : w.ownsRow B e 32 v n (dcells (List.replicate n t))) : FullD w v t := by
  have hD := digs_of_own (ps := List.replicate n t) (fun d hd => by rw [(List.mem_replicate.1 hd).2]; exact ht) h (by simp)
  rcases h.2 with ⟨rfl, rfl⟩ | ⟨g, cap, cur, rfl, _, _, h1, h2, _⟩
  · exact ⟨ht, none, 0, 0, rfl, Nat.le_refl _, by unfold maxLen; omega, fun h => absurd h (Nat.lt_irrefl 0)⟩
  · refine ⟨ht, some ⟨g, 0, none⟩, n, cap, rfl, h1, h2, fun _ => ⟨g, rfl, fun i hi => ?_⟩⟩
    have := digs_at hD i (by simpa using hi)
    rw [Nat.zero_add] at this
    simpa [List.getD, hi] using this
theorem lenS_own {w : World} {B : Nat} {e : TypeId} {s : Nat} {v : Value} {n : Nat} {xs : List Value} (h : w.ownsRow B e s v n xs) : lenS v = n := by
  rcases h.2 with ⟨rfl, rfl⟩ | ⟨g, cap, cur, rfl, _⟩ <;> rfl

/-- What stands while a list is put into the book. -/
structure StD (P : Nat → Prop) (B : Nat) (w0 w : World) (G : Nat) (b : Bk) (tl : List Value) (xl : List (List UInt8)) (recs : List (Value × List UInt8)) (lv : Value) (nl : Nat) (ls : List (List UInt8)) : Prop where
  bk : BkAt w G b
  base : B ≤ G
  ht : w.ownsRow B 27 1 b.dv tl.length tl
  hx : w.ownsRow B 64 32 b.ev xl.length (dcells xl)
  hl : w.ownsRow B 64 32 lv nl (dcells ls)
  hf : ∀ r ∈ recs, FullD w r.1 r.2
  hs : ∀ r ∈ recs, ∀ g, r.1.ownBlock = some g → g < w.heap.size ∧ g ≠ G ∧ b.dv.ownBlock ≠ some g ∧ b.ev.ownBlock ≠ some g ∧ (lv.ownBlock = some g → lenS r.1 ≤ nl)
  tG : b.dv.ownBlock ≠ some G
  xG : b.ev.ownBlock ≠ some G
  lG : lv.ownBlock ≠ some G
  tx : ∀ g, b.dv.ownBlock = some g → b.ev.ownBlock ≠ some g
  tlv : ∀ g, b.dv.ownBlock = some g → lv.ownBlock ≠ some g
  xlv : ∀ g, b.ev.ownBlock = some g → lv.ownBlock ≠ some g
  bel : Below B w0 w
  pr : ∀ k, P k → k < w.heap.size ∧ w.heap[k]? = w0.heap[k]? ∧ k ≠ G ∧ b.dv.ownBlock ≠ some k ∧ b.ev.ownBlock ≠ some k ∧ lv.ownBlock ≠ some k
theorem StD.sz {P : Nat → Prop} {B : Nat} {w0 w : World} {G : Nat} {b : Bk} {tl : List Value} {xl : List (List UInt8)} {recs : List (Value × List UInt8)} {lv : Value} {nl : Nat} {ls : List (List UInt8)} (S : StD P B w0 w G b tl xl recs lv nl ls) : B ≤ w.heap.size := Nat.le_of_lt (Nat.lt_of_le_of_lt S.base S.bk.lt)
theorem ne_of_imp {a c : Option Nat} (h : ∀ g, a = some g → c ≠ some g) : c = none ∨ c ≠ a := by
  cases c with
  | none => exact .inl rfl
  | some k => exact .inr fun e => h k e.symm rfl
theorem ne_of_imp' {a c : Option Nat} (h : ∀ g, a = some g → c ≠ some g) : a = none ∨ a ≠ c := by
  cases a with
  | none => exact .inl rfl
  | some k => exact .inr fun e => h k rfl e.symm
theorem own_setG {w : World} {B : Nat} {e : TypeId} {s : Nat} {v : Value} {n : Nat} {xs : List Value} (h : w.ownsRow B e s v n xs) {G i : Nat} {x : Value} (hv : v.ownBlock ≠ some G) : (w.setCell ⟨G, i, none⟩ x).ownsRow B e s v n xs :=
  h.kept (grown_setCell (grown_refl w (some G)) _ _ (.inl rfl)) (.inr hv)
/-- The book's list of lists has one more. -/
theorem StD.texts {P : Nat → Prop} {B : Nat} {w0 w : World} {G : Nat} {b : Bk} {tl : List Value} {xl : List (List UInt8)} {recs : List (Value × List UInt8)} {lv : Value} {nl : Nat} {ls : List (List UInt8)} (S : StD P B w0 w G b tl xl recs lv nl ls) {g cap : Nat} {w' : World} {o : Obj} {y : Value} (hown : w'.ownsRow B 27 1 (.slice (some ⟨g, 0, none⟩) (tl.length + 1) cap) (tl.length + 1) (tl ++ [y]))
    (hgrow : (w.alloc o).grownBy w' b.dv.ownBlock) (hat : b.dv.ownBlock = some g ∨ g = (w.alloc o).heap.size) :
    StD P B w0 (w'.setCell ⟨G, 3, none⟩ (.slice (some ⟨g, 0, none⟩) (tl.length + 1) cap)) G { b with dv := .slice (some ⟨g, 0, none⟩) (tl.length + 1) cap } (tl ++ [y]) xl recs lv nl ls := by
  have hgr : w.grownBy w' b.dv.ownBlock := grown_trans (World.grownBy_alloc w o _) hgrow
  have hGl := S.bk.lt
  have has : (w.alloc o).heap.size = w.heap.size + 1 := by simp
  have hgG : g ≠ G := by
    rcases hat with h | h
    · intro e; rw [e] at h; exact S.tG h
    · omega
  have hfar : ∀ k, k < w.heap.size → b.dv.ownBlock ≠ some k → g ≠ k := by
    intro k hk hn e
    rcases hat with h | h
    · rw [e] at h; exact hn h
    · omega
  have hoB : (Value.slice (some ⟨g, 0, none⟩) (tl.length + 1) cap).ownBlock = some g := rfl
  have lv_lt : ∀ k, lv.ownBlock = some k → k < w.heap.size := fun k h => (S.hl.lt k h).2
  have xv_lt : ∀ k, b.ev.ownBlock = some k → k < w.heap.size := fun k h => (S.hx.lt k h).2
  refine ⟨?_, S.base, ?_, ?_, ?_, ?_, ?_, ?_, S.xG, S.lG, ?_, ?_, S.xlv, ?_, ?_⟩
  · exact (S.bk.same (hgr.block G hGl (fun e => S.tG e.symm))).set3 _
  · rw [List.length_append]
    exact own_setG hown (by rw [hoB]; intro e; injection e with e; exact hgG e)
  · exact own_setG (S.hx.kept hgr (ne_of_imp S.tx)) S.xG
  · exact own_setG (S.hl.kept hgr (ne_of_imp S.tlv)) S.lG
  · intro r hr
    refine (S.hf r hr).keep fun k j hk _ => ?_
    have h := S.hs r hr k hk
    rw [World.cell?_of_block (heap_setCell_other _ _ _ _ (by exact h.2.1)), World.cell?_of_block (hgr.block k h.1 (fun e => h.2.2.1 e.symm))]
  · intro r hr k hk
    have h := S.hs r hr k hk
    refine ⟨?_, h.2.1, ?_, h.2.2.2.1, h.2.2.2.2⟩
    · have := hgr.size
      simp only [World.setCell, Array.size_modify]
      omega
    · show (Value.slice (some ⟨g, 0, none⟩) (tl.length + 1) cap).ownBlock ≠ some k
      rw [hoB]; intro e; injection e with e; exact hfar k h.1 h.2.2.1 e
  · show (Value.slice (some ⟨g, 0, none⟩) (tl.length + 1) cap).ownBlock ≠ some G
    rw [hoB]; intro e; injection e with e; exact hgG e
  · intro k hk hx
    have e : g = k := by injection hk
    exact hfar k (xv_lt k hx) (fun h => S.tx k h hx) e
  · intro k hk hx
    have e : g = k := by injection hk
    exact hfar k (lv_lt k hx) (fun h => S.tlv k h hx) e
  · exact (S.bel.grown hgr S.sz (own_row_ge S.ht)).setCell (by exact S.base) _
  · intro k hk
    obtain ⟨h1, h2, h3, h4, h5, h6⟩ := S.pr k hk
    refine ⟨?_, ?_, h3, ?_, h5, h6⟩
    · have := hgr.size
      simp only [World.setCell, Array.size_modify]
      omega
    · rw [heap_setCell_other _ _ _ _ (by exact h3), hgr.block k h1 (fun e => h4 e.symm)]
      exact h2
    · show (Value.slice (some ⟨g, 0, none⟩) (tl.length + 1) cap).ownBlock ≠ some k
      rw [hoB]; intro e; injection e with e; exact hfar k h1 h4 e
/-- The book's list of marks has one more; the list is then in the book. -/
theorem StD.text {P : Nat → Prop} {B : Nat} {w0 w : World} {G : Nat} {b : Bk} {tl : List Value} {xl : List (List UInt8)} {recs : List (Value × List UInt8)} {lv : Value} {nl : Nat} {ls : List (List UInt8)} (S : StD P B w0 w G b tl xl recs lv nl ls) {g cap : Nat} {w' : World} {o : Obj} {t : List UInt8} (hls : ls = List.replicate nl t) (ht32 : t.length = 32) (hown : w'.ownsRow B 64 32 (.slice (some ⟨g, 0, none⟩) (xl.length + 1) cap) (xl.length + 1) (dcells xl ++ bcells t))
    (hgrow : (w.alloc o).grownBy w' b.ev.ownBlock) (hat : b.ev.ownBlock = some g ∨ g = (w.alloc o).heap.size) :
    StD P B w0 (w'.setCell ⟨G, 4, none⟩ (.slice (some ⟨g, 0, none⟩) (xl.length + 1) cap)) G { b with ev := .slice (some ⟨g, 0, none⟩) (xl.length + 1) cap } tl (xl ++ [t]) (recs ++ [(lv, t)]) lv nl ls := by
  have hgr : w.grownBy w' b.ev.ownBlock := grown_trans (World.grownBy_alloc w o _) hgrow
  have hGl := S.bk.lt
  have has : (w.alloc o).heap.size = w.heap.size + 1 := by simp
  have hgG : g ≠ G := by
    rcases hat with h | h
    · intro e; rw [e] at h; exact S.xG h
    · omega
  have hfar : ∀ k, k < w.heap.size → b.ev.ownBlock ≠ some k → g ≠ k := by
    intro k hk hn e
    rcases hat with h | h
    · rw [e] at h; exact hn h
    · omega
  have hoB : (Value.slice (some ⟨g, 0, none⟩) (xl.length + 1) cap).ownBlock = some g := rfl
  have lv_lt : ∀ k, lv.ownBlock = some k → k < w.heap.size := fun k h => (S.hl.lt k h).2
  have tv_lt : ∀ k, b.dv.ownBlock = some k → k < w.heap.size := fun k h => (S.ht.lt k h).2
  have tx' : ∀ k, b.ev.ownBlock = some k → b.dv.ownBlock ≠ some k := fun k h h2 => S.tx k h2 h
  have hl2 : (w'.setCell ⟨G, 4, none⟩ (.slice (some ⟨g, 0, none⟩) (xl.length + 1) cap)).ownsRow B 64 32 lv nl (dcells ls) := own_setG (S.hl.kept hgr (ne_of_imp S.xlv)) S.lG
  have hszz : w.heap.size ≤ (w'.setCell ⟨G, 4, none⟩ (.slice (some ⟨g, 0, none⟩) (xl.length + 1) cap)).heap.size := by
    have := hgr.size
    simp only [World.setCell, Array.size_modify]
    omega
  refine ⟨?_, S.base, ?_, ?_, hl2, ?_, ?_, S.tG, ?_, S.lG, ?_, S.tlv, ?_, ?_, ?_⟩
  · exact (S.bk.same (hgr.block G hGl (fun e => S.xG e.symm))).set4 _
  · exact own_setG (S.ht.kept hgr (ne_of_imp tx')) S.tG
  · rw [List.length_append, dcells_snoc]
    exact own_setG hown (by rw [hoB]; intro e; injection e with e; exact hgG e)
  · intro r hr
    rcases List.mem_append.1 hr with hr | hr
    · refine (S.hf r hr).keep fun k j hk _ => ?_
      have h := S.hs r hr k hk
      rw [World.cell?_of_block (heap_setCell_other _ _ _ _ (by exact h.2.1)), World.cell?_of_block (hgr.block k h.1 (fun e => h.2.2.2.1 e.symm))]
    · rw [List.mem_singleton.1 hr]
      rw [hls] at hl2
      exact FullD.of_own ht32 hl2
  · intro r hr k hk
    rcases List.mem_append.1 hr with hr | hr
    · have h := S.hs r hr k hk
      refine ⟨Nat.lt_of_lt_of_le h.1 hszz, h.2.1, h.2.2.1, ?_, h.2.2.2.2⟩
      show (Value.slice (some ⟨g, 0, none⟩) (xl.length + 1) cap).ownBlock ≠ some k
      rw [hoB]; intro e; injection e with e; exact hfar k h.1 h.2.2.2.1 e
    · rw [List.mem_singleton.1 hr] at hk ⊢
      have hk' : lv.ownBlock = some k := hk
      have hkl := lv_lt k hk'
      refine ⟨Nat.lt_of_lt_of_le hkl hszz, fun e => S.lG (by rw [hk', e]), fun h => S.tlv k h hk', ?_, fun _ => Nat.le_of_eq (lenS_own hl2)⟩
      show (Value.slice (some ⟨g, 0, none⟩) (xl.length + 1) cap).ownBlock ≠ some k
      rw [hoB]; intro e; injection e with e; exact hfar k hkl (fun h => S.xlv k h hk') e
  · show (Value.slice (some ⟨g, 0, none⟩) (xl.length + 1) cap).ownBlock ≠ some G
    rw [hoB]; intro e; injection e with e; exact hgG e
  · intro k hk hx
    have e : g = k := by injection hx
    exact hfar k (tv_lt k hk) (fun h => S.tx k hk h) e
  · intro k hk hx
    have e : g = k := by injection hk
    exact hfar k (lv_lt k hx) (fun h => S.xlv k h hx) e
  · exact (S.bel.grown hgr S.sz (own_row_ge S.hx)).setCell (by exact S.base) _
  · intro k hk
    obtain ⟨h1, h2, h3, h4, h5, h6⟩ := S.pr k hk
    refine ⟨Nat.lt_of_lt_of_le h1 hszz, ?_, h3, h4, ?_, h6⟩
    · rw [heap_setCell_other _ _ _ _ (by exact h3), hgr.block k h1 (fun e => h5 e.symm)]
      exact h2
    · show (Value.slice (some ⟨g, 0, none⟩) (xl.length + 1) cap).ownBlock ≠ some k
      rw [hoB]; intro e; injection e with e; exact hfar k h1 h5 e
/-- The list itself has one more. -/
theorem StD.grow {P : Nat → Prop} {B : Nat} {w0 w : World} {G : Nat} {b : Bk} {tl : List Value} {xl : List (List UInt8)} {recs : List (Value × List UInt8)} {lv : Value} {nl : Nat} {ls : List (List UInt8)} (S : StD P B w0 w G b tl xl recs lv nl ls) {g cap : Nat} {w' : World} {o : Obj} {ls' : List (List UInt8)} (hown : w'.ownsRow B 64 32 (.slice (some ⟨g, 0, none⟩) (nl + 1) cap) (nl + 1) (dcells ls'))
    (hgrow : (w.alloc o).grownBy w' lv.ownBlock) (hat : lv.ownBlock = some g ∨ g = (w.alloc o).heap.size)
    (hkeep : ∀ k j, k < (w.alloc o).heap.size → (lv.ownBlock = some k → j < nl * 32) → w'.cell? ⟨k, j, none⟩ = (w.alloc o).cell? ⟨k, j, none⟩) :
    StD P B w0 w' G b tl xl recs (.slice (some ⟨g, 0, none⟩) (nl + 1) cap) (nl + 1) ls' := by
  have hgr : w.grownBy w' lv.ownBlock := grown_trans (World.grownBy_alloc w o _) hgrow
  have hGl := S.bk.lt
  have has : (w.alloc o).heap.size = w.heap.size + 1 := by simp
  have hgG : g ≠ G := by
    rcases hat with h | h
    · intro e; rw [e] at h; exact S.lG h
    · omega
  have hfar : ∀ k, k < w.heap.size → lv.ownBlock ≠ some k → g ≠ k := by
    intro k hk hn e
    rcases hat with h | h
    · rw [e] at h; exact hn h
    · omega
  have hoB : (Value.slice (some ⟨g, 0, none⟩) (nl + 1) cap).ownBlock = some g := rfl
  have xv_lt : ∀ k, b.ev.ownBlock = some k → k < w.heap.size := fun k h => (S.hx.lt k h).2
  have tv_lt : ∀ k, b.dv.ownBlock = some k → k < w.heap.size := fun k h => (S.ht.lt k h).2
  refine ⟨S.bk.same (hgr.block G hGl (fun e => S.lG e.symm)), S.base, S.ht.kept hgr (ne_of_imp' S.tlv), S.hx.kept hgr (ne_of_imp' S.xlv), hown, ?_, ?_, S.tG, S.xG, ?_, S.tx, ?_, ?_, S.bel.grown hgr S.sz (own_row_ge S.hl), ?_⟩
  · intro r hr
    refine (S.hf r hr).keep fun k j hk hj => ?_
    have h := S.hs r hr k hk
    rw [hkeep k j (by omega) (fun e => by have := h.2.2.2.2 e; omega)]
    exact World.cell?_of_block (Below.heap_alloc w o k h.1)
  · intro r hr k hk
    have h := S.hs r hr k hk
    refine ⟨Nat.lt_of_lt_of_le h.1 hgr.size, h.2.1, h.2.2.1, h.2.2.2.1, fun e => ?_⟩
    by_cases hv : lv.ownBlock = some k
    · have := h.2.2.2.2 hv; omega
    · exfalso
      have e' : g = k := by injection e
      exact hfar k h.1 hv e'
  · rw [hoB]; intro e; injection e with e; exact hgG e
  · intro k hk hx
    have e : g = k := by injection hx
    exact hfar k (tv_lt k hk) (S.tlv k hk) e
  · intro k hk hx
    have e : g = k := by injection hx
    exact hfar k (xv_lt k hk) (S.xlv k hk) e
  · intro k hk
    obtain ⟨h1, h2, h3, h4, h5, h6⟩ := S.pr k hk
    refine ⟨Nat.lt_of_lt_of_le h1 hgr.size, (hgr.block k h1 (fun e => h6 e.symm)).trans h2, h3, h4, h5, ?_⟩
    rw [hoB]; intro e; injection e with e; exact hfar k h1 h6 e
/-- A digest is written into the list (whose block no book has yet). -/
theorem StD.put {P : Nat → Prop} {B : Nat} {w0 w : World} {G : Nat} {b : Bk} {tl : List Value} {xl : List (List UInt8)} {recs : List (Value × List UInt8)} {lv : Value} {nl : Nat} {ls : List (List UInt8)} (S : StD P B w0 w G b tl xl recs lv nl ls) {g cap i : Nat} {x : List UInt8} (hx32 : x.length = 32) (hl32 : ∀ d ∈ ls, d.length = 32) (hi : i < ls.length) (hlv : lv = .slice (some ⟨g, 0, none⟩) nl cap) (hnew : ∀ r ∈ recs, r.1.ownBlock ≠ some g) :
    StD P B w0 (w.setCells g (i * 32) (bcells x)) G b tl xl recs lv nl (ls.set i x) := by
  have hlb : lv.ownBlock = some g := by rw [hlv]; rfl
  have hgG : g ≠ G := fun e => S.lG (by rw [hlb, e])
  have hgr : w.grownBy (w.setCells g (i * 32) (bcells x)) (some g) := setCells_grown g (.inl rfl) _ _ (grown_refl w _)
  have hbl : (bcells x).length = 32 := by simp [bcells, hx32]
  have hll := S.hl.1
  rw [dcells_length ls hl32] at hll
  refine ⟨S.bk.same (setCells_other2 _ _ (fun e => hgG e.symm) _ _ _), S.base, S.ht.kept hgr (.inr fun e => S.tlv g e hlb), S.hx.kept hgr (.inr fun e => S.xlv g e hlb), ?_, ?_, ?_, S.tG, S.xG, S.lG, S.tx, S.tlv, S.xlv, S.bel.grown hgr S.sz (fun k h => by injection h with h; rw [← h]; exact (S.hl.lt g hlb).1), fun k hk => by
    obtain ⟨h1, h2, h3, h4, h5, h6⟩ := S.pr k hk
    exact ⟨Nat.lt_of_lt_of_le h1 hgr.size, (setCells_other2 _ _ (fun e => h6 (by rw [hlb, e])) _ _ _).trans h2, h3, h4, h5, h6⟩⟩
  · refine ⟨by rw [dcells_length _ (fun d hd => (List.mem_or_eq_of_mem_set hd).elim (hl32 d) (fun e => by rw [e]; exact hx32)), List.length_set]; exact hll, .inr ?_⟩
    rcases S.hl.2 with ⟨h, _⟩ | ⟨g', cap', cur, h, h1, h2, h3, h4, h5, h6⟩
    · rw [hlv] at h; cases h
    · rw [hlv] at h
      injection h with e1 _ e3
      injection e1 with e1
      injection e1 with e1
      subst e1 e3
      have hcs : cur.toList.length = cap * 32 := by rw [Array.length_toList]; exact h5
      refine ⟨g, cap, _, hlv, h1, setCells_row2 g _ (bcells x) (i * 32) w cur h2 (by rw [hbl, h5]; omega), h3, h4, ?_, ?_⟩
      · simp only [List.size_toArray, List.length_append, List.length_take, List.length_drop]
        omega
      · have e2 : cur.toList.take (i * 32) = dcells (ls.take i) := by
          have e4 : (cur.toList.take (nl * 32)).take (i * 32) = (dcells ls).take (i * 32) := by rw [h6]
          rw [List.take_take, Nat.min_eq_left (by omega)] at e4
          rw [e4, dcells_split ls i, List.take_left' (by rw [dcells_length _ (fun d hd => hl32 d (List.mem_of_mem_take hd)), List.length_take]; omega)]
        have e5 : (cur.toList.drop (i * 32 + 32)).take (nl * 32 - (i * 32 + 32)) = dcells (ls.drop (i + 1)) := by
          have e4 : (cur.toList.take (nl * 32)).drop (i * 32 + 32) = (dcells ls).drop (i * 32 + 32) := by rw [h6]
          rw [List.drop_take] at e4
          rw [e4, dcells_split ls (i + 1), List.drop_left' (by rw [dcells_length _ (fun d hd => hl32 d (List.mem_of_mem_take hd)), List.length_take]; omega)]
        rw [hbl, dcells_set ls i x hi, ← e2, ← e5]
        have hA : (cur.toList.take (i * 32)).length = i * 32 := by rw [List.length_take]; omega
        rw [List.append_assoc, List.take_append, List.take_of_length_le (show (cur.toList.take (i * 32)).length ≤ nl * 32 by omega), hA, List.take_append, List.take_of_length_le (show (bcells x).length ≤ nl * 32 - i * 32 by omega), hbl, show nl * 32 - i * 32 - 32 = nl * 32 - (i * 32 + 32) by omega]
  · intro r hr
    refine (S.hf r hr).keep fun k j hk _ => ?_
    exact World.cell?_of_block (setCells_other2 _ _ (by intro e; exact hnew r hr (by rw [hk]; exact congrArg some e)) _ _ _)
  · intro r hr k hk
    have h := S.hs r hr k hk
    exact ⟨Nat.lt_of_lt_of_le h.1 hgr.size, h.2⟩
/-- Behind new blocks. -/
theorem StD.later {P : Nat → Prop} {B : Nat} {w0 w : World} {G : Nat} {b : Bk} {tl : List Value} {xl : List (List UInt8)} {recs : List (Value × List UInt8)} {lv : Value} {nl : Nat} {ls : List (List UInt8)} (S : StD P B w0 w G b tl xl recs lv nl ls) {w' : World} (hg : w.grownBy w' none) : StD P B w0 w' G b tl xl recs lv nl ls := by
  have hne : ∀ k : Nat, some k ≠ (none : Option Nat) := fun k h => by cases h
  have kept : ∀ v : Value, v.ownBlock = none ∨ v.ownBlock ≠ none := fun v => by cases v.ownBlock <;> simp
  refine ⟨S.bk.same (hg.block G S.bk.lt (hne G)), S.base, S.ht.kept hg (kept _), S.hx.kept hg (kept _), S.hl.kept hg (kept _), ?_, ?_, S.tG, S.xG, S.lG, S.tx, S.tlv, S.xlv, S.bel.grown hg S.sz (fun k h => by cases h), fun k hk => by
    obtain ⟨h1, h2, h3⟩ := S.pr k hk
    exact ⟨Nat.lt_of_lt_of_le h1 hg.size, (hg.block k h1 (hne k)).trans h2, h3⟩⟩
  · intro r hr
    exact (S.hf r hr).keep fun k j hk _ => World.cell?_of_block (hg.block k (S.hs r hr k hk).1 (hne k))
  · intro r hr k hk
    have h := S.hs r hr k hk
    exact ⟨Nat.lt_of_lt_of_le h.1 hg.size, h.2⟩
/-- Behind a change of the book's own block. -/
theorem StD.count {P : Nat → Prop} {B : Nat} {w0 w : World} {G : Nat} {b : Bk} {tl : List Value} {xl : List (List UInt8)} {recs : List (Value × List UInt8)} {lv : Value} {nl : Nat} {ls : List (List UInt8)} (S : StD P B w0 w G b tl xl recs lv nl ls) {w' : World} (hg : w.grownBy w' (some G)) {n : Nat} (hB : BkAt w' G { b with n := n }) : StD P B w0 w' G { b with n := n } tl xl recs lv nl ls := by
  refine ⟨hB, S.base, S.ht.kept hg (.inr S.tG), S.hx.kept hg (.inr S.xG), S.hl.kept hg (.inr S.lG), ?_, ?_, S.tG, S.xG, S.lG, S.tx, S.tlv, S.xlv, S.bel.grown hg S.sz (fun k h => by injection h with h; rw [← h]; exact S.base), fun k hk => by
    obtain ⟨h1, h2, h3⟩ := S.pr k hk
    exact ⟨Nat.lt_of_lt_of_le h1 hg.size, (hg.block k h1 (fun e => h3.1 (by injection e))).trans h2, h3⟩⟩
  · intro r hr
    exact (S.hf r hr).keep fun k j hk _ => World.cell?_of_block (hg.block k (S.hs r hr k hk).1 (fun e => (S.hs r hr k hk).2.1 (by injection e)))
  · intro r hr k hk
    have h := S.hs r hr k hk
    exact ⟨Nat.lt_of_lt_of_le h.1 hg.size, h.2⟩
/-- The list is let go. -/
theorem StD.drop {P : Nat → Prop} {B : Nat} {w0 w : World} {G : Nat} {b : Bk} {tl : List Value} {xl : List (List UInt8)} {recs : List (Value × List UInt8)} {lv : Value} {nl : Nat} {ls : List (List UInt8)} (S : StD P B w0 w G b tl xl recs lv nl ls) : StD P B w0 w G b tl xl recs (.slice none 0 0) 0 [] := by
  refine ⟨S.bk, S.base, S.ht, S.hx, World.ownsRow_nil _ _ _ _, S.hf, ?_, S.tG, S.xG, (fun h => nomatch h), S.tx, (fun _ _ h => nomatch h), (fun _ _ h => nomatch h), S.bel, fun k hk => by
    obtain ⟨h1, h2, h3, h4, h5, _⟩ := S.pr k hk
    exact ⟨h1, h2, h3, h4, h5, fun h => nomatch h⟩⟩
  intro r hr k hk
  have h := S.hs r hr k hk
  exact ⟨h.1, h.2.1, h.2.2.1, h.2.2.2.1, fun h => nomatch h⟩
/-- A list is taken up whose block is not in the book. -/
theorem StD.take {P : Nat → Prop} {B : Nat} {w0 w : World} {G : Nat} {b : Bk} {tl : List Value} {xl : List (List UInt8)} {recs : List (Value × List UInt8)} (S : StD P B w0 w G b tl xl recs (.slice none 0 0) 0 []) {v : Value} {n : Nat} {xs : List (List UInt8)} {N : Nat} (hN : B ≤ N) (hown : w.ownsRow N 64 32 v n (dcells xs))
    (hG : G < N) (ht : ∀ g, b.dv.ownBlock = some g → g < N) (hx : ∀ g, b.ev.ownBlock = some g → g < N) (hr : ∀ r ∈ recs, ∀ g, r.1.ownBlock = some g → g < N) (hp : ∀ k, P k → k < N) : StD P B w0 w G b tl xl recs v n xs := by
  have hge := own_row_ge hown
  refine ⟨S.bk, S.base, S.ht, S.hx, ?_, S.hf, ?_, S.tG, S.xG, fun h => by have := hge G h; omega, S.tx, fun k h h2 => by have := ht k h; have := hge k h2; omega, fun k h h2 => by have := hx k h; have := hge k h2; omega, S.bel, fun k hk => by
    obtain ⟨h1, h2, h3, h4, h5, _⟩ := S.pr k hk
    exact ⟨h1, h2, h3, h4, h5, fun h => by have := hge k h; have := hp k hk; omega⟩⟩
  · refine ⟨hown.1, ?_⟩
    rcases hown.2 with h | ⟨g, cap, cur, h1, h2, h3⟩
    · exact .inl h
    · exact .inr ⟨g, cap, cur, h1, Nat.le_trans hN h2, h3⟩
  · intro r hrr k hk
    have h := S.hs r hrr k hk
    exact ⟨h.1, h.2.1, h.2.2.1, h.2.2.2.1, fun h2 => by have := hr r hrr k hk; have := hge k h2; omega⟩
/-- The book as it stands between the calls. -/
def BkD (P : Nat → Prop) (B : Nat) (w0 w : World) (G : Nat) (b : Bk) (recs : List (Value × List UInt8)) : Prop := StD P B w0 w G b (recs.map (·.1)) (recs.map (·.2)) recs (.slice none 0 0) 0 []
end Go.Proofs.YtanfolfopalbeabDoor
namespace Go.Proofs.YtanfolfopalbeabDoor
open Go.RowKit

theorem put_grown (w : World) (o : Obj) (cs : Array Value) : w.grownBy ((w.alloc o).setRow w.heap.size cs) none :=
  ⟨rfl, rfl, rfl, by rw [setRow_size]; simp, fun k hk _ => by rw [setRow_other _ _ _ _ (by omega)]; exact heap_alloc_old _ _ hk⟩
theorem info_digs : (Tryd.prog.info? 27).map (fun i => (i.zero, i.size, i.bytes)) = some (some (.slice none 0 0), 1, 24) := by kernel_rfl
theorem one_new (w : World) (x : Nat) (v : Value) (t : TypeId) (h : x = w.heap.size) : ∀ j u, [v][j]? = some u → (w.alloc (.cells #[v] t)).cell? ((⟨x, 0, none⟩ : Addr).add j) = some u := by
  subst h
  exact cell_one_new _ _ _
theorem size_set (w : World) (a : Addr) (v : Value) : w.heap.size = (w.setCell a v).heap.size := by simp [World.setCell]
theorem one_slc (a : Option Addr) (n c : Nat) : ∀ u ∈ [Value.slice a n c], u.oneCell' = true := by intro u hu; rw [List.mem_singleton.1 hu]; rfl
theorem at_app (i : Nat) {P : Program} {ops : Array Oper} {rest : List Oper} {Q : Exit → Act → World → Prop} {a : Act} {w : World} {y : Operand} {ts : Array TypeId} {d : Option Tmp} {t : TypeId} {pos : String} {af : Array Edge} {g : Option (Nat × Bool)}
    (h : wpList P ops Q ({ dst := d, op := .call { callee := .builtin .append, args := #[.tmp i, y], argTypes := ts }, type := t, pos := pos, after := af, guard := g } :: rest) a w) : wpList P ops Q ({ dst := d, op := .call { callee := .builtin .append, args := #[.tmp i, y], argTypes := ts }, type := t, pos := pos, after := af, guard := g } :: rest) a w := h
theorem fill_dig (x : List UInt8) (ls : List (List UInt8)) (i : Nat) (h : i < ls.length) : (List.replicate i x ++ ls.drop i).set i x = List.replicate (i + 1) x ++ ls.drop (i + 1) := by
  rw [List.set_append_right _ _ (by rw [List.length_replicate]; omega), List.length_replicate, Nat.sub_self, List.drop_eq_getElem_cons h, List.set_cons_zero, List.replicate_succ', List.append_assoc]
  rfl
theorem range_grown {w w' : World} {r : Option Nat} {R o : Nat} {cs : List Value} (h : w.rangeAt R o cs) (hg : w.grownBy w' r) (hr : r ≠ some R) : w'.rangeAt R o cs := fun j v hv => by
  have := h j v hv
  rw [World.cell?_of_block (hg.block R (cell_lt this) (fun e => hr e.symm))]
  exact this

/-- A mark's own row stands beside the lists. -/
theorem StD.add {P : Nat → Prop} {B : Nat} {w0 w : World} {G : Nat} {b : Bk} {tl : List Value} {xl : List (List UInt8)} {recs : List (Value × List UInt8)} {lv : Value} {nl : Nat} {ls : List (List UInt8)} (S : StD P B w0 w G b tl xl recs lv nl ls) {R : Nat} {t : List UInt8} (ht : t.length = 32) (hR : w.rangeAt R 0 (bcells t)) (hG : R ≠ G) (hd : b.dv.ownBlock ≠ some R) (he : b.ev.ownBlock ≠ some R) (hl : lv.ownBlock ≠ some R) :
    StD P B w0 w G b tl xl ((.slice (some ⟨R, 0, none⟩) 1 1, t) :: recs) lv nl ls := by
  refine ⟨S.bk, S.base, S.ht, S.hx, S.hl, ?_, ?_, S.tG, S.xG, S.lG, S.tx, S.tlv, S.xlv, S.bel, S.pr⟩
  · intro r hr
    rcases List.mem_cons.1 hr with rfl | hr
    · refine ⟨ht, _, 1, 1, rfl, Nat.le_refl _, by unfold maxLen; omega, fun _ => ⟨R, rfl, fun i hi => ?_⟩⟩
      obtain rfl : i = 0 := by omega
      exact hR
    · exact S.hf r hr
  · intro r hr g hg
    rcases List.mem_cons.1 hr with rfl | hr
    · have e : R = g := by injection hg
      subst e
      refine ⟨?_, hG, hd, he, fun h => absurd h hl⟩
      have h0 : 0 < (bcells t).length := by simp [bcells, ht]
      exact cell_lt (hR 0 _ (List.getElem?_eq_getElem h0))
    · exact S.hs r hr g hg
theorem StD.sub {P : Nat → Prop} {B : Nat} {w0 w : World} {G : Nat} {b : Bk} {tl : List Value} {xl : List (List UInt8)} {q : Value × List UInt8} {recs : List (Value × List UInt8)} {lv : Value} {nl : Nat} {ls : List (List UInt8)} (S : StD P B w0 w G b tl xl (q :: recs) lv nl ls) : StD P B w0 w G b tl xl recs lv nl ls :=
  ⟨S.bk, S.base, S.ht, S.hx, S.hl, fun r hr => S.hf r (List.mem_cons_of_mem _ hr), fun r hr => S.hs r (List.mem_cons_of_mem _ hr), S.tG, S.xG, S.lG, S.tx, S.tlv, S.xlv, S.bel, S.pr⟩
theorem StD.mark {P : Nat → Prop} {B : Nat} {w0 w : World} {G : Nat} {b : Bk} {tl : List Value} {xl : List (List UInt8)} {R : Nat} {t : List UInt8} {recs : List (Value × List UInt8)} {lv : Value} {nl : Nat} {ls : List (List UInt8)} (S : StD P B w0 w G b tl xl ((.slice (some ⟨R, 0, none⟩) 1 1, t) :: recs) lv nl ls) : w.rangeAt R 0 (bcells t) := by
  obtain ⟨_, ao, n, cap, he, _, _, h3⟩ := S.hf _ (List.mem_cons_self ..)
  injection he with e1 e2 e3
  subst e1 e2 e3
  obtain ⟨g, hg, hc⟩ := h3 (by omega)
  have e : R = g := by injection hg with hg; injection hg
  subst e
  exact hc 0 (by omega)
theorem StD.markE {P : Nat → Prop} {B : Nat} {w0 w : World} {G : Nat} {b : Bk} {tl : List Value} {xl : List (List UInt8)} {R : Nat} {t : List UInt8} {recs : List (Value × List UInt8)} {lv : Value} {nl : Nat} {ls : List (List UInt8)} (S : StD P B w0 w G b tl xl ((.slice (some ⟨R, 0, none⟩) 1 1, t) :: recs) lv nl ls) : b.ev.ownBlock ≠ some R :=
  (S.hs _ (List.mem_cons_self ..) R rfl).2.2.2.1
theorem StD.room {P : Nat → Prop} {B : Nat} {w0 w : World} {G : Nat} {b : Bk} {tl : List Value} {xl : List (List UInt8)} {recs : List (Value × List UInt8)} {lv : Value} {nl : Nat} {ls : List (List UInt8)} (S : StD P B w0 w G b tl xl recs lv nl ls) {g cap i : Nat} (hlv : lv = .slice (some ⟨g, 0, none⟩) nl cap) (hi : i < nl) : w.there g (i * 32) 32 := by
  rcases S.hl.2 with ⟨h, _⟩ | ⟨g', cap', cur, h, h1, h2, h3, h4, h5, h6⟩
  · rw [hlv] at h; cases h
  · rw [hlv] at h
    injection h with e1 _ e3
    injection e1 with e1
    injection e1 with e1
    subst e1 e3
    intro j hj
    refine ⟨?_, frozen_of_row w g _ _ _ h2⟩
    rw [cell_of_row w g _ _ _ _ h2, Array.getElem?_eq_getElem (by omega)]
    rfl

theorem bq_len (n : Nat) (h : n ≤ 1004) : n + 1 ≤ maxLen ∧ (n + 1) * 24 ≤ 140737488355328 ∧ (n + 1) * 32 ≤ 140737488355328 := ⟨by unfold maxLen; omega, by omega, by omega⟩

set_option maxRecDepth 100000 in
set_option maxHeartbeats 1600000 in
theorem bsums_any (P : Nat → Prop) (B G : Nat) (b : Bk) (w0 w : World) (recs : List (Value × List UInt8)) (lv : Value) (nl : Nat) (ls : List (List UInt8)) (S : StD P B w0 w G b (recs.map (·.1)) (recs.map (·.2)) recs lv nl ls)
    (hb : b.n ≤ 1000) (hnl : nl ≤ 1000) (hll : ls.length = nl) (hl32 : ∀ d ∈ ls, d.length = 32) (hrl : recs.length ≤ 1000) (hnew : ∀ r ∈ recs, ∀ g, lv.ownBlock = some g → r.1.ownBlock ≠ some g) :
    Calls Tryd.prog 27 #[.pointer (some ⟨G, 0, none⟩), lv] w fun e w' => ∃ b' recs', BkD P B w0 w' G b' recs' ∧ b'.n = b.n + 1 ∧ recs'.length = recs.length + 4 ∧ b'.tv = b.tv ∧ b'.kv = b.kv ∧ b'.pv = b.pv ∧ e = .returned (.tuple #[]) := by
  have hmk := mark_any G b w S.bk hb
  obtain ⟨iS, hiS, hzS0, hzS1, hzS2⟩ := info_parts info_digs
  obtain ⟨i0, hi0, hz0, hz1, hz2⟩ := info_parts info_dig
  have HS := hide S
  clear S
  obtain ⟨ao, cap, rfl⟩ := own_shape (unhide HS).hl
  go_enter Tryd.func27, Tryd.ntmps27
  go_wp2_with fail
  refine hmk.mono ?_
  rintro e w1 ⟨t, ht32, rfl, hB1, hg1⟩
  have S1 := (unhide HS).count hg1 hB1
  have hG1 := S1.bk.lt
  have hd1 := fun k h => (S1.ht.lt k h).2
  have he1 := fun k h => (S1.hx.lt k h).2
  have hl1 := fun k h => (S1.hl.lt k h).2
  have K1 := hide (v_dg t ht32)
  have K2 := hide (v_z32 t ht32)
  have K3 := hide (bcells_one t)
  have KM := hide (v_mid t ht32)
  have hrow : BRow ((w1.alloc (.cells (bcells z32).toArray 64)).setRow w1.heap.size (bcells t).toArray) w1.heap.size 64 t := heap_put_new _ _ _ _
  have hrng : ((w1.alloc (.cells (bcells z32).toArray 64)).setRow w1.heap.size (bcells t).toArray).rangeAt w1.heap.size 0 (bcells t) := fun j v hv => by
    rw [Nat.zero_add, cell_of_row _ _ j _ _ _ hrow]
    simpa using hv
  have S2 := (S1.later (put_grown w1 (.cells (bcells z32).toArray 64) (bcells t).toArray)).add ht32 hrng (by omega) (fun h => by have := hd1 _ h; omega) (fun h => by have := he1 _ h; omega) (fun h => by have := hl1 _ h; omega)
  have HNEW := hide (show ∀ r ∈ ((.slice (some ⟨w1.heap.size, 0, none⟩) 1 1, t) :: recs : List (Value × List UInt8)), ∀ g, (Value.slice ao nl cap).ownBlock = some g → r.1.ownBlock ≠ some g by
    intro r hr g hg h
    rcases List.mem_cons.1 hr with rfl | hr
    · have h2 := hl1 g hg
      have e : w1.heap.size = g := by injection h
      omega
    · exact hnew r hr g hg h)
  have HS2 := hide S2
  clear hrow hrng hB1 hg1 S1 S2 HS hmk hd1 he1 hl1 hG1 hnew
  go_wp2_with (((with_reducible refine at_store ?_); refine wpList_store_row rfl 64 _ _ rfl w1.heap.size (bcells t).toArray rfl rfl 64 _ (heap_alloc_new w1 _) (unhide K1) (unhide K2) (unhide K3) ?_))
  rw [← z32_cells]
  generalize ((w1.alloc (.cells (bcells z32).toArray 64)).setRow w1.heap.size (bcells t).toArray) = W2 at HS2 ⊢
  generalize w1.heap.size = R at HS2 HNEW ⊢
  clear K2
  go_loopw [5] (fun v wr => ∃ i : Nat, i ≤ nl ∧ v = .int .i64 i ∧ StD P B w0 wr G { b with n := b.n + 1 } (recs.map (·.1)) (recs.map (·.2)) ((.slice (some ⟨R, 0, none⟩) 1 1, t) :: recs) (.slice ao nl cap) nl (List.replicate i t ++ ls.drop i)) (fun v _ => nl - (intOf v).toNat)
  case atStart => exact ⟨0, Nat.zero_le _, rfl, unhide HS2⟩
  case round =>
    clear HS2
    obtain ⟨i, hi, rfl, S⟩ := hrel
    have HS := hide S
    by_cases hlt : i < nl
    · have hd : decide ((i : Int) < (nl : Int)) = true := by simp; omega
      have j0 : (0 : Int) ≤ (i : Int) := by omega
      have j1 : (i : Int) < (nl : Int) := by omega
      obtain ⟨g, hao⟩ : ∃ g, ao = some ⟨g, 0, none⟩ := by
        rcases S.hl.2 with ⟨h, h0⟩ | ⟨g, cap', cur, h, _⟩
        · omega
        · injection h with h _ _; exact ⟨g, h⟩
      subst hao
      have TH := hide (show wr.there g (i * 32) (bcells t).toArray.size by rw [bcells_size, ht32]; exact S.room rfl hlt)
      have HM := hide S.mark
      clear S
      go_wp2_with (first | ((with_reducible refine at_load ?_); refine wpList_load_mid rfl 64 _ rfl R 0 (by rfl) (bcells t) _ (unhide HM) Tryd.underlying64 rfl (unhide KM) ?_) | ((with_reducible refine at_store ?_); refine wpList_store_mid rfl 64 _ _ rfl g (i * 32) (bcells t).toArray (by rfl) (by rfl) (unhide TH) (unhide K1) (unhide K3) ?_))
      refine ⟨⟨i + 1, by omega, by go_num, ?_⟩, by simp [intOf]; omega⟩
      have := (unhide HS).put (i := i) (x := t) ht32 (fun d hd => by
        rcases List.mem_append.1 hd with hd | hd
        · rw [(List.mem_replicate.1 hd).2]; exact ht32
        · exact hl32 d (List.mem_of_mem_drop hd)) (by simp; omega) rfl (fun r hr => unhide HNEW r hr g rfl)
      rw [fill_dig _ _ _ (by omega)] at this
      exact this
    · have hd : decide ((i : Int) < (nl : Int)) = false := by simp; omega
      have S5 : StD P B w0 wr G { b with n := b.n + 1 } (recs.map (·.1)) (recs.map (·.2)) ((.slice (some ⟨R, 0, none⟩) 1 1, t) :: recs) (.slice ao nl cap) nl (List.replicate nl t) := by
        have h9 := S
        rw [show i = nl by omega, List.drop_eq_nil_of_le (by omega), List.append_nil] at h9
        exact h9
      have HS5 := hide S5
      clear S HS S5
      go_wp2
      go_loopw [1, 6] (fun lv tk wr => ∃ (k : Nat) (b' : Bk) (recs' : List (Value × List UInt8)), k ≤ 4 ∧ tk = .int .i64 k ∧ recs'.length = recs.length + k ∧ b'.n = b.n + 1 ∧ b'.tv = b.tv ∧ b'.kv = b.kv ∧ b'.pv = b.pv ∧ StD P B w0 wr G b' (recs'.map (·.1)) (recs'.map (·.2)) ((.slice (some ⟨R, 0, none⟩) 1 1, t) :: recs') lv (nl + k) (List.replicate (nl + k) t)) (fun _ tk _ => 4 - (intOf tk).toNat)
      case atStart => exact ⟨0, { b with n := b.n + 1 }, recs, by omega, rfl, rfl, rfl, rfl, rfl, rfl, unhide HS5⟩
      case round =>
        clear HS5
        obtain ⟨k, b', recs', hk, rfl, hrl', hn', htv, hkv, hpv, S⟩ := hrel
        have HN := hide hn'
        have HTV := hide htv
        have HKV := hide hkv
        have HPV := hide hpv
        clear hn' htv hkv hpv
        obtain ⟨al, cl, rfl⟩ := own_shape S.hl
        by_cases hlt4 : k < 4
        · have hd4 : decide ((k : Int) < 4) = true := by simp; omega
          have c3 := S.bk.c3
          have hN1 : (recs'.map (·.1)).length = recs.length + k := by rw [List.length_map]; exact hrl'
          have hN2 : (recs'.map (·.2)).length = recs.length + k := by rw [List.length_map]; exact hrl'
          have hB := S.sz
          have hbG := S.bk.lt
          have HRL := hide hrl'
          have HT1 := hide (show ∀ (y : Value) (z : List UInt8), (recs' ++ [(y, z)]).map (fun r : Value × List UInt8 => r.1) = recs'.map (fun r : Value × List UInt8 => r.1) ++ [y] from fun y z => by simp)
          have HT2 := hide (show ∀ (y : Value) (z : List UInt8), (recs' ++ [(y, z)]).map (fun r : Value × List UInt8 => r.2) = recs'.map (fun r : Value × List UInt8 => r.2) ++ [z] from fun y z => by simp)
          obtain ⟨q1, q2, _⟩ := bq_len (recs'.map (·.1)).length (by omega)
          obtain ⟨q3, _, q4⟩ := bq_len (recs'.map (·.2)).length (by omega)
          obtain ⟨q5, _, q6⟩ := bq_len (nl + k) (by omega)
          generalize recs'.map (·.1) = tl at S q1 q2 HT1
          generalize recs'.map (·.2) = xl at S q3 q4 HT2
          have HS := hide S
          clear S hN1 hN2 hrl'
          go_wp2_with (at_builtin; (with_reducible refine at_app 27 ?_); refine wpList_append_keeps _ rfl (.tmp 27) (.tmp 29) 26 rfl B 27 iS (.slice none 0 0) 1 24 Tryd.underlying26 hiS hzS0 hzS1 hzS2 rfl (by decide) _ _ _ rfl ((unhide HS).ht.alloc _) ⟨wr.heap.size, 0, none⟩ 1 1 [.slice al (nl + k) cl] rfl rfl (one_new _ _ _ _ rfl) (one_slc _ _ _) (by decide) q1 q2 (by simp; omega) ?_; intro ga ca wa hownA hgrowA hatA _ _; have hsA := hgrowA.size; have hBa := (unhide HS).bk.same ((grown_trans (World.grownBy_alloc wr _ _) hgrowA).block G hbG (fun e => (unhide HS).tG e.symm)); have c3a := hBa.c3; have f3a := hBa.free 3; have SA := hide ((unhide HS).texts hownA hgrowA hatA); clear hBa hownA hgrowA hatA)
          have SA1 := (unhide SA).later (grown_drew (grown_refl _ none))
          generalize (wa.setCell ⟨G, 3, none⟩ (.slice (some ⟨ga, 0, none⟩) (tl.length + 1) ca)) = WA at SA SA1 ⊢
          have hRa : WA.drew.rangeAt R 0 (bcells t) := SA1.mark
          have c4 : WA.drew.cell? ⟨G, 4, none⟩ = some b'.ev := SA1.bk.c4
          have c4b : ∀ o, (WA.alloc o).drew.cell? ⟨G, 4, none⟩ = some b'.ev := fun o => by rw [show (WA.alloc o).drew = WA.drew.alloc o from rfl, World.cell?_alloc_lt _ _ _ (by exact SA1.bk.lt)]; exact c4
          have HR1 := hide (show ∀ o, (WA.alloc o).drew.rangeAt R 0 (bcells t) from fun o => World.rangeAt_alloc hRa o)
          have hcl : (bcells t).length = 32 := by simp [bcells, ht32]
          have SA2 := hide SA1
          clear SA SA1 c3 c3a f3a
          refine wp_region_held_drew (S := fun w' => w'.rangeAt R 0 (bcells t)) (by kernel_rfl) hRa (fun hHeld => ?_)
          refine wpAnyH_take (i := 0) (v := .pointer (some ⟨G, 0, none⟩)) rfl (by kernel_rfl) (by kernel_rfl) (by kernel_rfl) (fun _ _ _ h => h) (Or.inl ⟨by rfl, fun _ _ => by go_simp⟩) hHeld ?_
          simp only [List.getElem_toArray, List.getElem_cons_zero, Act.put, List.setIfInBounds_toArray, List.set_cons_zero, List.set_cons_succ]
          refine wpAnyH_take (i := 1) (v := .pointer (some ⟨G, 0, none⟩)) rfl (by kernel_rfl) (by kernel_rfl) (by kernel_rfl) (fun _ _ _ h => h) (Or.inl ⟨by rfl, fun _ _ => by go_simp⟩) hHeld ?_
          simp only [List.getElem_toArray, List.getElem_cons_zero, List.getElem_cons_succ, Act.put, List.setIfInBounds_toArray, List.set_cons_zero, List.set_cons_succ]
          refine wpAnyH_take (i := 2) (v := .pointer (some ⟨G, 0, none⟩)) rfl (by kernel_rfl) (by kernel_rfl) (by kernel_rfl) (fun _ _ _ h => h) (Or.inl ⟨by rfl, fun _ _ => by go_simp⟩) hHeld ?_
          simp only [List.getElem_toArray, List.getElem_cons_zero, List.getElem_cons_succ, Act.put, List.setIfInBounds_toArray, List.set_cons_zero, List.set_cons_succ]
          refine wpAnyH_take (i := 3) (v := .pointer (some ⟨G, 4, none⟩)) rfl (by kernel_rfl) (by kernel_rfl) (by kernel_rfl) (fun _ _ _ h => h) (Or.inl ⟨by rfl, fun _ _ => by go_simp⟩) hHeld ?_
          simp only [List.getElem_toArray, List.getElem_cons_zero, List.getElem_cons_succ, Act.put, List.setIfInBounds_toArray, List.set_cons_zero, List.set_cons_succ]
          refine wpAnyH_take (i := 5) rfl (by kernel_rfl) (by kernel_rfl) (by kernel_rfl) (fun _ _ _ h => h) (yieldsIf_load_mid (by rfl) 64 _ rfl R 0 rfl (bcells t) _ (fun _ h => h) Tryd.underlying64 rfl (unhide KM)) hHeld ?_
          simp only [List.getElem_toArray, List.getElem_cons_zero, List.getElem_cons_succ, Act.put, List.setIfInBounds_toArray, List.set_cons_zero, List.set_cons_succ]
          refine wpAnyH_ready (rs := [4, 6]) (by kernel_rfl) (by simp) ?_
          refine AllReadyH.cons rfl (fun K hK => ?_) (AllReadyH.cons rfl (fun K hK => ?_) AllReadyH.nil)
          · go_simp
            refine hK.out _ _ hRa (fun hHeld => ?_)
            clear hK K
            refine wpAnyH_ready (rs := [6]) (by kernel_rfl) (by simp) ?_
            refine AllReadyH.cons rfl (fun K hK => ?_) AllReadyH.nil
            go_simp
            rw [← z32_cells, fold_dig t ht32]
            refine hK.out _ _ (unhide HR1 _) (fun hHeld => ?_)
            clear hK K
            refine wpAnyH_ready (rs := [7]) (by kernel_rfl) (by simp) ?_
            refine AllReadyH.cons rfl (fun K hK => ?_) AllReadyH.nil
            rw [if_pos (by rfl)]
            refine wp_append_keeps _ (.tmp 37) (.tmp 39) 27 rfl B 64 i0 (.agg (bcells z32).toArray) 32 32 Tryd.underlying27 hi0 hz0 hz1 hz2 rfl (by decide) _ _ _ rfl ((unhide SA2).hx.alloc _) ⟨WA.heap.size, 0, none⟩ 1 1 (bcells t) rfl (bcells_news t ht32) (news_new _ t _ _ rfl) (bcells_one' t) (by decide) q3 q4 (Nat.le_of_lt (Nat.lt_of_le_of_lt (unhide SA2).sz (by simp))) ?_
            intro gx cx wx hownX hgrowX0 hatX _ _
            have hgrowX : (WA.drew.alloc (.cells (bcells t).toArray 64)).grownBy wx b'.ev.ownBlock := hgrowX0
            have hBx := (unhide SA2).bk.same ((grown_trans (World.grownBy_alloc _ _ _) hgrowX).block G (unhide SA2).bk.lt (fun e => (unhide SA2).xG e.symm))
            have c4x := hBx.c4
            have f4x := hBx.free 4
            have hRx := range_grown (unhide HR1 _) hgrowX (unhide SA2).markE
            have SX := hide ((unhide SA2).text rfl ht32 hownX hgrowX hatX)
            clear hBx hownX hgrowX hgrowX0 hatX
            refine hK.out _ _ hRx (fun hHeld => ?_)
            clear hK K
            refine wpAnyH_take (i := 8) (v := .pointer (some ⟨G, 0, none⟩)) rfl (by kernel_rfl) (by kernel_rfl) (by kernel_rfl) (fun _ _ _ h => h) (Or.inl ⟨by rfl, fun _ _ => by go_simp⟩) hHeld ?_
            simp only [List.getElem_toArray, List.getElem_cons_zero, List.getElem_cons_succ, Act.put, List.setIfInBounds_toArray, List.set_cons_zero, List.set_cons_succ]
            refine wpAnyH_take (i := 9) (v := .pointer (some ⟨G, 4, none⟩)) rfl (by kernel_rfl) (by kernel_rfl) (by kernel_rfl) (fun _ _ _ h => h) (Or.inl ⟨by rfl, fun _ _ => by go_simp⟩) hHeld ?_
            simp only [List.getElem_toArray, List.getElem_cons_zero, List.getElem_cons_succ, Act.put, List.setIfInBounds_toArray, List.set_cons_zero, List.set_cons_succ]
            refine wpAnyH_ready (rs := [10]) (by kernel_rfl) (by simp) ?_
            refine AllReadyH.cons rfl (fun K hK => ?_) AllReadyH.nil
            go_simp
            refine hK.out _ _ (unhide SX).mark (fun _ => ?_)
            clear hK K c4x f4x c4 c4b HR1 hRa hRx hHeld SA2 HS
            generalize (wx.setCell ⟨G, 4, none⟩ (.slice (some ⟨gx, 0, none⟩) (xl.length + 1) cx)) = WX at SX ⊢
            refine wpAnyH_done (by kernel_rfl) ?_ _
            go_wp2_with (first | ((with_reducible refine at_load ?_); refine wpList_load_mid rfl 64 _ rfl R 0 (by rfl) (bcells t) _ (unhide SX).mark Tryd.underlying64 rfl (unhide KM) ?_) | (at_builtin; rw [← z32_cells, fold_dig t ht32]; refine wpList_append_keeps _ rfl (.tmp 43) (.tmp 45) 27 rfl B 64 i0 (.agg (bcells z32).toArray) 32 32 Tryd.underlying27 hi0 hz0 hz1 hz2 rfl (by decide) _ _ _ rfl ((unhide SX).hl.alloc _) ⟨WX.heap.size, 0, none⟩ 1 1 (bcells t) rfl (bcells_news t ht32) (news_new _ t _ _ rfl) (bcells_one' t) (by decide) q5 q6 (Nat.le_of_lt (Nat.lt_of_le_of_lt (unhide SX).sz (by simp))) ?_; intro gl cll wl hownL hgrowL hatL _ hkeepL; have SL := hide ((unhide SX).grow (ls' := List.replicate (nl + k + 1) t) (by rw [List.replicate_succ', dcells_snoc]; exact hownL) hgrowL hatL hkeepL); clear hownL hgrowL hatL hkeepL))
            refine ⟨⟨k + 1, { b' with dv := .slice (some ⟨ga, 0, none⟩) (tl.length + 1) ca, ev := .slice (some ⟨gx, 0, none⟩) (xl.length + 1) cx }, recs' ++ [(.slice al (nl + k) cl, t)], by omega, by go_num, by rw [List.length_append, unhide HRL]; rfl, unhide HN, unhide HTV, unhide HKV, unhide HPV, ?_⟩, by simp [intOf]; omega⟩
            have hSL := unhide SL
            rw [← unhide HT1 (.slice al (nl + k) cl) t, ← unhide HT2 (.slice al (nl + k) cl) t] at hSL
            exact hSL
          · go_simp
            rw [← z32_cells, fold_dig t ht32]
            refine hK.out _ _ (unhide HR1 _) (fun hHeld => ?_)
            clear hK K
            refine wpAnyH_ready (rs := [4]) (by kernel_rfl) (by simp) ?_
            refine AllReadyH.cons rfl (fun K hK => ?_) AllReadyH.nil
            go_simp
            refine hK.out _ _ (unhide HR1 _) (fun hHeld => ?_)
            clear hK K
            refine wpAnyH_ready (rs := [7]) (by kernel_rfl) (by simp) ?_
            refine AllReadyH.cons rfl (fun K hK => ?_) AllReadyH.nil
            rw [if_pos (by rfl)]
            refine wp_append_keeps _ (.tmp 37) (.tmp 39) 27 rfl B 64 i0 (.agg (bcells z32).toArray) 32 32 Tryd.underlying27 hi0 hz0 hz1 hz2 rfl (by decide) _ _ _ rfl ((unhide SA2).hx.alloc _) ⟨WA.heap.size, 0, none⟩ 1 1 (bcells t) rfl (bcells_news t ht32) (news_new _ t _ _ rfl) (bcells_one' t) (by decide) q3 q4 (Nat.le_of_lt (Nat.lt_of_le_of_lt (unhide SA2).sz (by simp))) ?_
            intro gx cx wx hownX hgrowX0 hatX _ _
            have hgrowX : (WA.drew.alloc (.cells (bcells t).toArray 64)).grownBy wx b'.ev.ownBlock := hgrowX0
            have hBx := (unhide SA2).bk.same ((grown_trans (World.grownBy_alloc _ _ _) hgrowX).block G (unhide SA2).bk.lt (fun e => (unhide SA2).xG e.symm))
            have c4x := hBx.c4
            have f4x := hBx.free 4
            have hRx := range_grown (unhide HR1 _) hgrowX (unhide SA2).markE
            have SX := hide ((unhide SA2).text rfl ht32 hownX hgrowX hatX)
            clear hBx hownX hgrowX hgrowX0 hatX
            refine hK.out _ _ hRx (fun hHeld => ?_)
            clear hK K
            refine wpAnyH_take (i := 8) (v := .pointer (some ⟨G, 0, none⟩)) rfl (by kernel_rfl) (by kernel_rfl) (by kernel_rfl) (fun _ _ _ h => h) (Or.inl ⟨by rfl, fun _ _ => by go_simp⟩) hHeld ?_
            simp only [List.getElem_toArray, List.getElem_cons_zero, List.getElem_cons_succ, Act.put, List.setIfInBounds_toArray, List.set_cons_zero, List.set_cons_succ]
            refine wpAnyH_take (i := 9) (v := .pointer (some ⟨G, 4, none⟩)) rfl (by kernel_rfl) (by kernel_rfl) (by kernel_rfl) (fun _ _ _ h => h) (Or.inl ⟨by rfl, fun _ _ => by go_simp⟩) hHeld ?_
            simp only [List.getElem_toArray, List.getElem_cons_zero, List.getElem_cons_succ, Act.put, List.setIfInBounds_toArray, List.set_cons_zero, List.set_cons_succ]
            refine wpAnyH_ready (rs := [10]) (by kernel_rfl) (by simp) ?_
            refine AllReadyH.cons rfl (fun K hK => ?_) AllReadyH.nil
            go_simp
            refine hK.out _ _ (unhide SX).mark (fun _ => ?_)
            clear hK K c4x f4x c4 c4b HR1 hRa hRx hHeld SA2 HS
            generalize (wx.setCell ⟨G, 4, none⟩ (.slice (some ⟨gx, 0, none⟩) (xl.length + 1) cx)) = WX at SX ⊢
            refine wpAnyH_done (by kernel_rfl) ?_ _
            go_wp2_with (first | ((with_reducible refine at_load ?_); refine wpList_load_mid rfl 64 _ rfl R 0 (by rfl) (bcells t) _ (unhide SX).mark Tryd.underlying64 rfl (unhide KM) ?_) | (at_builtin; rw [← z32_cells, fold_dig t ht32]; refine wpList_append_keeps _ rfl (.tmp 43) (.tmp 45) 27 rfl B 64 i0 (.agg (bcells z32).toArray) 32 32 Tryd.underlying27 hi0 hz0 hz1 hz2 rfl (by decide) _ _ _ rfl ((unhide SX).hl.alloc _) ⟨WX.heap.size, 0, none⟩ 1 1 (bcells t) rfl (bcells_news t ht32) (news_new _ t _ _ rfl) (bcells_one' t) (by decide) q5 q6 (Nat.le_of_lt (Nat.lt_of_le_of_lt (unhide SX).sz (by simp))) ?_; intro gl cll wl hownL hgrowL hatL _ hkeepL; have SL := hide ((unhide SX).grow (ls' := List.replicate (nl + k + 1) t) (by rw [List.replicate_succ', dcells_snoc]; exact hownL) hgrowL hatL hkeepL); clear hownL hgrowL hatL hkeepL))
            refine ⟨⟨k + 1, { b' with dv := .slice (some ⟨ga, 0, none⟩) (tl.length + 1) ca, ev := .slice (some ⟨gx, 0, none⟩) (xl.length + 1) cx }, recs' ++ [(.slice al (nl + k) cl, t)], by omega, by go_num, by rw [List.length_append, unhide HRL]; rfl, unhide HN, unhide HTV, unhide HKV, unhide HPV, ?_⟩, by simp [intOf]; omega⟩
            have hSL := unhide SL
            rw [← unhide HT1 (.slice al (nl + k) cl) t, ← unhide HT2 (.slice al (nl + k) cl) t] at hSL
            exact hSL
        · have hd4 : decide ((k : Int) < 4) = false := by simp; omega
          have hk4 : k = 4 := by omega
          have HS := hide S.sub.drop
          clear S
          rw [hk4] at hrl'
          have HRL := hide hrl'
          clear hrl' hk4
          go_wp2
          exact bodyPost_end (results_none Tryd.results27 _ _ _) rfl ⟨b', recs', unhide HS, unhide HN, unhide HRL, unhide HTV, unhide HKV, unhide HPV, rfl⟩
end Go.Proofs.YtanfolfopalbeabDoor
namespace Go.Proofs.YtanfolfopalbeabDoor
open Go.RowKit

set_option maxRecDepth 100000 in
set_option maxHeartbeats 800000 in
theorem disks_any (G : Nat) (b : Bk) (w : World) (hB : BkAt w G b) (hk : b.kv = .slice none 0 0) (hp : b.pv = .slice none 0 0) :
    Calls Tryd.prog 29 #[.pointer (some ⟨G, 0, none⟩)] w fun e w' => e = .returned (.bool true) ∧ w' = w := by
  have c5 := hB.c5
  have c7 := hB.c7
  rw [hk] at c5
  rw [hp] at c7
  clear hB hk hp
  go_enter Tryd.func29, Tryd.ntmps29
  go_wp2
  go_loopw [3] (fun v wr => v = .int .i64 0 ∧ wr = w) (fun _ _ => 0)
  case atStart => exact ⟨rfl, rfl⟩
  case round =>
    obtain ⟨rfl, rfl⟩ := hrel
    go_wp2
    go_loopw [5] (fun v wq => v = .int .i64 0 ∧ wq = wr) (fun _ _ => 0)
    case atStart => exact ⟨rfl, rfl⟩
    case round =>
      obtain ⟨rfl, rfl⟩ := hrel
      go_wp2
      go_ret
      exact ⟨rfl, rfl⟩

theorem drewN_grown (w : World) : ∀ n, w.grownBy (w.drewN n) none := fun _ => ⟨rfl, rfl, rfl, Nat.le_refl _, fun _ _ _ => rfl⟩
theorem below_of_grown {w w' : World} (h : w.grownBy w' none) : Below w.heap.size w w' := ⟨h.os, h.tape, h.output, h.size, fun k hk => h.block k hk (fun e => by cases e)⟩
theorem grown_of_below {w w' : World} (h : Below w.heap.size w w') : w.grownBy w' none := ⟨h.os, h.tape, h.output, h.size, fun k hk _ => h.block k hk⟩
/-- The mark of list k, where it stands in the book. -/
theorem marks_at {w : World} {B n cap : Nat} {gx : Nat} {xl : List (List UInt8)} (h : w.ownsRow B 64 32 (.slice (some ⟨gx, 0, none⟩) n cap) n (dcells xl)) (h32 : ∀ d ∈ xl, d.length = 32) (hn : n = xl.length) (k : Nat) (hk : k < xl.length) : w.rangeAt gx (k * 32) (bcells (xl.getD k [])) := by
  have hD := digs_of_own h32 h hn
  have := digs_at hD k hk
  rwa [Nat.zero_add] at this

set_option maxRecDepth 100000 in
set_option maxHeartbeats 1600000 in
theorem holds_any (P : Nat → Prop) (B G : Nat) (b : Bk) (w0 w : World) (recs : List (Value × List UInt8)) (S : BkD P B w0 w G b recs) (hrl : recs.length ≤ 1000)
    (htv : b.tv = .slice none 0 0) (hkv : b.kv = .slice none 0 0) (hpv : b.pv = .slice none 0 0) :
    Calls Tryd.prog 8 #[.pointer (some ⟨G, 0, none⟩)] w fun e w' => e = .returned (.bool true) ∧ Below w.heap.size w w' := by
  have HS := hide S
  have hdk := fun (wq : World) (h : BkAt wq G b) => disks_any G b wq h hkv hpv
  have c1 := S.bk.c1
  rw [htv] at c1
  have H32 := hide (show ∀ d ∈ recs.map (·.2), d.length = 32 from fun d hd => by
    obtain ⟨r, hr, rfl⟩ := List.mem_map.1 hd
    exact (S.hf r hr).1)
  clear S htv hkv hpv
  go_enter Tryd.func8, Tryd.ntmps8
  go_wp2
  go_loopw [3] (fun v wr => v = .int .i64 0 ∧ wr = w) (fun _ _ => 0)
  case atStart => exact ⟨rfl, rfl⟩
  case round =>
  obtain ⟨rfl, hwe⟩ := hrel
  have hwf := hwe.symm
  clear hwe
  subst hwf
  go_wp2
  go_loopw [5] (fun v wr => ∃ k : Nat, k ≤ recs.length ∧ v = .int .i64 k ∧ BkD P B w0 wr G b recs ∧ w.grownBy wr none) (fun v _ => recs.length - (intOf v).toNat)
  case atStart => exact ⟨0, Nat.zero_le _, rfl, unhide HS, grown_refl _ _⟩
  case round =>
    clear HS
    obtain ⟨k, hk, rfl, S, hgr⟩ := hrel
    have c3 := S.bk.c3
    have HS := hide S
    have HGR := hide hgr
    clear hgr
    by_cases hlt : k < recs.length
    · have hd : decide ((k : Int) < (recs.length : Int)) = true := by simp; omega
      have j1 : (k : Int) < (recs.length : Int) := by omega
      obtain ⟨gt, ct, hdv⟩ : ∃ gt ct, b.dv = .slice (some ⟨gt, 0, none⟩) recs.length ct := by
        rcases S.ht.2 with ⟨_, h0⟩ | ⟨g, cap, cur, h, _⟩
        · rw [List.length_map] at h0; omega
        · rw [List.length_map] at h; exact ⟨g, cap, h⟩
      have hr : recs[k]? = some recs[k] := List.getElem?_eq_getElem hlt
      have hF := S.hf recs[k] (List.getElem_mem hlt)
      have ctk := S.ht.cells (g := gt) (by rw [hdv]; rfl) k recs[k].1 (by rw [List.getElem?_map, hr]; rfl)
      rw [Addr.add_lit, Nat.zero_add] at ctk
      rw [hdv] at c3
      generalize hrk : recs[k] = r at hF ctk
      obtain ⟨lv, mk⟩ := r
      obtain ⟨hm32, ao, n, cap, rfl, hn1, hn2, hn3⟩ := hF
      have HRK := hide hrk
      unfold maxLen at hn2
      have hmi := v_mid mk hm32
      have hsame := fun wq => digest_same mk hm32 wq
      clear S hr hrk hn3
      go_wp2
      go_loopw [6] (fun v wq => ∃ i : Nat, i ≤ n ∧ v = .int .i64 i ∧ wr.grownBy wq none) (fun v _ => n - (intOf v).toNat)
      case atStart => exact ⟨0, Nat.zero_le _, rfl, grown_refl _ _⟩
      case round =>
        obtain ⟨i, hi, rfl, hgq⟩ := hrel
        have S := (unhide HS).later hgq
        have HGQ := hide hgq
        have e1 := S.bk.c3
        rw [hdv] at e1
        have e2 := S.ht.cells (g := gt) (by rw [hdv]; rfl) k (.slice ao n cap) (by rw [List.getElem?_map, List.getElem?_eq_getElem hlt, unhide HRK]; rfl)
        rw [Addr.add_lit, Nat.zero_add] at e2
        by_cases hin : i < n
        · have hd2 : decide ((i : Int) < (n : Int)) = true := by simp; omega
          have j2 : (i : Int) < (n : Int) := by omega
          obtain ⟨gx, cx, hev⟩ : ∃ gx cx, b.ev = .slice (some ⟨gx, 0, none⟩) recs.length cx := by
            rcases S.hx.2 with ⟨_, h0⟩ | ⟨g, cap, cur, h, _⟩
            · rw [List.length_map] at h0; omega
            · rw [List.length_map] at h; exact ⟨g, cap, h⟩
          have e3 := S.bk.c4
          rw [hev] at e3
          have e4 : wr.rangeAt gx (k * 32) (bcells mk) := by
            have hx := S.hx
            rw [hev, List.length_map] at hx
            have := marks_at hx (unhide H32) (by rw [List.length_map]) k (by rw [List.length_map]; exact hlt)
            rwa [List.getD, List.getElem?_map, List.getElem?_eq_getElem hlt, unhide HRK] at this
          have hF := S.hf recs[k] (List.getElem_mem hlt)
          rw [unhide HRK] at hF
          obtain ⟨_, ao', n', cap', he, _, _, hn3⟩ := hF
          injection he with he1 he2 he3
          subst he1 he2 he3
          obtain ⟨g, hao, hc⟩ := hn3 (by omega)
          subst hao
          have e5 := hc i hin
          have hS0 : wr.drew.cell? ⟨G, 3, none⟩ = some (.slice (some ⟨gt, 0, none⟩) recs.length ct) ∧ wr.drew.cell? ⟨gt, k, none⟩ = some (.slice (some ⟨g, 0, none⟩) n cap) ∧ wr.drew.cell? ⟨G, 4, none⟩ = some (.slice (some ⟨gx, 0, none⟩) recs.length cx) ∧ wr.drew.rangeAt g (i * 32) (bcells mk) ∧ wr.drew.rangeAt gx (k * 32) (bcells mk) := ⟨e1, e2, e3, e5, e4⟩
          clear hc hn3 S hgq hdv hev
          go_wp2
          clear e4 e5
          have hu31 := Tryd.underlying64
          refine wp_region_held_drew (S := fun w' => w'.cell? ⟨G, 3, none⟩ = some (.slice (some ⟨gt, 0, none⟩) recs.length ct) ∧ w'.cell? ⟨gt, k, none⟩ = some (.slice (some ⟨g, 0, none⟩) n cap) ∧ w'.cell? ⟨G, 4, none⟩ = some (.slice (some ⟨gx, 0, none⟩) recs.length cx) ∧ w'.rangeAt g (i * 32) (bcells mk) ∧ w'.rangeAt gx (k * 32) (bcells mk)) (by kernel_rfl) hS0 (fun hHeld => ?_)
          refine wpAnyH_take (i := 0) (v := .pointer (some ⟨G, 0, none⟩)) rfl (by kernel_rfl) (by kernel_rfl) (by kernel_rfl) (fun _ _ _ h => h) (Or.inl ⟨by rfl, fun _ _ => by go_simp⟩) hHeld ?_
          simp only [List.getElem_toArray, List.getElem_cons_zero, Act.put, List.setIfInBounds_toArray, List.set_cons_zero, List.set_cons_succ]
          refine wpAnyH_take (i := 1) (v := .pointer (some ⟨G, 0, none⟩)) rfl (by kernel_rfl) (by kernel_rfl) (by kernel_rfl) (fun _ _ _ h => h) (Or.inl ⟨by rfl, fun _ _ => by go_simp⟩) hHeld ?_
          simp only [List.getElem_toArray, List.getElem_cons_zero, List.getElem_cons_succ, Act.put, List.setIfInBounds_toArray, List.set_cons_zero, List.set_cons_succ]
          refine wpAnyH_take (i := 2) (v := .pointer (some ⟨G, 3, none⟩)) rfl (by kernel_rfl) (by kernel_rfl) (by kernel_rfl) (fun _ _ _ h => h) (Or.inl ⟨by rfl, fun _ _ => by go_simp⟩) hHeld ?_
          simp only [List.getElem_toArray, List.getElem_cons_zero, List.getElem_cons_succ, Act.put, List.setIfInBounds_toArray, List.set_cons_zero, List.set_cons_succ]
          refine wpAnyH_take (i := 3) (v := .slice (some ⟨gt, 0, none⟩) recs.length ct) rfl (by kernel_rfl) (by kernel_rfl) (by kernel_rfl) (fun _ _ _ h => h) (Or.inl ⟨by rfl, fun _ hq => by have h5 := hq.1; clear hq; go_simp⟩) hHeld ?_
          simp only [List.getElem_toArray, List.getElem_cons_zero, List.getElem_cons_succ, Act.put, List.setIfInBounds_toArray, List.set_cons_zero, List.set_cons_succ]
          refine wpAnyH_take (i := 4) (v := .int .i64 k) rfl (by kernel_rfl) (by kernel_rfl) (by kernel_rfl) (fun _ _ _ h => h) (Or.inl ⟨by rfl, fun _ _ => by go_simp⟩) hHeld ?_
          simp only [List.getElem_toArray, List.getElem_cons_zero, List.getElem_cons_succ, Act.put, List.setIfInBounds_toArray, List.set_cons_zero, List.set_cons_succ]
          refine wpAnyH_take (i := 5) (v := .pointer (some ⟨gt, k, none⟩)) rfl (by kernel_rfl) (by kernel_rfl) (by kernel_rfl) (fun _ _ _ h => h) (Or.inl ⟨by rfl, fun _ _ => by go_simp⟩) hHeld ?_
          simp only [List.getElem_toArray, List.getElem_cons_zero, List.getElem_cons_succ, Act.put, List.setIfInBounds_toArray, List.set_cons_zero, List.set_cons_succ]
          refine wpAnyH_take (i := 6) (v := .slice (some ⟨g, 0, none⟩) n cap) rfl (by kernel_rfl) (by kernel_rfl) (by kernel_rfl) (fun _ _ _ h => h) (Or.inl ⟨by rfl, fun _ hq => by have h5 := hq.2.1; clear hq; go_simp⟩) hHeld ?_
          simp only [List.getElem_toArray, List.getElem_cons_zero, List.getElem_cons_succ, Act.put, List.setIfInBounds_toArray, List.set_cons_zero, List.set_cons_succ]
          refine wpAnyH_take (i := 7) (v := .int .i64 i) rfl (by kernel_rfl) (by kernel_rfl) (by kernel_rfl) (fun _ _ _ h => h) (Or.inl ⟨by rfl, fun _ _ => by go_simp⟩) hHeld ?_
          simp only [List.getElem_toArray, List.getElem_cons_zero, List.getElem_cons_succ, Act.put, List.setIfInBounds_toArray, List.set_cons_zero, List.set_cons_succ]
          refine wpAnyH_take (i := 8) (v := .pointer (some ⟨g, i * 32, none⟩)) rfl (by kernel_rfl) (by kernel_rfl) (by kernel_rfl) (fun _ _ _ h => h) (Or.inl ⟨by rfl, fun _ _ => by go_simp⟩) hHeld ?_
          simp only [List.getElem_toArray, List.getElem_cons_zero, List.getElem_cons_succ, Act.put, List.setIfInBounds_toArray, List.set_cons_zero, List.set_cons_succ]
          refine wpAnyH_take (i := 9) rfl (by kernel_rfl) (by kernel_rfl) (by kernel_rfl) (fun _ _ _ h => h) (yieldsIf_load_mid (by rfl) 64 _ rfl g (i * 32) rfl (bcells mk) _ (fun _ hq => hq.2.2.2.1) Tryd.underlying64 rfl hmi) hHeld ?_
          simp only [List.getElem_toArray, List.getElem_cons_zero, List.getElem_cons_succ, Act.put, List.setIfInBounds_toArray, List.set_cons_zero, List.set_cons_succ]
          refine wpAnyH_take (i := 10) (v := .pointer (some ⟨G, 0, none⟩)) rfl (by kernel_rfl) (by kernel_rfl) (by kernel_rfl) (fun _ _ _ h => h) (Or.inl ⟨by rfl, fun _ _ => by go_simp⟩) hHeld ?_
          simp only [List.getElem_toArray, List.getElem_cons_zero, List.getElem_cons_succ, Act.put, List.setIfInBounds_toArray, List.set_cons_zero, List.set_cons_succ]
          refine wpAnyH_take (i := 11) (v := .pointer (some ⟨G, 0, none⟩)) rfl (by kernel_rfl) (by kernel_rfl) (by kernel_rfl) (fun _ _ _ h => h) (Or.inl ⟨by rfl, fun _ _ => by go_simp⟩) hHeld ?_
          simp only [List.getElem_toArray, List.getElem_cons_zero, List.getElem_cons_succ, Act.put, List.setIfInBounds_toArray, List.set_cons_zero, List.set_cons_succ]
          refine wpAnyH_take (i := 12) (v := .pointer (some ⟨G, 4, none⟩)) rfl (by kernel_rfl) (by kernel_rfl) (by kernel_rfl) (fun _ _ _ h => h) (Or.inl ⟨by rfl, fun _ _ => by go_simp⟩) hHeld ?_
          simp only [List.getElem_toArray, List.getElem_cons_zero, List.getElem_cons_succ, Act.put, List.setIfInBounds_toArray, List.set_cons_zero, List.set_cons_succ]
          refine wpAnyH_take (i := 13) (v := .slice (some ⟨gx, 0, none⟩) recs.length cx) rfl (by kernel_rfl) (by kernel_rfl) (by kernel_rfl) (fun _ _ _ h => h) (Or.inl ⟨by rfl, fun _ hq => by have h5 := hq.2.2.1; clear hq; go_simp⟩) hHeld ?_
          simp only [List.getElem_toArray, List.getElem_cons_zero, List.getElem_cons_succ, Act.put, List.setIfInBounds_toArray, List.set_cons_zero, List.set_cons_succ]
          refine wpAnyH_take (i := 14) (v := .int .i64 k) rfl (by kernel_rfl) (by kernel_rfl) (by kernel_rfl) (fun _ _ _ h => h) (Or.inl ⟨by rfl, fun _ _ => by go_simp⟩) hHeld ?_
          simp only [List.getElem_toArray, List.getElem_cons_zero, List.getElem_cons_succ, Act.put, List.setIfInBounds_toArray, List.set_cons_zero, List.set_cons_succ]
          refine wpAnyH_take (i := 15) (v := .pointer (some ⟨gx, k * 32, none⟩)) rfl (by kernel_rfl) (by kernel_rfl) (by kernel_rfl) (fun _ _ _ h => h) (Or.inl ⟨by rfl, fun _ _ => by go_simp⟩) hHeld ?_
          simp only [List.getElem_toArray, List.getElem_cons_zero, List.getElem_cons_succ, Act.put, List.setIfInBounds_toArray, List.set_cons_zero, List.set_cons_succ]
          refine wpAnyH_take (i := 16) rfl (by kernel_rfl) (by kernel_rfl) (by kernel_rfl) (fun _ _ _ h => h) (yieldsIf_load_mid (by rfl) 64 _ rfl gx (k * 32) rfl (bcells mk) _ (fun _ hq => hq.2.2.2.2) Tryd.underlying64 rfl hmi) hHeld ?_
          simp only [List.getElem_toArray, List.getElem_cons_zero, List.getElem_cons_succ, Act.put, List.setIfInBounds_toArray, List.set_cons_zero, List.set_cons_succ]
          refine wpAnyH_take (i := 17) (v := .bool false) rfl (by kernel_rfl) (by kernel_rfl) (by kernel_rfl) (fun _ _ _ h => h) (Or.inl ⟨by rfl, fun _ _ => by go_simp⟩) hHeld ?_
          simp only [List.getElem_toArray, List.getElem_cons_zero, List.getElem_cons_succ, Act.put, List.setIfInBounds_toArray, List.set_cons_zero, List.set_cons_succ]
          refine wpAnyH_done (by kernel_rfl) ?_ _
          clear hsame hS0 hHeld e1 e2 e3
          go_wp2
          exact ⟨⟨i + 1, by omega, by go_num, grown_trans (unhide HGQ) (grown_drew (grown_refl _ _))⟩, by simp [intOf]; omega⟩
        · have hd2 : decide ((i : Int) < (n : Int)) = false := by simp; omega
          clear S hgq hdv
          go_wp2
          exact ⟨⟨k + 1, by omega, by go_num, (unhide HS).later (unhide HGQ), grown_trans (unhide HGR) (unhide HGQ)⟩, by simp [intOf]; omega⟩
    · have hke : k = recs.length := by omega
      obtain ⟨at1, ct, hdv⟩ := own_shape S.ht
      rw [List.length_map] at hdv
      rw [hdv] at c3
      have hd : decide ((k : Int) < (recs.length : Int)) = false := by simp; omega
      have hdk2 := hdk wr S.bk
      clear S hdv hdk
      go_wp2_with (go_at_call 29; refine hdk2.mono ?_; rintro e wz ⟨rfl, he⟩; cases he)
      go_ret
      exact ⟨rfl, below_of_grown (unhide HGR)⟩
end Go.Proofs.YtanfolfopalbeabDoor
