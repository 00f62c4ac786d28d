import Derived.Test.YtanfolfopalbeabDoorTreeRoot2
import Derived.Deep.RegionWith
import Derived.Deep.CutRange
namespace Go.Proofs.YtanfolfopalbeabDoor
open Go.RowKit

theorem rootR_of (xs : List ByteArray) (h : xs.length ≤ 100) (hz : ∀ s ∈ xs, s.size ≤ 20) : rootR xs = rootL xs := by
  unfold rootR
  rw [if_pos (chk_of xs h hz)]
theorem strs_cell {w : World} {b off n cap : Nat} {ss : List ByteArray} (h : Strs w (.slice (some ⟨b, off, none⟩) n cap) ss) (i : Nat) (hi : i < ss.length) : w.cell? ⟨b, off + i, none⟩ = some (.string (ss.getD i ByteArray.empty)) := by
  obtain ⟨ao, cap', he, h1, h2, h3⟩ := h
  simp only [Value.slice.injEq] at he
  obtain ⟨rfl, rfl, rfl⟩ := he
  rcases h3 with rfl | ⟨b', off', he, hc⟩
  · cases hi
  · simp only [Option.some.injEq, Addr.mk.injEq, and_true] at he
    obtain ⟨rfl, rfl⟩ := he
    exact hc i hi
/-- A digest that is put into a new block. -/
theorem below_put (w : World) (c d : Array Value) (t : TypeId) : Below w.heap.size w ((w.alloc (.cells c t)).setRow w.heap.size d) := below_row ((Below.refl _ _).alloc (Nat.le_refl _) _) (Nat.le_refl _) _
/-- A block that was made ahead of a call in a region that draws, as it lies behind it. -/
theorem made_dig {w0 w1 : World} {c : Array Value} {t : TypeId} (hc : (bcells z32).toArray = c) (hb : Below (w0.alloc (.cells c t)).drew.heap.size (w0.alloc (.cells c t)).drew w1) : w1.heap[w0.heap.size]? = some (.cells (bcells z32).toArray t (0, 0)) := by
  subst hc
  rw [hb.block _ (by show w0.heap.size < (w0.alloc _).heap.size; simp)]
  exact heap_alloc_new w0 _
theorem put_new_dig (w : World) (c : Array Value) (d : List UInt8) (hd : d.length = 32) (hc : (bcells z32).toArray = c) :
    (storeCells ⟨w.heap.size, 0, none⟩ (bcells d)).run Tryd.prog (w.alloc (.cells c 64)) = .ok () ((w.alloc (.cells c 64)).setRow w.heap.size (bcells d).toArray) := by
  subst hc
  exact store_dig w.heap.size z32 d _ (by rw [hd]; rfl) (heap_alloc_new w _)
theorem take_small {xs : List ByteArray} (hz : ∀ s ∈ xs, s.size ≤ 20) (k : Nat) : ∀ s ∈ xs.take k, s.size ≤ 20 := fun s h => hz s (List.mem_of_mem_take h)
theorem drop_small {xs : List ByteArray} (hz : ∀ s ∈ xs, s.size ≤ 20) (k : Nat) : ∀ s ∈ xs.drop k, s.size ≤ 20 := fun s h => hz s (List.mem_of_mem_drop h)

end Go.Proofs.YtanfolfopalbeabDoor
