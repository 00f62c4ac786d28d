/- ferrykeep's object Disk: begin: the contract. -/
import Derived.Test.YtanfolfopalbeabDoorDk2
import Derived.Test.YtanfolfopalbeabDoorLinked
namespace Go.Proofs.YtanfolfopalbeabDoor
open Go.RowKit

theorem Dk.setT {w0 w : World} {G : Nat} {T : ByteArray} {vl : Value} {xs : List ByteArray} {vd : Value} {ds : List (List UInt8)} {k : Nat} (h : Dk w0 w G T vl xs vd ds k) (T' : ByteArray) : Dk w0 (w.setCell ⟨G, 0, none⟩ (.string T')) G T' vl xs vd ds k :=
  ⟨by unfold DkAt; rw [heap_setCell_same w G 0 _ _ _ h.cells]; rfl, h.base, h.bel.setCell (by exact h.base) _, h.ownl.kept (grown_set G 0 _) (.inr h.nel), h.nel, h.ownd.kept (grown_set G 0 _) (.inr h.ned), h.ned, h.elem⟩

set_option maxRecDepth 100000 in
set_option maxHeartbeats 1600000 in
theorem begin_any (v : Value) (ss xs : List ByteArray) (hxs : ents ss (min 100 ss.length) = xs) (w : World) (hS : Strs w v ss) (hsz : ∀ i, i < ss.length → (ss.getD i ByteArray.empty).size ≤ maxLen) (hT : Tabs w) :
    Calls Tryd.prog 9 #[v] w fun e w' => ∃ G vl vd, e = .returned (.tuple #[.pointer (some ⟨G, 0, none⟩), .bool true]) ∧ Dk w w' G (mk (olog 0 (bs xs))) vl xs vd (fmt 300) 0 := by
  have HS := hide hS
  have HZ := hide hsz
  have HT := hide hT
  have HXS := hide hxs
  clear hS hsz hT hxs
  go_enter Tryd.func9, Tryd.ntmps9
  go_wp2_with fail
  refine (entries_any v ss _ (unhide HS) (unhide HZ)).mono ?_
  rintro e w1 ⟨v1, rfl, hown1, hb1⟩
  have hxl : (ents ss (min 100 ss.length)).length ≤ 100 := by rw [ents_length]; omega
  have hxz := ents_small ss (min 100 ss.length)
  rw [unhide HXS] at hown1 hxl hxz
  clear HXS
  have hck := chk_of xs hxl hxz
  have hwt : wrText xs = mk (olog 0 (bs xs)) := by unfold wrText; rw [if_pos hck]; rfl
  have hW := fun wq vq hs => WriteOld_any vq xs wq hs
  rw [hck, hwt] at hW
  have HW := hide hW
  have HX := hide hxz
  clear hck hwt hW HS HZ hxz
  obtain ⟨ao, cap, hv1⟩ := own_shape hown1
  subst hv1
  go_upto_region 2 with fail
  have hbA : Below w1.heap.size w1 (w1.alloc (.cells #[.string ⟨#[]⟩, .slice ao xs.length cap, .slice none 0 0, .int .i64 0] 47)) := (Below.refl _ _).alloc (Nat.le_refl _) _
  have hK2 : Dk w (w1.alloc (.cells #[.string ⟨#[]⟩, .slice ao xs.length cap, .slice none 0 0, .int .i64 0] 47)) w1.heap.size ⟨#[]⟩ (.slice ao xs.length cap) xs (.slice none 0 0) [] 0 :=
    ⟨heap_alloc_new w1 _, hb1.size, hb1.trans (hbA.mono hb1.size), own_keep hown1 hbA, fun h => by have := (hown1.lt _ h).2; omega, World.ownsRow_nil _ _ _ _, (fun h => nomatch h), by simp⟩
  have K2 := hide hK2
  clear hbA hK2 hown1 hb1
  generalize (w1.alloc (.cells #[.string ⟨#[]⟩, .slice ao xs.length cap, .slice none 0 0, .int .i64 0] 47)) = W2 at K2 ⊢
  generalize w1.heap.size = G at K2 ⊢
  have hc1 := (unhide K2).cells.c1
  go_wp2_with fail
  refine (unhide HW _ _ (unhide K2).strs).mono ?_
  rintro e w3 ⟨rfl, hb3⟩
  have K3 := hide ((unhide K2).below hb3)
  clear K2 hb3 HW hc1
  go_wp2_with fail
  refine (Format_in 300 _ (by omega) (by omega)).mono ?_
  rintro e w4 ⟨rfl, hown4, hb4⟩
  have hK4 := (unhide K3).below hb4
  have hlt := lt_of_block (unhide K3).cells
  have hge := (unhide K3).bel.size
  have hx0 := hK4.cells.c0
  have hx2 := hK4.cells.c2
  have hf0 := hK4.cells.free 0
  have hf2 := hK4.cells.free 2
  have hK5 := hK4.setT (mk (olog 0 (bs xs)))
  have hl3 : (dcells (fmt 300)).length = 300 * 32 := by rw [dcells_length _ (fmt_elem 300), fmt_length 300 (by omega)]
  have hg4 : w4.heap[w3.heap.size]? = some (.cells (dcells (fmt 300)).toArray 88 (0, 0)) := by
    obtain ⟨_, h | ⟨g, c, cur, hv, _, hg, _, _, hs, ht⟩⟩ := hown4
    · simp at h
    · simp only [Value.slice.injEq, Option.some.injEq, Addr.mk.injEq, and_true, true_and] at hv
      obtain ⟨rfl, rfl⟩ := hv
      rw [hg, ← ht, List.take_of_length_le (by rw [Array.length_toList]; omega), Array.toArray_toList]
  have hK6 := hK5.setD (d := fmt 300) (n := 300) (gd := w3.heap.size) hl3 (fmt_elem 300) ((heap_setCell_other _ _ _ _ (show w3.heap.size ≠ G by omega)).trans hg4) (fmt_length 300 (by omega)) (Nat.le_refl _) hge (by omega)
  have K6 := hide hK6
  have TL := hide (fun wq hk => told_any w wq G (mk (olog 0 (bs xs))) (.slice ao xs.length cap) xs (.slice (some ⟨w3.heap.size, 0, none⟩) 300 300) (fmt 300) 0 0 0 0 hk (fmt_std 300 (by omega) (by omega)) (Nat.zero_le _) hxl (unhide HX) (.inl rfl) (unhide HT))
  clear hK4 hK5 hK6 hown4 hb4 hg4 hl3 K3 HX HT
  go_wp2_with fail
  generalize ((w4.setCell ⟨G, 0, none⟩ (.string (mk (olog 0 (bs xs))))).setCell ⟨G, 2, none⟩ (.slice (some ⟨w3.heap.size, 0, none⟩) 300 300)) = W6 at K6 ⊢
  refine (unhide TL _ (unhide K6)).mono ?_
  rintro e w7 ⟨rfl, hk7⟩
  go_wp2
  go_ret2
  exact ⟨G, _, _, rfl, hk7⟩
end Go.Proofs.YtanfolfopalbeabDoor
