import Derived.Test.YtanfolfopalbeaaDoorLinkMath
namespace Go.Proofs.YtanfolfopalbeaaDoor
open Go.RowKit

theorem wkA : wk [97] = 52512 := by decide +kernel
theorem wkE : wk [] = 7385 := by decide +kernel
theorem shaE : (shaL []).getD 0 0 = 227 ∧ (shaL []).getD 31 0 = 85 := by decide +kernel
theorem OldSum_a (w : World) : Calls Tryd.prog 14 #[.string ⟨#[97]⟩] w fun e w' => e = .returned (.int .u16 52512) ∧ w' = w := by
  refine (OldSum_any ⟨#[97]⟩ w (by decide)).mono ?_
  rintro e w' ⟨rfl, rfl⟩
  exact ⟨ret_int (by rw [show (ByteArray.mk #[97]).data.toList = [97] from rfl, wkA]; rfl), rfl⟩
theorem OldSum_e (w : World) : Calls Tryd.prog 14 #[.string ⟨#[]⟩] w fun e w' => e = .returned (.int .u16 7385) ∧ w' = w := by
  refine (OldSum_any ⟨#[]⟩ w (by decide)).mono ?_
  rintro e w' ⟨rfl, rfl⟩
  exact ⟨ret_int (by rw [show (ByteArray.mk #[]).data.toList = [] from rfl, wkE]; rfl), rfl⟩

set_option maxRecDepth 100000 in
set_option maxHeartbeats 800000 in
theorem known_any (w : World) (hT : Tabs w) :
    Calls Tryd.prog 22 #[] w fun e w' => e = .returned (.bool true) ∧ Below w.heap.size w w' := by
  have HT := hide hT
  clear hT
  go_enter Tryd.func22, Tryd.ntmps22
  go_wp2_with fail
  refine (OldSum_a _).mono ?_
  rintro e w1 ⟨rfl, rfl⟩
  go_wp2_with fail
  refine (OldSum_e _).mono ?_
  rintro e w1 ⟨rfl, rfl⟩
  go_wp2_with fail
  refine (NewSum_any ⟨#[]⟩ _ (by decide) (unhide HT)).mono ?_
  rintro e w2 ⟨rfl, hb2⟩
  rw [show (ByteArray.mk #[]).data.toList = [] from rfl]
  have hse := shaE
  have hdl : (shaL []).length = 32 := dgk_length _ 8 (Nat.le_refl _)
  generalize shaL [] = d8 at hse hdl ⊢
  have hb3 : ∀ c, Below w1.heap.size w1 ((w2.alloc (.cells c 31)).setRow w2.heap.size (bcells d8).toArray) := fun c => below_row (hb2.alloc hb2.size _) hb2.size _
  have hrow : ∀ c, BRow ((w2.alloc (.cells c 31)).setRow w2.heap.size (bcells d8).toArray) w2.heap.size 31 d8 := fun c => heap_put_new w2 c _ _
  have hsd : (bcells d8).toArray.size = 32 := by rw [bcells_size, hdl]
  have hc0 : ∀ c, ((w2.alloc (.cells c 31)).setRow w2.heap.size (bcells d8).toArray).cell? ⟨w2.heap.size, 0, none⟩ = some (.int .u8 227) := fun c => by
    rw [(hrow c).cell 0 (by omega), hse.1]; rfl
  have hc31 : ∀ c, ((w2.alloc (.cells c 31)).setRow w2.heap.size (bcells d8).toArray).cell? ⟨w2.heap.size, 31, none⟩ = some (.int .u8 85) := fun c => by
    rw [(hrow c).cell 31 (by omega), hse.2]; rfl
  have V2 := hide (show (Tryd.prog.info? 31).map (·.size) = some (bcells d8).toArray.size by rw [hsd]; exact info_dg)
  have V3 := hide hsd
  have HB := hide hb3
  clear hrow hse hdl hsd hb2 hb3
  go_wp2_with ((with_reducible refine at_store ?_); refine wpList_store_row rfl 31 _ _ rfl w2.heap.size (bcells d8).toArray rfl rfl 31 _ (heap_alloc_new w2 _) (unhide V2) (by rw [unhide V3]; rfl) (bcells_one d8) ?_)
  go_ret
  exact ⟨rfl, unhide HB _⟩
end Go.Proofs.YtanfolfopalbeaaDoor
