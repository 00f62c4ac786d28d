/- lendDigests, sameDigests: the contracts. -/
import Derived.Test.YtanfolfopalbeabDoorRefTree
import Derived.Test.YtanfolfopalbeabDoorCopyBig
import Derived.Laws.CopyRow
import Derived.Laws.CopyOwn
import Derived.OwnWalk
namespace Go.Proofs.YtanfolfopalbeabDoor
open Go.RowKit

/-- What lendDigests lays behind a list. -/
def d7 : List UInt8 := [7, 7, 7] ++ List.replicate 29 0
theorem d7_length : d7.length = 32 := rfl
theorem d7_cells : (bcells d7).toArray = #[.int .u8 7, .int .u8 7, .int .u8 7, .int .u8 0, .int .u8 0, .int .u8 0, .int .u8 0, .int .u8 0, .int .u8 0, .int .u8 0, .int .u8 0, .int .u8 0, .int .u8 0, .int .u8 0, .int .u8 0, .int .u8 0, .int .u8 0, .int .u8 0, .int .u8 0, .int .u8 0, .int .u8 0, .int .u8 0, .int .u8 0, .int .u8 0, .int .u8 0, .int .u8 0, .int .u8 0, .int .u8 0, .int .u8 0, .int .u8 0, .int .u8 0, .int .u8 0] := rfl
def lentD (ps : List (List UInt8)) : List (List UInt8) := ps ++ [d7, d7]
theorem lentD_length (ps : List (List UInt8)) : (lentD ps).length = ps.length + 2 := by simp [lentD]
theorem lentD_elem (ps : List (List UInt8)) (h : ∀ d ∈ ps, d.length = 32) : ∀ d ∈ lentD ps, d.length = 32 := by
  intro d hd
  simp only [lentD, List.mem_append, List.mem_cons, List.not_mem_nil, or_false, or_self] at hd
  rcases hd with hd | rfl
  · exact h d hd
  · rfl
theorem lentD_at (ps : List (List UInt8)) (k : Nat) (h0 : ps.length ≤ k) (h1 : k < ps.length + 2) : (lentD ps).getD k [] = d7 := by
  unfold lentD
  rw [List.getD, List.getElem?_append_right h0]
  have : k - ps.length = 0 ∨ k - ps.length = 1 := by omega
  rcases this with h | h <;> simp [h]

set_option maxRecDepth 100000 in
set_option maxHeartbeats 400000 in
theorem sameD_empty (ao ao' : Option Addr) (cap cap' : Nat) (w : World) :
    Calls Tryd.prog 26 #[.slice ao 0 cap, .slice ao' 0 cap'] w fun e w' => e = .returned (.bool true) ∧ Below w.heap.size w w' := by
  go_enter Tryd.func26, Tryd.ntmps26
  go_wp2
  refine wp_loop_rounds 1 ?_
  rw [rounds_succ]
  go_wp2
  go_ret
  exact ⟨rfl, Below.refl _ _⟩

set_option maxRecDepth 100000 in
set_option maxHeartbeats 1600000 in
theorem sameD_some (b off cap b' off' cap' : Nat) (ps : List (List UInt8)) (w : World) (hm : ps.length ≤ 2097152) (hD : Digs w (.slice (some ⟨b, off, none⟩) ps.length cap) ps) (hD' : Digs w (.slice (some ⟨b', off', none⟩) ps.length cap') ps) :
    Calls Tryd.prog 26 #[.slice (some ⟨b, off, none⟩) ps.length cap, .slice (some ⟨b', off', none⟩) ps.length cap'] w fun e w' => e = .returned (.bool true) ∧ Below w.heap.size w w' := by
  have HD := hide hD
  have HD' := hide hD'
  clear hD hD'
  have hne : ((ps.length : Int) != (ps.length : Int)) = false := by simp
  have hu31 := Tryd.underlying64
  go_enter Tryd.func26, Tryd.ntmps26
  go_wp2
  go_loopw [5] (fun i wr => ∃ k : Nat, k ≤ ps.length ∧ i = .int .i64 k ∧ Below w.heap.size w wr) (fun i _ => ps.length - (intOf i).toNat)
  case atStart => exact ⟨0, Nat.zero_le _, rfl, Below.refl _ _⟩
  case round =>
    obtain ⟨k, hk, rfl, hbel⟩ := hrel
    by_cases hlt : k < ps.length
    · have hr1 := rangeAt_below (digs_at (unhide HD) k hlt) hbel (Nat.le_refl _)
      have hr2 := rangeAt_below (digs_at (unhide HD') k hlt) hbel (Nat.le_refl _)
      have hdl := digs_len (unhide HD) k hlt
      generalize ps.getD k [] = d at hr1 hr2 hdl
      have hmi := v_mid d hdl
      have hsame := fun wq => digest_same d hdl wq
      have hlti : (k : Int) < (ps.length : Int) := by omega
      have hk0 : (0 : Int) ≤ (k : Int) := by omega
      have hr8 : wr.drew.rangeAt b (off + k * 32) (bcells d) ∧ wr.drew.rangeAt b' (off' + k * 32) (bcells d) := ⟨hr1, hr2⟩
      clear hr1 hr2
      go_wp2_with fail
      refine wp_region_held_drew (S := fun w' => w'.rangeAt b (off + k * 32) (bcells d) ∧ w'.rangeAt b' (off' + k * 32) (bcells d)) (by kernel_rfl) hr8 (fun hHeld => ?_)
      refine wpAnyH_take (i := 0) (v := .slice (some ⟨b, off, none⟩) ps.length cap) rfl (by kernel_rfl) (by kernel_rfl) (by kernel_rfl) (fun _ _ _ h => h) (Or.inl ⟨by rfl, fun _ _ => by go_simp⟩) hHeld ?_
      simp only [List.getElem_toArray, List.getElem_cons_zero, Act.put, List.setIfInBounds_toArray, List.set_cons_zero, List.set_cons_succ]
      refine wpAnyH_take (i := 1) (v := .int .i64 k) rfl (by kernel_rfl) (by kernel_rfl) (by kernel_rfl) (fun _ _ _ h => h) (Or.inl ⟨by rfl, fun _ _ => by go_simp⟩) hHeld ?_
      simp only [List.getElem_toArray, List.getElem_cons_zero, List.getElem_cons_succ, Act.put, List.setIfInBounds_toArray, List.set_cons_zero, List.set_cons_succ]
      refine wpAnyH_take (i := 2) (v := .pointer (some ⟨b, off + k * 32, none⟩)) rfl (by kernel_rfl) (by kernel_rfl) (by kernel_rfl) (fun _ _ _ h => h) (Or.inl ⟨by rfl, fun _ _ => by go_simp⟩) hHeld ?_
      simp only [List.getElem_toArray, List.getElem_cons_zero, List.getElem_cons_succ, Act.put, List.setIfInBounds_toArray, List.set_cons_zero, List.set_cons_succ]
      refine wpAnyH_take (i := 3) rfl (by kernel_rfl) (by kernel_rfl) (by kernel_rfl) (fun _ _ _ h => h) (yieldsIf_load_mid (by rfl) 64 _ rfl b (off + k * 32) rfl (bcells d) _ (fun _ h => h.1) Tryd.underlying64 rfl hmi) hHeld ?_
      simp only [List.getElem_toArray, List.getElem_cons_zero, List.getElem_cons_succ, Act.put, List.setIfInBounds_toArray, List.set_cons_zero, List.set_cons_succ]
      refine wpAnyH_take (i := 4) (v := .slice (some ⟨b', off', none⟩) ps.length cap') rfl (by kernel_rfl) (by kernel_rfl) (by kernel_rfl) (fun _ _ _ h => h) (Or.inl ⟨by rfl, fun _ _ => by go_simp⟩) hHeld ?_
      simp only [List.getElem_toArray, List.getElem_cons_zero, List.getElem_cons_succ, Act.put, List.setIfInBounds_toArray, List.set_cons_zero, List.set_cons_succ]
      refine wpAnyH_take (i := 5) (v := .int .i64 k) rfl (by kernel_rfl) (by kernel_rfl) (by kernel_rfl) (fun _ _ _ h => h) (Or.inl ⟨by rfl, fun _ _ => by go_simp⟩) hHeld ?_
      simp only [List.getElem_toArray, List.getElem_cons_zero, List.getElem_cons_succ, Act.put, List.setIfInBounds_toArray, List.set_cons_zero, List.set_cons_succ]
      refine wpAnyH_take (i := 6) (v := .pointer (some ⟨b', off' + k * 32, none⟩)) rfl (by kernel_rfl) (by kernel_rfl) (by kernel_rfl) (fun _ _ _ h => h) (Or.inl ⟨by rfl, fun _ _ => by go_simp⟩) hHeld ?_
      simp only [List.getElem_toArray, List.getElem_cons_zero, List.getElem_cons_succ, Act.put, List.setIfInBounds_toArray, List.set_cons_zero, List.set_cons_succ]
      refine wpAnyH_take (i := 7) rfl (by kernel_rfl) (by kernel_rfl) (by kernel_rfl) (fun _ _ _ h => h) (yieldsIf_load_mid (by rfl) 64 _ rfl b' (off' + k * 32) rfl (bcells d) _ (fun _ h => h.2) Tryd.underlying64 rfl hmi) hHeld ?_
      simp only [List.getElem_toArray, List.getElem_cons_zero, List.getElem_cons_succ, Act.put, List.setIfInBounds_toArray, List.set_cons_zero, List.set_cons_succ]
      refine wpAnyH_take (i := 8) (v := .bool false) rfl (by kernel_rfl) (by kernel_rfl) (by kernel_rfl) (fun _ _ _ h => h) (Or.inl ⟨by rfl, fun _ _ => by go_simp⟩) hHeld ?_
      simp only [List.getElem_toArray, List.getElem_cons_zero, List.getElem_cons_succ, Act.put, List.setIfInBounds_toArray, List.set_cons_zero, List.set_cons_succ]
      refine wpAnyH_done (by kernel_rfl) ?_ _
      clear hsame hr8 hHeld hu31
      go_wp2_with fail
      go_roundw
      case rel => exact ⟨k + 1, by omega, by go_num, hbel.drew⟩
      case measure => simp [intOf]; omega
    · go_wp2
      go_ret
      exact ⟨rfl, hbel⟩
theorem sameD_any (v v' : Value) (ps : List (List UInt8)) (w : World) (h : Digs w v ps) (h' : Digs w v' ps) (hm : ps.length ≤ 2097152) :
    Calls Tryd.prog 26 #[v, v'] w fun e w' => e = .returned (.bool true) ∧ Below w.heap.size w w' := by
  by_cases h0 : ps.length = 0
  · obtain ⟨_, ao, cap, rfl, _⟩ := h
    obtain ⟨_, ao', cap', rfl, _⟩ := h'
    rw [h0]
    exact sameD_empty ao ao' cap cap' w
  · obtain ⟨b, off, cap, rfl, _, _⟩ := digs_shape h (by omega)
    obtain ⟨b', off', cap', rfl, _, _⟩ := digs_shape h' (by omega)
    exact sameD_some b off cap b' off' cap' ps w hm h h'
end Go.Proofs.YtanfolfopalbeabDoor
