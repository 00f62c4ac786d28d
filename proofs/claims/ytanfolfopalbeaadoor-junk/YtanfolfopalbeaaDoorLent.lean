/- lent, sameTexts, num: the contracts. -/
import Derived.Test.YtanfolfopalbeaaDoorLendS
import Derived.BigQuiet
import Derived.Deep.QuietTactic
namespace Go.Proofs.YtanfolfopalbeaaDoor
open Go.RowKit

set_option maxRecDepth 100000 in
set_option maxHeartbeats 400000 in
theorem sameT_empty (ao ao' : Option Addr) (cap cap' : Nat) (w : World) :
    Calls Tryd.prog 72 #[.slice ao 0 cap, .slice ao' 0 cap'] w fun e w' => e = .returned (.bool true) ∧ Below w.heap.size w w' := by
  go_enter Tryd.func72, Tryd.ntmps72
  go_wp2
  refine wp_loop_rounds 1 ?_
  rw [rounds_succ]
  go_wp2
  go_ret
  exact ⟨rfl, Below.refl _ _⟩

set_option maxRecDepth 100000 in
set_option maxHeartbeats 400000 in
theorem sameT_some (b off cap b' off' cap' : Nat) (ss : List ByteArray) (w : World) (hm : ss.length ≤ maxLen)
    (hc : ∀ i, i < ss.length → w.cell? ⟨b, off + i, none⟩ = some (.string (ss.getD i ByteArray.empty))) (hc' : ∀ i, i < ss.length → w.cell? ⟨b', off' + i, none⟩ = some (.string (ss.getD i ByteArray.empty))) :
    Calls Tryd.prog 72 #[.slice (some ⟨b, off, none⟩) ss.length cap, .slice (some ⟨b', off', none⟩) ss.length cap'] w fun e w' => e = .returned (.bool true) ∧ Below w.heap.size w w' := by
  unfold maxLen at hm
  have HC := hide hc
  have HC' := hide hc'
  clear hc hc'
  have hne : ((ss.length : Int) != (ss.length : Int)) = false := by simp
  go_enter Tryd.func72, Tryd.ntmps72
  go_wp2
  go_loopw [5] (fun i wr => ∃ k : Nat, k ≤ ss.length ∧ i = .int .i64 k ∧ Below w.heap.size w wr) (fun i _ => ss.length - (intOf i).toNat)
  case atStart => exact ⟨0, Nat.zero_le _, rfl, Below.refl _ _⟩
  case round =>
    obtain ⟨k, hk, rfl, hbel⟩ := hrel
    by_cases hlt : k < ss.length
    · obtain ⟨s, hs⟩ : ∃ s, s = ss.getD k ByteArray.empty := ⟨_, rfl⟩
      have h1 := unhide HC k hlt
      have h2 := unhide HC' k hlt
      rw [← hs] at h1 h2
      clear hs
      have g1 : wr.cell? ⟨b, off + k, none⟩ = some (.string s) := by rw [hbel.cell (p := ⟨b, off + k, none⟩) (cell_lt h1)]; exact h1
      have g2 : wr.cell? ⟨b', off' + k, none⟩ = some (.string s) := by rw [hbel.cell (p := ⟨b', off' + k, none⟩) (cell_lt h2)]; exact h2
      have hlti : (k : Int) < (ss.length : Int) := by omega
      have hk0 : (0 : Int) ≤ (k : Int) := by omega
      clear h1 h2
      go_wp2
      go_quiet (fail)
      go_wp2
      go_roundw
      case rel => exact ⟨k + 1, by omega, by go_num, below_drewN hbel _⟩
      case measure => simp [intOf]; omega
    · go_wp2
      go_ret
      exact ⟨rfl, hbel⟩
theorem sameT_any (v v' : Value) (ss : List ByteArray) (w : World) (h : Strs w v ss) (h' : Strs w v' ss) :
    Calls Tryd.prog 72 #[v, v'] w fun e w' => e = .returned (.bool true) ∧ Below w.heap.size w w' := by
  obtain ⟨ao, cap, rfl, h1, h2, h3⟩ := h
  obtain ⟨ao', cap', rfl, h1', h2', h3'⟩ := h'
  rcases h3 with rfl | ⟨b, off, rfl, hc⟩
  · exact sameT_empty ao ao' cap cap' w
  · rcases h3' with rfl | ⟨b', off', rfl, hc'⟩
    · exact sameT_empty _ _ cap cap' w
    · exact sameT_some b off cap b' off' cap' ss w (Nat.le_trans h1 h2) hc hc'

set_option maxRecDepth 100000 in
set_option maxHeartbeats 400000 in
theorem num_any (n : Int) (w : World) : Calls Tryd.prog 44 #[.int .i64 n] w fun e w' => e = .returned (.int .i64 n) ∧ w' = w := by
  go_enter Tryd.func44, Tryd.ntmps44
  go_wp2
  go_ret
  exact ⟨rfl, rfl⟩

set_option maxRecDepth 100000 in
set_option maxHeartbeats 400000 in
theorem lent_any (x v : Value) (ss : List ByteArray) (w : World) (hx : Strs w x (lentL ss)) (h : Strs w v ss) (hm : ss.length * 16 ≤ 140737488351232) :
    Calls Tryd.prog 60 #[x, v] w fun e w' => e = .returned (.bool true) ∧ Below w.heap.size w w' := by
  have HX := hide hx
  have HS := hide h
  clear hx h
  go_enter Tryd.func60, Tryd.ntmps60
  go_wp2_with fail
  refine (lend_any v ss _ (unhide HS) hm).mono ?_
  rintro e w1 ⟨g, rfl, hown, hb⟩
  have R := hide (strs_of_own hown)
  have S := hide ((unhide HX).below hb (Nat.le_refl _))
  clear hown
  go_wp2_with fail
  refine (sameT_any _ _ (lentL ss) _ (unhide S) (unhide R)).mono ?_
  rintro e w2 ⟨rfl, hb2⟩
  go_wp2
  go_ret
  exact ⟨rfl, hb.trans (hb2.mono hb.size)⟩
end Go.Proofs.YtanfolfopalbeaaDoor
