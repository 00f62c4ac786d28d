/- The reference's may: the contract. -/
import Derived.Test.YtanfolfopalbeaaCheck
namespace Go.Proofs.Ytanfolfopalbeaa
open Go.RowKit

set_option maxRecDepth 100000 in
set_option maxHeartbeats 400000 in
theorem may_empty (ao : Option Addr) (cap : Nat) (w : World) :
    Calls Try.prog 28 #[.slice ao 0 cap] w fun e w' => e = .returned (.int .i64 0) ∧ w' = w := by
  go_enter Try.func28, Try.ntmps28
  go_wp2
  refine wp_loop_rounds 1 ?_
  rw [rounds_succ]
  go_wp2
  go_ret
  exact ⟨rfl, rfl⟩

set_option maxRecDepth 100000 in
set_option maxHeartbeats 400000 in
theorem may_some (b off cap : Nat) (ss : List ByteArray) (w : World) (hm : ss.length ≤ maxLen)
    (hc : ∀ i, i < ss.length → w.cell? ⟨b, off + i, none⟩ = some (.string (ss.getD i ByteArray.empty))) :
    Calls Try.prog 28 #[.slice (some ⟨b, off, none⟩) ss.length cap] w fun e w' => e = .returned (.int .i64 (chk ss)) ∧ w' = w := by
  unfold maxLen at hm
  have HC := hide hc
  clear hc
  by_cases hmany : 100 < ss.length
  · have H : Hid (chk ss = 2) := chk_many ss hmany
    have hd : decide ((100 : Int) < (ss.length : Int)) = true := by simp; omega
    go_enter Try.func28, Try.ntmps28
    go_wp2
    go_ret
    exact ⟨ret_int (by rw [H.out]; rfl), rfl⟩
  have hd : decide ((100 : Int) < (ss.length : Int)) = false := by simp; omega
  go_enter Try.func28, Try.ntmps28
  go_wp2
  go_loop [3] (fun i => ∃ k : Nat, k ≤ ss.length ∧ i = .int .i64 k ∧ (ss.take k).any (fun s => decide (20 < s.size)) = false) (fun i => ss.length - (intOf i).toNat)
  case atStart => exact ⟨0, Nat.zero_le _, rfl, rfl⟩
  case round =>
    obtain ⟨k, hk, rfl, ha⟩ := hrel
    have HA := hide ha
    clear ha
    by_cases hlt : k < ss.length
    · obtain ⟨s, hs⟩ : ∃ s, s = ss.getD k ByteArray.empty := ⟨_, rfl⟩
      have hck := unhide HC k hlt
      rw [← hs] at hck
      have HS := hide hs
      clear hs
      by_cases hl : 20 < s.size
      · have hd2 : decide ((20 : Int) < (s.size : Int)) = true := by simp; omega
        go_wp2
        go_ret
        exact ⟨ret_int (by rw [chk_long ss k hmany hlt (by rw [← unhide HS]; exact hl)]; rfl), rfl⟩
      · have hd2 : decide ((20 : Int) < (s.size : Int)) = false := by simp; omega
        go_wp2
        go_round
        case rel => exact ⟨k + 1, by omega, by go_num, by rw [any_take_succ ss k hlt (unhide HA), ← unhide HS]; simp; omega⟩
        case measure => simp [intOf]; omega
    · have hkl : ss.length = k := by omega
      have H : chk ss = 0 := chk_ok ss hmany (by rw [hkl]; exact unhide HA)
      have HH := hide H
      clear H hkl
      go_wp2
      go_ret
      exact ⟨ret_int (by rw [unhide HH]; rfl), rfl⟩
theorem may_any (v : Value) (ss : List ByteArray) (w : World) (h : Strs w v ss) :
    Calls Try.prog 28 #[v] w fun e w' => e = .returned (.int .i64 (chk ss)) ∧ w' = w := by
  obtain ⟨ao, cap, rfl, h1, h2, h3⟩ := h
  rcases h3 with rfl | ⟨b, off, rfl, hc⟩
  · exact may_empty ao cap w
  · exact may_some b off cap ss w (by omega) hc
end Go.Proofs.Ytanfolfopalbeaa
