import Derived.Test.YtanfolfopalbeaaDoorLink
import Derived.Test.YtanfolfopalbeaaDoorStrs
namespace Go.Proofs.YtanfolfopalbeaaDoor
open Go.RowKit

theorem chk_many (ss : List ByteArray) (h : 100 < ss.length) : chk ss = 2 := by unfold chk; rw [if_pos h]
theorem chk_long (ss : List ByteArray) (k : Nat) (h : ¬ 100 < ss.length) (hk : k < ss.length) (hl : 20 < (ss.getD k ByteArray.empty).size) : chk ss = 1 := by
  unfold chk
  rw [if_neg h, if_pos]
  rw [List.any_eq_true]
  refine ⟨ss[k], List.getElem_mem hk, ?_⟩
  simpa [List.getD, List.getElem?_eq_getElem hk] using hl
theorem chk_ok (ss : List ByteArray) (h : ¬ 100 < ss.length) (ha : (ss.take ss.length).any (fun s => decide (20 < s.size)) = false) : chk ss = 0 := by
  unfold chk
  rw [if_neg h, if_neg]
  rw [List.take_of_length_le (Nat.le_refl _)] at ha
  rw [ha]
  decide

set_option maxHeartbeats 400000 in
theorem check_empty (ao : Option Addr) (cap : Nat) (w : World) :
    Calls Tryd.prog 93 #[.slice ao 0 cap] w fun e w' => e = .returned (.int .i64 0) ∧ w' = w := by
  go_enter Tryd.func93, Tryd.ntmps93
  go_wp2
  refine wp_loop_rounds 1 ?_
  rw [rounds_succ]
  go_wp2
  go_ret
  exact ⟨rfl, rfl⟩

set_option maxHeartbeats 400000 in
theorem check_some (b off cap : Nat) (ss : List ByteArray) (w : World) (hm : ss.length ≤ maxLen)
    (hc : ∀ i, i < ss.length → w.cell? ⟨b, off + i, none⟩ = some (.string (ss.getD i ByteArray.empty))) :
    Calls Tryd.prog 93 #[.slice (some ⟨b, off, none⟩) ss.length cap] w fun e w' => e = .returned (.int .i64 (chk ss)) ∧ w' = w := by
  unfold maxLen at hm
  have HC := hide hc
  clear hc
  by_cases hmany : 100 < ss.length
  · have H : Hid (chk ss = 2) := chk_many ss hmany
    have hd : decide ((100 : Int) < (ss.length : Int)) = true := by simp; omega
    go_enter Tryd.func93, Tryd.ntmps93
    go_wp2
    go_ret
    exact ⟨ret_int (by rw [H.out]; rfl), rfl⟩
  have hd : decide ((100 : Int) < (ss.length : Int)) = false := by simp; omega
  go_enter Tryd.func93, Tryd.ntmps93
  go_wp2
  go_loop [10] (fun i => ∃ k : Nat, k ≤ ss.length ∧ i = .int .i64 k ∧ (ss.take k).any (fun s => decide (20 < s.size)) = false) (fun i => ss.length - (intOf i).toNat)
  case atStart => exact ⟨0, Nat.zero_le _, rfl, rfl⟩
  case round =>
    obtain ⟨k, hk, rfl, ha⟩ := hrel
    have HA := hide ha
    clear ha
    by_cases hlt : k < ss.length
    · obtain ⟨s, hs⟩ : ∃ s, s = ss.getD k ByteArray.empty := ⟨_, rfl⟩
      have hck := unhide HC k hlt
      rw [← hs] at hck
      have HS := hide hs
      clear hs
      by_cases hl : 20 < s.size
      · have hd2 : decide ((20 : Int) < (s.size : Int)) = true := by simp; omega
        go_wp2
        go_ret
        exact ⟨ret_int (by rw [chk_long ss k hmany hlt (by rw [← unhide HS]; exact hl)]; rfl), rfl⟩
      · have hd2 : decide ((20 : Int) < (s.size : Int)) = false := by simp; omega
        go_wp2
        go_round
        case rel => exact ⟨k + 1, by omega, by go_num, by rw [any_take_succ ss k hlt (unhide HA), ← unhide HS]; simp; omega⟩
        case measure => simp [intOf]; omega
    · have hkl : ss.length = k := by omega
      have H : chk ss = 0 := chk_ok ss hmany (by rw [hkl]; exact unhide HA)
      have HH := hide H
      clear H hkl
      go_wp2
      go_ret
      exact ⟨ret_int (by rw [unhide HH]; rfl), rfl⟩

theorem check_any (v : Value) (ss : List ByteArray) (w : World) (h : Strs w v ss) :
    Calls Tryd.prog 93 #[v] w fun e w' => e = .returned (.int .i64 (chk ss)) ∧ w' = w := by
  obtain ⟨ao, cap, rfl, h1, h2, h3⟩ := h
  rcases h3 with rfl | ⟨b, off, rfl, hc⟩
  · exact check_empty ao cap w
  · exact check_some b off cap ss w (by omega) hc

/-- What chain.CheckEntry says of a list and a number. -/
def chkI (ss : List ByteArray) (i : Int) : Nat := if chk ss ≠ 0 then chk ss else if i < 0 ∨ (ss.length : Int) ≤ i then 5 else 0

set_option maxRecDepth 100000 in
set_option maxHeartbeats 400000 in
theorem checkEntry_any (v : Value) (ss : List ByteArray) (i : Int) (w : World) (hi : -9223372036854775808 ≤ i ∧ i ≤ 9223372036854775807) (h : Strs w v ss) :
    Calls Tryd.prog 104 #[v, .int .i64 i] w fun e w' => e = .returned (.int .i64 (chkI ss i)) ∧ w' = w := by
  have HS := hide h
  have hck := fun wq hs => check_any v ss wq hs
  obtain ⟨hi0, hi1⟩ := hi
  obtain ⟨ao, cap, hv, hl1, hl2, _⟩ := h
  subst hv
  unfold maxLen at hl2
  by_cases hc : chk ss = 0
  · rw [hc] at hck
    by_cases hb : i < 0
    · have HP := hide (show chkI ss i = 5 by unfold chkI; rw [if_neg (by omega), if_pos (.inl hb)])
      rw [unhide HP]
      have hd : decide (i < 0) = true := by simp; omega
      clear hc
      go_enter Tryd.func104, Tryd.ntmps104
      go_wp2_with fail
      refine (hck _ (unhide HS)).mono ?_
      rintro e w1 ⟨rfl, rfl⟩
      go_wp2
      go_ret
      exact ⟨rfl, rfl⟩
    · have hd : decide (i < 0) = false := by simp; omega
      by_cases hb2 : (ss.length : Int) ≤ i
      · have HP := hide (show chkI ss i = 5 by unfold chkI; rw [if_neg (by omega), if_pos (.inr hb2)])
        rw [unhide HP]
        have hd2 : decide ((ss.length : Int) ≤ i) = true := by simp; omega
        clear hc
        go_enter Tryd.func104, Tryd.ntmps104
        go_wp2_with fail
        refine (hck _ (unhide HS)).mono ?_
        rintro e w1 ⟨rfl, rfl⟩
        go_wp2
        go_ret
        exact ⟨rfl, rfl⟩
      · have HP := hide (show chkI ss i = 0 by unfold chkI; rw [if_neg (by omega), if_neg (by omega)])
        rw [unhide HP]
        have hd2 : decide ((ss.length : Int) ≤ i) = false := by simp; omega
        clear hc
        go_enter Tryd.func104, Tryd.ntmps104
        go_wp2_with fail
        refine (hck _ (unhide HS)).mono ?_
        rintro e w1 ⟨rfl, rfl⟩
        go_wp2
        go_ret
        exact ⟨rfl, rfl⟩
  · have hle : chk ss ≤ 2 := by
      unfold chk
      split
      · omega
      · split <;> omega
    have HP := hide (show chkI ss i = chk ss by unfold chkI; rw [if_pos hc])
    rw [unhide HP]
    generalize chk ss = c at hc hle hck ⊢
    have hne : ((c : Int) != 0) = true := by rw [bne_iff_ne]; omega
    go_enter Tryd.func104, Tryd.ntmps104
    go_wp2_with fail
    refine (hck _ (unhide HS)).mono ?_
    rintro e w1 ⟨rfl, rfl⟩
    go_wp2
    go_ret
    exact ⟨rfl, rfl⟩
end Go.Proofs.YtanfolfopalbeaaDoor
