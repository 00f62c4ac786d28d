import Derived.Test.YtanfolfopalbeaaLend
import Derived.BigQuiet
import Derived.Deep.QuietTactic
namespace Go.Proofs.Ytanfolfopalbeaa
open Go.RowKit

set_option maxRecDepth 100000 in
set_option maxHeartbeats 400000 in
theorem WriteOld_any (v : Value) (ss : List ByteArray) (w : World) (h : Strs w v ss) :
    Calls Try.prog 14 #[v] w fun e w' => e = .returned (.tuple #[.string (wrText ss), .int .i64 (chk ss)]) ∧ Below w.heap.size w w' := by
  have HS := hide h
  clear h
  go_enter Try.func14, Try.ntmps14
  go_wp2_with fail
  refine (write_any v ss _ (unhide HS)).mono ?_
  rintro e w1 ⟨rfl, hb⟩
  go_wp2
  go_ret2
  exact ⟨rfl, hb⟩
set_option maxRecDepth 100000 in
set_option maxHeartbeats 400000 in
theorem ReadOld_any (s : ByteArray) (w : World) (hm : s.size ≤ maxLen) :
    Calls Try.prog 17 #[.string s] w fun e w' => ∃ v, e = .returned (.tuple #[v, .int .i64 (rdOld s.data.toList).2.1, .int .i64 (rdOld s.data.toList).2.2]) ∧
      w'.ownsRow w.heap.size 9 1 v (rdOld s.data.toList).1.length (((rdOld s.data.toList).1.map mk).map Value.string) ∧ Below w.heap.size w w' := by
  go_enter Try.func17, Try.ntmps17
  go_wp2_with fail
  refine (read_any s _ hm).mono ?_
  rintro e w1 ⟨v, rfl, hown, hb⟩
  go_wp2
  go_ret3
  exact ⟨v, rfl, hown, hb⟩
set_option maxRecDepth 100000 in
set_option maxHeartbeats 400000 in
theorem same_empty (ao ao' : Option Addr) (cap cap' : Nat) (w : World) :
    Calls Try.prog 19 #[.slice ao 0 cap, .slice ao' 0 cap'] w fun e w' => e = .returned (.bool true) ∧ Below w.heap.size w w' := by
  go_enter Try.func19, Try.ntmps19
  go_wp2
  refine wp_loop_rounds 1 ?_
  rw [rounds_succ]
  go_wp2
  go_ret
  exact ⟨rfl, Below.refl _ _⟩

set_option maxRecDepth 100000 in
set_option maxHeartbeats 400000 in
theorem same_some (b off cap b' off' cap' : Nat) (ss : List ByteArray) (w : World) (hm : ss.length ≤ maxLen)
    (hc : ∀ i, i < ss.length → w.cell? ⟨b, off + i, none⟩ = some (.string (ss.getD i ByteArray.empty))) (hc' : ∀ i, i < ss.length → w.cell? ⟨b', off' + i, none⟩ = some (.string (ss.getD i ByteArray.empty))) :
    Calls Try.prog 19 #[.slice (some ⟨b, off, none⟩) ss.length cap, .slice (some ⟨b', off', none⟩) ss.length cap'] w fun e w' => e = .returned (.bool true) ∧ Below w.heap.size w w' := by
  unfold maxLen at hm
  have HC := hide hc
  have HC' := hide hc'
  clear hc hc'
  have hne : ((ss.length : Int) != (ss.length : Int)) = false := by simp
  go_enter Try.func19, Try.ntmps19
  go_wp2
  go_loopw [5] (fun i wr => ∃ k : Nat, k ≤ ss.length ∧ i = .int .i64 k ∧ Below w.heap.size w wr) (fun i _ => ss.length - (intOf i).toNat)
  case atStart => exact ⟨0, Nat.zero_le _, rfl, Below.refl _ _⟩
  case round =>
    obtain ⟨k, hk, rfl, hbel⟩ := hrel
    by_cases hlt : k < ss.length
    · obtain ⟨s, hs⟩ : ∃ s, s = ss.getD k ByteArray.empty := ⟨_, rfl⟩
      have h1 := unhide HC k hlt
      have h2 := unhide HC' k hlt
      rw [← hs] at h1 h2
      clear hs
      have g1 : wr.cell? ⟨b, off + k, none⟩ = some (.string s) := by rw [hbel.cell (p := ⟨b, off + k, none⟩) (cell_lt h1)]; exact h1
      have g2 : wr.cell? ⟨b', off' + k, none⟩ = some (.string s) := by rw [hbel.cell (p := ⟨b', off' + k, none⟩) (cell_lt h2)]; exact h2
      have hlti : (k : Int) < (ss.length : Int) := by omega
      have hk0 : (0 : Int) ≤ (k : Int) := by omega
      clear h1 h2
      go_wp2
      go_quiet (fail)
      go_wp2
      go_roundw
      case rel => exact ⟨k + 1, by omega, by go_num, below_drewN hbel _⟩
      case measure => simp [intOf]; omega
    · go_wp2
      go_ret
      exact ⟨rfl, hbel⟩
theorem same_any (v v' : Value) (ss : List ByteArray) (w : World) (h : Strs w v ss) (h' : Strs w v' ss) :
    Calls Try.prog 19 #[v, v'] w fun e w' => e = .returned (.bool true) ∧ Below w.heap.size w w' := by
  obtain ⟨ao, cap, rfl, h1, h2, h3⟩ := h
  obtain ⟨ao', cap', rfl, h1', h2', h3'⟩ := h'
  rcases h3 with rfl | ⟨b, off, rfl, hc⟩
  · exact same_empty ao ao' cap cap' w
  · rcases h3' with rfl | ⟨b', off', rfl, hc'⟩
    · exact same_empty _ _ cap cap' w
    · exact same_some b off cap b' off' cap' ss w (Nat.le_trans h1 h2) hc hc'

set_option maxRecDepth 100000 in
set_option maxHeartbeats 400000 in
theorem num_any (n : Int) (w : World) : Calls Try.prog 16 #[.int .i64 n] w fun e w' => e = .returned (.int .i64 n) ∧ w' = w := by
  go_enter Try.func16, Try.ntmps16
  go_wp2
  go_ret
  exact ⟨rfl, rfl⟩

set_option maxRecDepth 100000 in
set_option maxHeartbeats 400000 in
theorem lent_any (x v : Value) (ss : List ByteArray) (w : World) (hx : Strs w x (lentL ss)) (h : Strs w v ss) (hm : ss.length * 16 ≤ 140737488351232) :
    Calls Try.prog 13 #[x, v] w fun e w' => e = .returned (.bool true) ∧ Below w.heap.size w w' := by
  have HX := hide hx
  have HS := hide h
  clear hx h
  go_enter Try.func13, Try.ntmps13
  go_wp2_with fail
  refine (lend_any v ss _ (unhide HS) hm).mono ?_
  rintro e w1 ⟨g, rfl, hown, hb⟩
  have R := hide (strs_of_own hown)
  have S := hide ((unhide HX).below hb (Nat.le_refl _))
  clear hown
  go_wp2_with fail
  refine (same_any _ _ (lentL ss) _ (unhide S) (unhide R)).mono ?_
  rintro e w2 ⟨rfl, hb2⟩
  go_wp2
  go_ret
  exact ⟨rfl, hb.trans (hb2.mono hb.size)⟩

set_option maxRecDepth 100000 in
set_option maxHeartbeats 800000 in
theorem lwrite_any (v : Value) (ss : List ByteArray) (w : World) (h : Strs w v ss) (hm : ss.length * 16 ≤ 140737488351232) :
    Calls Try.prog 5 #[v] w fun e w' => e = .returned (.bool true) ∧ Below w.heap.size w w' := by
  have HS := hide h
  obtain ⟨ao, cap, rfl, h1, h2, h3⟩ := h
  have hcap := h2
  unfold maxLen at hcap
  clear h2 h3
  go_enter Try.func5, Try.ntmps5
  go_wp2_with fail
  refine (lend_any _ ss _ (unhide HS) hm).mono ?_
  rintro e w1 ⟨g, rfl, hown, hb1⟩
  have X1 := hide (strs_of_own hown)
  have S1 := hide ((unhide HS).below hb1 (Nat.le_refl _))
  have F1 := hide (show Strs w1 (.slice (some ⟨g, 0, none⟩) ss.length (ss.length + 2)) ss by
    have := (unhide X1).front ss.length (by omega)
    rw [show (lentL ss).take ss.length = ss from List.take_left' rfl] at this
    exact this)
  clear hown
  go_wp2_with fail
  refine (WriteOld_any _ ss _ (unhide F1)).mono ?_
  rintro e w2 ⟨rfl, hb2⟩
  have hbel2 := hb1.trans (hb2.mono hb1.size)
  have X2 := hide ((unhide X1).below hb2 (Nat.le_refl _))
  have S2 := hide ((unhide S1).below hb2 (Nat.le_refl _))
  generalize hTe : wrText ss = T
  generalize hCe : chk ss = c
  have HTE := hide hTe
  have HCE := hide hCe
  clear X1 S1 F1 hb1 hb2 hTe hCe
  go_wp2_with fail
  refine (rWrite_any _ ss _ (unhide S2)).mono ?_
  rw [unhide HTE, unhide HCE]
  rintro e w3 ⟨rfl, hb3⟩
  have hbel3 := hbel2.trans (hb3.mono hbel2.size)
  have X3 := hide ((unhide X2).below hb3 (Nat.le_refl _))
  have S3 := hide ((unhide S2).below hb3 (Nat.le_refl _))
  clear X2 S2 hb3 hbel2
  go_wp2_with fail
  refine (lent_any _ _ ss _ (unhide X3) (unhide S3) hm).mono ?_
  rintro e w4 ⟨rfl, hb4⟩
  have hbel4 := hbel3.trans (hb4.mono hbel3.size)
  have hTT : (T.toList == T.toList) = true := by simp
  have hcc : ((c : Int) == (c : Int)) = true := by simp
  clear X3 S3 hb4 hbel3
  go_wp2_with fail
  refine (num_any (c : Int) _).mono ?_
  rintro e w5 ⟨rfl, rfl⟩
  go_wp2
  go_ret
  exact ⟨rfl, hbel4⟩
end Go.Proofs.Ytanfolfopalbeaa
