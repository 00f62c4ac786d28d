/- Prove, and how long a path is: the contracts. -/
import Derived.Test.YtanfolfopalbeaaDoorTreePath
namespace Go.Proofs.YtanfolfopalbeaaDoor
open Go.RowKit

/-- What Prove answers: the path and the error. -/
def proveR (ss : List ByteArray) (i : Int) : List (List UInt8) × Nat :=
  if chk ss ≠ 0 then ([], chk ss) else if i < 0 ∨ (ss.length : Int) ≤ i then ([], 5) else (pathL ss i.toNat, 0)
theorem proveR_le (ss : List ByteArray) (i : Int) : (proveR ss i).2 ≤ 5 := by
  unfold proveR
  split
  · exact Nat.le_trans (chk_le ss) (by decide)
  · split
    · exact Nat.le_refl _
    · exact Nat.zero_le _
theorem proveR_elem (ss : List ByteArray) (i : Int) : ∀ d ∈ (proveR ss i).1, d.length = 32 := by
  unfold proveR
  split
  · intro d h; cases h
  · split
    · intro d h; cases h
    · exact pathL_elem ss.length ss i.toNat (Nat.le_refl _)

set_option maxRecDepth 100000 in
set_option maxHeartbeats 800000 in
theorem treeProve_any (v : Value) (ss : List ByteArray) (i : Int) (w : World) (hi : -9223372036854775808 ≤ i ∧ i ≤ 9223372036854775807) (h : Strs w v ss) (hT : Tabs w) :
    Calls Tryd.prog 68 #[v, .int .i64 i] w fun e w' => ∃ v', e = .returned (.tuple #[v', .int .i64 (proveR ss i).2]) ∧ w'.ownsRow w.heap.size 31 32 v' (proveR ss i).1.length (dcells (proveR ss i).1) ∧ Below w.heap.size w w' := by
  have HS := hide h
  have HT := hide hT
  have hck := fun wq hs => checkEntry_any v ss i wq hi hs
  obtain ⟨hi0, hi1⟩ := hi
  obtain ⟨ao, cap, hv, hl1, hl2, _⟩ := h
  subst hv
  clear hT
  by_cases hc : chkI ss i = 0
  · have hc2 := hc
    unfold chkI at hc2
    have hc3 : chk ss = 0 := by
      by_cases h0 : chk ss = 0
      · exact h0
      · rw [if_pos h0] at hc2; exact absurd hc2 h0
    have hb : ¬ (i < 0 ∨ (ss.length : Int) ≤ i) := by
      intro hb
      rw [if_neg (by omega), if_pos hb] at hc2
      omega
    obtain ⟨hl, hz⟩ := chk_inv ss hc3
    rw [hc] at hck
    have HP := hide (show proveR ss i = (pathL ss i.toNat, 0) by unfold proveR; rw [if_neg (by omega), if_neg hb])
    rw [unhide HP]
    obtain ⟨j, rfl⟩ : ∃ j : Nat, i = (j : Int) := ⟨i.toNat, by omega⟩
    have hjl : j < ss.length := by omega
    have hrt := fun wq hs ht => pathOf_any ss.length (.slice ao ss.length cap) ss j wq (Nat.le_refl _) hl hjl hz hs ht
    rw [Int.toNat_natCast]
    generalize pathL ss j = p at hrt ⊢
    clear hz hc hc2 hc3 HP hb
    go_enter Tryd.func68, Tryd.ntmps68
    go_wp2_with fail
    refine (hck _ (unhide HS)).mono ?_
    rintro e w1 ⟨rfl, rfl⟩
    go_wp2_with fail
    refine (hrt _ (unhide HS) (unhide HT)).mono ?_
    rintro e w2 ⟨v2, rfl, hown2, hb2⟩
    go_wp2
    go_ret2
    exact ⟨_, rfl, hown2, hb2⟩
  · have HP := hide (show proveR ss i = ([], chkI ss i) by
      unfold proveR chkI
      unfold chkI at hc
      by_cases h0 : chk ss = 0
      · rw [if_neg (by omega)] at hc ⊢
        by_cases hb : i < 0 ∨ (ss.length : Int) ≤ i
        · rw [if_pos hb]; rw [if_neg (by omega), if_pos hb]
        · rw [if_neg hb] at hc; exact absurd rfl hc
      · rw [if_pos h0, if_pos h0])
    have hle : chkI ss i ≤ 5 := by
      unfold chkI
      have := chk_le ss
      split
      · omega
      · split <;> omega
    rw [unhide HP]
    generalize chkI ss i = c at hc hle hck ⊢
    have hne : ((c : Int) != 0) = true := by rw [bne_iff_ne]; omega
    go_enter Tryd.func68, Tryd.ntmps68
    go_wp2_with fail
    refine (hck _ (unhide HS)).mono ?_
    rintro e w1 ⟨rfl, rfl⟩
    go_wp2
    go_ret2
    exact ⟨_, rfl, World.ownsRow_nil _ _ _ _, Below.refl _ _⟩

set_option maxRecDepth 100000 in
set_option maxHeartbeats 800000 in
theorem Prove_any (v : Value) (ss : List ByteArray) (i : Int) (w : World) (hi : -9223372036854775808 ≤ i ∧ i ≤ 9223372036854775807) (h : Strs w v ss) (hT : Tabs w) :
    Calls Tryd.prog 33 #[v, .int .i64 i] w fun e w' => ∃ v', e = .returned (.tuple #[v', .int .i64 (proveR ss i).2]) ∧ w'.ownsRow w.heap.size 31 32 v' (proveR ss i).1.length (dcells (proveR ss i).1) ∧ Below w.heap.size w w' := by
  have HS := hide h
  have HT := hide hT
  have hrt := fun wq hs ht => treeProve_any v ss i wq hi hs ht
  generalize proveR ss i = r at hrt ⊢
  obtain ⟨p, c⟩ := r
  simp only at hrt ⊢
  clear h hT
  go_enter Tryd.func33, Tryd.ntmps33
  go_wp2_with fail
  refine (hrt _ (unhide HS) (unhide HT)).mono ?_
  rintro e w2 ⟨v2, rfl, hown2, hb2⟩
  go_wp2
  go_ret2
  exact ⟨_, rfl, hown2, hb2⟩

/-- How long a path is. -/
theorem plen_step (n i : Nat) (h : 2 ≤ n) : plen n i = plen (if i < half n then half n else n - half n) (if i < half n then i else i - half n) + 1 := by
  by_cases hi : i < half n
  · rw [plen_left n i h hi, if_pos hi, if_pos hi]
  · rw [plen_right n i h hi, if_neg hi, if_neg hi]
set_option maxRecDepth 100000 in
set_option maxHeartbeats 800000 in
theorem pathLength_any (n i : Nat) (w : World) (hn : n ≤ 1073741824) (hin : i < n) :
    Calls Tryd.prog 100 #[.int .i64 n, .int .i64 i] w fun e w' => e = .returned (.int .i64 (plen n i)) ∧ w' = w := by
  have hpl := path_small 30 n i (by omega)
  generalize hP : plen n i = P at hpl ⊢
  go_enter Tryd.func100, Tryd.ntmps100
  go_wp2
  go_loop [0, 1, 5] (fun vn vi vl => ∃ n' i' l' : Nat, n' ≤ n ∧ i' < n' ∧ l' + plen n' i' = P ∧ vn = .int .i64 n' ∧ vi = .int .i64 i' ∧ vl = .int .i64 l') (fun vn _ _ => (intOf vn).toNat)
  case atStart => exact ⟨n, i, 0, Nat.le_refl _, hin, by omega, rfl, rfl, rfl⟩
  case round =>
    obtain ⟨n', i', l', hn', hi', hl', rfl, rfl, rfl⟩ := hrel
    by_cases h2 : 1 < n'
    · have hd : decide ((1 : Int) < (n' : Int)) = true := by simp; omega
      have hF := fun wq => first_any n' wq (by omega)
      have hh1 := half_lt n' (by omega)
      have hh2 := half_pos n'
      have hst := plen_step n' i' (by omega)
      generalize half n' = m at hF hh1 hh2 hst
      have HST := hide hst
      have HL := hide hl'
      have hl2 : l' < 31 := by omega
      clear hst hl'
      by_cases hlt : i' < m
      · have hd2 : decide ((i' : Int) < (m : Int)) = true := by simp; omega
        go_wp2_with (go_at_call 120; refine (hF _).mono ?_; rintro e w1 ⟨rfl, he⟩; cases he)
        go_round
        case rel =>
          have h1 := unhide HST
          rw [if_pos hlt, if_pos hlt] at h1
          have h3 := unhide HL
          exact ⟨m, i', l' + 1, by omega, hlt, by omega, rfl, rfl, by go_num⟩
        case measure => simp [intOf]; omega
      · have hd2 : decide ((i' : Int) < (m : Int)) = false := by simp; omega
        go_wp2_with (go_at_call 120; refine (hF _).mono ?_; rintro e w1 ⟨rfl, he⟩; cases he)
        go_round
        case rel =>
          have h1 := unhide HST
          rw [if_neg hlt, if_neg hlt] at h1
          have h3 := unhide HL
          exact ⟨n' - m, i' - m, l' + 1, by omega, by omega, by omega, val_int (by omega), val_int (by omega), by go_num⟩
        case measure => simp [intOf]; omega
    · have hd : decide ((1 : Int) < (n' : Int)) = false := by simp; omega
      rw [plen_one n' i' (by omega)] at hl'
      go_wp2
      go_ret
      exact ⟨ret_int (by omega), rfl⟩
end Go.Proofs.YtanfolfopalbeaaDoor
