import Derived.Test.YtanfolfopalbeaaDoorKeep
namespace Go.Proofs.YtanfolfopalbeaaDoor
open Go.RowKit

/-- A text cut to what an entry may be. -/
def cut20 (s : ByteArray) : ByteArray := if 20 < s.size then s.extract 0 20 else s
def ents (ss : List ByteArray) (m : Nat) : List ByteArray := (ss.take m).map cut20
theorem cut20_size (s : ByteArray) : (cut20 s).size ≤ 20 := by
  unfold cut20
  split
  · simp; omega
  · omega
theorem ents_succ (ss : List ByteArray) (k : Nat) (hk : k < ss.length) : ents ss (k + 1) = ents ss k ++ [cut20 (ss.getD k ByteArray.empty)] := by
  unfold ents
  rw [List.take_succ_eq_append_getElem hk, List.map_append]
  simp [List.getD, List.getElem?_eq_getElem hk]
theorem ents_length (ss : List ByteArray) (m : Nat) : (ents ss m).length = min m ss.length := by simp [ents]
theorem ents_all (ss : List ByteArray) : ents ss ss.length = ss.map cut20 := by unfold ents; rw [List.take_of_length_le (Nat.le_refl _)]

set_option maxRecDepth 100000 in
set_option maxHeartbeats 400000 in
theorem entries_empty (ao : Option Addr) (cap m : Nat) (w : World) :
    Calls Tryd.prog 18 #[.slice ao 0 cap, .int .i64 m] w fun e w' => e = .returned (.slice none 0 0) ∧ w' = w := by
  go_enter Tryd.func18, Tryd.ntmps18
  go_wp2
  refine wp_loop_rounds 1 ?_
  rw [rounds_succ]
  go_wp2
  go_ret
  exact ⟨rfl, rfl⟩

set_option maxRecDepth 100000 in
set_option maxHeartbeats 800000 in
theorem entries_some (b off cap : Nat) (ss : List ByteArray) (w : World) (hm : ss.length ≤ maxLen)
    (hc : ∀ i, i < ss.length → w.cell? ⟨b, off + i, none⟩ = some (.string (ss.getD i ByteArray.empty))) (hsz : ∀ i, i < ss.length → (ss.getD i ByteArray.empty).size ≤ maxLen) :
    Calls Tryd.prog 18 #[.slice (some ⟨b, off, none⟩) ss.length cap, .int .i64 100] w fun e w' => ∃ v, e = .returned v ∧ w'.ownsRow w.heap.size 9 1 v (ents ss (min 100 ss.length)).length ((ents ss (min 100 ss.length)).map Value.string) ∧ Below w.heap.size w w' := by
  unfold maxLen at hm hsz
  have HC := hide hc
  have HZ := hide hsz
  clear hc hsz
  obtain ⟨i0, hi, hz0, hz1, hz2⟩ := info_parts info_str
  go_enter Tryd.func18, Tryd.ntmps18
  go_wp2
  go_loopw [5, 6] (fun v i wr => ∃ k : Nat, k ≤ ss.length ∧ k ≤ 100 ∧ i = .int .i64 k ∧ wr.ownsRow w.heap.size 9 1 v (ents ss k).length ((ents ss k).map Value.string) ∧ Below w.heap.size w wr) (fun _ i _ => 100 - (intOf i).toNat)
  case atStart => exact ⟨0, Nat.zero_le _, Nat.zero_le _, rfl, World.ownsRow_nil _ _ _ _, Below.refl _ _⟩
  case round =>
    obtain ⟨k, hk, hk1, rfl, hown, hbel⟩ := hrel
    have hszr := hbel.size
    by_cases hlt : k < ss.length
    · by_cases hlt1 : k < 100
      · obtain ⟨s, hs⟩ : ∃ s, s = ss.getD k ByteArray.empty := ⟨_, rfl⟩
        have hck0 := unhide HC k hlt
        have hss := unhide HZ k hlt
        rw [← hs] at hck0 hss
        have HE := hide (ents_succ ss k hlt)
        have HS := hide hs
        clear hs
        have hel : (ents ss k).length = k := by rw [ents_length]; omega
        have hck : wr.cell? ⟨b, off + k, none⟩ = some (.string s) := by rw [hbel.cell (p := ⟨b, off + k, none⟩) (cell_lt hck0)]; exact hck0
        have hd1 : decide ((k : Int) < (ss.length : Int)) = true := by simp; omega
        have hd2 : decide ((k : Int) < 100) = true := by simp; omega
        by_cases hl : 20 < s.size
        · have HCU := hide (show cut20 s = s.extract 0 20 by unfold cut20; rw [if_pos hl])
          have hd3 : decide ((20 : Int) < (s.size : Int)) = true := by simp; omega
          go_wp2_with (at_builtin; go_must (refine wpList_append_own _ rfl (.tmp 28) (.tmp 30) 34 rfl w.heap.size 9 i0 (.string ⟨#[]⟩) 1 16 Tryd.underlying34 hi hz0 hz1 hz2 rfl (by decide) _ _ _ rfl (hown.alloc _) ⟨wr.heap.size, 0, none⟩ 1 1 [.string (s.extract 0 20)] rfl rfl ?c1 ?c2 ?c3 ?c4 ?c5 ?_))
          case c1 => exact cell_one_new _ _ _
          case c2 => intro u hu; simp at hu; subst hu; rfl
          case c3 => unfold maxLen; omega
          case c4 => omega
          case c5 => simp; omega
          intro v3 w3 hown3 hgrow3 _
          have hbel3 : Below w.heap.size w w3 := (hbel.alloc hszr _).grown hgrow3 (by simp; omega) (own_row_ge hown)
          clear hgrow3 hown hbel
          go_wp2
          go_roundw
          case rel => exact ⟨k + 1, by omega, by omega, by go_num, by rw [unhide HE, ← unhide HS, unhide HCU]; simpa [hel] using hown3, hbel3⟩
          case measure => simp [intOf]; omega
        · have HCU := hide (show cut20 s = s by unfold cut20; rw [if_neg hl])
          have hd3 : decide ((20 : Int) < (s.size : Int)) = false := by simp; omega
          go_wp2_with (at_builtin; go_must (refine wpList_append_own _ rfl (.tmp 28) (.tmp 30) 34 rfl w.heap.size 9 i0 (.string ⟨#[]⟩) 1 16 Tryd.underlying34 hi hz0 hz1 hz2 rfl (by decide) _ _ _ rfl (hown.alloc _) ⟨wr.heap.size, 0, none⟩ 1 1 [.string s] rfl rfl ?d1 ?d2 ?d3 ?d4 ?d5 ?_))
          case d1 => exact cell_one_new _ _ _
          case d2 => intro u hu; simp at hu; subst hu; rfl
          case d3 => unfold maxLen; omega
          case d4 => omega
          case d5 => simp; omega
          intro v3 w3 hown3 hgrow3 _
          have hbel3 : Below w.heap.size w w3 := (hbel.alloc hszr _).grown hgrow3 (by simp; omega) (own_row_ge hown)
          clear hgrow3 hown hbel
          go_wp2
          go_roundw
          case rel => exact ⟨k + 1, by omega, by omega, by go_num, by rw [unhide HE, ← unhide HS, unhide HCU]; simpa [hel] using hown3, hbel3⟩
          case measure => simp [intOf]; omega
      · have hke : min 100 ss.length = k := by omega
        have HKE := hide hke
        have hd1 : decide ((k : Int) < (ss.length : Int)) = true := by simp; omega
        have hd2 : decide ((k : Int) < 100) = false := by simp; omega
        clear hke
        go_wp2
        go_ret
        exact ⟨_, rfl, by rw [unhide HKE]; exact hown, hbel⟩
    · have hke : min 100 ss.length = k := by omega
      have HKE := hide hke
      have hd1 : decide ((k : Int) < (ss.length : Int)) = false := by simp; omega
      clear hke
      go_wp2
      go_ret
      exact ⟨_, rfl, by rw [unhide HKE]; exact hown, hbel⟩

theorem entries_any (v : Value) (ss : List ByteArray) (w : World) (h : Strs w v ss) (hsz : ∀ i, i < ss.length → (ss.getD i ByteArray.empty).size ≤ maxLen) :
    Calls Tryd.prog 18 #[v, .int .i64 100] w fun e w' => ∃ v', e = .returned v' ∧ w'.ownsRow w.heap.size 9 1 v' (ents ss (min 100 ss.length)).length ((ents ss (min 100 ss.length)).map Value.string) ∧ Below w.heap.size w w' := by
  obtain ⟨ao, cap, rfl, h1, h2, h3⟩ := h
  rcases h3 with rfl | ⟨b, off, rfl, hc⟩
  · refine (entries_empty ao cap 100 w).mono ?_
    rintro e w' ⟨rfl, rfl⟩
    exact ⟨_, rfl, World.ownsRow_nil _ _ _ _, Below.refl _ _⟩
  · exact entries_some b off cap ss w (Nat.le_trans h1 h2) hc hsz

set_option maxRecDepth 100000 in
set_option maxHeartbeats 400000 in
theorem pick_any (c : Int) (n : Nat) (w : World) (hc : -9223372036854775808 ≤ c ∧ c ≤ 9223372036854775807) (h0 : 0 < n) (hn : n ≤ 1000) :
    Calls Tryd.prog 24 #[.int .i64 c, .int .i64 n] w fun e w' => ∃ k : Nat, k < n ∧ e = .returned (.int .i64 k) ∧ w' = w := by
  obtain ⟨hc0, hc1⟩ := hc
  by_cases hneg : c < 0
  · go_enter Tryd.func24, Tryd.ntmps24
    go_wp2
    go_ret
    refine ⟨((-(c + 1)) % n).toNat, ?_, ret_int ?_, rfl⟩
    · have := Int.emod_nonneg (-(c + 1)) (show (n : Int) ≠ 0 by omega)
      have := Int.emod_lt_of_pos (-(c + 1)) (show (0 : Int) < n by omega)
      omega
    · rw [← Int.neg_tmod, Int.tmod_eq_emod_of_nonneg (by omega)]
      have := Int.emod_nonneg (-(c + 1)) (show (n : Int) ≠ 0 by omega)
      omega
  · go_enter Tryd.func24, Tryd.ntmps24
    go_wp2
    go_ret
    refine ⟨(c % n).toNat, ?_, ret_int ?_, rfl⟩
    · have := Int.emod_nonneg c (show (n : Int) ≠ 0 by omega)
      have := Int.emod_lt_of_pos c (show (0 : Int) < n by omega)
      omega
    · have := Int.emod_nonneg c (show (n : Int) ≠ 0 by omega)
      omega

/-- How many bytes the frames of entries have. -/
def szs (ss : List ByteArray) : Nat := (ss.map fun s => s.size + 3).sum
theorem szs_take_succ (ss : List ByteArray) (k : Nat) (hk : k < ss.length) : szs (ss.take (k + 1)) = szs (ss.take k) + ((ss.getD k ByteArray.empty).size + 3) := by
  unfold szs
  rw [List.take_succ_eq_append_getElem hk, List.map_append, List.sum_append]
  simp [List.getD, List.getElem?_eq_getElem hk]
theorem szs_le (ss : List ByteArray) (h : ∀ s ∈ ss, s.size ≤ 20) : szs ss ≤ 23 * ss.length := by
  induction ss with
  | nil => exact Nat.le_refl _
  | cons a r ih =>
    have h1 := h a (by simp)
    have h2 := ih (fun s hs => h s (by simp [hs]))
    unfold szs at h2 ⊢
    simp only [List.map_cons, List.sum_cons, List.length_cons]
    omega

set_option maxRecDepth 100000 in
set_option maxHeartbeats 400000 in
theorem size_empty (ao : Option Addr) (cap : Nat) (w : World) :
    Calls Tryd.prog 23 #[.slice ao 0 cap] w fun e w' => e = .returned (.int .i64 0) ∧ w' = w := by
  go_enter Tryd.func23, Tryd.ntmps23
  go_wp2
  refine wp_loop_rounds 1 ?_
  rw [rounds_succ]
  go_wp2
  go_ret
  exact ⟨rfl, rfl⟩

set_option maxRecDepth 100000 in
set_option maxHeartbeats 400000 in
theorem size_some (b off cap : Nat) (ss : List ByteArray) (w : World) (hm : ss.length ≤ 100) (hz : ∀ s ∈ ss, s.size ≤ 20)
    (hc : ∀ i, i < ss.length → w.cell? ⟨b, off + i, none⟩ = some (.string (ss.getD i ByteArray.empty))) :
    Calls Tryd.prog 23 #[.slice (some ⟨b, off, none⟩) ss.length cap] w fun e w' => e = .returned (.int .i64 (szs ss)) ∧ w' = w := by
  have HC := hide hc
  have HZ := hide hz
  clear hc hz
  go_enter Tryd.func23, Tryd.ntmps23
  go_wp2
  go_loop [3, 4] (fun n i => ∃ k : Nat, k ≤ ss.length ∧ i = .int .i64 k ∧ n = .int .i64 (szs (ss.take k))) (fun _ i => ss.length - (intOf i).toNat)
  case atStart => exact ⟨0, Nat.zero_le _, rfl, rfl⟩
  case round =>
    obtain ⟨k, hk, rfl, rfl⟩ := hrel
    have hle := szs_le (ss.take k) (fun s hs => unhide HZ s (List.mem_of_mem_take hs))
    rw [List.length_take] at hle
    by_cases hlt : k < ss.length
    · have HS := hide (szs_take_succ ss k hlt)
      obtain ⟨s, hs⟩ : ∃ s, s = ss.getD k ByteArray.empty := ⟨_, rfl⟩
      have hck := unhide HC k hlt
      have hss : (ss.getD k ByteArray.empty).size ≤ 20 := by
        rw [List.getD, List.getElem?_eq_getElem hlt]
        exact unhide HZ _ (List.getElem_mem hlt)
      rw [← hs] at hck hss
      have HE := hide hs
      clear hs
      generalize szs (ss.take k) = z at *
      go_wp2
      go_round
      case rel => exact ⟨k + 1, by omega, by go_num, val_int (by rw [unhide HS, ← unhide HE]; omega)⟩
      case measure => simp [intOf]; omega
    · have hke : ss.take k = ss := List.take_of_length_le (by omega)
      rw [hke]
      clear hke
      go_wp2
      go_ret
      exact ⟨rfl, rfl⟩

theorem size_any (v : Value) (ss : List ByteArray) (w : World) (h : Strs w v ss) (hm : ss.length ≤ 100) (hz : ∀ s ∈ ss, s.size ≤ 20) :
    Calls Tryd.prog 23 #[v] w fun e w' => e = .returned (.int .i64 (szs ss)) ∧ w' = w := by
  obtain ⟨ao, cap, rfl, h1, h2, h3⟩ := h
  rcases h3 with rfl | ⟨b, off, rfl, hc⟩
  · exact size_empty ao cap w
  · exact size_some b off cap ss w hm hz hc

set_option maxRecDepth 100000 in
set_option maxHeartbeats 400000 in
theorem same_empty (ao ao' : Option Addr) (cap cap' : Nat) (w : World) :
    Calls Tryd.prog 21 #[.slice ao 0 cap, .slice ao' 0 cap'] w fun e w' => e = .returned (.bool true) ∧ Below w.heap.size w w' := by
  go_enter Tryd.func21, Tryd.ntmps21
  go_wp2
  refine wp_loop_rounds 1 ?_
  rw [rounds_succ]
  go_wp2
  go_ret
  exact ⟨rfl, Below.refl _ _⟩

set_option maxRecDepth 100000 in
set_option maxHeartbeats 400000 in
theorem same_some (b off cap b' off' cap' : Nat) (ss : List ByteArray) (w : World) (hm : ss.length ≤ maxLen)
    (hc : ∀ i, i < ss.length → w.cell? ⟨b, off + i, none⟩ = some (.string (ss.getD i ByteArray.empty))) (hc' : ∀ i, i < ss.length → w.cell? ⟨b', off' + i, none⟩ = some (.string (ss.getD i ByteArray.empty))) :
    Calls Tryd.prog 21 #[.slice (some ⟨b, off, none⟩) ss.length cap, .slice (some ⟨b', off', none⟩) ss.length cap'] w fun e w' => e = .returned (.bool true) ∧ Below w.heap.size w w' := by
  unfold maxLen at hm
  have HC := hide hc
  have HC' := hide hc'
  clear hc hc'
  have hne : ((ss.length : Int) != (ss.length : Int)) = false := by simp
  go_enter Tryd.func21, Tryd.ntmps21
  go_wp2
  go_loopw [5] (fun i wr => ∃ k : Nat, k ≤ ss.length ∧ i = .int .i64 k ∧ Below w.heap.size w wr) (fun i _ => ss.length - (intOf i).toNat)
  case atStart => exact ⟨0, Nat.zero_le _, rfl, Below.refl _ _⟩
  case round =>
    obtain ⟨k, hk, rfl, hbel⟩ := hrel
    by_cases hlt : k < ss.length
    · obtain ⟨s, hs⟩ : ∃ s, s = ss.getD k ByteArray.empty := ⟨_, rfl⟩
      have h1 := unhide HC k hlt
      have h2 := unhide HC' k hlt
      rw [← hs] at h1 h2
      clear hs
      have g1 : wr.cell? ⟨b, off + k, none⟩ = some (.string s) := by rw [hbel.cell (p := ⟨b, off + k, none⟩) (cell_lt h1)]; exact h1
      have g2 : wr.cell? ⟨b', off' + k, none⟩ = some (.string s) := by rw [hbel.cell (p := ⟨b', off' + k, none⟩) (cell_lt h2)]; exact h2
      have hlti : (k : Int) < (ss.length : Int) := by omega
      have hk0 : (0 : Int) ≤ (k : Int) := by omega
      clear h1 h2
      go_wp2
      go_quiet (fail)
      go_wp2
      go_roundw
      case rel => exact ⟨k + 1, by omega, by go_num, below_drewN hbel _⟩
      case measure => simp [intOf]; omega
    · go_wp2
      go_ret
      exact ⟨rfl, hbel⟩
theorem same_any (v v' : Value) (ss : List ByteArray) (w : World) (h : Strs w v ss) (h' : Strs w v' ss) :
    Calls Tryd.prog 21 #[v, v'] w fun e w' => e = .returned (.bool true) ∧ Below w.heap.size w w' := by
  obtain ⟨ao, cap, rfl, h1, h2, h3⟩ := h
  obtain ⟨ao', cap', rfl, h1', h2', h3'⟩ := h'
  rcases h3 with rfl | ⟨b, off, rfl, hc⟩
  · exact same_empty ao ao' cap cap' w
  · rcases h3' with rfl | ⟨b', off', rfl, hc'⟩
    · exact same_empty _ _ cap cap' w
    · exact same_some b off cap b' off' cap' ss w (Nat.le_trans h1 h2) hc hc'
end Go.Proofs.YtanfolfopalbeaaDoor
