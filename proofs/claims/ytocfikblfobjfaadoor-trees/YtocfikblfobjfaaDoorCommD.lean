/- '==' of digests; loads of whole rows. -/
import Derived.Test.YtocfikblfobjfaaDoorCommB
import Derived.ChangeKeysEq
import Derived.Laws.StructEq
namespace Go.Proofs.YtocfikblfobjfaaDoor
open Go.RowKit

/-- A text cut to what an entry may be. -/
def cut20 (s : ByteArray) : ByteArray := if 20 < s.size then s.extract 0 20 else s
def ents (ss : List ByteArray) (m : Nat) : List ByteArray := (ss.take m).map cut20
theorem cut20_size (s : ByteArray) : (cut20 s).size ≤ 20 := by
  unfold cut20
  split
  · simp; omega
  · omega
theorem ents_succ (ss : List ByteArray) (k : Nat) (hk : k < ss.length) : ents ss (k + 1) = ents ss k ++ [cut20 (ss.getD k ByteArray.empty)] := by
  unfold ents
  rw [List.take_succ_eq_append_getElem hk, List.map_append]
  simp [List.getD, List.getElem?_eq_getElem hk]
theorem ents_length (ss : List ByteArray) (m : Nat) : (ents ss m).length = min m ss.length := by simp [ents]
theorem ents_all (ss : List ByteArray) : ents ss ss.length = ss.map cut20 := by unfold ents; rw [List.take_of_length_le (Nat.le_refl _)]

set_option maxRecDepth 100000 in
set_option maxHeartbeats 400000 in
theorem entries_empty (ao : Option Addr) (cap m : Nat) (w : World) :
    Calls Tryd.prog 14 #[.slice ao 0 cap, .int .i64 m] w fun e w' => e = .returned (.slice none 0 0) ∧ w' = w := by
  go_enter Tryd.func14, Tryd.ntmps14
  go_wp2
  refine wp_loop_rounds 1 ?_
  rw [rounds_succ]
  go_wp2
  go_ret
  exact ⟨rfl, rfl⟩

set_option maxRecDepth 100000 in
set_option maxHeartbeats 800000 in
theorem entries_some (b off cap : Nat) (ss : List ByteArray) (w : World) (hm : ss.length ≤ maxLen)
    (hc : ∀ i, i < ss.length → w.cell? ⟨b, off + i, none⟩ = some (.string (ss.getD i ByteArray.empty))) (hsz : ∀ i, i < ss.length → (ss.getD i ByteArray.empty).size ≤ maxLen) :
    Calls Tryd.prog 14 #[.slice (some ⟨b, off, none⟩) ss.length cap, .int .i64 100] w fun e w' => ∃ v, e = .returned v ∧ w'.ownsRow w.heap.size 9 1 v (ents ss (min 100 ss.length)).length ((ents ss (min 100 ss.length)).map Value.string) ∧ Below w.heap.size w w' := by
  unfold maxLen at hm hsz
  have HC := hide hc
  have HZ := hide hsz
  clear hc hsz
  obtain ⟨i0, hi, hz0, hz1, hz2⟩ := info_parts info_str
  go_enter Tryd.func14, Tryd.ntmps14
  go_wp2
  go_loopw [5, 6] (fun v i wr => ∃ k : Nat, k ≤ ss.length ∧ k ≤ 100 ∧ i = .int .i64 k ∧ wr.ownsRow w.heap.size 9 1 v (ents ss k).length ((ents ss k).map Value.string) ∧ Below w.heap.size w wr) (fun _ i _ => 100 - (intOf i).toNat)
  case atStart => exact ⟨0, Nat.zero_le _, Nat.zero_le _, rfl, World.ownsRow_nil _ _ _ _, Below.refl _ _⟩
  case round =>
    obtain ⟨k, hk, hk1, rfl, hown, hbel⟩ := hrel
    have hszr := hbel.size
    by_cases hlt : k < ss.length
    · by_cases hlt1 : k < 100
      · obtain ⟨s, hs⟩ : ∃ s, s = ss.getD k ByteArray.empty := ⟨_, rfl⟩
        have hck0 := unhide HC k hlt
        have hss := unhide HZ k hlt
        rw [← hs] at hck0 hss
        have HE := hide (ents_succ ss k hlt)
        have HS := hide hs
        clear hs
        have hel : (ents ss k).length = k := by rw [ents_length]; omega
        have hck : wr.cell? ⟨b, off + k, none⟩ = some (.string s) := by rw [hbel.cell (p := ⟨b, off + k, none⟩) (cell_lt hck0)]; exact hck0
        have hd1 : decide ((k : Int) < (ss.length : Int)) = true := by simp; omega
        have hd2 : decide ((k : Int) < 100) = true := by simp; omega
        by_cases hl : 20 < s.size
        · have HCU := hide (show cut20 s = s.extract 0 20 by unfold cut20; rw [if_pos hl])
          have hd3 : decide ((20 : Int) < (s.size : Int)) = true := by simp; omega
          go_wp2_with (at_builtin; go_must (refine wpList_append_own _ rfl (.tmp 28) (.tmp 30) 34 rfl w.heap.size 9 i0 (.string ⟨#[]⟩) 1 16 Tryd.underlying34 hi hz0 hz1 hz2 rfl (by decide) _ _ _ rfl (hown.alloc _) ⟨wr.heap.size, 0, none⟩ 1 1 [.string (s.extract 0 20)] rfl rfl ?c1 ?c2 ?c3 ?c4 ?c5 ?_))
          case c1 => exact cell_one_new _ _ _
          case c2 => intro u hu; simp at hu; subst hu; rfl
          case c3 => unfold maxLen; omega
          case c4 => omega
          case c5 => simp; omega
          intro v3 w3 hown3 hgrow3 _
          have hbel3 : Below w.heap.size w w3 := (hbel.alloc hszr _).grown hgrow3 (by simp; omega) (own_row_ge hown)
          clear hgrow3 hown hbel
          go_wp2
          go_roundw
          case rel => exact ⟨k + 1, by omega, by omega, by go_num, by rw [unhide HE, ← unhide HS, unhide HCU]; simpa [hel] using hown3, hbel3⟩
          case measure => simp [intOf]; omega
        · have HCU := hide (show cut20 s = s by unfold cut20; rw [if_neg hl])
          have hd3 : decide ((20 : Int) < (s.size : Int)) = false := by simp; omega
          go_wp2_with (at_builtin; go_must (refine wpList_append_own _ rfl (.tmp 28) (.tmp 30) 34 rfl w.heap.size 9 i0 (.string ⟨#[]⟩) 1 16 Tryd.underlying34 hi hz0 hz1 hz2 rfl (by decide) _ _ _ rfl (hown.alloc _) ⟨wr.heap.size, 0, none⟩ 1 1 [.string s] rfl rfl ?d1 ?d2 ?d3 ?d4 ?d5 ?_))
          case d1 => exact cell_one_new _ _ _
          case d2 => intro u hu; simp at hu; subst hu; rfl
          case d3 => unfold maxLen; omega
          case d4 => omega
          case d5 => simp; omega
          intro v3 w3 hown3 hgrow3 _
          have hbel3 : Below w.heap.size w w3 := (hbel.alloc hszr _).grown hgrow3 (by simp; omega) (own_row_ge hown)
          clear hgrow3 hown hbel
          go_wp2
          go_roundw
          case rel => exact ⟨k + 1, by omega, by omega, by go_num, by rw [unhide HE, ← unhide HS, unhide HCU]; simpa [hel] using hown3, hbel3⟩
          case measure => simp [intOf]; omega
      · have hke : min 100 ss.length = k := by omega
        have HKE := hide hke
        have hd1 : decide ((k : Int) < (ss.length : Int)) = true := by simp; omega
        have hd2 : decide ((k : Int) < 100) = false := by simp; omega
        clear hke
        go_wp2
        go_ret
        exact ⟨_, rfl, by rw [unhide HKE]; exact hown, hbel⟩
    · have hke : min 100 ss.length = k := by omega
      have HKE := hide hke
      have hd1 : decide ((k : Int) < (ss.length : Int)) = false := by simp; omega
      clear hke
      go_wp2
      go_ret
      exact ⟨_, rfl, by rw [unhide HKE]; exact hown, hbel⟩

theorem entries_any (v : Value) (ss : List ByteArray) (w : World) (h : Strs w v ss) (hsz : ∀ i, i < ss.length → (ss.getD i ByteArray.empty).size ≤ maxLen) :
    Calls Tryd.prog 14 #[v, .int .i64 100] w fun e w' => ∃ v', e = .returned v' ∧ w'.ownsRow w.heap.size 9 1 v' (ents ss (min 100 ss.length)).length ((ents ss (min 100 ss.length)).map Value.string) ∧ Below w.heap.size w w' := by
  obtain ⟨ao, cap, rfl, h1, h2, h3⟩ := h
  rcases h3 with rfl | ⟨b, off, rfl, hc⟩
  · refine (entries_empty ao cap 100 w).mono ?_
    rintro e w' ⟨rfl, rfl⟩
    exact ⟨_, rfl, World.ownsRow_nil _ _ _ _, Below.refl _ _⟩
  · exact entries_some b off cap ss w (Nat.le_trans h1 h2) hc hsz

set_option maxRecDepth 100000 in
set_option maxHeartbeats 400000 in
theorem pick_any (c : Int) (n : Nat) (w : World) (hc : -9223372036854775808 ≤ c ∧ c ≤ 9223372036854775807) (h0 : 0 < n) (hn : n ≤ 1000) :
    Calls Tryd.prog 20 #[.int .i64 c, .int .i64 n] w fun e w' => ∃ k : Nat, k < n ∧ e = .returned (.int .i64 k) ∧ w' = w := by
  obtain ⟨hc0, hc1⟩ := hc
  by_cases hneg : c < 0
  · go_enter Tryd.func20, Tryd.ntmps20
    go_wp2
    go_ret
    refine ⟨((-(c + 1)) % n).toNat, ?_, ret_int ?_, rfl⟩
    · have := Int.emod_nonneg (-(c + 1)) (show (n : Int) ≠ 0 by omega)
      have := Int.emod_lt_of_pos (-(c + 1)) (show (0 : Int) < n by omega)
      omega
    · rw [← Int.neg_tmod, Int.tmod_eq_emod_of_nonneg (by omega)]
      have := Int.emod_nonneg (-(c + 1)) (show (n : Int) ≠ 0 by omega)
      omega
  · go_enter Tryd.func20, Tryd.ntmps20
    go_wp2
    go_ret
    refine ⟨(c % n).toNat, ?_, ret_int ?_, rfl⟩
    · have := Int.emod_nonneg c (show (n : Int) ≠ 0 by omega)
      have := Int.emod_lt_of_pos c (show (0 : Int) < n by omega)
      omega
    · have := Int.emod_nonneg c (show (n : Int) ≠ 0 by omega)
      omega

/-- How many bytes the frames of entries have. -/
def szs (ss : List ByteArray) : Nat := (ss.map fun s => s.size + 3).sum
theorem szs_take_succ (ss : List ByteArray) (k : Nat) (hk : k < ss.length) : szs (ss.take (k + 1)) = szs (ss.take k) + ((ss.getD k ByteArray.empty).size + 3) := by
  unfold szs
  rw [List.take_succ_eq_append_getElem hk, List.map_append, List.sum_append]
  simp [List.getD, List.getElem?_eq_getElem hk]
theorem szs_le (ss : List ByteArray) (h : ∀ s ∈ ss, s.size ≤ 20) : szs ss ≤ 23 * ss.length := by
  induction ss with
  | nil => exact Nat.le_refl _
  | cons a r ih =>
    have h1 := h a (by simp)
    have h2 := ih (fun s hs => h s (by simp [hs]))
    unfold szs at h2 ⊢
    simp only [List.map_cons, List.sum_cons, List.length_cons]
    omega

set_option maxRecDepth 100000 in
set_option maxHeartbeats 400000 in
theorem size_empty (ao : Option Addr) (cap : Nat) (w : World) :
    Calls Tryd.prog 19 #[.slice ao 0 cap] w fun e w' => e = .returned (.int .i64 0) ∧ w' = w := by
  go_enter Tryd.func19, Tryd.ntmps19
  go_wp2
  refine wp_loop_rounds 1 ?_
  rw [rounds_succ]
  go_wp2
  go_ret
  exact ⟨rfl, rfl⟩

set_option maxRecDepth 100000 in
set_option maxHeartbeats 400000 in
theorem size_some (b off cap : Nat) (ss : List ByteArray) (w : World) (hm : ss.length ≤ 100) (hz : ∀ s ∈ ss, s.size ≤ 20)
    (hc : ∀ i, i < ss.length → w.cell? ⟨b, off + i, none⟩ = some (.string (ss.getD i ByteArray.empty))) :
    Calls Tryd.prog 19 #[.slice (some ⟨b, off, none⟩) ss.length cap] w fun e w' => e = .returned (.int .i64 (szs ss)) ∧ w' = w := by
  have HC := hide hc
  have HZ := hide hz
  clear hc hz
  go_enter Tryd.func19, Tryd.ntmps19
  go_wp2
  go_loop [3, 4] (fun n i => ∃ k : Nat, k ≤ ss.length ∧ i = .int .i64 k ∧ n = .int .i64 (szs (ss.take k))) (fun _ i => ss.length - (intOf i).toNat)
  case atStart => exact ⟨0, Nat.zero_le _, rfl, rfl⟩
  case round =>
    obtain ⟨k, hk, rfl, rfl⟩ := hrel
    have hle := szs_le (ss.take k) (fun s hs => unhide HZ s (List.mem_of_mem_take hs))
    rw [List.length_take] at hle
    by_cases hlt : k < ss.length
    · have HS := hide (szs_take_succ ss k hlt)
      obtain ⟨s, hs⟩ : ∃ s, s = ss.getD k ByteArray.empty := ⟨_, rfl⟩
      have hck := unhide HC k hlt
      have hss : (ss.getD k ByteArray.empty).size ≤ 20 := by
        rw [List.getD, List.getElem?_eq_getElem hlt]
        exact unhide HZ _ (List.getElem_mem hlt)
      rw [← hs] at hck hss
      have HE := hide hs
      clear hs
      generalize szs (ss.take k) = z at *
      go_wp2
      go_round
      case rel => exact ⟨k + 1, by omega, by go_num, val_int (by rw [unhide HS, ← unhide HE]; omega)⟩
      case measure => simp [intOf]; omega
    · have hke : ss.take k = ss := List.take_of_length_le (by omega)
      rw [hke]
      clear hke
      go_wp2
      go_ret
      exact ⟨rfl, rfl⟩

theorem size_any (v : Value) (ss : List ByteArray) (w : World) (h : Strs w v ss) (hm : ss.length ≤ 100) (hz : ∀ s ∈ ss, s.size ≤ 20) :
    Calls Tryd.prog 19 #[v] w fun e w' => e = .returned (.int .i64 (szs ss)) ∧ w' = w := by
  obtain ⟨ao, cap, rfl, h1, h2, h3⟩ := h
  rcases h3 with rfl | ⟨b, off, rfl, hc⟩
  · exact size_empty ao cap w
  · exact size_some b off cap ss w hm hz hc

set_option maxRecDepth 100000 in
set_option maxHeartbeats 400000 in
theorem same_empty (ao ao' : Option Addr) (cap cap' : Nat) (w : World) :
    Calls Tryd.prog 17 #[.slice ao 0 cap, .slice ao' 0 cap'] w fun e w' => e = .returned (.bool true) ∧ Below w.heap.size w w' := by
  go_enter Tryd.func17, Tryd.ntmps17
  go_wp2
  refine wp_loop_rounds 1 ?_
  rw [rounds_succ]
  go_wp2
  go_ret
  exact ⟨rfl, Below.refl _ _⟩

set_option maxRecDepth 100000 in
set_option maxHeartbeats 400000 in
theorem same_some (b off cap b' off' cap' : Nat) (ss : List ByteArray) (w : World) (hm : ss.length ≤ maxLen)
    (hc : ∀ i, i < ss.length → w.cell? ⟨b, off + i, none⟩ = some (.string (ss.getD i ByteArray.empty))) (hc' : ∀ i, i < ss.length → w.cell? ⟨b', off' + i, none⟩ = some (.string (ss.getD i ByteArray.empty))) :
    Calls Tryd.prog 17 #[.slice (some ⟨b, off, none⟩) ss.length cap, .slice (some ⟨b', off', none⟩) ss.length cap'] w fun e w' => e = .returned (.bool true) ∧ Below w.heap.size w w' := by
  unfold maxLen at hm
  have HC := hide hc
  have HC' := hide hc'
  clear hc hc'
  have hne : ((ss.length : Int) != (ss.length : Int)) = false := by simp
  go_enter Tryd.func17, Tryd.ntmps17
  go_wp2
  go_loopw [5] (fun i wr => ∃ k : Nat, k ≤ ss.length ∧ i = .int .i64 k ∧ Below w.heap.size w wr) (fun i _ => ss.length - (intOf i).toNat)
  case atStart => exact ⟨0, Nat.zero_le _, rfl, Below.refl _ _⟩
  case round =>
    obtain ⟨k, hk, rfl, hbel⟩ := hrel
    by_cases hlt : k < ss.length
    · obtain ⟨s, hs⟩ : ∃ s, s = ss.getD k ByteArray.empty := ⟨_, rfl⟩
      have h1 := unhide HC k hlt
      have h2 := unhide HC' k hlt
      rw [← hs] at h1 h2
      clear hs
      have g1 : wr.cell? ⟨b, off + k, none⟩ = some (.string s) := by rw [hbel.cell (p := ⟨b, off + k, none⟩) (cell_lt h1)]; exact h1
      have g2 : wr.cell? ⟨b', off' + k, none⟩ = some (.string s) := by rw [hbel.cell (p := ⟨b', off' + k, none⟩) (cell_lt h2)]; exact h2
      have hlti : (k : Int) < (ss.length : Int) := by omega
      have hk0 : (0 : Int) ≤ (k : Int) := by omega
      clear h1 h2
      go_wp2
      go_quiet (fail)
      go_wp2
      go_roundw
      case rel => exact ⟨k + 1, by omega, by go_num, below_drewN hbel _⟩
      case measure => simp [intOf]; omega
    · go_wp2
      go_ret
      exact ⟨rfl, hbel⟩
theorem same_any (v v' : Value) (ss : List ByteArray) (w : World) (h : Strs w v ss) (h' : Strs w v' ss) :
    Calls Tryd.prog 17 #[v, v'] w fun e w' => e = .returned (.bool true) ∧ Below w.heap.size w w' := by
  obtain ⟨ao, cap, rfl, h1, h2, h3⟩ := h
  obtain ⟨ao', cap', rfl, h1', h2', h3'⟩ := h'
  rcases h3 with rfl | ⟨b, off, rfl, hc⟩
  · exact same_empty ao ao' cap cap' w
  · rcases h3' with rfl | ⟨b', off', rfl, hc'⟩
    · exact same_empty _ _ cap cap' w
    · exact same_some b off cap b' off' cap' ss w (Nat.le_trans h1 h2) hc hc'
end Go.Proofs.YtocfikblfobjfaaDoor
namespace Go.Proofs.YtocfikblfobjfaaDoor
open Go.RowKit

/-- A frame but for its last byte. -/
def fb (v : Nat) (e : List UInt8) : List UInt8 := UInt8.ofNat e.length :: (e ++ [UInt8.ofNat (lnk v e / 256)])
def lo (v : Nat) (e : List UInt8) : UInt8 := UInt8.ofNat (lnk v e % 256)
theorem frm_split (v : Nat) (e : List UInt8) : frm v e = fb v e ++ [lo v e] := by simp [frm, fb, lo, two]
theorem fb_length (v : Nat) (e : List UInt8) : (fb v e).length = e.length + 2 := by simp [fb]
theorem ofNat_toNat (n : Nat) (h : n ≤ 20) : (UInt8.ofNat n).toNat = n := by rw [UInt8.toNat_ofNat']; omega

theorem rf_ok (v : Nat) (e r : List UInt8) (h : e.length ≤ 20) : rfErr (frm v e ++ r) v = 0 ∧ rfEnt (frm v e ++ r) v = e ∧ rfLnk (frm v e ++ r) v = lnk v e := by
  have hn := ofNat_toNat e.length h
  have e1 : frm v e ++ r = UInt8.ofNat e.length :: (e ++ (two (lnk v e) ++ r)) := by simp [frm]
  have he : rfErr (frm v e ++ r) v = 0 := by
    rw [e1]
    simp only [rfErr]
    rw [hn, if_neg (by rw [List.length_append, List.length_append, two_length]; omega), if_pos]
    rw [List.drop_left, List.take_left, List.take_left' (two_length _)]
  have hE : rfEnt (frm v e ++ r) v = e := by
    unfold rfEnt
    rw [if_pos he, e1]
    simp only [List.drop_succ_cons, List.drop_zero, List.headD_cons]
    rw [hn, List.take_left]
  refine ⟨he, hE, ?_⟩
  unfold rfLnk
  rw [if_pos he, hE]
theorem rf_badlink (v : Nat) (e r : List UInt8) (b : UInt8) (h : e.length ≤ 20) (hb : b ≠ lo v e) : rfErr (fb v e ++ [b] ++ r) v = 4 := by
  have hn := ofNat_toNat e.length h
  have e1 : fb v e ++ [b] ++ r = UInt8.ofNat e.length :: (e ++ ([UInt8.ofNat (lnk v e / 256), b] ++ r)) := by simp [fb]
  rw [e1]
  simp only [rfErr]
  rw [hn, if_neg (by rw [List.length_append, List.length_append]; simp; omega), if_neg]
  rw [List.drop_left, List.take_left, List.take_left' (by rfl)]
  intro hh
  simp only [two, List.cons.injEq, and_true, true_and] at hh
  exact hb hh
theorem rf_cutoff (v : Nat) (e : List UInt8) (h : e.length ≤ 20) : rfErr (fb v e) v = 3 := by
  have hn := ofNat_toNat e.length h
  unfold fb
  simp only [rfErr]
  rw [hn, if_pos (Or.inr (by simp))]

/-- Good frames are read, whatever stands behind them. -/
theorem rd_good (es : List (List UInt8)) (rest : List UInt8) (hes : ∀ e ∈ es, e.length ≤ 20) :
    ∀ (f k v : Nat), (olog v es ++ rest).length ≤ f → k + es.length ≤ 100 → ∃ f', rest.length ≤ f' ∧ rd f k v (olog v es ++ rest) = (es ++ (rd f' (k + es.length) (last v es) rest).1, (rd f' (k + es.length) (last v es) rest).2) := by
  induction es with
  | nil => intro f k v hf _; exact ⟨f, by simpa [olog] using hf, by simp [olog, last]⟩
  | cons e r ih =>
    intro f k v hf hk
    have he := hes e (by simp)
    obtain ⟨h1, h2, h3⟩ := rf_ok v e (olog (lnk v e) r ++ rest) he
    have e0 : olog v (e :: r) ++ rest = frm v e ++ (olog (lnk v e) r ++ rest) := by simp [olog]
    rw [e0] at hf ⊢
    rw [List.length_append, frm_length] at hf
    simp only [List.length_cons] at hk
    cases f with
    | zero => omega
    | succ f =>
      have hne : frm v e ++ (olog (lnk v e) r ++ rest) ≠ [] := by
        intro h
        have := congrArg List.length h
        rw [List.length_append, frm_length] at this
        simp at this
      rw [rd_step f k v _ hne (by omega) h1, h2, h3]
      have hd : (frm v e ++ (olog (lnk v e) r ++ rest)).drop (3 + e.length) = olog (lnk v e) r ++ rest := List.drop_left' (by rw [frm_length]; omega)
      rw [hd]
      obtain ⟨f', hf', hrd⟩ := ih (fun x hx => hes x (by simp [hx])) f (k + 1) (lnk v e) (by omega) (by omega)
      refine ⟨f', hf', ?_⟩
      rw [hrd, show k + 1 + r.length = k + (e :: r).length by simp; omega]
      rfl

theorem rdOld_short (l : List UInt8) (h : l.length ≤ 2300) : rdOld l = rd l.length 0 0 l := by unfold rdOld; rw [if_neg (by omega)]
theorem read_back (es : List (List UInt8)) (hes : ∀ e ∈ es, e.length ≤ 20) (hn : es.length ≤ 100) : rdOld (olog 0 es) = (es, 0, 0) := by
  have hl := olog_length_le es hes 0
  rw [rdOld_short _ (by omega)]
  obtain ⟨f', _, h⟩ := rd_good es [] hes (olog 0 es).length 0 0 (by simp) (by omega)
  rw [List.append_nil] at h
  rw [h, rd_end, List.append_nil]

/-- The text of a log around one of its frames. -/
theorem olog_at (es : List (List UInt8)) : ∀ (k v : Nat) (hk : k < es.length), ∃ R, olog v es = olog v (es.take k) ++ frm (last v (es.take k)) es[k] ++ R := by
  induction es with
  | nil => intro k v hk; simp at hk
  | cons e r ih =>
    intro k v hk
    cases k with
    | zero => exact ⟨olog (lnk v e) r, by simp [olog, last]⟩
    | succ k =>
      obtain ⟨R, hR⟩ := ih k (lnk v e) (by simpa using hk)
      exact ⟨R, by simp only [olog, List.take_succ_cons, last, List.getElem_cons_succ, hR, List.append_assoc]⟩
theorem read_link (es : List (List UInt8)) (hes : ∀ e ∈ es, e.length ≤ 20) (hn : es.length ≤ 100) (k : Nat) (hk : k < es.length) (R : List UInt8) (b : UInt8)
    (hl : (olog 0 (es.take k) ++ fb (last 0 (es.take k)) es[k] ++ [b] ++ R).length ≤ 2300) (hb : b ≠ lo (last 0 (es.take k)) es[k]) :
    rdOld (olog 0 (es.take k) ++ fb (last 0 (es.take k)) es[k] ++ [b] ++ R) = (es.take k, 4, k) := by
  rw [rdOld_short _ hl]
  have htl : (es.take k).length = k := by rw [List.length_take]; omega
  have ea : olog 0 (es.take k) ++ fb (last 0 (es.take k)) es[k] ++ [b] ++ R = olog 0 (es.take k) ++ (fb (last 0 (es.take k)) es[k] ++ [b] ++ R) := by simp
  rw [ea]
  obtain ⟨f', hf', h⟩ := rd_good (es.take k) (fb (last 0 (es.take k)) es[k] ++ [b] ++ R) (fun e he => hes e (List.mem_of_mem_take he)) _ 0 0 (Nat.le_refl _) (by omega)
  rw [h, htl, Nat.zero_add]
  have hbad := rf_badlink (last 0 (es.take k)) es[k] R b (hes _ (List.getElem_mem hk)) hb
  have hne : fb (last 0 (es.take k)) es[k] ++ [b] ++ R ≠ [] := by simp
  cases f' with
  | zero =>
    rw [List.length_append, List.length_append, fb_length] at hf'
    omega
  | succ f' => rw [rd_bad f' k _ _ hne (by omega) (by rw [hbad]; decide), hbad, List.append_nil]
theorem read_cut (es : List (List UInt8)) (hes : ∀ e ∈ es, e.length ≤ 20) (hn : es.length ≤ 100) (k : Nat) (hk : k < es.length)
    (hl : (olog 0 (es.take k) ++ fb (last 0 (es.take k)) es[k]).length ≤ 2300) :
    rdOld (olog 0 (es.take k) ++ fb (last 0 (es.take k)) es[k]) = (es.take k, 3, k) := by
  rw [rdOld_short _ hl]
  have htl : (es.take k).length = k := by rw [List.length_take]; omega
  obtain ⟨f', hf', h⟩ := rd_good (es.take k) (fb (last 0 (es.take k)) es[k]) (fun e he => hes e (List.mem_of_mem_take he)) _ 0 0 (Nat.le_refl _) (by omega)
  rw [h, htl, Nat.zero_add]
  have hbad := rf_cutoff (last 0 (es.take k)) es[k] (hes _ (List.getElem_mem hk))
  have hne : fb (last 0 (es.take k)) es[k] ≠ [] := by simp [fb]
  cases f' with
  | zero =>
    rw [fb_length] at hf'
    omega
  | succ f' => rw [rd_bad f' k _ _ hne (by omega) (by rw [hbad]; decide), hbad, List.append_nil]
theorem olog_szs (xs : List ByteArray) : ∀ v, (olog v (bs xs)).length = szs xs := by
  induction xs with
  | nil => intro v; rfl
  | cons a r ih =>
    intro v
    have := ih (lnk v a.data.toList)
    simp only [bs, List.map_cons, olog, List.length_append, frm_length, szs, List.sum_cons] at this ⊢
    rw [this]
    have e : a.data.toList.length = a.size := rfl
    omega
end Go.Proofs.YtocfikblfobjfaaDoor
namespace Go.Proofs.YtocfikblfobjfaaDoor
open Go.RowKit

theorem wkA : wk [97] = 52512 := by decide +kernel
theorem wkE : wk [] = 7385 := by decide +kernel
theorem shaE : (shaL []).getD 0 0 = 227 ∧ (shaL []).getD 31 0 = 85 := by decide +kernel
theorem OldSum_a (w : World) : Calls Tryd.prog 10 #[.string ⟨#[97]⟩] w fun e w' => e = .returned (.int .u16 52512) ∧ w' = w := by
  refine (OldSum_any ⟨#[97]⟩ w (by decide)).mono ?_
  rintro e w' ⟨rfl, rfl⟩
  exact ⟨ret_int (by rw [show (ByteArray.mk #[97]).data.toList = [97] from rfl, wkA]; rfl), rfl⟩
theorem OldSum_e (w : World) : Calls Tryd.prog 10 #[.string ⟨#[]⟩] w fun e w' => e = .returned (.int .u16 7385) ∧ w' = w := by
  refine (OldSum_any ⟨#[]⟩ w (by decide)).mono ?_
  rintro e w' ⟨rfl, rfl⟩
  exact ⟨ret_int (by rw [show (ByteArray.mk #[]).data.toList = [] from rfl, wkE]; rfl), rfl⟩

set_option maxRecDepth 100000 in
set_option maxHeartbeats 800000 in
theorem known_any (w : World) (hT : Tabs w) :
    Calls Tryd.prog 18 #[] w fun e w' => e = .returned (.bool true) ∧ Below w.heap.size w w' := by
  have HT := hide hT
  clear hT
  go_enter Tryd.func18, Tryd.ntmps18
  go_wp2_with fail
  refine (OldSum_a _).mono ?_
  rintro e w1 ⟨rfl, rfl⟩
  go_wp2_with fail
  refine (OldSum_e _).mono ?_
  rintro e w1 ⟨rfl, rfl⟩
  go_wp2_with fail
  refine (NewSum_any ⟨#[]⟩ _ (by decide) (unhide HT)).mono ?_
  rintro e w2 ⟨rfl, hb2⟩
  rw [show (ByteArray.mk #[]).data.toList = [] from rfl]
  have hse := shaE
  have hdl : (shaL []).length = 32 := dgk_length _ 8 (Nat.le_refl _)
  generalize shaL [] = d8 at hse hdl ⊢
  have hb3 : ∀ c, Below w1.heap.size w1 ((w2.alloc (.cells c 31)).setRow w2.heap.size (bcells d8).toArray) := fun c => below_row (hb2.alloc hb2.size _) hb2.size _
  have hrow : ∀ c, BRow ((w2.alloc (.cells c 31)).setRow w2.heap.size (bcells d8).toArray) w2.heap.size 31 d8 := fun c => heap_put_new w2 c _ _
  have hsd : (bcells d8).toArray.size = 32 := by rw [bcells_size, hdl]
  have hc0 : ∀ c, ((w2.alloc (.cells c 31)).setRow w2.heap.size (bcells d8).toArray).cell? ⟨w2.heap.size, 0, none⟩ = some (.int .u8 227) := fun c => by
    rw [(hrow c).cell 0 (by omega), hse.1]; rfl
  have hc31 : ∀ c, ((w2.alloc (.cells c 31)).setRow w2.heap.size (bcells d8).toArray).cell? ⟨w2.heap.size, 31, none⟩ = some (.int .u8 85) := fun c => by
    rw [(hrow c).cell 31 (by omega), hse.2]; rfl
  have V2 := hide (show (Tryd.prog.info? 31).map (·.size) = some (bcells d8).toArray.size by rw [hsd]; exact info_dg)
  have V3 := hide hsd
  have HB := hide hb3
  clear hrow hse hdl hsd hb2 hb3
  go_wp2_with ((with_reducible refine at_store ?_); refine wpList_store_row rfl 31 _ _ rfl w2.heap.size (bcells d8).toArray rfl rfl 31 _ (heap_alloc_new w2 _) (unhide V2) (by rw [unhide V3]; rfl) (bcells_one d8) ?_)
  go_ret
  exact ⟨rfl, unhide HB _⟩
end Go.Proofs.YtocfikblfobjfaaDoor
namespace Go.Proofs.YtocfikblfobjfaaDoor
open Go.RowKit

theorem plain_u8 : Tryd.prog.plainKey 5 = true := by kernel_rfl
theorem cells_u8 : Tryd.prog.cellsOf 5 = 1 := by kernel_rfl
theorem items_eq (a b : List UInt8) (w : World) : ∀ is : List Nat, (∀ i ∈ is, i < a.length ∧ i < b.length) → (Op.eqItems 9999 5 1 (bcells a).toArray (bcells b).toArray is).run Tryd.prog w = .ok (is.all fun i => decide (a.getD i 0 = b.getD i 0)) w := by
  intro is
  induction is with
  | nil => intro _; simp [Op.eqItems]
  | cons i is ih =>
    intro h
    obtain ⟨hi, hj⟩ := h i (by simp)
    have hc : (bcells a).toArray[i * 1]? = some (.int .u8 ((a.getD i 0).toNat : Int)) := by
      rw [Nat.mul_one]
      simp [bcells, List.getD, List.getElem?_eq_getElem hi]
    have hc2 : (bcells b).toArray[i * 1]? = some (.int .u8 ((b.getD i 0).toNat : Int)) := by
      rw [Nat.mul_one]
      simp [bcells, List.getD, List.getElem?_eq_getElem hj]
    have hp := run_part_plain w plain_u8 hc
    have hp2 := run_part_plain w plain_u8 hc2
    have he := run_equalIn_int (P := Tryd.prog) (w := w) 9998 5 .u8 _ ((a.getD i 0).toNat : Int) ((b.getD i 0).toNat : Int) Tryd.underlying5
    have hq : (((a.getD i 0).toNat : Int) == ((b.getD i 0).toNat : Int)) = decide (a.getD i 0 = b.getD i 0) := by
      rw [Bool.eq_iff_iff, beq_iff_eq, decide_eq_true_iff, UInt8.toNat_inj.symm]
      omega
    rw [hq] at he
    by_cases hh : a.getD i 0 = b.getD i 0
    · rw [decide_eq_true hh] at he
      simp only [Op.eqItems, Sem.run_bind, hp, hp2, Result.andThen_ok, he, Bool.not_true, Bool.false_eq_true, if_false]
      rw [ih fun j hj => h j (by simp [hj])]
      rw [List.all_cons, decide_eq_true hh, Bool.true_and]
    · rw [decide_eq_false hh] at he
      simp only [Op.eqItems, Sem.run_bind, hp, hp2, Result.andThen_ok, he, Bool.not_false, if_true]
      rw [List.all_cons, decide_eq_false hh, Bool.false_and]
      rfl
theorem all_eq (a b : List UInt8) (ha : a.length = 32) (hb : b.length = 32) : ((List.range 32).all fun i => decide (a.getD i 0 = b.getD i 0)) = decide (a = b) := by
  rw [Bool.eq_iff_iff, List.all_eq_true, decide_eq_true_iff]
  constructor
  · intro hq
    apply List.ext_getElem (by omega)
    intro n h1 h2
    have := hq n (List.mem_range.2 (by omega))
    simpa [List.getD, List.getElem?_eq_getElem h1, List.getElem?_eq_getElem h2] using this
  · intro hq x _
    rw [hq]
    simp
/-- '==' of two digests. -/
theorem digest_eq (a b : List UInt8) (ha : a.length = 32) (hb : b.length = 32) (w : World) : Sem.run Tryd.prog (Op.equalIn 10000 31 (.agg (bcells a).toArray) (.agg (bcells b).toArray)) w = .ok (decide (a = b)) w := by
  have h := info_u8
  cases hi : Tryd.prog.info? 5 with
  | none => rw [hi] at h; cases h
  | some i =>
    have := run_equalIn_array (P := Tryd.prog) w 9999 (bcells a).toArray (bcells b).toArray Tryd.underlying31 hi
    rw [this, cells_u8, items_eq a b w _ fun j hj => by rw [ha, hb]; exact ⟨List.mem_range.1 hj, List.mem_range.1 hj⟩, all_eq a b ha hb]
theorem digest_same (d : List UInt8) (hd : d.length = 32) (w : World) : Sem.run Tryd.prog (Op.equalIn 10000 31 (.agg (bcells d).toArray) (.agg (bcells d).toArray)) w = .ok true w := by
  rw [digest_eq d d hd hd]
  simp
/-- Is the next operation a load, guarded or not? -/
theorem at_load2 {P : Program} {ops : Array Oper} {rest : List Oper} {Q : Exit → Act → World → Prop} {a : Act} {w : World} {ty : TypeId} {x : Operand} {d : Option Tmp} {t : TypeId} {pos : String} {af : Array Edge} {g : Option (Nat × Bool)}
    (h : wpList P ops Q ({ dst := d, op := .load ty x, type := t, pos := pos, after := af, guard := g } :: rest) a w) : wpList P ops Q ({ dst := d, op := .load ty x, type := t, pos := pos, after := af, guard := g } :: rest) a w := h
/-- A load of a whole row by an operation that is wanted. -/
theorem wpList_load_row_w {P : Program} {ops : Array Oper} {rest : List Oper} {o : Oper} {a : Act} {w : World} {Q : Exit → Act → World → Prop} (hw : Region.wanted o (yielded ops a.tmps) = true) (ty : TypeId) (x : Operand) (ho : o.op = .load ty x)
    (g : Nat) (hx : a.eval x = .pointer (some ⟨g, 0, none⟩)) (t : TypeId) (cs : Array Value) (fr : Nat × Nat) (d : TypeDesc) (hg : w.heap[g]? = some (.cells cs t fr))
    (hu : P.underlying ty = some d) (hd : (match d with | .struct _ | .array _ _ => true | _ => false) = true) (hi : (P.info? ty).map (·.size) = some cs.size)
    (h : wpList P ops Q rest (a.put o.dst (.agg cs)) w) : wpList P ops Q (o :: rest) a w :=
  wpList_step fun K hK => by
    simp only [hw, if_true]
    exact wp_load_row ty x ho g hx t cs fr d hg hu hd hi (hK _ _ h)
end Go.Proofs.YtocfikblfobjfaaDoor
