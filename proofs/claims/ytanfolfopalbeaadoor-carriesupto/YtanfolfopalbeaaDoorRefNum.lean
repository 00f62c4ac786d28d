import Derived.Test.YtanfolfopalbeaaDoorRefBlock
import Derived.Deep.RegionWith
namespace Go.Proofs.YtanfolfopalbeaaDoor
open Go.RowKit

/-- The number that digits to the base 65536 tell, the lowest first. -/
def val : List Nat → Nat
  | [] => 0
  | d :: r => d + 65536 * val r
theorem val_append (a b : List Nat) : val (a ++ b) = val a + 65536 ^ a.length * val b := by
  induction a with
  | nil => simp [val]
  | cons d r ih =>
    show d + 65536 * val (r ++ b) = d + 65536 * val r + 65536 ^ (r.length + 1) * val b
    rw [ih, Nat.mul_add, Nat.pow_succ, Nat.mul_comm (65536 ^ r.length) 65536, Nat.mul_assoc, Nat.add_assoc]
theorem val_take_succ (l : List Nat) (i : Nat) (h : i < l.length) : val (l.take (i + 1)) = val (l.take i) + 65536 ^ i * l.getD i 0 := by
  rw [List.take_succ_eq_append_getElem h, val_append, List.length_take, Nat.min_eq_left (by omega)]
  simp [val, List.getD, List.getElem?_eq_getElem h]
theorem val_take_le (l : List Nat) (i : Nat) : val (l.take i) ≤ val l := by
  have h := val_append (l.take i) (l.drop i)
  rw [List.take_append_drop] at h
  omega
theorem val_lt (l : List Nat) (h : ∀ x ∈ l, x < 65536) : val l < 65536 ^ l.length := by
  induction l with
  | nil => simp [val]
  | cons d r ih =>
    have h1 := ih fun x hx => h x (List.mem_cons_of_mem _ hx)
    have h2 := h d List.mem_cons_self
    show d + 65536 * val r < 65536 ^ (r.length + 1)
    rw [Nat.pow_succ]
    omega
theorem val_zeros (n : Nat) : val (List.replicate n 0) = 0 := by
  induction n with
  | zero => rfl
  | succ n ih => rw [List.replicate_succ]; show 0 + 65536 * val (List.replicate n 0) = 0; rw [ih]
theorem val_split (l : List Nat) (c : Nat) (h : c < l.length) : val l = val (l.take c) + 65536 ^ c * (l.getD c 0 + 65536 * val (l.drop (c + 1))) := by
  have h1 := val_append (l.take c) (l.drop c)
  rw [List.take_append_drop, List.length_take, Nat.min_eq_left (by omega), List.drop_eq_getElem_cons h] at h1
  rw [h1]
  simp [val, List.getD, List.getElem?_eq_getElem h]
theorem val_set (l : List Nat) (c x : Nat) (h : c < l.length) : val (l.set c x) + 65536 ^ c * l.getD c 0 = val l + 65536 ^ c * x := by
  rw [val_split l c h, val_split (l.set c x) c (by simpa using h), List.take_set_of_le (Nat.le_refl _), List.drop_set_of_lt (by omega)]
  rw [show (l.set c x).getD c 0 = x by simp [List.getD, h], Nat.mul_add, Nat.mul_add]
  omega
theorem val_digit_le (l : List Nat) (c : Nat) (h : c < l.length) : 65536 ^ c * l.getD c 0 ≤ val l := by
  rw [val_split l c h, Nat.mul_add]
  omega
theorem val_cut (l : List Nat) (i : Nat) : val l = val (l.take i) + 65536 ^ i * (l.getD i 0 + 65536 * val (l.drop (i + 1))) := by
  by_cases h : i < l.length
  · exact val_split l i h
  · rw [List.take_of_length_le (by omega), List.drop_eq_nil_of_le (by omega)]
    simp [List.getD, List.getElem?_eq_none (show l.length ≤ i by omega), val]
theorem val_take_lt (l : List Nat) (h : ∀ x ∈ l, x < 65536) (i : Nat) : val (l.take i) < 65536 ^ i := by
  have h1 := val_lt (l.take i) fun x hx => h x (List.mem_of_mem_take hx)
  exact Nat.lt_of_lt_of_le h1 (Nat.pow_le_pow_right (by decide) (by rw [List.length_take]; omega))
theorem part_lt (P s t x y D : Nat) (hs : s < P) (h : x < y) : s + P * (x + 65536 * D) < t + P * (y + 65536 * D) := by
  have h1 : P * (x + 65536 * D) + P ≤ P * (y + 65536 * D) := by
    rw [← Nat.mul_succ]
    exact Nat.mul_le_mul_left _ (by omega)
  omega
/-- The first digit from above in which they part tells which is greater. -/
theorem val_part (a b : List Nat) (ha : ∀ x ∈ a, x < 65536) (hb : ∀ x ∈ b, x < 65536) (i : Nat) (hs : val (a.drop (i + 1)) = val (b.drop (i + 1))) (hn : a.getD i 0 ≠ b.getD i 0) : decide (val b < val a) = decide (b.getD i 0 < a.getD i 0) := by
  have h1 := val_cut a i
  have h2 := val_cut b i
  have h3 := val_take_lt a ha i
  have h4 := val_take_lt b hb i
  rw [hs] at h1
  by_cases h : b.getD i 0 < a.getD i 0
  · have := part_lt _ _ (val (a.take i)) _ _ (val (b.drop (i + 1))) h4 h
    rw [decide_eq_true h, decide_eq_true (by rw [h1, h2]; exact this)]
  · have := part_lt _ _ (val (b.take i)) _ _ (val (b.drop (i + 1))) h3 (show a.getD i 0 < b.getD i 0 by omega)
    rw [decide_eq_false h, decide_eq_false (by rw [h1, h2]; omega)]
theorem val_same (a b : List Nat) (i : Nat) (hs : val (a.drop (i + 1)) = val (b.drop (i + 1))) (hn : a.getD i 0 = b.getD i 0) : val (a.drop i) = val (b.drop i) := by
  have key : ∀ l : List Nat, val (l.drop i) = l.getD i 0 + 65536 * val (l.drop (i + 1)) := fun l => by
    by_cases h : i < l.length
    · rw [List.drop_eq_getElem_cons h]
      simp [val, List.getD, List.getElem?_eq_getElem h]
    · rw [List.drop_eq_nil_of_le (by omega), List.drop_eq_nil_of_le (by omega)]
      simp [List.getD, List.getElem?_eq_none (show l.length ≤ i by omega), val]
  rw [key, key, hs, hn]

/-- Numbers as cells. -/
def icells (l : List Nat) : List Value := l.map fun (x : Nat) => Value.int .i64 (x : Int)
theorem icells_at (l : List Nat) (j : Nat) (h : j < l.length) : (icells l)[j]? = some (.int .i64 ((l.getD j 0 : Nat) : Int)) := by
  simp [icells, List.getD, List.getElem?_eq_getElem h]
/-- A slice that reads as these numbers. -/
def Ints (w : World) (v : Value) (l : List Nat) : Prop := ∃ g cap, v = .slice (some ⟨g, 0, none⟩) l.length cap ∧ l.length ≤ cap ∧ cap ≤ maxLen ∧ g < w.heap.size ∧ ∀ j, j < l.length → w.cell? ⟨g, j, none⟩ = some (.int .i64 ((l.getD j 0 : Nat) : Int))
theorem Ints.below {w w' : World} {v : Value} {l : List Nat} {B : Nat} (h : Ints w v l) (hb : Below B w w') (hB : w.heap.size ≤ B) : Ints w' v l := by
  obtain ⟨g, cap, rfl, h1, h2, h3, h4⟩ := h
  refine ⟨g, cap, rfl, h1, h2, Nat.lt_of_lt_of_le h3 hb.size, fun j hj => ?_⟩
  rw [World.cell?_of_block (hb.block g (by omega))]
  exact h4 j hj
theorem Ints.drew {w : World} {v : Value} {l : List Nat} (h : Ints w v l) : Ints w.drew v l := h

set_option maxRecDepth 100000 in
set_option maxHeartbeats 400000 in
theorem most_any (a b : Nat) (w : World) : Calls Tryd.prog 115 #[.int .i64 a, .int .i64 b] w fun e w' => e = .returned (.int .i64 ((max a b : Nat) : Int)) ∧ w' = w := by
  go_enter Tryd.func115, Tryd.ntmps115
  by_cases h : b < a
  · have hd : decide ((b : Int) < (a : Int)) = true := by simp; omega
    go_wp2
    go_ret
    exact ⟨ret_int (by omega), rfl⟩
  · have hd : decide ((b : Int) < (a : Int)) = false := by simp; omega
    go_wp2
    go_ret
    exact ⟨ret_int (by omega), rfl⟩

set_option maxRecDepth 100000 in
set_option maxHeartbeats 400000 in
theorem at_any (v : Value) (l : List Nat) (i : Nat) (w : World) (hv : Ints w v l) : Calls Tryd.prog 116 #[v, .int .i64 i] w fun e w' => e = .returned (.int .i64 ((l.getD i 0 : Nat) : Int)) ∧ w' = w := by
  obtain ⟨g, cap, rfl, h1, h2, h3, h4⟩ := hv
  by_cases h : i < l.length
  · have hc := h4 i h
    have i1 : (i : Int) < (l.length : Int) := by omega
    have hd : decide ((i : Int) < (l.length : Int)) = true := by simp; omega
    generalize l.getD i 0 = x at hc ⊢
    generalize l.length = n at *
    clear h4
    go_enter Tryd.func116, Tryd.ntmps116
    go_wp2
    go_ret
    exact ⟨rfl, rfl⟩
  · have hd : decide ((i : Int) < (l.length : Int)) = false := by simp; omega
    have e : l.getD i 0 = 0 := by simp [List.getD, List.getElem?_eq_none (show l.length ≤ i by omega)]
    rw [e]
    generalize l.length = n at *
    clear h4
    go_enter Tryd.func116, Tryd.ntmps116
    go_wp2
    go_ret
    exact ⟨rfl, rfl⟩

def limb (n : Nat) : List Nat := [n % 65536, n / 65536 % 65536, n / 65536 / 65536]
theorem limb_val (n : Nat) : val (limb n) = n := by simp [limb, val]; omega
theorem limb_lt (n : Nat) (h : n < 281474976710656) : ∀ x ∈ limb n, x < 65536 := by
  intro x hx
  simp only [limb, List.mem_cons, List.not_mem_nil, or_false] at hx
  rcases hx with rfl | rfl | rfl <;> omega

set_option maxRecDepth 100000 in
set_option maxHeartbeats 400000 in
theorem limbs_any (n : Nat) (w : World) (hn : n < 281474976710656) : Calls Tryd.prog 85 #[.int .i64 n] w fun e w' => ∃ v, e = .returned v ∧ Ints w' v (limb n) ∧ Below w.heap.size w w' := by
  go_enter Tryd.func85, Tryd.ntmps85
  go_wp2
  go_ret
  refine ⟨_, rfl, ⟨w.heap.size, 3, rfl, by simp [limb], by unfold maxLen; omega, by simp, fun j hj => ?_⟩, (Below.refl _ _).alloc (Nat.le_refl _) _⟩
  have hj3 : j < 3 := hj
  rw [cell_of_row _ _ _ _ _ _ (heap_alloc_new w _)]
  have : j = 0 ∨ j = 1 ∨ j = 2 := by omega
  rcases this with rfl | rfl | rfl <;> simp [limb]

/-- Is a number a prime? (as far as k) -/
def prk (n : Nat) : Nat → Bool
  | 0 => true
  | k + 1 => prk n k && (n % (k + 2) != 0)
def prm (n : Nat) : Bool := prk n (n - 2)
theorem prk_mono (n : Nat) : ∀ b, prk n b = true → ∀ a, a ≤ b → prk n a = true := by
  intro b
  induction b with
  | zero => intro h a ha; rw [show a = 0 by omega]; exact h
  | succ b ih =>
    intro h a ha
    by_cases e : a = b + 1
    · rw [e]; exact h
    · have h2 : (prk n b && (n % (b + 2) != 0)) = true := h
      rw [Bool.and_eq_true] at h2
      exact ih h2.1 a (by omega)
set_option maxRecDepth 100000 in
set_option maxHeartbeats 400000 in
theorem prime_any (n : Nat) (w : World) (hn : 2 ≤ n) (hn2 : n ≤ 1000) : Calls Tryd.prog 49 #[.int .i64 n] w fun e w' => e = .returned (.bool (prm n)) ∧ w' = w := by
  go_enter Tryd.func49, Tryd.ntmps49
  go_wp2
  go_loopw [3] (fun v wr => ∃ k : Nat, k + 2 ≤ n ∧ v = .int .i64 ((k + 2 : Nat) : Int) ∧ prk n k = true ∧ wr = w) (fun v _ => n - (intOf v).toNat)
  case atStart => exact ⟨0, by omega, rfl, rfl, rfl⟩
  case round =>
    obtain ⟨k, hk, rfl, hp, rfl⟩ := hrel
    by_cases h : k + 2 < n
    · have hd : decide (((k + 2 : Nat) : Int) < (n : Int)) = true := by simp; omega
      have e1 : Int.tmod (n : Int) ((k + 2 : Nat) : Int) = ((n % (k + 2) : Nat) : Int) := by rw [Int.tmod_eq_emod_of_nonneg (by omega)]; omega
      have hz : ((k + 2 : Nat) : Int) ≠ 0 := by omega
      have hk1 : prk n (k + 1) = (prk n k && (n % (k + 2) != 0)) := rfl
      generalize n % (k + 2) = r at *
      generalize hke : k + 2 = q at *
      by_cases hr : r = 0
      · have hd2 : decide ((r : Int) = 0) = true := by simp; omega
        have HP := hide (show prm n = false by
          cases hc : prm n with
          | false => rfl
          | true =>
            have := prk_mono n (n - 2) hc (k + 1) (by omega)
            rw [hk1, hr] at this
            simp at this)
        go_wp2
        go_ret
        exact ⟨by rw [unhide HP]; rfl, rfl⟩
      · have hd2 : decide ((r : Int) = 0) = false := by simp; omega
        have HP := hide (show prk n (k + 1) = true by rw [hk1, hp]; simp; omega)
        go_wp2
        exact ⟨⟨k + 1, by omega, by rw [show k + 1 + 2 = q + 1 by omega]; go_num, unhide HP, trivial⟩, by simp [intOf]; omega⟩
    · have hd : decide (((k + 2 : Nat) : Int) < (n : Int)) = false := by simp; omega
      have hd3 : decide ((1 : Int) < (n : Int)) = true := by simp; omega
      have HP := hide (show prm n = true by unfold prm; rw [show n - 2 = k by omega]; exact hp)
      go_wp2
      go_ret
      exact ⟨by rw [unhide HP]; rfl, rfl⟩

set_option maxRecDepth 100000 in
set_option maxHeartbeats 800000 in
theorem above_any (v u : Value) (a b : List Nat) (w : World) (hv : Ints w v a) (hu : Ints w u b) (ha : ∀ x ∈ a, x < 65536) (hb : ∀ x ∈ b, x < 65536) (hal : a.length ≤ 1000) (hbl : b.length ≤ 1000) :
    Calls Tryd.prog 87 #[v, u] w fun e w' => e = .returned (.bool (decide (val b < val a))) ∧ w' = w := by
  have HV := hide hv
  have HU := hide hu
  have HA := hide ha
  have HB := hide hb
  obtain ⟨g, cap, rfl, h1, h2, h3, h4⟩ := hv
  obtain ⟨g', cap', rfl, h1', h2', h3', h4'⟩ := hu
  clear h4 h4' ha hb h1 h2 h1' h2'
  have HN := hide (show val (a.drop (max a.length b.length)) = val (b.drop (max a.length b.length)) by rw [List.drop_eq_nil_of_le (by omega), List.drop_eq_nil_of_le (by omega)])
  have hmx : max a.length b.length ≤ 1000 := by omega
  have mo := most_any a.length b.length
  generalize max a.length b.length = m at mo HN hmx
  generalize a.length = n at *
  generalize b.length = n' at *
  go_enter Tryd.func87, Tryd.ntmps87
  go_wp2_with (go_at_call 115; refine (mo _).mono ?_; rintro e w1 ⟨rfl, rfl⟩)
  go_loopw [5] (fun v wr => ∃ k : Nat, k ≤ 1000 ∧ v = .int .i64 ((k : Int) - 1) ∧ Hid (val (a.drop k) = val (b.drop k)) ∧ wr = w1) (fun v _ => (intOf v + 1).toNat)
  case atStart => exact ⟨m, hmx, rfl, HN, rfl⟩
  case round =>
    obtain ⟨k, hk, rfl, HE, rfl⟩ := hrel
    by_cases h : 1 ≤ k
    · obtain ⟨i, rfl⟩ : ∃ i, k = i + 1 := ⟨k - 1, by omega⟩
      rw [show ((i + 1 : Nat) : Int) - 1 = (i : Int) by omega]
      have hd : decide ((0 : Int) ≤ (i : Int)) = true := by simp
      have ax := at_any _ a i _ (unhide HV)
      have ay := at_any _ b i _ (unhide HU)
      have HS := hide (val_same a b i (unhide HE))
      have HP := hide (val_part a b (unhide HA) (unhide HB) i (unhide HE))
      generalize a.getD i 0 = x at ax HS HP
      generalize b.getD i 0 = y at ay HS HP
      by_cases hxy : x = y
      · have hd2 : decide ((x : Int) = (y : Int)) = true := by simp; omega
        go_wp2_with (go_at_call 116; first | ((with_reducible refine ax.mono ?_); rintro e wa ⟨rfl, he⟩; cases he) | ((with_reducible refine ay.mono ?_); rintro e wa ⟨rfl, he⟩; cases he))
        exact ⟨⟨i, by omega, rfl, hide (unhide HS hxy), trivial⟩, by simp [intOf]⟩
      · have hd2 : decide ((x : Int) = (y : Int)) = false := by simp; omega
        go_wp2_with (go_at_call 116; first | ((with_reducible refine ax.mono ?_); rintro e wa ⟨rfl, he⟩; cases he) | ((with_reducible refine ay.mono ?_); rintro e wa ⟨rfl, he⟩; cases he))
        go_ret
        exact ⟨by rw [unhide HP hxy]; rfl, rfl⟩
    · have hd : decide ((0 : Int) ≤ ((k : Nat) : Int) - 1) = false := by simp; omega
      have HE2 := hide (show decide (val b < val a) = false by
        have h0 : k = 0 := by omega
        have h9 := unhide HE
        rw [h0, List.drop_zero, List.drop_zero] at h9
        rw [h9]
        simp)
      go_wp2
      go_ret
      exact ⟨by rw [unhide HE2]; rfl, rfl⟩
end Go.Proofs.YtanfolfopalbeaaDoor
