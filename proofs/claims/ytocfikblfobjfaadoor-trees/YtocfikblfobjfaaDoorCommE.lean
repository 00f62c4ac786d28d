import Derived.Test.YtocfikblfobjfaaDoorCommC
import Derived.Deep.RegionWith
import Derived.BigRegion
namespace Go.Proofs.YtocfikblfobjfaaDoor
open Go.RowKit

/-- The number that digits to the base 65536 tell, the lowest first. -/
def val : List Nat → Nat
  | [] => 0
  | d :: r => d + 65536 * val r
theorem val_append (a b : List Nat) : val (a ++ b) = val a + 65536 ^ a.length * val b := by
  induction a with
  | nil => simp [val]
  | cons d r ih =>
    show d + 65536 * val (r ++ b) = d + 65536 * val r + 65536 ^ (r.length + 1) * val b
    rw [ih, Nat.mul_add, Nat.pow_succ, Nat.mul_comm (65536 ^ r.length) 65536, Nat.mul_assoc, Nat.add_assoc]
theorem val_take_succ (l : List Nat) (i : Nat) (h : i < l.length) : val (l.take (i + 1)) = val (l.take i) + 65536 ^ i * l.getD i 0 := by
  rw [List.take_succ_eq_append_getElem h, val_append, List.length_take, Nat.min_eq_left (by omega)]
  simp [val, List.getD, List.getElem?_eq_getElem h]
theorem val_take_le (l : List Nat) (i : Nat) : val (l.take i) ≤ val l := by
  have h := val_append (l.take i) (l.drop i)
  rw [List.take_append_drop] at h
  omega
theorem val_lt (l : List Nat) (h : ∀ x ∈ l, x < 65536) : val l < 65536 ^ l.length := by
  induction l with
  | nil => simp [val]
  | cons d r ih =>
    have h1 := ih fun x hx => h x (List.mem_cons_of_mem _ hx)
    have h2 := h d List.mem_cons_self
    show d + 65536 * val r < 65536 ^ (r.length + 1)
    rw [Nat.pow_succ]
    omega
theorem val_zeros (n : Nat) : val (List.replicate n 0) = 0 := by
  induction n with
  | zero => rfl
  | succ n ih => rw [List.replicate_succ]; show 0 + 65536 * val (List.replicate n 0) = 0; rw [ih]
theorem val_split (l : List Nat) (c : Nat) (h : c < l.length) : val l = val (l.take c) + 65536 ^ c * (l.getD c 0 + 65536 * val (l.drop (c + 1))) := by
  have h1 := val_append (l.take c) (l.drop c)
  rw [List.take_append_drop, List.length_take, Nat.min_eq_left (by omega), List.drop_eq_getElem_cons h] at h1
  rw [h1]
  simp [val, List.getD, List.getElem?_eq_getElem h]
theorem val_set (l : List Nat) (c x : Nat) (h : c < l.length) : val (l.set c x) + 65536 ^ c * l.getD c 0 = val l + 65536 ^ c * x := by
  rw [val_split l c h, val_split (l.set c x) c (by simpa using h), List.take_set_of_le (Nat.le_refl _), List.drop_set_of_lt (by omega)]
  rw [show (l.set c x).getD c 0 = x by simp [List.getD, h], Nat.mul_add, Nat.mul_add]
  omega
theorem val_digit_le (l : List Nat) (c : Nat) (h : c < l.length) : 65536 ^ c * l.getD c 0 ≤ val l := by
  rw [val_split l c h, Nat.mul_add]
  omega
theorem val_cut (l : List Nat) (i : Nat) : val l = val (l.take i) + 65536 ^ i * (l.getD i 0 + 65536 * val (l.drop (i + 1))) := by
  by_cases h : i < l.length
  · exact val_split l i h
  · rw [List.take_of_length_le (by omega), List.drop_eq_nil_of_le (by omega)]
    simp [List.getD, List.getElem?_eq_none (show l.length ≤ i by omega), val]
theorem val_take_lt (l : List Nat) (h : ∀ x ∈ l, x < 65536) (i : Nat) : val (l.take i) < 65536 ^ i := by
  have h1 := val_lt (l.take i) fun x hx => h x (List.mem_of_mem_take hx)
  exact Nat.lt_of_lt_of_le h1 (Nat.pow_le_pow_right (by decide) (by rw [List.length_take]; omega))
theorem part_lt (P s t x y D : Nat) (hs : s < P) (h : x < y) : s + P * (x + 65536 * D) < t + P * (y + 65536 * D) := by
  have h1 : P * (x + 65536 * D) + P ≤ P * (y + 65536 * D) := by
    rw [← Nat.mul_succ]
    exact Nat.mul_le_mul_left _ (by omega)
  omega
/-- The first digit from above in which they part tells which is greater. -/
theorem val_part (a b : List Nat) (ha : ∀ x ∈ a, x < 65536) (hb : ∀ x ∈ b, x < 65536) (i : Nat) (hs : val (a.drop (i + 1)) = val (b.drop (i + 1))) (hn : a.getD i 0 ≠ b.getD i 0) : decide (val b < val a) = decide (b.getD i 0 < a.getD i 0) := by
  have h1 := val_cut a i
  have h2 := val_cut b i
  have h3 := val_take_lt a ha i
  have h4 := val_take_lt b hb i
  rw [hs] at h1
  by_cases h : b.getD i 0 < a.getD i 0
  · have := part_lt _ _ (val (a.take i)) _ _ (val (b.drop (i + 1))) h4 h
    rw [decide_eq_true h, decide_eq_true (by rw [h1, h2]; exact this)]
  · have := part_lt _ _ (val (b.take i)) _ _ (val (b.drop (i + 1))) h3 (show a.getD i 0 < b.getD i 0 by omega)
    rw [decide_eq_false h, decide_eq_false (by rw [h1, h2]; omega)]
theorem val_same (a b : List Nat) (i : Nat) (hs : val (a.drop (i + 1)) = val (b.drop (i + 1))) (hn : a.getD i 0 = b.getD i 0) : val (a.drop i) = val (b.drop i) := by
  have key : ∀ l : List Nat, val (l.drop i) = l.getD i 0 + 65536 * val (l.drop (i + 1)) := fun l => by
    by_cases h : i < l.length
    · rw [List.drop_eq_getElem_cons h]
      simp [val, List.getD, List.getElem?_eq_getElem h]
    · rw [List.drop_eq_nil_of_le (by omega), List.drop_eq_nil_of_le (by omega)]
      simp [List.getD, List.getElem?_eq_none (show l.length ≤ i by omega), val]
  rw [key, key, hs, hn]

/-- Numbers as cells. -/
def icells (l : List Nat) : List Value := l.map fun (x : Nat) => Value.int .i64 (x : Int)
theorem icells_at (l : List Nat) (j : Nat) (h : j < l.length) : (icells l)[j]? = some (.int .i64 ((l.getD j 0 : Nat) : Int)) := by
  simp [icells, List.getD, List.getElem?_eq_getElem h]
/-- A slice that reads as these numbers. -/
def Ints (w : World) (v : Value) (l : List Nat) : Prop := ∃ g cap, v = .slice (some ⟨g, 0, none⟩) l.length cap ∧ l.length ≤ cap ∧ cap ≤ maxLen ∧ g < w.heap.size ∧ ∀ j, j < l.length → w.cell? ⟨g, j, none⟩ = some (.int .i64 ((l.getD j 0 : Nat) : Int))
theorem Ints.below {w w' : World} {v : Value} {l : List Nat} {B : Nat} (h : Ints w v l) (hb : Below B w w') (hB : w.heap.size ≤ B) : Ints w' v l := by
  obtain ⟨g, cap, rfl, h1, h2, h3, h4⟩ := h
  refine ⟨g, cap, rfl, h1, h2, Nat.lt_of_lt_of_le h3 hb.size, fun j hj => ?_⟩
  rw [World.cell?_of_block (hb.block g (by omega))]
  exact h4 j hj
theorem Ints.drew {w : World} {v : Value} {l : List Nat} (h : Ints w v l) : Ints w.drew v l := h

set_option maxRecDepth 100000 in
set_option maxHeartbeats 400000 in
theorem most_any (a b : Nat) (w : World) : Calls Tryd.prog 73 #[.int .i64 a, .int .i64 b] w fun e w' => e = .returned (.int .i64 ((max a b : Nat) : Int)) ∧ w' = w := by
  go_enter Tryd.func73, Tryd.ntmps73
  by_cases h : b < a
  · have hd : decide ((b : Int) < (a : Int)) = true := by simp; omega
    go_wp2
    go_ret
    exact ⟨ret_int (by omega), rfl⟩
  · have hd : decide ((b : Int) < (a : Int)) = false := by simp; omega
    go_wp2
    go_ret
    exact ⟨ret_int (by omega), rfl⟩

set_option maxRecDepth 100000 in
set_option maxHeartbeats 400000 in
theorem at_any (v : Value) (l : List Nat) (i : Nat) (w : World) (hv : Ints w v l) : Calls Tryd.prog 74 #[v, .int .i64 i] w fun e w' => e = .returned (.int .i64 ((l.getD i 0 : Nat) : Int)) ∧ w' = w := by
  obtain ⟨g, cap, rfl, h1, h2, h3, h4⟩ := hv
  by_cases h : i < l.length
  · have hc := h4 i h
    have i1 : (i : Int) < (l.length : Int) := by omega
    have hd : decide ((i : Int) < (l.length : Int)) = true := by simp; omega
    generalize l.getD i 0 = x at hc ⊢
    generalize l.length = n at *
    clear h4
    go_enter Tryd.func74, Tryd.ntmps74
    go_wp2
    go_ret
    exact ⟨rfl, rfl⟩
  · have hd : decide ((i : Int) < (l.length : Int)) = false := by simp; omega
    have e : l.getD i 0 = 0 := by simp [List.getD, List.getElem?_eq_none (show l.length ≤ i by omega)]
    rw [e]
    generalize l.length = n at *
    clear h4
    go_enter Tryd.func74, Tryd.ntmps74
    go_wp2
    go_ret
    exact ⟨rfl, rfl⟩

def limb (n : Nat) : List Nat := [n % 65536, n / 65536 % 65536, n / 65536 / 65536]
theorem limb_val (n : Nat) : val (limb n) = n := by simp [limb, val]; omega
theorem limb_lt (n : Nat) (h : n < 281474976710656) : ∀ x ∈ limb n, x < 65536 := by
  intro x hx
  simp only [limb, List.mem_cons, List.not_mem_nil, or_false] at hx
  rcases hx with rfl | rfl | rfl <;> omega

set_option maxRecDepth 100000 in
set_option maxHeartbeats 400000 in
theorem limbs_any (n : Nat) (w : World) (hn : n < 281474976710656) : Calls Tryd.prog 51 #[.int .i64 n] w fun e w' => ∃ v, e = .returned v ∧ Ints w' v (limb n) ∧ Below w.heap.size w w' := by
  go_enter Tryd.func51, Tryd.ntmps51
  go_wp2
  go_ret
  refine ⟨_, rfl, ⟨w.heap.size, 3, rfl, by simp [limb], by unfold maxLen; omega, by simp, fun j hj => ?_⟩, (Below.refl _ _).alloc (Nat.le_refl _) _⟩
  have hj3 : j < 3 := hj
  rw [cell_of_row _ _ _ _ _ _ (heap_alloc_new w _)]
  have : j = 0 ∨ j = 1 ∨ j = 2 := by omega
  rcases this with rfl | rfl | rfl <;> simp [limb]

/-- Is a number a prime? (as far as k) -/
def prk (n : Nat) : Nat → Bool
  | 0 => true
  | k + 1 => prk n k && (n % (k + 2) != 0)
def prm (n : Nat) : Bool := prk n (n - 2)
theorem prk_mono (n : Nat) : ∀ b, prk n b = true → ∀ a, a ≤ b → prk n a = true := by
  intro b
  induction b with
  | zero => intro h a ha; rw [show a = 0 by omega]; exact h
  | succ b ih =>
    intro h a ha
    by_cases e : a = b + 1
    · rw [e]; exact h
    · have h2 : (prk n b && (n % (b + 2) != 0)) = true := h
      rw [Bool.and_eq_true] at h2
      exact ih h2.1 a (by omega)
set_option maxRecDepth 100000 in
set_option maxHeartbeats 400000 in
theorem prime_any (n : Nat) (w : World) (hn : 2 ≤ n) (hn2 : n ≤ 1000) : Calls Tryd.prog 30 #[.int .i64 n] w fun e w' => e = .returned (.bool (prm n)) ∧ w' = w := by
  go_enter Tryd.func30, Tryd.ntmps30
  go_wp2
  go_loopw [3] (fun v wr => ∃ k : Nat, k + 2 ≤ n ∧ v = .int .i64 ((k + 2 : Nat) : Int) ∧ prk n k = true ∧ wr = w) (fun v _ => n - (intOf v).toNat)
  case atStart => exact ⟨0, by omega, rfl, rfl, rfl⟩
  case round =>
    obtain ⟨k, hk, rfl, hp, rfl⟩ := hrel
    by_cases h : k + 2 < n
    · have hd : decide (((k + 2 : Nat) : Int) < (n : Int)) = true := by simp; omega
      have e1 : Int.tmod (n : Int) ((k + 2 : Nat) : Int) = ((n % (k + 2) : Nat) : Int) := by rw [Int.tmod_eq_emod_of_nonneg (by omega)]; omega
      have hz : ((k + 2 : Nat) : Int) ≠ 0 := by omega
      have hk1 : prk n (k + 1) = (prk n k && (n % (k + 2) != 0)) := rfl
      generalize n % (k + 2) = r at *
      generalize hke : k + 2 = q at *
      by_cases hr : r = 0
      · have hd2 : decide ((r : Int) = 0) = true := by simp; omega
        have HP := hide (show prm n = false by
          cases hc : prm n with
          | false => rfl
          | true =>
            have := prk_mono n (n - 2) hc (k + 1) (by omega)
            rw [hk1, hr] at this
            simp at this)
        go_wp2
        go_ret
        exact ⟨by rw [unhide HP]; rfl, rfl⟩
      · have hd2 : decide ((r : Int) = 0) = false := by simp; omega
        have HP := hide (show prk n (k + 1) = true by rw [hk1, hp]; simp; omega)
        go_wp2
        exact ⟨⟨k + 1, by omega, by rw [show k + 1 + 2 = q + 1 by omega]; go_num, unhide HP, trivial⟩, by simp [intOf]; omega⟩
    · have hd : decide (((k + 2 : Nat) : Int) < (n : Int)) = false := by simp; omega
      have hd3 : decide ((1 : Int) < (n : Int)) = true := by simp; omega
      have HP := hide (show prm n = true by unfold prm; rw [show n - 2 = k by omega]; exact hp)
      go_wp2
      go_ret
      exact ⟨by rw [unhide HP]; rfl, rfl⟩

set_option maxRecDepth 100000 in
set_option maxHeartbeats 800000 in
theorem above_any (v u : Value) (a b : List Nat) (w : World) (hv : Ints w v a) (hu : Ints w u b) (ha : ∀ x ∈ a, x < 65536) (hb : ∀ x ∈ b, x < 65536) (hal : a.length ≤ 1000) (hbl : b.length ≤ 1000) :
    Calls Tryd.prog 53 #[v, u] w fun e w' => e = .returned (.bool (decide (val b < val a))) ∧ w' = w := by
  have HV := hide hv
  have HU := hide hu
  have HA := hide ha
  have HB := hide hb
  obtain ⟨g, cap, rfl, h1, h2, h3, h4⟩ := hv
  obtain ⟨g', cap', rfl, h1', h2', h3', h4'⟩ := hu
  clear h4 h4' ha hb h1 h2 h1' h2'
  have HN := hide (show val (a.drop (max a.length b.length)) = val (b.drop (max a.length b.length)) by rw [List.drop_eq_nil_of_le (by omega), List.drop_eq_nil_of_le (by omega)])
  have hmx : max a.length b.length ≤ 1000 := by omega
  have mo := most_any a.length b.length
  generalize max a.length b.length = m at mo HN hmx
  generalize a.length = n at *
  generalize b.length = n' at *
  go_enter Tryd.func53, Tryd.ntmps53
  go_wp2_with (go_at_call 73; refine (mo _).mono ?_; rintro e w1 ⟨rfl, rfl⟩)
  go_loopw [5] (fun v wr => ∃ k : Nat, k ≤ 1000 ∧ v = .int .i64 ((k : Int) - 1) ∧ Hid (val (a.drop k) = val (b.drop k)) ∧ wr = w1) (fun v _ => (intOf v + 1).toNat)
  case atStart => exact ⟨m, hmx, rfl, HN, rfl⟩
  case round =>
    obtain ⟨k, hk, rfl, HE, rfl⟩ := hrel
    by_cases h : 1 ≤ k
    · obtain ⟨i, rfl⟩ : ∃ i, k = i + 1 := ⟨k - 1, by omega⟩
      rw [show ((i + 1 : Nat) : Int) - 1 = (i : Int) by omega]
      have hd : decide ((0 : Int) ≤ (i : Int)) = true := by simp
      have ax := at_any _ a i _ (unhide HV)
      have ay := at_any _ b i _ (unhide HU)
      have HS := hide (val_same a b i (unhide HE))
      have HP := hide (val_part a b (unhide HA) (unhide HB) i (unhide HE))
      generalize a.getD i 0 = x at ax HS HP
      generalize b.getD i 0 = y at ay HS HP
      by_cases hxy : x = y
      · have hd2 : decide ((x : Int) = (y : Int)) = true := by simp; omega
        go_wp2_with (go_at_call 74; first | ((with_reducible refine ax.mono ?_); rintro e wa ⟨rfl, he⟩; cases he) | ((with_reducible refine ay.mono ?_); rintro e wa ⟨rfl, he⟩; cases he))
        exact ⟨⟨i, by omega, rfl, hide (unhide HS hxy), trivial⟩, by simp [intOf]⟩
      · have hd2 : decide ((x : Int) = (y : Int)) = false := by simp; omega
        go_wp2_with (go_at_call 74; first | ((with_reducible refine ax.mono ?_); rintro e wa ⟨rfl, he⟩; cases he) | ((with_reducible refine ay.mono ?_); rintro e wa ⟨rfl, he⟩; cases he))
        go_ret
        exact ⟨by rw [unhide HP hxy]; rfl, rfl⟩
    · have hd : decide ((0 : Int) ≤ ((k : Nat) : Int) - 1) = false := by simp; omega
      have HE2 := hide (show decide (val b < val a) = false by
        have h0 : k = 0 := by omega
        have h9 := unhide HE
        rw [h0, List.drop_zero, List.drop_zero] at h9
        rw [h9]
        simp)
      go_wp2
      go_ret
      exact ⟨by rw [unhide HE2]; rfl, rfl⟩
end Go.Proofs.YtocfikblfobjfaaDoor
namespace Go.Proofs.YtocfikblfobjfaaDoor
open Go.RowKit

/-- Block g holds these numbers. -/
def IBlk (w : World) (g : Nat) (l : List Nat) : Prop := w.heap[g]? = some (.cells (icells l).toArray 3 (0, 0))
theorem IBlk.cell {w : World} {g : Nat} {l : List Nat} (h : IBlk w g l) (j : Nat) (hj : j < l.length) : w.cell? ⟨g, j, none⟩ = some (.int .i64 ((l.getD j 0 : Nat) : Int)) := by
  rw [cell_of_row w g j _ _ _ h, List.getElem?_toArray]
  exact icells_at l j hj
theorem IBlk.free {w : World} {g : Nat} {l : List Nat} (h : IBlk w g l) (j : Nat) : w.frozen? ⟨g, j, none⟩ = false := frozen_of_row w g j _ _ h
theorem IBlk.set {w : World} {g : Nat} {l : List Nat} (h : IBlk w g l) (j x : Nat) : IBlk (w.setCell ⟨g, j, none⟩ (.int .i64 (x : Int))) g (l.set j x) := by
  unfold IBlk
  rw [heap_setCell_same w g j _ _ _ h]
  congr 2
  apply Array.ext'
  simp [icells, List.map_set]
theorem IBlk.lt {w : World} {g : Nat} {l : List Nat} (h : IBlk w g l) : g < w.heap.size := lt_of_block h
theorem IBlk.below {w w' : World} {B g : Nat} {l : List Nat} (h : IBlk w g l) (hb : Below B w w') (hB : w.heap.size ≤ B) : IBlk w' g l := by
  unfold IBlk
  rw [hb.block g (Nat.lt_of_lt_of_le h.lt hB)]
  exact h
theorem IBlk.ints {w : World} {g n : Nat} {l : List Nat} (h : IBlk w g l) (hn : l.length = n) (hm : n ≤ maxLen) : Ints w (.slice (some ⟨g, 0, none⟩) n n) l := by
  subst hn
  exact ⟨g, l.length, rfl, Nat.le_refl _, hm, h.lt, h.cell⟩
theorem info_int : (Tryd.prog.info? 3).map (fun i => (i.zero, i.size, i.bytes)) = some (some (.int .i64 0), 1, 8) := by kernel_rfl
theorem getD_digits (l : List Nat) (h : ∀ x ∈ l, x < 65536) (j : Nat) : l.getD j 0 < 65536 := by
  rw [List.getD]
  cases hc : l[j]? with
  | none => simp
  | some x => simpa using h x (List.mem_of_getElem? hc)

theorem own_full {w : World} {base : Nat} {e : TypeId} {g n : Nat} {xs : List Value} (h : w.ownsRow base e 1 (.slice (some ⟨g, 0, none⟩) n n) n xs) : w.heap[g]? = some (.cells xs.toArray e (0, 0)) := by
  rcases h.2 with ⟨h1, _⟩ | ⟨g1, cap, cur, hv, _, hg, _, _, h5, h6⟩
  · cases h1
  · injection hv with e1 _ e3
    injection e1 with e1
    injection e1 with e1
    subst e1 e3
    rw [List.take_of_length_le (by rw [Array.length_toList]; omega)] at h6
    rw [hg, ← h6]
theorem made_zeros (n : Nat) : (madeCells #[Value.int IntKind.i64 0] n).toList = icells (List.replicate n 0) := by
  unfold madeCells icells
  apply List.ext_getElem?
  intro j
  by_cases hj : j < n
  · simp [hj]
    rw [Nat.mod_one]
    rfl
  · simp [hj]
/-- One step of the product: what is added at digit i + k. -/
theorem prod_step (A B X y z i k : Nat) (h : X = A + 65536 ^ i * y * B) : X + 65536 ^ (i + k) * (y * z) = A + 65536 ^ i * y * (B + 65536 ^ k * z) := by
  rw [h, Nat.mul_add, Nat.pow_add, Nat.add_assoc]
  congr 1
  congr 1
  simp only [Nat.mul_assoc, Nat.mul_comm, Nat.mul_left_comm]
theorem prod_le (A P y B' Bv Va T : Nat) (h1 : B' ≤ Bv) (h2 : T = A + P * y) (h3 : T ≤ Va) : A * Bv + P * y * B' ≤ Va * Bv := by
  have h4 : P * y * B' ≤ P * y * Bv := Nat.mul_le_mul_left _ h1
  have h5 : T * Bv ≤ Va * Bv := Nat.mul_le_mul_right _ h3
  rw [h2, Nat.add_mul] at h5
  omega
/-- Two digits behind a carry. -/
def car (o : List Nat) (c : Nat) : List Nat := (o.set (c + 1) (o.getD (c + 1) 0 + o.getD c 0 / 65536)).set c (o.getD c 0 % 65536)
theorem getD_set_ne (o : List Nat) (i j x : Nat) (h : j ≠ i) : (o.set i x).getD j 0 = o.getD j 0 := by
  simp only [List.getD]
  rw [List.getElem?_set_ne (by omega)]
theorem getD_set_eq (o : List Nat) (i x : Nat) (h : i < o.length) : (o.set i x).getD i 0 = x := by
  simp only [List.getD]
  rw [List.getElem?_set_self h]
  rfl
theorem car_val (o : List Nat) (c : Nat) (h : c + 1 < o.length) : val (car o c) = val o := by
  have h1 := val_set o (c + 1) (o.getD (c + 1) 0 + o.getD c 0 / 65536) h
  have h2 := val_set (o.set (c + 1) (o.getD (c + 1) 0 + o.getD c 0 / 65536)) c (o.getD c 0 % 65536) (by rw [List.length_set]; omega)
  rw [getD_set_ne _ _ _ _ (by omega)] at h2
  unfold car
  generalize val ((o.set (c + 1) (o.getD (c + 1) 0 + o.getD c 0 / 65536)).set c (o.getD c 0 % 65536)) = v2 at *
  generalize val (o.set (c + 1) (o.getD (c + 1) 0 + o.getD c 0 / 65536)) = v1 at *
  generalize o.getD c 0 = x at *
  generalize o.getD (c + 1) 0 = t at *
  have hx : x = 65536 * (x / 65536) + x % 65536 := by omega
  rw [Nat.mul_add] at h1
  rw [Nat.pow_succ] at h1
  generalize x / 65536 = q at *
  generalize x % 65536 = r at *
  generalize 65536 ^ c = P at *
  have h3 : P * x = P * 65536 * q + P * r := by rw [hx, Nat.mul_add, Nat.mul_assoc]
  omega
theorem car_length (o : List Nat) (c : Nat) : (car o c).length = o.length := by simp [car]
theorem car_digit (o : List Nat) (c : Nat) (hc : c + 1 < o.length) (h : ∀ j, j ≠ c → o.getD j 0 < 65536) (j : Nat) (hj : j ≠ c + 1) : (car o c).getD j 0 < 65536 := by
  unfold car
  by_cases e : j = c
  · rw [e, getD_set_eq _ _ _ (by rw [List.length_set]; omega)]; omega
  · rw [getD_set_ne _ _ _ _ e, getD_set_ne _ _ _ _ hj]; exact h j e
theorem car_next (o : List Nat) (c : Nat) (hc : c + 1 < o.length) (h : ∀ j, j ≠ c → o.getD j 0 < 65536) (h2 : o.getD c 0 < 8589934592) : (car o c).getD (c + 1) 0 < 8589934592 := by
  unfold car
  rw [getD_set_ne _ _ _ _ (by omega), getD_set_eq _ _ _ hc]
  have := h (c + 1) (by omega)
  omega
theorem car_room (o : List Nat) (c n V : Nat) (hn : o.length = n) (hc : c < n) (hx : 65536 ≤ o.getD c 0) (hv : val o = V) (hV : V < 65536 ^ n) : c + 1 < n := by
  by_cases h : c + 1 < n
  · exact h
  · exfalso
    have h1 := val_digit_le o c (by omega)
    have h2 : 65536 ^ c * 65536 ≤ 65536 ^ c * o.getD c 0 := Nat.mul_le_mul_left _ hx
    rw [← Nat.pow_succ, show c.succ = n by omega] at h2
    omega
theorem digits_of (o : List Nat) (h : ∀ j, o.getD j 0 < 65536) : ∀ x ∈ o, x < 65536 := by
  intro x hx
  obtain ⟨j, hj⟩ := List.getElem?_of_mem hx
  have := h j
  rw [List.getD, hj] at this
  exact this

set_option maxRecDepth 100000 in
set_option maxHeartbeats 1600000 in
theorem times_any (v u : Value) (a b : List Nat) (w : World) (hv : Ints w v a) (hu : Ints w u b) (ha : ∀ x ∈ a, x < 65536) (hb : ∀ x ∈ b, x < 65536) (hal : a.length ≤ 100) (hbl : b.length ≤ 100) :
    Calls Tryd.prog 52 #[v, u] w fun e w' => ∃ x c, e = .returned x ∧ Ints w' x c ∧ c.length = a.length + b.length ∧ (∀ d ∈ c, d < 65536) ∧ val c = val a * val b ∧ Below w.heap.size w w' := by
  obtain ⟨i0, hi, hz0, hz1, hz2⟩ := info_parts info_int
  obtain ⟨g, cap, rfl, h1, h2, h3, h4⟩ := hv
  obtain ⟨g', cap', rfl, h1', h2', h3', h4'⟩ := hu
  have H4 := hide h4
  have H4' := hide h4'
  have HA := hide ha
  have HB := hide hb
  clear h4 h4' ha hb h1 h2 h1' h2'
  have hVL := val_lt a (unhide HA)
  have hVB := val_lt b (unhide HB)
  have HLIM := hide (show val a * val b < 65536 ^ (a.length + b.length) by rw [Nat.pow_add]; exact Nat.mul_lt_mul'' hVL hVB)
  clear hVL hVB
  have HTA := hide (val_take_succ a)
  have HTB := hide (val_take_succ b)
  have HTL := hide (val_take_le a)
  have HTLB := hide (val_take_le b)
  have HZA := hide (show val (a.take 0) = 0 from rfl)
  have HZB := hide (show val (b.take 0) = 0 from rfl)
  have HEA := hide (show val (a.take a.length) = val a by rw [List.take_length])
  have HEB := hide (show val (b.take b.length) = val b by rw [List.take_length])
  have HDA := hide (getD_digits a (unhide HA))
  have HDB := hide (getD_digits b (unhide HB))
  clear HA HB
  generalize hla : a.length = la at *
  generalize hlb : b.length = lb at *
  clear hla hlb
  go_enter Tryd.func52, Tryd.ntmps52
  go_wp2_with (at_make; go_must (refine wpList_make_full _ rfl _ _ 84 rfl w.heap.size 3 i0 (.int .i64 0) 1 Tryd.underlying84 hi hz0 hz1 _ _ _ _ (la + lb) rfl rfl (by omega) (by omega) (by rw [hz2]; omega) (by unfold maxLen; omega) (Nat.le_refl _) ?_))
  intro w1 hown1 hgrow1
  have hbel1 : Below w.heap.size w w1 := (Below.refl _ _).grown hgrow1 (Nat.le_refl _) (fun k h => by cases h)
  have hblk1 : IBlk w1 w.heap.size (List.replicate (la + lb) 0) := by
    have := own_full hown1
    rw [made_zeros] at this
    exact this
  clear hown1 hgrow1
  go_wp2
  go_loopw [6] (fun t wr => ∃ (i : Nat) (o : List Nat), i ≤ la ∧ t = .int .i64 i ∧ o.length = la + lb ∧ Hid (∀ x ∈ o, x < 65536) ∧ Hid (val o = val (a.take i) * val b) ∧ IBlk wr w.heap.size o ∧ Below w.heap.size w wr) (fun t _ => la - (intOf t).toNat)
  case atStart =>
    refine ⟨0, List.replicate (la + lb) 0, Nat.zero_le _, rfl, List.length_replicate, hide ?_, hide (by rw [val_zeros, unhide HZA, Nat.zero_mul]), hblk1, hbel1⟩
    intro x hx
    rw [(List.mem_replicate.1 hx).2]
    decide
  case round =>
    obtain ⟨i, o, hil, rfl, hol, HD, HV, hblk, hbel⟩ := hrel
    by_cases hlt : i < la
    · have hd : decide ((i : Int) < (la : Int)) = true := by simp; omega
      have HAI := hide (unhide H4 i hlt)
      have hy := unhide HDA i
      have HST := hide (unhide HTA i hlt)
      have HST2 := hide (unhide HTL (i + 1))
      generalize a.getD i 0 = y at HAI hy HST
      go_wp2
      go_loopw [7] (fun t wr => ∃ (k : Nat) (o : List Nat), k ≤ lb ∧ t = .int .i64 k ∧ o.length = la + lb ∧ Hid (∀ x ∈ o, x < 65536) ∧ Hid (val o = val (a.take i) * val b + 65536 ^ i * y * val (b.take k)) ∧ IBlk wr w.heap.size o ∧ Below w.heap.size w wr) (fun t _ => lb - (intOf t).toNat)
      case atStart => exact ⟨0, o, Nat.zero_le _, rfl, hol, HD, hide (by rw [unhide HZB, Nat.mul_zero, Nat.add_zero]; exact unhide HV), hblk, hbel⟩
      case round =>
        clear hblk hbel HV HD hol o
        obtain ⟨k, o, hkl, rfl, hol, HD, HV, hblk, hbel⟩ := hrel
        by_cases hlt2 : k < lb
        · have hd2 : decide ((k : Int) < (lb : Int)) = true := by simp; omega
          have ca := unhide HAI
          have cb := unhide H4' k hlt2
          rw [← World.cell?_of_block (hbel.block g h3)] at ca
          rw [← World.cell?_of_block (hbel.block g' h3')] at cb
          have hz := unhide HDB k
          have HSB := hide (unhide HTB k hlt2)
          generalize b.getD k 0 = z at cb hz HSB
          have co := hblk.cell (i + k) (by omega)
          have fo := hblk.free (i + k)
          have hx := getD_digits o (unhide HD) (i + k)
          have HVS := hide (val_set o (i + k) (o.getD (i + k) 0 + y * z) (by omega))
          generalize hox : o.getD (i + k) 0 = x at co hx HVS
          have hyz : y * z < 4294967296 := by
            have : y * z ≤ 65535 * 65535 := Nat.mul_le_mul (by omega) (by omega)
            omega
          have e0 : (y : Int) * (z : Int) = ((y * z : Nat) : Int) := by simp
          generalize hmm : y * z = m at *
          have HM := hide hmm
          clear hmm
          have e1 : (i : Int) + (k : Int) = ((i + k : Nat) : Int) := by simp
          have hik : i + k < la + lb := by omega
          generalize hc0 : i + k = c0 at *
          have HC0 := hide hc0
          clear hc0
          have j1 : (c0 : Int) < ((la + lb : Nat) : Int) := by omega
          have j2 : (i : Int) < (la : Int) := by omega
          have j3 : (k : Int) < (lb : Int) := by omega
          have wv1 : IntKind.i64.wrap (c0 : Int) = (c0 : Int) := i64w _ (by omega)
          have wv2 : IntKind.i64.wrap (m : Int) = (m : Int) := i64w _ (by omega)
          have wv3 : IntKind.i64.wrap ((x : Int) + (m : Int)) = (x : Int) + (m : Int) := i64w _ (by omega)
          have HBEL := hide hbel
          have HBLK := hide hblk
          have HOX := hide hox
          clear hbel hblk hox
          go_wp2
          go_region
          rw [show (x : Int) + (m : Int) = ((x + m : Nat) : Int) by simp]
          have hblk2 : IBlk (wr.setCell ⟨w.heap.size, c0, none⟩ (.int .i64 ((x + m : Nat) : Int))).drew w.heap.size (o.set c0 (x + m)) := (unhide HBLK).set c0 (x + m)
          have hbel2 : Below w.heap.size w (wr.setCell ⟨w.heap.size, c0, none⟩ (.int .i64 ((x + m : Nat) : Int))).drew := ((unhide HBEL).setCell (by exact Nat.le_refl _) _).drew
          have HV2 := hide (show val (o.set c0 (x + m)) = val (a.take i) * val b + 65536 ^ i * y * val (b.take (k + 1)) by
            have h1 := unhide HVS
            have h2 := prod_step _ _ _ y z i k (unhide HV)
            rw [unhide HC0, unhide HM] at h2
            rw [unhide HSB, ← h2]
            rw [Nat.mul_add] at h1
            omega)
          have HVL := hide (show val (o.set c0 (x + m)) < 65536 ^ (la + lb) by
            rw [unhide HV2]
            exact Nat.lt_of_le_of_lt (prod_le _ _ _ _ _ _ _ (unhide HTLB (k + 1)) (unhide HST) (unhide HST2)) (unhide HLIM))
          have HOTH := hide (show ∀ j, j ≠ c0 → (o.set c0 (x + m)).getD j 0 < 65536 from fun j hj => by rw [getD_set_ne _ _ _ _ hj]; exact getD_digits o (unhide HD) j)
          have HTHE := hide (show (o.set c0 (x + m)).getD c0 0 < 8589934592 by rw [getD_set_eq _ _ _ (by omega)]; omega)
          have hol2 : (o.set c0 (x + m)).length = la + lb := by rw [List.length_set]; exact hol
          generalize (wr.setCell ⟨w.heap.size, c0, none⟩ (.int .i64 ((x + m : Nat) : Int))).drew = w2 at hblk2 hbel2 ⊢
          generalize o.set c0 (x + m) = o2 at hblk2 HV2 HVL HOTH HTHE hol2
          generalize hVe : val o2 = V at HV2 HVL
          have HVE := hide hVe
          clear hVe HOX HBEL HBLK HVS ca cb co fo hx wv3 wv2 HD HV hol
          go_wp2
          go_loopw [8] (fun t wr => ∃ (c : Nat) (o : List Nat), c < la + lb ∧ t = .int .i64 c ∧ o.length = la + lb ∧ Hid (∀ j, j ≠ c → o.getD j 0 < 65536) ∧ Hid (o.getD c 0 < 8589934592) ∧ Hid (val o = V) ∧ IBlk wr w.heap.size o ∧ Below w.heap.size w wr) (fun t _ => la + lb - (intOf t).toNat)
          case atStart => exact ⟨c0, o2, hik, rfl, hol2, HOTH, HTHE, HVE, hblk2, hbel2⟩
          case round =>
            clear hblk2 hbel2 HOTH HTHE HVE hol2 o2
            obtain ⟨c, o, hc, rfl, hol, HO, HT, HV, hblk, hbel⟩ := hrel
            have cx := hblk.cell c (by omega)
            have j4 : (c : Int) < ((la + lb : Nat) : Int) := by omega
            by_cases hx : 65536 ≤ o.getD c 0
            · have hc1 := car_room o c _ V hol hc hx (unhide HV) (unhide HVL)
              have ct := hblk.cell (c + 1) (by omega)
              have fx := hblk.free c
              have ft := hblk.free (c + 1)
              have hbt := unhide HO (c + 1) (by omega)
              have hbx := unhide HT
              have HBLK := hide hblk
              have HBEL := hide hbel
              have HCAR := hide (show car o c = (o.set (c + 1) (o.getD (c + 1) 0 + o.getD c 0 / 65536)).set c (o.getD c 0 % 65536) from rfl)
              generalize hxe : o.getD c 0 = x at cx hx hbx HCAR
              have HXE := hide hxe
              clear hxe
              generalize o.getD (c + 1) 0 = t at ct hbt HCAR
              have hd3 : decide ((65536 : Int) ≤ (x : Int)) = true := by simp; omega
              have e5 : (c : Int) + 1 = ((c + 1 : Nat) : Int) := by simp
              generalize hce : c + 1 = c1 at *
              have HCE := hide hce
              clear hce
              have j5 : (c1 : Int) < ((la + lb : Nat) : Int) := by omega
              clear hblk hbel
              go_wp2
              go_region
              rw [show (t : Int) + (x : Int) / 65536 = ((t + x / 65536 : Nat) : Int) by omega]
              have hblk3 : IBlk (wr.setCell ⟨w.heap.size, c1, none⟩ (.int .i64 ((t + x / 65536 : Nat) : Int))).drew w.heap.size (o.set c1 (t + x / 65536)) := (unhide HBLK).set c1 _
              have hbel3 : Below w.heap.size w (wr.setCell ⟨w.heap.size, c1, none⟩ (.int .i64 ((t + x / 65536 : Nat) : Int))).drew := ((unhide HBEL).setCell (by exact Nat.le_refl _) _).drew
              generalize (wr.setCell ⟨w.heap.size, c1, none⟩ (.int .i64 ((t + x / 65536 : Nat) : Int))).drew = w3 at hblk3 hbel3 ⊢
              have cx3 := hblk3.cell c (by rw [List.length_set]; omega)
              have hcc : c ≠ c1 := by have := unhide HCE; omega
              rw [getD_set_ne _ _ _ _ hcc, unhide HXE] at cx3
              have fx3 := hblk3.free c
              have HB3 := hide hblk3
              have HL3 := hide hbel3
              clear hblk3 hbel3 cx ct fx ft hcc
              go_wp2
              refine ⟨⟨c1, car o c, by omega, rfl, by rw [car_length]; exact hol, ?_, ?_, ?_, ?_, (unhide HL3).setCell (by exact Nat.le_refl _) _⟩, by simp [intOf]; have := unhide HCE; omega⟩
              · refine hide fun j hj => car_digit o c (by rw [unhide HCE]; omega) (unhide HO) j (by rw [unhide HCE]; exact hj)
              · have := car_next o c (by rw [unhide HCE]; omega) (unhide HO) (unhide HT)
                rw [unhide HCE] at this
                exact hide this
              · exact hide ((car_val o c (by rw [unhide HCE]; omega)).trans (unhide HV))
              · rw [unhide HCAR, show (x : Int) % 65536 = ((x % 65536 : Nat) : Int) by omega]
                exact (unhide HB3).set c _
            · have HD2 := hide (digits_of o fun j => by
                by_cases e : j = c
                · rw [e]; omega
                · exact unhide HO j e)
              generalize o.getD c 0 = x at cx hx
              have hd3 : decide ((65536 : Int) ≤ (x : Int)) = false := by simp; omega
              have HB3 := hide hblk
              have HL3 := hide hbel
              clear hblk hbel
              go_wp2
              exact ⟨⟨k + 1, o, by omega, by go_num, hol, HD2, hide ((unhide HV).trans (unhide HV2)), unhide HB3, unhide HL3⟩, by simp [intOf]; omega⟩
        · have hd2 : decide ((k : Int) < (lb : Int)) = false := by simp; omega
          have hkb : k = lb := by omega
          have HV3 := hide (show val o = val (a.take (i + 1)) * val b by
            rw [unhide HV, hkb, unhide HEB, unhide HST, Nat.add_mul])
          clear hkb
          go_wp2
          exact ⟨⟨i + 1, o, by omega, by go_num, hol, HD, HV3, hblk, hbel⟩, by simp [intOf]; omega⟩
    · have hd : decide ((i : Int) < (la : Int)) = false := by simp; omega
      have hia : i = la := by omega
      have HV3 := hide (show val o = val a * val b by rw [unhide HV, hia, unhide HEA])
      clear hia
      go_wp2
      go_ret
      exact ⟨_, o, rfl, hblk.ints hol (by unfold maxLen; omega), hol, unhide HD, unhide HV3, hbel⟩
end Go.Proofs.YtocfikblfobjfaaDoor
namespace Go.Proofs.YtocfikblfobjfaaDoor
open Go.RowKit

/-- The greatest x whose power is not above P, bit by bit: so many bits are left. -/
def rtl (pw P : Nat) : Nat → Nat → Nat
  | 0, x => x
  | b + 1, x => rtl pw P b (if P < (x + 2 ^ b) ^ pw then x else x + 2 ^ b)
def rt (p pw : Nat) : Nat := rtl pw (p * 65536 ^ (2 * pw)) 41 0 % 4294967296
/-- The digits of p times a power of two. -/
def wantL (p pw : Nat) : List Nat := (List.replicate 8 0).set (2 * pw) p
theorem want_val (p pw : Nat) (h : pw ≤ 3) : val (wantL p pw) = p * 65536 ^ (2 * pw) := by
  have := val_set (List.replicate 8 0) (2 * pw) p (by rw [List.length_replicate]; omega)
  rw [val_zeros] at this
  have h0 : (List.replicate 8 0).getD (2 * pw) 0 = 0 := by
    rw [List.getD]
    cases hc : (List.replicate 8 0)[2 * pw]? with
    | none => rfl
    | some x => exact (List.mem_replicate.1 (List.mem_of_getElem? hc)).2
  rw [h0, Nat.mul_zero, Nat.add_zero, Nat.zero_add] at this
  unfold wantL
  rw [this, Nat.mul_comm]
theorem want_lt (p pw : Nat) (hp : p < 65536) : ∀ x ∈ wantL p pw, x < 65536 := by
  intro x hx
  rcases List.mem_or_eq_of_mem_set hx with h | h
  · rw [(List.mem_replicate.1 h).2]; decide
  · omega
theorem want_length (p pw : Nat) : (wantL p pw).length = 8 := by simp [wantL]
theorem limb_length (n : Nat) : (limb n).length = 3 := rfl

set_option maxRecDepth 100000 in
set_option maxHeartbeats 1600000 in
theorem rooted_any (p pw : Nat) (w : World) (hp : p < 512) (hpw : 1 ≤ pw ∧ pw ≤ 3) :
    Calls Tryd.prog 31 #[.int .i64 p, .int .i64 pw] w fun e w' => e = .returned (.int .u64 (rt p pw)) ∧ Below w.heap.size w w' := by
  obtain ⟨i0, hi, hz0, hz1, hz2⟩ := info_parts info_int
  obtain ⟨hpw1, hpw2⟩ := hpw
  have e0 : (2 : Int) * (pw : Int) = ((2 * pw : Nat) : Int) := by simp
  have HWV := hide (want_val p pw hpw2)
  have HWL := hide (want_lt p pw (by omega))
  have HWN := hide (want_length p pw)
  have HWS := hide (show wantL p pw = (List.replicate 8 0).set (2 * pw) p from rfl)
  have HRT := hide (show rt p pw = rtl pw (p * 65536 ^ (2 * pw)) 41 0 % 4294967296 from rfl)
  have hq8 : 2 * pw < 8 := by omega
  generalize hqe : 2 * pw = q at *
  clear hqe
  generalize p * 65536 ^ q = P at *
  generalize wantL p pw = wl at *
  have j1 : (q : Int) < 8 := by omega
  go_enter Tryd.func31, Tryd.ntmps31
  go_wp2_with (at_make; go_must (refine wpList_make_full _ rfl _ _ 84 rfl w.heap.size 3 i0 (.int .i64 0) 1 Tryd.underlying84 hi hz0 hz1 _ _ _ _ 8 rfl rfl (by omega) (by omega) (by rw [hz2]; omega) (by unfold maxLen; omega) (Nat.le_refl _) ?_))
  intro w1 hown1 hgrow1
  have hbel1 : Below w.heap.size w w1 := (Below.refl _ _).grown hgrow1 (Nat.le_refl _) (fun k h => by cases h)
  have hblk1 : IBlk w1 w.heap.size (List.replicate 8 0) := by
    have := own_full hown1
    rw [made_zeros] at this
    exact this
  clear hown1 hgrow1
  have cq := hblk1.cell q (by rw [List.length_replicate]; exact hq8)
  have fq := hblk1.free q
  have HB1 := hide hblk1
  have HL1 := hide hbel1
  clear hblk1 hbel1
  go_wp2
  have hwant : IBlk (w1.setCell ⟨w.heap.size, q, none⟩ (.int .i64 (p : Int))) w.heap.size wl := by
    rw [unhide HWS]
    exact (unhide HB1).set q p
  have hbel : Below w.heap.size w (w1.setCell ⟨w.heap.size, q, none⟩ (.int .i64 (p : Int))) := (unhide HL1).setCell (by exact Nat.le_refl _) _
  generalize (w1.setCell ⟨w.heap.size, q, none⟩ (.int .i64 (p : Int))) = w2 at hwant hbel ⊢
  have hI := hwant.ints (unhide HWN) (by unfold maxLen; omega)
  clear cq fq HB1 HL1 hwant
  go_loopw [6, 7] (fun tx tb wr => ∃ b x : Nat, b ≤ 41 ∧ x + 2 ^ b ≤ 2199023255552 ∧ tx = .int .i64 x ∧ tb = .int .i64 ((2 ^ b / 2 : Nat) : Int) ∧ Hid (rtl pw P 41 0 = rtl pw P b x) ∧ Ints wr (.slice (some ⟨w.heap.size, 0, none⟩) 8 8) wl ∧ Below w.heap.size w wr) (fun _ tb _ => (intOf tb).toNat)
  case atStart => exact ⟨41, 0, by omega, by decide, rfl, rfl, hide rfl, hI, hbel⟩
  case round =>
    obtain ⟨b, x, hb, hx, rfl, rfl, HR, hI, hbel⟩ := hrel
    cases b with
    | zero =>
      have hd : decide ((0 : Int) < ((2 ^ 0 / 2 : Nat) : Int)) = false := rfl
      have HR2 := hide (show rt p pw = x % 4294967296 by rw [unhide HRT, unhide HR]; rfl)
      clear HRT HR
      have ev : (2 ^ 0 / 2 : Nat) = 0 := rfl
      rw [ev]
      go_wp2
      go_ret
      refine ⟨?_, hbel⟩
      rw [unhide HR2]
      exact ret_int (by omega)
    | succ b =>
      have ev : (2 ^ (b + 1) / 2 : Nat) = 2 ^ b := by rw [Nat.pow_succ]; omega
      rw [ev]
      have h2b : 0 < 2 ^ b := Nat.pos_of_ne_zero (by simp)
      rw [Nat.pow_succ] at hx
      have HST := hide (show rtl pw P (b + 1) x = rtl pw P b (if P < (x + 2 ^ b) ^ pw then x else x + 2 ^ b) from rfl)
      have HHALF := hide (show ∀ y, y = 2 ^ b → y / 2 = 2 ^ b / 2 from fun y h => by rw [h])
      generalize hbe : 2 ^ b = bit at *
      have hd : decide ((0 : Int) < (bit : Int)) = true := by simp; omega
      have e1 : (x : Int) + (bit : Int) = ((x + bit : Nat) : Int) := by simp
      generalize hXe : x + bit = X at *
      have hX : X < 281474976710656 := by omega
      have HXE := hide hXe
      have HBE := hide hbe
      clear hXe hbe
      go_wp2_with (go_at_call 51; refine (limbs_any X _ hX).mono ?_; rintro e wa ⟨lv, rfl, hL, hbl⟩)
      have hI2 := hI.below hbl (Nat.le_refl _)
      have hbel2 := hbel.trans (hbl.mono hbel.size)
      have HLV := hide (limb_val X)
      have HLT := hide (limb_lt X hX)
      clear hI hbel hbl
      go_loopw [9, 10] (fun nv tk wr => ∃ (k : Nat) (c : List Nat), 1 ≤ k ∧ k ≤ pw ∧ tk = .int .i64 k ∧ Ints wr nv c ∧ c.length = 3 * k ∧ Hid (∀ d ∈ c, d < 65536) ∧ Hid (val c = X ^ k) ∧ Ints wr lv (limb X) ∧ Ints wr (.slice (some ⟨w.heap.size, 0, none⟩) 8 8) wl ∧ Below w.heap.size w wr) (fun _ tk _ => pw - (intOf tk).toNat)
      case atStart => exact ⟨1, limb X, Nat.le_refl _, hpw1, rfl, hL, rfl, HLT, hide (by rw [unhide HLV, Nat.pow_one]), hL, hI2, hbel2⟩
      case round =>
        clear hL hI2 hbel2
        obtain ⟨k, c, hk1, hk2, rfl, hN, hcl, HCD, HCV, hL, hI, hbel⟩ := hrel
        by_cases hlt : k < pw
        · have hd2 : decide ((k : Int) < (pw : Int)) = true := by simp; omega
          have hti := times_any _ _ c (limb X) _ hN hL (unhide HCD) (unhide HLT) (by omega) (by rw [limb_length]; omega)
          have HI := hide hI
          have HL := hide hL
          have HBEL := hide hbel
          clear hI hL hbel hN
          go_wp2_with (go_at_call 52; refine hti.mono ?_; rintro e wb ⟨nv2, c2, rfl, hN2, hcl2, hcd2, hcv2, hbb⟩)
          refine ⟨⟨k + 1, c2, by omega, by omega, by go_num, hN2, by rw [hcl2, limb_length]; omega, hide hcd2, hide (by rw [hcv2, unhide HCV, unhide HLV, Nat.pow_succ]), (unhide HL).below hbb (Nat.le_refl _), (unhide HI).below hbb (Nat.le_refl _), (unhide HBEL).trans (hbb.mono (unhide HBEL).size)⟩, by simp [intOf]; omega⟩
        · have hd2 : decide ((k : Int) < (pw : Int)) = false := by simp; omega
          have hkp : k = pw := by omega
          have hab := above_any _ _ c wl _ hN hI (unhide HCD) (unhide HWL) (by omega) (by rw [unhide HWN]; omega)
          rw [unhide HWV, unhide HCV, hkp] at hab
          have HI := hide hI
          have HBEL := hide hbel
          clear hI hL hbel hN
          by_cases hov : P < X ^ pw
          · rw [decide_eq_true hov] at hab
            have HST2 := hide (show rtl pw P (b + 1) x = rtl pw P b x by rw [unhide HST, if_pos hov])
            clear hov
            go_wp2_with (go_at_call 53; refine hab.mono ?_; rintro e wb ⟨rfl, he⟩; cases he)
            exact ⟨⟨b, x, by omega, by rw [unhide HBE]; omega, rfl, by rw [unhide HBE]; exact congrArg (Value.int .i64) (by omega), hide ((unhide HR).trans (unhide HST2)), unhide HI, unhide HBEL⟩, by simp [intOf]; omega⟩
          · rw [decide_eq_false hov] at hab
            have HST2 := hide (show rtl pw P (b + 1) x = rtl pw P b X by rw [unhide HST, if_neg hov])
            clear hov
            go_wp2_with (go_at_call 53; refine hab.mono ?_; rintro e wb ⟨rfl, he⟩; cases he)
            exact ⟨⟨b, X, by omega, by rw [unhide HBE]; have := unhide HXE; omega, rfl, by rw [unhide HBE]; exact congrArg (Value.int .i64) (by omega), hide ((unhide HR).trans (unhide HST2)), unhide HI, unhide HBEL⟩, by simp [intOf]; omega⟩

/-- The primes of the numbers from n on, so many. -/
def cnt : Nat → Nat → Nat
  | 0, _ => 0
  | f + 1, n => (if prm n then 1 else 0) + cnt f (n + 1)
theorem cnt_pos : ∀ f n, n + (f + 1) = 312 → 1 ≤ cnt (f + 1) n := by
  intro f
  induction f with
  | zero =>
    intro n h
    obtain rfl : n = 311 := by omega
    have : prm 311 = true := by decide +kernel
    simp [cnt, this]
  | succ f ih =>
    intro n h
    have := ih (n + 1) (by omega)
    show 1 ≤ (if prm n then 1 else 0) + cnt (f + 1) (n + 1)
    omega
/-- The tables behind one prime more. -/
def lay1 (t : List Nat) (k n : Nat) : List Nat := if k < 8 then (t.set (8 + k) (rt n 3)).set k (rt n 2) else t.set (8 + k) (rt n 3)
theorem lay1_length (t : List Nat) (k n : Nat) : (lay1 t k n).length = t.length := by
  unfold lay1
  split <;> simp
/-- The tables behind so many numbers from n on. -/
def gfw : Nat → Nat → Nat → List Nat → List Nat
  | 0, _, _, t => t
  | f + 1, n, k, t => if prm n then gfw f (n + 1) (k + 1) (lay1 t k n) else gfw f (n + 1) k t
def z72 : List Nat := List.replicate 72 0
theorem cnt_all : cnt 310 2 = 64 := by decide +kernel
theorem gfw_all : gfw 310 2 0 z72 = Hl ++ Kl := by decide +kernel
end Go.Proofs.YtocfikblfobjfaaDoor
