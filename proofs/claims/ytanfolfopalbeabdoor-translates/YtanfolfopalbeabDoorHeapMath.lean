/- The reference's heaps: logs of as many entries as a power of two, the smallest last; what is gathered from them is the root. -/
import Derived.Test.YtanfolfopalbeabDoorTreeMath
namespace Go.Proofs.YtanfolfopalbeabDoor
open Go.RowKit

/-- The heaps t (the last one first) are those of the log xs; each has at least L entries. -/
def Stk : List ByteArray → List (Nat × List UInt8) → Nat → Prop
  | xs, [], _ => xs = []
  | xs, (n, r) :: t, L => (∃ j, n = 2 ^ j) ∧ L ≤ n ∧ n ≤ xs.length ∧ r = rootL (xs.drop (xs.length - n)) ∧ Stk (xs.take (xs.length - n)) t (n + 1)

theorem pow_next {i j : Nat} (h : 2 ^ j + 1 ≤ 2 ^ i) : 2 ^ j + 2 ^ j ≤ 2 ^ i := by
  have hij : j < i := by
    apply Decidable.byContradiction
    intro hn
    have := Nat.pow_le_pow_right (n := 2) (by decide) (show i ≤ j by omega)
    omega
  have := Nat.pow_le_pow_right (n := 2) (by decide) (show j + 1 ≤ i by omega)
  rw [Nat.pow_succ] at this
  omega
theorem Stk.up {xs : List ByteArray} {t : List (Nat × List UInt8)} {n : Nat} (hn : ∃ j, n = 2 ^ j) (h : Stk xs t (n + 1)) : Stk xs t (n + n) := by
  cases t with
  | nil => exact h
  | cons p t =>
    obtain ⟨m, r⟩ := p
    obtain ⟨hj, h1, h2, h3, h4⟩ := h
    obtain ⟨j, rfl⟩ := hn
    obtain ⟨i, rfl⟩ := hj
    exact ⟨⟨i, rfl⟩, pow_next h1, h2, h3, h4⟩
theorem Stk.low {xs : List ByteArray} {t : List (Nat × List UInt8)} {L L' : Nat} (h : Stk xs t L) (hl : L' ≤ L) : Stk xs t L' := by
  cases t with
  | nil => exact h
  | cons p t =>
    obtain ⟨m, r⟩ := p
    obtain ⟨hj, h1, h2⟩ := h
    exact ⟨hj, Nat.le_trans hl h1, h2⟩
theorem Stk.len {xs : List ByteArray} {t : List (Nat × List UInt8)} {L : Nat} (h : Stk xs t L) : t.length ≤ xs.length := by
  induction t generalizing xs L with
  | nil => exact Nat.zero_le _
  | cons p t ih =>
    obtain ⟨m, r⟩ := p
    obtain ⟨⟨j, rfl⟩, h1, h2, h3, h4⟩ := h
    have := ih h4
    rw [List.length_take] at this
    have hp := Nat.two_pow_pos j
    simp only [List.length_cons]
    omega
theorem Stk.elem {xs : List ByteArray} {t : List (Nat × List UInt8)} {L : Nat} (h : Stk xs t L) : ∀ p ∈ t, p.2.length = 32 ∧ p.1 ≤ xs.length := by
  induction t generalizing xs L with
  | nil => intro p hp; cases hp
  | cons q t ih =>
    obtain ⟨m, r⟩ := q
    obtain ⟨hj, h1, h2, h3, h4⟩ := h
    intro p hp
    rcases List.mem_cons.1 hp with rfl | hp
    · exact ⟨by rw [h3]; exact rootL_length _, h2⟩
    · have := ih h4 p hp
      rw [List.length_take] at this
      exact ⟨this.1, by omega⟩
/-- The log A ++ S: the heaps of A, and beside them one of S. -/
def Car (xs : List ByteArray) (t : List (Nat × List UInt8)) (n : Nat) (r : List UInt8) : Prop :=
  ∃ A S, xs = A ++ S ∧ S.length = n ∧ (∃ j, n = 2 ^ j) ∧ r = rootL S ∧ Stk A t n
theorem car_start {xs : List ByteArray} {t : List (Nat × List UInt8)} (x : ByteArray) (h : Stk xs t 1) : Car (xs ++ [x]) t 1 (lf x) :=
  ⟨xs, [x], rfl, rfl, ⟨0, rfl⟩, by rw [rootL_one [x] rfl]; rfl, h⟩
theorem root_join (A S : List ByteArray) (n : Nat) (hn : ∃ j, n = 2 ^ j) (hA : A.length = n) (hS : 0 < S.length) (hS2 : S.length ≤ n) : rootL (A ++ S) = nd (rootL A) (rootL S) := by
  obtain ⟨j, rfl⟩ := hn
  have hp := Nat.two_pow_pos j
  have hl : (A ++ S).length = 2 ^ j + S.length := by rw [List.length_append, hA]
  rw [rootL_two _ (by omega), hl, half_of _ j (by omega) (by omega), List.take_left' hA, List.drop_left' hA]
theorem car_step {xs : List ByteArray} {t : List (Nat × List UInt8)} {n : Nat} {r q : List UInt8} (h : Car xs ((n, r) :: t) n q) : Car xs t (2 * n) (nd r q) := by
  obtain ⟨A, S, hx, hl, hn, hq, hj, h1, h2, h3, h4⟩ := h
  have hp : 0 < n := by obtain ⟨j, rfl⟩ := hn; exact Nat.two_pow_pos j
  refine ⟨A.take (A.length - n), A.drop (A.length - n) ++ S, by rw [← List.append_assoc, List.take_append_drop, hx], by rw [List.length_append, List.length_drop]; omega, ?_, ?_, ?_⟩
  · obtain ⟨j, rfl⟩ := hn
    exact ⟨j + 1, by rw [Nat.pow_succ]; omega⟩
  · rw [root_join _ S n hn (by rw [List.length_drop]; omega) (by omega) (by omega), h3, hq]
  · have := h4.up hn
    rwa [show n + n = 2 * n by omega] at this
theorem car_end {xs : List ByteArray} {t : List (Nat × List UInt8)} {n : Nat} {q : List UInt8} (h : Car xs t n q) (hne : ∀ m r t', t = (m, r) :: t' → m ≠ n) : Stk xs ((n, q) :: t) 1 := by
  obtain ⟨A, S, hx, hl, hn, hq, hs⟩ := h
  have hp : 0 < n := by obtain ⟨j, rfl⟩ := hn; exact Nat.two_pow_pos j
  have hlen : xs.length - n = A.length := by rw [hx, List.length_append]; omega
  refine ⟨hn, hp, by rw [hx, List.length_append]; omega, ?_, ?_⟩
  · rw [hlen, hx, List.drop_left' rfl, hq]
  · rw [hlen, hx, List.take_left' rfl]
    cases t with
    | nil => exact hs
    | cons p t =>
      obtain ⟨m, r⟩ := p
      obtain ⟨hj, h1, h2⟩ := hs
      have := hne m r t rfl
      exact ⟨hj, by omega, h2⟩
/-- What is gathered from the heaps. -/
def gather (q : List UInt8) (t : List (Nat × List UInt8)) : List UInt8 := t.foldl (fun r p => nd p.2 r) q
theorem gather_root : ∀ (t : List (Nat × List UInt8)) (A S : List ByteArray) (L : Nat), Stk A t L → 0 < S.length → S.length ≤ L → gather (rootL S) t = rootL (A ++ S) := by
  intro t
  induction t with
  | nil =>
    intro A S L h _ _
    have h0 : A = [] := h
    rw [h0]
    rfl
  | cons p t ih =>
    intro A S L h h0 hL
    obtain ⟨n, r⟩ := p
    obtain ⟨hn, h1, h2, h3, h4⟩ := h
    have := ih (A.take (A.length - n)) (A.drop (A.length - n) ++ S) (n + n) (h4.up hn) (by rw [List.length_append]; omega) (by rw [List.length_append, List.length_drop]; omega)
    rw [← List.append_assoc, List.take_append_drop, root_join _ S n hn (by rw [List.length_drop]; omega) h0 (by omega), ← h3] at this
    exact this
theorem gather_all {xs : List ByteArray} {t : List (Nat × List UInt8)} {n : Nat} {q : List UInt8} (h : Stk xs ((n, q) :: t) 1) : gather q t = rootL xs := by
  obtain ⟨hn, h1, h2, h3, h4⟩ := h
  have := gather_root t (xs.take (xs.length - n)) (xs.drop (xs.length - n)) (n + n) (h4.up hn) (by rw [List.length_drop]; omega) (by rw [List.length_drop]; omega)
  rw [List.take_append_drop, ← h3] at this
  exact this
end Go.Proofs.YtanfolfopalbeabDoor
