/- The tree log in plain lists: halves, roots, paths, and what a path leads to. -/
import Derived.Test.YtanfolfopalbeaaDoorKnown
import Derived.Test.YtanfolfopalbeaaDoorDigSame
namespace Go.Proofs.YtanfolfopalbeaaDoor
open Go.RowKit

/-- The greatest power of two below n (1 where n is 0 or 1). -/
def half (n : Nat) : Nat := 2 ^ Nat.log2 (n - 1)
theorem half_pos (n : Nat) : 0 < half n := Nat.two_pow_pos _
theorem half_lt (n : Nat) (h : 2 ≤ n) : half n < n := by
  have := Nat.log2_self_le (n := n - 1) (by omega)
  unfold half
  omega
theorem half_ge (n : Nat) : n ≤ half n + half n := by
  have := Nat.lt_log2_self (n := n - 1)
  unfold half
  rw [Nat.pow_succ] at this
  omega
theorem half_of (n j : Nat) (h : 2 ^ j < n) (h2 : n ≤ 2 ^ j + 2 ^ j) : half n = 2 ^ j := by
  have hp := Nat.two_pow_pos j
  have : Nat.log2 (n - 1) = j := by
    refine (Nat.log2_eq_iff (by omega)).2 ⟨by omega, ?_⟩
    rw [Nat.pow_succ]
    omega
  unfold half
  rw [this]
theorem half_small (n : Nat) (h : n ≤ 1) : half n = 1 := by
  have : n - 1 = 0 := by omega
  unfold half
  rw [this]
  decide

/-- The root of one entry; of two logs. -/
def lf (x : ByteArray) : List UInt8 := shaL (0 :: x.data.toList)
def nd (a b : List UInt8) : List UInt8 := shaL (1 :: (a ++ b))
theorem sha_length (l : List UInt8) : (shaL l).length = 32 := dgk_length _ 8 (Nat.le_refl _)
/-- The root of a log. -/
def rootL (xs : List ByteArray) : List UInt8 :=
  if _h : xs.length < 2 then (if xs.length = 0 then shaL [] else lf (xs.getD 0 ByteArray.empty))
  else nd (rootL (xs.take (half xs.length))) (rootL (xs.drop (half xs.length)))
termination_by xs.length
decreasing_by
  · rw [List.length_take]; have := half_lt xs.length (by omega); omega
  · rw [List.length_drop]; have := half_pos xs.length; omega
/-- The path of an entry. -/
def pathL (xs : List ByteArray) (i : Nat) : List (List UInt8) :=
  if _h : xs.length < 2 then []
  else if i < half xs.length then pathL (xs.take (half xs.length)) i ++ [rootL (xs.drop (half xs.length))]
  else pathL (xs.drop (half xs.length)) (i - half xs.length) ++ [rootL (xs.take (half xs.length))]
termination_by xs.length
decreasing_by
  · rw [List.length_take]; have := half_lt xs.length (by omega); omega
  · rw [List.length_drop]; have := half_pos xs.length; omega
/-- How long the path of entry i of n is. -/
def plen (n i : Nat) : Nat :=
  if h : n < 2 then 0
  else if i < half n then plen (half n) i + 1 else plen (n - half n) (i - half n) + 1
termination_by n
decreasing_by
  · exact half_lt n (by omega)
  · have := half_pos n; omega
/-- To which root a path leads. -/
def climbL (s : List UInt8) (n i : Nat) (p : List (List UInt8)) : List UInt8 :=
  if h : n < 2 ∨ p.length = 0 then s
  else if i < half n then nd (climbL s (half n) i (p.take (p.length - 1))) (p.getD (p.length - 1) [])
  else nd (p.getD (p.length - 1) []) (climbL s (n - half n) (i - half n) (p.take (p.length - 1)))
termination_by n
decreasing_by
  · exact half_lt n (by omega)
  · have := half_pos n; omega

theorem rootL_length (xs : List ByteArray) : (rootL xs).length = 32 := by
  unfold rootL
  split
  · split
    · exact sha_length _
    · exact sha_length _
  · exact sha_length _
theorem climbL_length (s : List UInt8) (n i : Nat) (p : List (List UInt8)) (hs : s.length = 32) : (climbL s n i p).length = 32 := by
  unfold climbL
  split
  · exact hs
  · split
    · exact sha_length _
    · exact sha_length _
theorem rootL_nil : rootL [] = shaL [] := by unfold rootL; simp
theorem rootL_one (xs : List ByteArray) (h : xs.length = 1) : rootL xs = lf (xs.getD 0 ByteArray.empty) := by unfold rootL; rw [dif_pos (by omega), if_neg (by omega)]
theorem rootL_two (xs : List ByteArray) (h : 2 ≤ xs.length) : rootL xs = nd (rootL (xs.take (half xs.length))) (rootL (xs.drop (half xs.length))) := by rw [rootL, dif_neg (by omega)]
theorem pathL_one (xs : List ByteArray) (i : Nat) (h : xs.length < 2) : pathL xs i = [] := by unfold pathL; rw [dif_pos h]
theorem pathL_left (xs : List ByteArray) (i : Nat) (h : 2 ≤ xs.length) (hi : i < half xs.length) : pathL xs i = pathL (xs.take (half xs.length)) i ++ [rootL (xs.drop (half xs.length))] := by rw [pathL, dif_neg (by omega), if_pos hi]
theorem pathL_right (xs : List ByteArray) (i : Nat) (h : 2 ≤ xs.length) (hi : ¬ i < half xs.length) : pathL xs i = pathL (xs.drop (half xs.length)) (i - half xs.length) ++ [rootL (xs.take (half xs.length))] := by rw [pathL, dif_neg (by omega), if_neg hi]
theorem plen_one (n i : Nat) (h : n < 2) : plen n i = 0 := by unfold plen; rw [dif_pos h]
theorem plen_left (n i : Nat) (h : 2 ≤ n) (hi : i < half n) : plen n i = plen (half n) i + 1 := by rw [plen, dif_neg (by omega), if_pos hi]
theorem plen_right (n i : Nat) (h : 2 ≤ n) (hi : ¬ i < half n) : plen n i = plen (n - half n) (i - half n) + 1 := by rw [plen, dif_neg (by omega), if_neg hi]
theorem climbL_end (s : List UInt8) (n i : Nat) (p : List (List UInt8)) (h : n < 2 ∨ p.length = 0) : climbL s n i p = s := by unfold climbL; rw [dif_pos h]
theorem climbL_left (s : List UInt8) (n i : Nat) (p : List (List UInt8)) (h : 2 ≤ n) (hp : 0 < p.length) (hi : i < half n) : climbL s n i p = nd (climbL s (half n) i (p.take (p.length - 1))) (p.getD (p.length - 1) []) := by rw [climbL, dif_neg (by omega), if_pos hi]
theorem climbL_right (s : List UInt8) (n i : Nat) (p : List (List UInt8)) (h : 2 ≤ n) (hp : 0 < p.length) (hi : ¬ i < half n) : climbL s n i p = nd (p.getD (p.length - 1) []) (climbL s (n - half n) (i - half n) (p.take (p.length - 1))) := by rw [climbL, dif_neg (by omega), if_neg hi]

theorem snoc_take (p : List (List UInt8)) (a : List UInt8) : (p ++ [a]).take ((p ++ [a]).length - 1) = p := by simp
theorem snoc_last (p : List (List UInt8)) (a : List UInt8) : (p ++ [a]).getD ((p ++ [a]).length - 1) [] = a := by simp [List.getD]

theorem pathL_length (k : Nat) : ∀ (xs : List ByteArray) (i : Nat), xs.length ≤ k → i < xs.length → (pathL xs i).length = plen xs.length i := by
  induction k with
  | zero => intro xs i h hi; omega
  | succ k ih =>
    intro xs i h hi
    by_cases h2 : xs.length < 2
    · rw [pathL_one xs i h2, plen_one _ i h2]; rfl
    · have h3 := half_lt xs.length (by omega)
      have h4 := half_pos xs.length
      have ht : (xs.take (half xs.length)).length = half xs.length := by rw [List.length_take]; omega
      have hd : (xs.drop (half xs.length)).length = xs.length - half xs.length := List.length_drop
      by_cases hh : i < half xs.length
      · rw [pathL_left xs i (by omega) hh, plen_left _ i (by omega) hh, List.length_append, ih _ i (by omega) (by omega), ht]; rfl
      · rw [pathL_right xs i (by omega) hh, plen_right _ i (by omega) hh, List.length_append, ih _ _ (by omega) (by omega), hd]; rfl
theorem climb_path (k : Nat) : ∀ (xs : List ByteArray) (i : Nat), xs.length ≤ k → i < xs.length → climbL (lf (xs.getD i ByteArray.empty)) xs.length i (pathL xs i) = rootL xs := by
  induction k with
  | zero => intro xs i h hi; omega
  | succ k ih =>
    intro xs i h hi
    by_cases h2 : xs.length < 2
    · rw [climbL_end _ _ _ _ (.inl h2), rootL_one xs (by omega)]
      have : i = 0 := by omega
      rw [this]
    · have h3 := half_lt xs.length (by omega)
      have h4 := half_pos xs.length
      have ht : (xs.take (half xs.length)).length = half xs.length := by rw [List.length_take]; omega
      have hd : (xs.drop (half xs.length)).length = xs.length - half xs.length := List.length_drop
      rw [rootL_two xs (by omega)]
      by_cases hh : i < half xs.length
      · have := ih (xs.take (half xs.length)) i (by omega) (by omega)
        rw [pathL_left xs i (by omega) hh, climbL_left _ _ _ _ (by omega) (by simp) hh, snoc_take, snoc_last]
        rw [ht] at this
        rw [← this]
        simp only [List.getD]
        rw [List.getElem?_take_of_lt hh]
      · have := ih (xs.drop (half xs.length)) (i - half xs.length) (by omega) (by omega)
        rw [pathL_right xs i (by omega) hh, climbL_right _ _ _ _ (by omega) (by simp) hh, snoc_take, snoc_last]
        rw [hd] at this
        rw [← this]
        simp only [List.getD]
        rw [List.getElem?_drop, show half xs.length + (i - half xs.length) = i by omega]
theorem path_small (k : Nat) : ∀ (n i : Nat), n ≤ 2 ^ k → plen n i ≤ k := by
  induction k with
  | zero => intro n i h; rw [plen_one n i (by omega)]; exact Nat.le_refl _
  | succ k ih =>
    intro n i h
    by_cases h2 : n < 2
    · rw [plen_one n i h2]; omega
    · have h3 := half_lt n (by omega)
      have h5 := half_ge n
      have h6 : half n ≤ 2 ^ k := by
        have hl : Nat.log2 (n - 1) < k + 1 := (Nat.log2_lt (by omega)).2 (by omega)
        exact Nat.pow_le_pow_right (by decide) (by omega)
      by_cases hh : i < half n
      · rw [plen_left n i (by omega) hh]
        have := ih (half n) i h6
        omega
      · rw [plen_right n i (by omega) hh]
        have := ih (n - half n) (i - half n) (by omega)
        omega
theorem pathL_elem (k : Nat) : ∀ (xs : List ByteArray) (i : Nat), xs.length ≤ k → ∀ d ∈ pathL xs i, d.length = 32 := by
  induction k with
  | zero => intro xs i h d hd; rw [pathL_one xs i (by omega)] at hd; cases hd
  | succ k ih =>
    intro xs i h d hd
    by_cases h2 : xs.length < 2
    · rw [pathL_one xs i h2] at hd; cases hd
    · have h3 := half_lt xs.length (by omega)
      have h4 := half_pos xs.length
      by_cases hh : i < half xs.length
      · rw [pathL_left xs i (by omega) hh, List.mem_append] at hd
        rcases hd with hd | hd
        · exact ih _ i (by rw [List.length_take]; omega) d hd
        · rw [List.mem_singleton] at hd; rw [hd]; exact rootL_length _
      · rw [pathL_right xs i (by omega) hh, List.mem_append] at hd
        rcases hd with hd | hd
        · exact ih _ _ (by rw [List.length_drop]; omega) d hd
        · rw [List.mem_singleton] at hd; rw [hd]; exact rootL_length _
end Go.Proofs.YtanfolfopalbeaaDoor
