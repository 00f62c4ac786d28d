/- Plain mathematics of the strong sum, as the program's own text goes: words as natural numbers below 2 to the power 32. -/
import Derived.Test.YtanfolfopalbeaaDoorMath
namespace Go.Proofs.YtanfolfopalbeaaDoor

def rot (x n : Nat) : Nat := x / 2 ^ n ||| x * 2 ^ (32 - n) % 4294967296
theorem rot_lt (x n : Nat) (hx : x < 4294967296) : rot x n < 4294967296 := by
  unfold rot
  have h1 : x / 2 ^ n < 2 ^ 32 := Nat.lt_of_le_of_lt (Nat.div_le_self _ _) (by omega)
  have h2 : x * 2 ^ (32 - n) % 4294967296 < 2 ^ 32 := by
    have := Nat.mod_lt (x * 2 ^ (32 - n)) (show 0 < 4294967296 by omega)
    omega
  have := Nat.or_lt_two_pow h1 h2
  omega
theorem xor_lt32 (x y : Nat) (hx : x < 4294967296) (hy : y < 4294967296) : x ^^^ y < 4294967296 := by
  have := Nat.xor_lt_two_pow (n := 32) (x := x) (y := y) (by omega) (by omega)
  omega
theorem and_lt32 (x y : Nat) (hx : x < 4294967296) : x &&& y < 4294967296 := Nat.lt_of_le_of_lt Nat.and_le_left hx
def sg0 (x : Nat) : Nat := (rot x 7 ^^^ rot x 18) ^^^ x / 8
def sg1 (x : Nat) : Nat := (rot x 17 ^^^ rot x 19) ^^^ x / 1024
def bg0 (x : Nat) : Nat := (rot x 2 ^^^ rot x 13) ^^^ rot x 22
def bg1 (x : Nat) : Nat := (rot x 6 ^^^ rot x 11) ^^^ rot x 25
def chf (e f g : Nat) : Nat := (e &&& f) ^^^ ((4294967295 - e) &&& g)
def maj (a b c : Nat) : Nat := ((a &&& b) ^^^ (a &&& c)) ^^^ (b &&& c)
theorem sg0_lt (x : Nat) (h : x < 4294967296) : sg0 x < 4294967296 := xor_lt32 _ _ (xor_lt32 _ _ (rot_lt _ _ h) (rot_lt _ _ h)) (by omega)
theorem sg1_lt (x : Nat) (h : x < 4294967296) : sg1 x < 4294967296 := xor_lt32 _ _ (xor_lt32 _ _ (rot_lt _ _ h) (rot_lt _ _ h)) (by omega)
theorem bg0_lt (x : Nat) (h : x < 4294967296) : bg0 x < 4294967296 := xor_lt32 _ _ (xor_lt32 _ _ (rot_lt _ _ h) (rot_lt _ _ h)) (rot_lt _ _ h)
theorem bg1_lt (x : Nat) (h : x < 4294967296) : bg1 x < 4294967296 := xor_lt32 _ _ (xor_lt32 _ _ (rot_lt _ _ h) (rot_lt _ _ h)) (rot_lt _ _ h)
theorem chf_lt (e f g : Nat) (h : e < 4294967296) : chf e f g < 4294967296 := xor_lt32 _ _ (and_lt32 _ _ h) (and_lt32 _ _ (by omega))
theorem maj_lt (a b c : Nat) (h : a < 4294967296) (hb : b < 4294967296) : maj a b c < 4294967296 := xor_lt32 _ _ (xor_lt32 _ _ (and_lt32 _ _ h) (and_lt32 _ _ h)) (and_lt32 _ _ hb)

/-- The next word of a schedule. -/
def ext (l : List Nat) : Nat := (sg1 (l.getD (l.length - 2) 0) + l.getD (l.length - 7) 0 + sg0 (l.getD (l.length - 15) 0) + l.getD (l.length - 16) 0) % 4294967296
def sch : Nat → List Nat → List Nat
  | 0, l => l
  | n + 1, l => sch n l ++ [ext (sch n l)]
theorem sch_length (n : Nat) (l : List Nat) : (sch n l).length = l.length + n := by
  induction n with
  | zero => rfl
  | succ n ih => simp only [sch, List.length_append, ih, List.length_cons, List.length_nil]; omega
theorem ext_lt (l : List Nat) : ext l < 4294967296 := by unfold ext; omega
theorem sch_lt (n : Nat) (l : List Nat) (h : ∀ x ∈ l, x < 4294967296) : ∀ x ∈ sch n l, x < 4294967296 := by
  induction n with
  | zero => exact h
  | succ n ih =>
    intro x hx
    simp only [sch, List.mem_append, List.mem_cons, List.not_mem_nil, or_false] at hx
    rcases hx with hx | rfl
    · exact ih x hx
    · exact ext_lt _
theorem getD_lt (l : List Nat) (h : ∀ x ∈ l, x < 4294967296) (j : Nat) : l.getD j 0 < 4294967296 := by
  by_cases hj : j < l.length
  · rw [List.getD, List.getElem?_eq_getElem hj]; exact h _ (List.getElem_mem hj)
  · rw [List.getD, List.getElem?_eq_none (by omega)]; simp
/-- Bytes as a number, the highest first. -/
def beN (l : List UInt8) : Nat := l.foldl (fun a b => a * 256 + b.toNat) 0
/-- The words that stand when k bytes of a block were read. -/
def wat (blk : List UInt8) (k : Nat) : List Nat := (List.range 64).map fun t => beN (((blk.take k).drop (4 * t)).take 4)
def be16 (blk : List UInt8) : List Nat := (List.range 16).map fun t => beN ((blk.drop (4 * t)).take 4)
/-- The length in bits, turned left byte by byte. -/
def bsh (x : Nat) : Nat → Nat
  | 0 => x
  | k + 1 => bsh x k * 256 % 18446744073709551616
theorem bsh_succ (x k : Nat) : bsh x (k + 1) = bsh x k * 256 % 18446744073709551616 := rfl
def lenB (x k : Nat) : List UInt8 := (List.range k).map fun i => UInt8.ofNat (bsh x i / 72057594037927936)
theorem lenB_succ (x k : Nat) : lenB x (k + 1) = lenB x k ++ [UInt8.ofNat (bsh x k / 72057594037927936)] := by
  unfold lenB
  rw [List.range_succ, List.map_append]
  rfl
theorem bsh_lt (x k : Nat) (h : x < 18446744073709551616) : bsh x k < 18446744073709551616 := by
  cases k with
  | zero => exact h
  | succ k => show _ % 18446744073709551616 < _; omega
/-- How many bytes 0 stand behind so many. -/
def zs (n : Nat) : Nat := (120 - n % 64) % 64
/-- What stands behind the last whole block: the rest, and the padding of a text of n bytes. -/
def padL (rest : List UInt8) (n : Nat) : List UInt8 := rest ++ [128] ++ List.replicate (zs (rest.length + 1)) 0 ++ lenB (n * 8 % 18446744073709551616) 8
theorem beN_snoc (l : List UInt8) (c : UInt8) : beN (l ++ [c]) = beN l * 256 + c.toNat := by unfold beN; exact foldl_snoc _ _ _ _
theorem beFold_lt (l : List UInt8) : ∀ a n, a < 256 ^ n → l.foldl (fun a b => a * 256 + b.toNat) a < 256 ^ (n + l.length) := by
  induction l with
  | nil => intro a n h; exact h
  | cons c r ih =>
    intro a n h
    have hc : c.toNat < 256 := c.toNat_lt
    have h1 : a * 256 + c.toNat < 256 ^ (n + 1) := by rw [Nat.pow_succ]; omega
    have h2 := ih _ _ h1
    rw [List.foldl_cons, List.length_cons, show n + (r.length + 1) = n + 1 + r.length by omega]
    exact h2
theorem beN_lt (l : List UInt8) : beN l < 256 ^ l.length := by
  have := beFold_lt l 0 0 (by decide)
  rwa [Nat.zero_add] at this
theorem beN_lt32 (l : List UInt8) (h : l.length ≤ 4) : beN l < 4294967296 := by
  have h1 := beN_lt l
  have h2 : 256 ^ l.length ≤ 256 ^ 4 := Nat.pow_le_pow_right (by decide) h
  omega
theorem wat_length (blk : List UInt8) (k : Nat) : (wat blk k).length = 64 := by simp [wat]
theorem wat_at (blk : List UInt8) (k t : Nat) (h : t < 64) : (wat blk k)[t]? = some (beN ((blk.drop (4 * t)).take (min 4 (k - 4 * t)))) := by
  unfold wat
  rw [List.getElem?_map, List.getElem?_range h, Option.map_some, List.drop_take, List.take_take]
theorem wat_getD (blk : List UInt8) (k : Nat) (h : k < 64) : (wat blk k).getD (k / 4) 0 = beN ((blk.drop (4 * (k / 4))).take (k % 4)) := by
  rw [List.getD, wat_at blk k _ (by omega), Option.getD_some, show min 4 (k - 4 * (k / 4)) = k % 4 by omega]
theorem wat_getD_lt (blk : List UInt8) (k : Nat) (h : k < 64) : (wat blk k).getD (k / 4) 0 < 16777216 := by
  rw [wat_getD blk k h]
  have h1 := beN_lt ((blk.drop (4 * (k / 4))).take (k % 4))
  have h2 : ((blk.drop (4 * (k / 4))).take (k % 4)).length ≤ 3 := by rw [List.length_take]; omega
  have h3 : 256 ^ ((blk.drop (4 * (k / 4))).take (k % 4)).length ≤ 256 ^ 3 := Nat.pow_le_pow_right (by decide) h2
  omega
theorem wat_step (blk : List UInt8) (k : Nat) (h : k < 64) (hb : k < blk.length) : wat blk (k + 1) = (wat blk k).set (k / 4) ((wat blk k).getD (k / 4) 0 * 256 + (blk[k]).toNat) := by
  apply List.ext_getElem?
  intro t
  by_cases ht : t < 64
  · by_cases he : k / 4 = t
    · rw [List.getElem?_set, if_pos he, if_pos (by rw [wat_length]; omega), wat_at blk (k + 1) t ht, wat_getD blk k h]
      congr 1
      rw [← beN_snoc, ← he, show min 4 (k + 1 - 4 * (k / 4)) = k % 4 + 1 by omega, List.take_succ_eq_append_getElem (by rw [List.length_drop]; omega)]
      congr 2
      rw [List.getElem_drop]
      congr 1
      congr 1
      omega
    · rw [List.getElem?_set_ne he, wat_at blk (k + 1) t ht, wat_at blk k t ht, show min 4 (k + 1 - 4 * t) = min 4 (k - 4 * t) by omega]
  · rw [List.getElem?_eq_none (by rw [wat_length]; omega), List.getElem?_eq_none (by rw [List.length_set, wat_length]; omega)]
theorem wat_zero (blk : List UInt8) : wat blk 0 = List.replicate 64 0 := by
  apply List.ext_getElem?
  intro t
  by_cases ht : t < 64
  · rw [wat_at blk 0 t ht, List.getElem?_replicate, if_pos ht, show min 4 (0 - 4 * t) = 0 by omega]
    rfl
  · rw [List.getElem?_eq_none (by rw [wat_length]; omega), List.getElem?_eq_none (by rw [List.length_replicate]; omega)]
theorem be16_length (blk : List UInt8) : (be16 blk).length = 16 := by simp [be16]
theorem be16_lt (blk : List UInt8) : ∀ x ∈ be16 blk, x < 4294967296 := by
  intro x hx
  simp only [be16, List.mem_map] at hx
  obtain ⟨t, _, rfl⟩ := hx
  exact beN_lt32 _ (by rw [List.length_take]; omega)
theorem wat_end (blk : List UInt8) (h : blk.length = 64) : wat blk 64 = be16 blk ++ List.replicate 48 0 := by
  apply List.ext_getElem?
  intro t
  by_cases ht : t < 64
  · rw [wat_at blk 64 t ht]
    by_cases h16 : t < 16
    · rw [List.getElem?_append_left (by rw [be16_length]; exact h16)]
      unfold be16
      rw [List.getElem?_map, List.getElem?_range h16, Option.map_some, show min 4 (64 - 4 * t) = 4 by omega]
    · rw [List.getElem?_append_right (by rw [be16_length]; omega), List.getElem?_replicate, if_pos (by rw [be16_length]; omega), List.drop_eq_nil_of_le (by omega), List.take_nil]
      rfl
  · rw [List.getElem?_eq_none (by rw [wat_length]; omega), List.getElem?_eq_none (by rw [List.length_append, be16_length, List.length_replicate]; omega)]
end Go.Proofs.YtanfolfopalbeaaDoor
