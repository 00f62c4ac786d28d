import Derived.Test.YtocfikblfobjfaaDoorCommB
import Derived.Deep.RegionHeld3
import Derived.Test.YtocfikblfobjfaaDoorAppend
namespace Go.Proofs.YtocfikblfobjfaaDoor
open Go.RowKit

theorem rot_eq (x n : Nat) (hx : x < 4294967296) (hn : n ≤ 32) : (x * 4294967296 ||| x) / 2 ^ n % 4294967296 = rot x n := by
  apply Nat.eq_of_testBit_eq
  intro i
  unfold rot
  rw [show 4294967296 = 2 ^ 32 from rfl, Nat.testBit_mod_two_pow, Nat.testBit_or, Nat.testBit_mod_two_pow]
  rw [Nat.testBit_div_two_pow, Nat.testBit_div_two_pow, Nat.testBit_or, Nat.testBit_mul_two_pow, Nat.testBit_mul_two_pow]
  have hz : ∀ j, 32 ≤ j → x.testBit j = false := fun j hj => Nat.testBit_lt_two_pow (Nat.lt_of_lt_of_le hx (by
    have : 2 ^ 32 ≤ 2 ^ j := Nat.pow_le_pow_right (by decide) hj
    omega))
  by_cases h1 : i < 32
  · by_cases h2 : i + n < 32
    · simp [h1, show ¬ 32 ≤ i + n by omega, show ¬ 32 - n ≤ i by omega]
    · have e : i + n - 32 = i - (32 - n) := by omega
      simp [h1, show 32 ≤ i + n by omega, show 32 - n ≤ i by omega, hz (i + n) (by omega), e]
  · simp [h1, hz (i + n) (by omega)]

theorem by_bits (x n : Nat) (hx : x < 4294967296) (hn : n ≤ 32) : (bits BinOp.or IntKind.u64 ((x : Int) * 4294967296) (x : Int) / 2 ^ n).tmod 4294967296 = ((rot x n : Nat) : Int) := by
  rw [show (x : Int) * 4294967296 = ((x * 4294967296 : Nat) : Int) by omega, u64_or_nat _ _ (by omega) (by omega)]
  have e1 : ((x * 4294967296 ||| x : Nat) : Int) / 2 ^ n = (((x * 4294967296 ||| x) / 2 ^ n : Nat) : Int) := by simp
  rw [e1, ← rot_eq x n hx hn]
  generalize (x * 4294967296 ||| x) / 2 ^ n = q
  rw [Int.tmod_eq_emod_of_nonneg (by omega)]
  omega

set_option maxRecDepth 100000 in
set_option maxHeartbeats 400000 in
theorem by_any (x n : Nat) (w : World) (hx : x < 4294967296) (hn : n ≤ 32) :
    Calls Tryd.prog 58 #[.int .u64 x, .int .u64 n] w fun e w' => e = .returned (.int .u64 (rot x n)) ∧ w' = w := by
  go_enter Tryd.func58, Tryd.ntmps58
  go_wp2
  go_ret
  exact ⟨ret_int (by_bits x n hx hn), rfl⟩

theorem info_u64 : (Tryd.prog.info? 22).map (fun i => (i.zero, i.size, i.bytes)) = some (some (.int .u64 0), 1, 8) := by kernel_rfl
/-- Bytes as cells of numbers. -/
def ncells (l : List UInt8) : List Value := l.map fun b => Value.int .u64 (b.toNat : Int)
theorem ncells_append (a b : List UInt8) : ncells (a ++ b) = ncells a ++ ncells b := by simp [ncells]
theorem ncells_length (a : List UInt8) : (ncells a).length = a.length := by simp [ncells]
/-- The length in bits, byte by byte, from the highest on. -/
def lenR (x k : Nat) : List UInt8 := (List.range k).map fun i => UInt8.ofNat (x / 2 ^ (8 * (7 - i)) % 256)
theorem lenR_succ (x k : Nat) : lenR x (k + 1) = lenR x k ++ [UInt8.ofNat (x / 2 ^ (8 * (7 - k)) % 256)] := by
  unfold lenR
  rw [List.range_succ, List.map_append]
  rfl
def padR (l : List UInt8) : List UInt8 := l ++ [128] ++ List.replicate (zs (l.length + 1)) 0 ++ lenR (8 * l.length) 8

set_option maxRecDepth 100000 in
set_option maxHeartbeats 1600000 in
theorem rpad_any (s : ByteArray) (w : World) (hs : s.size ≤ 1048576) :
    Calls Tryd.prog 34 #[.string s] w fun e w' => ∃ v, e = .returned v ∧ w'.ownsRow w.heap.size 22 1 v (padR s.data.toList).length (ncells (padR s.data.toList)) ∧ Below w.heap.size w w' := by
  obtain ⟨i0, hi, hz0, hz1, hz2⟩ := info_parts info_u64
  go_enter Tryd.func34, Tryd.ntmps34
  go_wp2
  go_loopw [3, 4] (fun v i wr => ∃ k : Nat, k ≤ s.size ∧ i = .int .i64 k ∧ wr.ownsRow w.heap.size 22 1 v k (ncells (s.data.toList.take k)) ∧ Below w.heap.size w wr) (fun _ i _ => s.size - (intOf i).toNat)
  case atStart => exact ⟨0, Nat.zero_le _, rfl, World.ownsRow_nil _ _ _ _, Below.refl _ _⟩
  case round =>
    obtain ⟨k, hk, rfl, hown, hbel⟩ := hrel
    have hszr := hbel.size
    by_cases hlt : k < s.size
    · have HT := hide (take_snoc s k hlt)
      have hb := (s[k]'hlt).toNat_lt
      have hd1 : decide ((k : Int) < (s.size : Int)) = true := by simp; omega
      go_wp2_with (at_builtin; go_must (refine wpList_append_own _ rfl (.tmp 13) (.tmp 18) 71 rfl w.heap.size 22 i0 (.int .u64 0) 1 8 Tryd.underlying71 hi hz0 hz1 hz2 rfl (by decide) _ _ _ rfl (hown.alloc _) ⟨wr.heap.size, 0, none⟩ 1 1 [.int .u64 ((s[k].toNat : Nat) : Int)] rfl rfl ?c1 ?c2 ?c3 ?c4 ?c5 ?_))
      case c1 => exact cell_one_new _ _ _
      case c2 => intro u hu; simp at hu; subst hu; rfl
      case c3 => unfold maxLen; omega
      case c4 => omega
      case c5 => simp; omega
      intro v3 w3 hown3 hgrow3 _
      have hbel3 : Below w.heap.size w w3 := (hbel.alloc hszr _).grown hgrow3 (by simp; omega) (own_row_ge hown)
      clear hgrow3 hown hbel
      go_wp2
      go_roundw
      case rel => exact ⟨k + 1, by omega, by go_num, by rw [unhide HT, ncells_append]; exact hown3, hbel3⟩
      case measure => simp [intOf]; omega
    · have hke : k = s.size := by omega
      rw [hke] at hown
      rw [List.take_of_length_le (show s.data.toList.length ≤ s.size from Nat.le_refl _)] at hown
      have hd1 : decide ((k : Int) < (s.size : Int)) = false := by simp; omega
      have hl0 : (s.data.toList ++ [128]).length = s.size + 1 := by rw [List.length_append]; rfl
      have HP := hide (show padR s.data.toList = (s.data.toList ++ [128]) ++ List.replicate (zs (s.size + 1)) 0 ++ lenR (8 * s.size) 8 from rfl)
      have hJ : zs (s.size + 1) < 64 := by unfold zs; omega
      have hJ2 : (s.size + 1 + zs (s.size + 1)) % 64 = 56 := by unfold zs; omega
      have hJ3 : ∀ j, j < zs (s.size + 1) → (s.size + 1 + j) % 64 ≠ 56 := by unfold zs; omega
      generalize zs (s.size + 1) = J at hJ hJ2 hJ3 HP
      have HJ := hide hJ3
      have HJ2 := hide hJ2
      clear hke hJ3 hJ2
      go_wp2_with (at_builtin; go_must (refine wpList_append_own _ rfl (.tmp 20) (.tmp 21) 71 rfl w.heap.size 22 i0 (.int .u64 0) 1 8 Tryd.underlying71 hi hz0 hz1 hz2 rfl (by decide) _ _ _ rfl (hown.alloc _) ⟨wr.heap.size, 0, none⟩ 1 1 [.int .u64 128] rfl rfl ?d1 ?d2 ?d3 ?d4 ?d5 ?_))
      case d1 => exact cell_one_new _ _ _
      case d2 => intro u hu; simp at hu; subst hu; rfl
      case d3 => unfold maxLen; omega
      case d4 => omega
      case d5 => simp; omega
      intro v2 w2 hown2 hgrow2 _
      have hbel2 : Below w.heap.size w w2 := (hbel.alloc hszr _).grown hgrow2 (by simp; omega) (own_row_ge hown)
      have e2 : ncells s.data.toList ++ [Value.int .u64 128] = ncells (s.data.toList ++ [128]) := by rw [ncells_append]; rfl
      rw [e2] at hown2
      generalize s.data.toList ++ [128] = l0 at hown2 hl0 HP
      clear hgrow2 hown hbel e2
      go_wp2
      go_loopw [3] (fun v wq => ∃ j : Nat, j ≤ J ∧ wq.ownsRow w.heap.size 22 1 v (s.size + 1 + j) (ncells (l0 ++ List.replicate j 0)) ∧ Below w.heap.size w wq) (fun v _ => (match v with | .slice _ m _ => s.size + 1 + J - m | _ => 0))
      case atStart => exact ⟨0, Nat.zero_le _, by rw [List.replicate_zero, List.append_nil]; exact hown2, hbel2⟩
      case round =>
        obtain ⟨j, hj, hown, hbel⟩ := hrel
        obtain ⟨ao, cap, rfl⟩ := own_shape hown
        have hszq := hbel.size
        by_cases hlt : j < J
        · have hne := unhide HJ j hlt
          go_wp2_with (at_builtin; go_must (refine wpList_append_own _ rfl (.tmp 27) (.tmp 28) 71 rfl w.heap.size 22 i0 (.int .u64 0) 1 8 Tryd.underlying71 hi hz0 hz1 hz2 rfl (by decide) _ _ _ rfl (hown.alloc _) ⟨wr.heap.size, 0, none⟩ 1 1 [.int .u64 0] rfl rfl ?f1 ?f2 ?f3 ?f4 ?f5 ?_))
          case f1 => exact cell_one_new _ _ _
          case f2 => intro u hu; simp at hu; subst hu; rfl
          case f3 => unfold maxLen; omega
          case f4 => omega
          case f5 => simp; omega
          intro v3 w3 hown3 hgrow3 _
          have hbel3 : Below w.heap.size w w3 := (hbel.alloc hszq _).grown hgrow3 (by simp; omega) (own_row_ge hown)
          have e3 : ncells (l0 ++ List.replicate j 0) ++ [Value.int .u64 0] = ncells (l0 ++ List.replicate (j + 1) 0) := by
            rw [List.replicate_succ', ← List.append_assoc, ncells_append (l0 ++ List.replicate j 0)]; rfl
          rw [e3] at hown3
          obtain ⟨ao3, cap3, hv3⟩ := own_shape hown3
          rw [hv3] at hown3 ⊢
          clear hv3 hgrow3 e3 hown hbel
          go_wp2
          go_roundw
          case rel => exact ⟨j + 1, by omega, hown3, hbel3⟩
          case measure => simp; omega
        · have hje : j = J := by omega
          subst hje
          have hm := unhide HJ2
          generalize hqe : s.size + 1 + j = q at hown hm ⊢
          have hq2 : q ≤ 1048700 := by omega
          generalize l0 ++ List.replicate j 0 = l1 at hown HP
          have hd : ((q : Int) % 64 != 56) = false := by rw [bne_eq_false_iff_eq]; omega
          clear HJ HJ2 hqe
          go_wp2
          go_loopw [3, 6] (fun v i wz => ∃ k : Nat, k ≤ 8 ∧ i = .int .i64 (7 - (k : Int)) ∧ wz.ownsRow w.heap.size 22 1 v (q + k) (ncells (l1 ++ lenR (8 * s.size) k)) ∧ Below w.heap.size w wz) (fun _ i _ => (intOf i + 1).toNat)
          case atStart => exact ⟨0, by omega, rfl, by rw [show lenR (8 * s.size) 0 = [] from rfl, List.append_nil]; exact hown, hbel⟩
          case round =>
            obtain ⟨k, hk, rfl, hown, hbel⟩ := hrel
            have hszz := hbel.size
            by_cases hlt : k < 8
            · obtain ⟨m, hme⟩ : ∃ m : Nat, m = 7 - k := ⟨_, rfl⟩
              have hmi : (7 : Int) - (k : Int) = (m : Int) := by omega
              have HL := hide (lenR_succ (8 * s.size) k)
              have HME := hide hme
              have hm7 : m ≤ 7 := by omega
              rw [hmi]
              have HMI := hide hmi
              clear hme hmi
              go_wp2_with (at_builtin; go_must (refine wpList_append_own _ rfl (.tmp 38) (.tmp 45) 71 rfl w.heap.size 22 i0 (.int .u64 0) 1 8 Tryd.underlying71 hi hz0 hz1 hz2 rfl (by decide) _ _ _ rfl (hown.alloc _) ⟨wr.heap.size, 0, none⟩ 1 1 [.int .u64 ((8 * (s.size : Int) / 2 ^ (8 * m)).tmod 256)] rfl rfl ?g1 ?g2 ?g3 ?g4 ?g5 ?_))
              case g1 => exact cell_one_new _ _ _
              case g2 => intro u hu; simp at hu; subst hu; rfl
              case g3 => unfold maxLen; omega
              case g4 => omega
              case g5 => simp; omega
              intro v3 w3 hown3 hgrow3 _
              have hbel3 : Below w.heap.size w w3 := (hbel.alloc hszz _).grown hgrow3 (by simp; omega) (own_row_ge hown)
              have e3 : ncells (l1 ++ lenR (8 * s.size) k) ++ [Value.int .u64 ((8 * (s.size : Int) / 2 ^ (8 * m)).tmod 256)] = ncells (l1 ++ lenR (8 * s.size) (k + 1)) := by
                rw [unhide HL, ← List.append_assoc, ncells_append (l1 ++ lenR (8 * s.size) k), ← unhide HME]
                congr 1
                simp only [ncells, List.map_cons, List.map_nil]
                rw [UInt8.toNat_ofNat']
                have e4 : 8 * (s.size : Int) / 2 ^ (8 * m) = ((8 * s.size / 2 ^ (8 * m) : Nat) : Int) := by simp
                rw [e4]
                generalize 8 * s.size / 2 ^ (8 * m) = y
                rw [Int.tmod_eq_emod_of_nonneg (by omega)]
                exact congrArg (fun x => [Value.int .u64 x]) (by omega)
              rw [e3] at hown3
              clear hgrow3 e3 hown hbel
              go_wp2
              go_roundw
              case rel => exact ⟨k + 1, by omega, val_int (by have := unhide HMI; omega), hown3, hbel3⟩
              case measure => have := unhide HMI; simp [intOf]
            · have hke : k = 8 := by omega
              rw [hke, ← unhide HP] at hown
              have hi7 : (7 : Int) - (k : Int) = -1 := by omega
              have hlp : (padR s.data.toList).length = q + 8 := by
                have := hown.1
                rw [ncells_length] at this
                omega
              have HLP := hide hlp
              rw [hi7]
              clear hke hi7 hlp HP
              go_wp2
              go_ret
              exact ⟨_, rfl, by rw [unhide HLP]; exact hown, hbel⟩
end Go.Proofs.YtocfikblfobjfaaDoor
namespace Go.Proofs.YtocfikblfobjfaaDoor
open Go.RowKit

/-- A number that uint64 holds is not wrapped. -/
theorem u64w (x : Int) (h : 0 ≤ x ∧ x < 18446744073709551616) : IntKind.u64.wrap x = x := by rw [IntKind.wrap_u64]; omega
/-- Words as cells of 64 bits. -/
def ucells (l : List Nat) : List Value := l.map fun (n : Nat) => Value.int .u64 (n : Int)
theorem ucells_append (a b : List Nat) : ucells (a ++ b) = ucells a ++ ucells b := by simp [ucells]
theorem ucells_length (a : List Nat) : (ucells a).length = a.length := by simp [ucells]
theorem ucells_at (l : List Nat) (j : Nat) (h : j < l.length) : (ucells l)[j]? = some (.int .u64 ((l.getD j 0 : Nat) : Int)) := by
  simp [ucells, List.getD, List.getElem?_eq_getElem h]

theorem sch_take (l : List Nat) (n k : Nat) (h : k ≤ n) : (sch n l).take (l.length + k) = sch k l := by
  induction n with
  | zero =>
    obtain rfl : k = 0 := by omega
    rw [List.take_of_length_le (by rw [sch_length]; omega)]
  | succ n ih =>
    by_cases he : k = n + 1
    · subst he
      rw [List.take_of_length_le (by rw [sch_length]; omega)]
    · show (sch n l ++ [_]).take _ = _
      rw [List.take_append_of_le_length (by rw [sch_length]; omega)]
      exact ih (by omega)
theorem sch_take_low (l : List Nat) (n k : Nat) (h : k ≤ l.length) : (sch n l).take k = l.take k := by
  have h0 := sch_take l n 0 (by omega)
  rw [Nat.add_zero] at h0
  have : ((sch n l).take l.length).take k = (sch n l).take k := by rw [List.take_take, Nat.min_eq_left h]
  rw [← this, h0]; rfl
/-- The first t words of a block's schedule. -/
def spr (bl : List UInt8) (t : Nat) : List Nat := (sch 48 (be16 bl)).take t
theorem spr_length (bl : List UInt8) (t : Nat) (h : t ≤ 64) : (spr bl t).length = t := by
  unfold spr
  rw [List.length_take, sch_length, be16_length]; omega
theorem spr_lt (bl : List UInt8) (t : Nat) : ∀ x ∈ spr bl t, x < 4294967296 := fun x hx => sch_lt 48 _ (be16_lt bl) x (List.mem_of_mem_take hx)
theorem spr_end (bl : List UInt8) : spr bl 64 = sch 48 (be16 bl) := by
  unfold spr
  rw [List.take_of_length_le (by rw [sch_length, be16_length]; omega)]
theorem be4 (a b c d : UInt8) : beN [a, b, c, d] = ((a.toNat * 256 + b.toNat) * 256 + c.toNat) * 256 + d.toNat := by simp [beN]
theorem spr_low (bl : List UInt8) (t : Nat) (h : t < 16) (hb : bl.length = 64) : spr bl (t + 1) = spr bl t ++ [(((bl.getD (4 * t) 0).toNat * 256 + (bl.getD (4 * t + 1) 0).toNat) * 256 + (bl.getD (4 * t + 2) 0).toNat) * 256 + (bl.getD (4 * t + 3) 0).toNat] := by
  unfold spr
  rw [sch_take_low _ _ _ (by rw [be16_length]; omega), sch_take_low _ _ _ (by rw [be16_length]; omega)]
  rw [List.take_succ_eq_append_getElem (by rw [be16_length]; omega), ← be4]
  congr 2
  unfold be16
  rw [List.getElem_map, List.getElem_range]
  congr 1
  have hd : ∀ j, j < 64 → bl[j]? = some (bl.getD j 0) := fun j hj => by rw [List.getD, List.getElem?_eq_getElem (by omega)]; rfl
  apply List.ext_getElem?
  intro i
  rw [List.getElem?_take, List.getElem?_drop]
  match i with
  | 0 => simpa using hd (4 * t) (by omega)
  | 1 => simpa using hd (4 * t + 1) (by omega)
  | 2 => simpa using hd (4 * t + 2) (by omega)
  | 3 => simpa using hd (4 * t + 3) (by omega)
  | i + 4 => simp; omega
theorem spr_high (bl : List UInt8) (t : Nat) (h : 16 ≤ t) (h2 : t < 64) : spr bl (t + 1) = spr bl t ++ [ext (spr bl t)] := by
  have hl := be16_length bl
  unfold spr
  have e1 := sch_take (be16 bl) 48 (t - 16) (by omega)
  have e2 := sch_take (be16 bl) 48 (t - 16 + 1) (by omega)
  rw [hl, show 16 + (t - 16) = t by omega] at e1
  rw [hl, show 16 + (t - 16 + 1) = t + 1 by omega] at e2
  rw [e1, e2]
  rfl

theorem xor3_bits64 (a b c : Nat) (ha : a < 4294967296) (hb : b < 4294967296) (hc : c < 4294967296) : bits BinOp.xor IntKind.u64 (bits BinOp.xor IntKind.u64 (a : Int) (b : Int)) (c : Int) = ((a ^^^ b ^^^ c : Nat) : Int) := by
  rw [u64_xor_nat a b (by omega) (by omega), u64_xor_nat _ c (by have := xor_lt32 _ _ ha hb; omega) (by omega)]
theorem sg0_bits64 (x : Nat) (hx : x < 4294967296) : bits BinOp.xor IntKind.u64 (bits BinOp.xor IntKind.u64 ((rot x 7 : Nat) : Int) ((rot x 18 : Nat) : Int)) ((x : Int) / 8) = ((sg0 x : Nat) : Int) := by
  rw [show (x : Int) / 8 = ((x / 8 : Nat) : Int) by omega]
  exact xor3_bits64 _ _ _ (rot_lt _ _ hx) (rot_lt _ _ hx) (by omega)
theorem sg1_bits64 (x : Nat) (hx : x < 4294967296) : bits BinOp.xor IntKind.u64 (bits BinOp.xor IntKind.u64 ((rot x 17 : Nat) : Int) ((rot x 19 : Nat) : Int)) ((x : Int) / 1024) = ((sg1 x : Nat) : Int) := by
  rw [show (x : Int) / 1024 = ((x / 1024 : Nat) : Int) by omega]
  exact xor3_bits64 _ _ _ (rot_lt _ _ hx) (rot_lt _ _ hx) (by omega)

theorem ext_cells (m : List Nat) (y0 y1 x7 x16 : Nat) : ucells m ++ [.int .u64 (((y0 : Int) + y1 + x7 + x16).tmod 4294967296)] = ucells (m ++ [(y1 + x7 + y0 + x16) % 4294967296]) := by
  rw [ucells_append, Int.tmod_eq_emod_of_nonneg (by omega)]
  congr 1
  simp only [ucells, List.map_cons, List.map_nil]
  exact congrArg (fun x => [Value.int .u64 x]) (by omega)

/-- 64 bytes as numbers, in a block from an offset on. -/
def NumsAt (w : World) (g off : Nat) (bl : List UInt8) : Prop := g < w.heap.size ∧ ∀ j, j < 64 → w.cell? ⟨g, off + j, none⟩ = some (.int .u64 ((bl.getD j 0).toNat : Int))
theorem NumsAt.below {w w' : World} {g off B : Nat} {bl : List UInt8} (h : NumsAt w g off bl) (hb : Below B w w') (hB : w.heap.size ≤ B) : NumsAt w' g off bl :=
  ⟨Nat.lt_of_lt_of_le h.1 hb.size, fun j hj => by rw [hb.cell (p := ⟨g, off + j, none⟩) (Nat.lt_of_lt_of_le h.1 hB)]; exact h.2 j hj⟩

set_option maxRecDepth 100000 in
set_option maxHeartbeats 1600000 in
theorem spread_any (g off cap : Nat) (bl : List UInt8) (w : World) (hb : bl.length = 64) (hN : NumsAt w g off bl) :
    Calls Tryd.prog 57 #[.slice (some ⟨g, off, none⟩) 64 cap] w fun e w' => ∃ v, e = .returned v ∧ w'.ownsRow w.heap.size 22 1 v 64 (ucells (sch 48 (be16 bl))) ∧ Below w.heap.size w w' := by
  obtain ⟨i0, hi, hz0, hz1, hz2⟩ := info_parts info_u64
  have HN := hide hN
  have hglt := hN.1
  clear hN
  go_enter Tryd.func57, Tryd.ntmps57
  go_wp2
  go_loopw [3, 4] (fun v i wr => ∃ t : Nat, t ≤ 64 ∧ i = .int .i64 t ∧ wr.ownsRow w.heap.size 22 1 v t (ucells (spr bl t)) ∧ Below w.heap.size w wr) (fun _ i _ => 64 - (intOf i).toNat)
  case atStart => exact ⟨0, Nat.zero_le _, rfl, World.ownsRow_nil _ _ _ _, Below.refl _ _⟩
  case round =>
    obtain ⟨t, ht, rfl, hown, hbel⟩ := hrel
    have hszr := hbel.size
    by_cases hlt : t < 64
    · by_cases h16 : t < 16
      · have hnr := ((unhide HN).below hbel (Nat.le_refl _)).2
        have n0 := hnr (4 * t) (by omega)
        have n1 := hnr (4 * t + 1) (by omega)
        have n2 := hnr (4 * t + 2) (by omega)
        have n3 := hnr (4 * t + 3) (by omega)
        have HS := hide (spr_low bl t h16 hb)
        have b0 := (bl.getD (4 * t) 0).toNat_lt
        have b1 := (bl.getD (4 * t + 1) 0).toNat_lt
        have b2 := (bl.getD (4 * t + 2) 0).toNat_lt
        have b3 := (bl.getD (4 * t + 3) 0).toNat_lt
        generalize (bl.getD (4 * t) 0).toNat = x0 at *
        generalize (bl.getD (4 * t + 1) 0).toNat = x1 at *
        generalize (bl.getD (4 * t + 2) 0).toNat = x2 at *
        generalize (bl.getD (4 * t + 3) 0).toNat = x3 at *
        clear hnr
        have hd1 : decide ((t : Int) < 64) = true := by simp; omega
        have hd2 : decide ((t : Int) < 16) = true := by simp; omega
        have i0' : (0 : Int) ≤ 4 * (t : Int) := by omega
        have i0'' : 4 * (t : Int) < 64 := by omega
        have i1' : (0 : Int) ≤ 4 * (t : Int) + 1 := by omega
        have i1'' : 4 * (t : Int) + 1 < 64 := by omega
        have i2' : (0 : Int) ≤ 4 * (t : Int) + 2 := by omega
        have i2'' : 4 * (t : Int) + 2 < 64 := by omega
        have i3' : (0 : Int) ≤ 4 * (t : Int) + 3 := by omega
        have i3'' : 4 * (t : Int) + 3 < 64 := by omega
        have w0 : IntKind.i64.wrap (4 * (t : Int)) = 4 * (t : Int) := i64w _ (by omega)
        have w1 : IntKind.i64.wrap (4 * (t : Int) + 1) = 4 * (t : Int) + 1 := i64w _ (by omega)
        have w2 : IntKind.i64.wrap (4 * (t : Int) + 2) = 4 * (t : Int) + 2 := i64w _ (by omega)
        have w3 : IntKind.i64.wrap (4 * (t : Int) + 3) = 4 * (t : Int) + 3 := i64w _ (by omega)
        have m0 : (4 * (t : Int)).toNat = 4 * t := by omega
        have m1 : (4 * (t : Int) + 1).toNat = 4 * t + 1 := by omega
        have m2 : (4 * (t : Int) + 2).toNat = 4 * t + 2 := by omega
        have m3 : (4 * (t : Int) + 3).toNat = 4 * t + 3 := by omega
        have y0 : IntKind.u64.wrap ((x0 : Int) * 256) = (x0 : Int) * 256 := u64w _ (by omega)
        have y1 : IntKind.u64.wrap ((x0 : Int) * 256 + x1) = (x0 : Int) * 256 + x1 := u64w _ (by omega)
        have y2 : IntKind.u64.wrap (((x0 : Int) * 256 + x1) * 256) = ((x0 : Int) * 256 + x1) * 256 := u64w _ (by omega)
        have y3 : IntKind.u64.wrap (((x0 : Int) * 256 + x1) * 256 + x2) = ((x0 : Int) * 256 + x1) * 256 + x2 := u64w _ (by omega)
        have y4 : IntKind.u64.wrap ((((x0 : Int) * 256 + x1) * 256 + x2) * 256) = (((x0 : Int) * 256 + x1) * 256 + x2) * 256 := u64w _ (by omega)
        have y5 : IntKind.u64.wrap ((((x0 : Int) * 256 + x1) * 256 + x2) * 256 + x3) = (((x0 : Int) * 256 + x1) * 256 + x2) * 256 + x3 := u64w _ (by omega)
        have HV : ∀ k, u3.ownBlock = some k → w.heap.size ≤ k := own_row_ge hown
        have hvg : u3.ownBlock ≠ some g := fun h => by have := HV _ h; omega
        go_wp2
        go_region_held3 (fun w' => w'.cell? ⟨g, off + 4 * t, none⟩ = some (.int .u64 (x0 : Int)) ∧ w'.cell? ⟨g, off + (4 * t + 1), none⟩ = some (.int .u64 (x1 : Int)) ∧ w'.cell? ⟨g, off + (4 * t + 2), none⟩ = some (.int .u64 (x2 : Int)) ∧ w'.cell? ⟨g, off + (4 * t + 3), none⟩ = some (.int .u64 (x3 : Int)))
          (first | go_keep | (go_split_ands; refine ⟨?_, ?_, ?_, ?_⟩ <;> (rw [hgrow.cell_far _ (by simp; omega) (Ne.symm hvg)]; assumption)))
          ((refine step_append_lies _ (by rfl) _ _ _ (by rfl) w.heap.size 22 i0 (.int .u64 0) 1 8 Tryd.underlying71 hi hz0 hz1 hz2 rfl (by omega) u3 t (ucells (spr bl t)) (by rfl) ((hown.alloc _).drew) ⟨wr.heap.size, 0, none⟩ 1 1 [.int .u64 ((((x0 : Int) * 256 + x1) * 256 + x2) * 256 + x3)] (by rfl) (by rfl) (World.news_of_block (cs := #[.int .u64 ((((x0 : Int) * 256 + x1) * 256 + x2) * 256 + x3)]) (t := 22) (fr := (0, 0)) (heap_alloc_new wr _)) (by simp [Value.oneCell']) (by omega) (by unfold maxLen; omega) (by omega) (by simp; omega) (wr.heap.size + 1) (by simp) ?_; intro gg cap wn hown1 hgrow hat hgl))
        have hbel1 : Below w.heap.size w wn := ((hbel.alloc hszr _).drew).grown hgrow (by simp; omega) HV
        have e1 : ucells (spr bl t) ++ [.int .u64 ((((x0 : Int) * 256 + x1) * 256 + x2) * 256 + x3)] = ucells (spr bl (t + 1)) := by
          rw [unhide HS, ucells_append]
          rfl
        rw [e1] at hown1
        clear hgrow e1 hown hbel y0 y1 y2 y3 y4 y5 w0 w1 w2 w3 m0 m1 m2 m3
        go_wp2
        go_roundw
        case rel => exact ⟨t + 1, by omega, by go_num, hown1, hbel1⟩
        case measure => simp [intOf]; omega
      · have hml := spr_length bl t ht
        have hmx := spr_lt bl t
        have HS := hide (spr_high bl t (by omega) hlt)
        generalize spr bl t = m at *
        obtain ⟨gv, cv, rfl, hgv, hgl⟩ := hown.form (by omega)
        have hcl := hown.cells (g := gv) rfl
        have get : ∀ j, j < t → wr.cell? ⟨gv, j, none⟩ = some (.int .u64 ((m.getD j 0 : Nat) : Int)) := fun j hj => by
          have := hcl j _ (ucells_at m j (by omega))
          rwa [Addr.add_lit, Nat.zero_add] at this
        have c15 := get (t - 15) (by omega)
        have c2 := get (t - 2) (by omega)
        have c7 := get (t - 7) (by omega)
        have c16 := get (t - 16) (by omega)
        have b15 := getD_lt m hmx (t - 15)
        have b2 := getD_lt m hmx (t - 2)
        have b7 := getD_lt m hmx (t - 7)
        have b16 := getD_lt m hmx (t - 16)
        have HE := hide (show ext m = (sg1 (m.getD (t - 2) 0) + m.getD (t - 7) 0 + sg0 (m.getD (t - 15) 0) + m.getD (t - 16) 0) % 4294967296 by unfold ext; rw [hml])
        generalize m.getD (t - 15) 0 = x15 at *
        generalize m.getD (t - 2) 0 = x2 at *
        generalize m.getD (t - 7) 0 = x7 at *
        generalize m.getD (t - 16) 0 = x16 at *
        clear get hmx hcl
        have hs0 := sg0_bits64 x15 b15
        have hs1 := sg1_bits64 x2 b2
        have l0 := sg0_lt x15 b15
        have l1 := sg1_lt x2 b2
        have hd1 : decide ((t : Int) < 64) = true := by simp; omega
        have hd2 : decide ((t : Int) < 16) = false := by simp; omega
        go_wp2_with fail
        refine (by_any x15 7 _ b15 (by omega)).mono ?_
        rintro e wa ⟨rfl, rfl⟩
        go_wp2_with fail
        refine (by_any x15 18 _ b15 (by omega)).mono ?_
        rintro e wb ⟨rfl, rfl⟩
        go_wp2_with fail
        refine (by_any x2 17 _ b2 (by omega)).mono ?_
        rintro e wc ⟨rfl, rfl⟩
        go_wp2_with fail
        refine (by_any x2 19 _ b2 (by omega)).mono ?_
        rintro e wd ⟨rfl, rfl⟩
        go_wp2_with fail
        generalize sg0 x15 = y0 at *
        generalize sg1 x2 = y1 at *
        obtain ⟨p7, hp7⟩ : ∃ p : Nat, p = t - 7 := ⟨_, rfl⟩
        obtain ⟨p16, hp16⟩ : ∃ p : Nat, p = t - 16 := ⟨_, rfl⟩
        rw [← hp7] at c7
        rw [← hp16] at c16
        have z7 : (t : Int) - 7 = (p7 : Int) := by omega
        have z16 : (t : Int) - 16 = (p16 : Int) := by omega
        have v7 : IntKind.i64.wrap (p7 : Int) = (p7 : Int) := i64w _ (by omega)
        have v16 : IntKind.i64.wrap (p16 : Int) = (p16 : Int) := i64w _ (by omega)
        have j7 : (p7 : Int) < (t : Int) := by omega
        have j16 : (p16 : Int) < (t : Int) := by omega
        have i7 : (0 : Int) ≤ (p7 : Int) := by omega
        have i16 : (0 : Int) ≤ (p16 : Int) := by omega
        clear hp7 hp16
        have q1 : IntKind.u64.wrap ((y0 : Int) + y1) = (y0 : Int) + y1 := u64w _ (by omega)
        have q2 : IntKind.u64.wrap ((y0 : Int) + y1 + x7) = (y0 : Int) + y1 + x7 := u64w _ (by omega)
        have q3 : IntKind.u64.wrap ((y0 : Int) + y1 + x7 + x16) = (y0 : Int) + y1 + x7 + x16 := u64w _ (by omega)
        have hbr : gv < wd.heap.size := hgl
        go_region_held3 (fun w' => w'.cell? ⟨gv, p7, none⟩ = some (.int .u64 (x7 : Int)) ∧ w'.cell? ⟨gv, p16, none⟩ = some (.int .u64 (x16 : Int)))
          (first | go_keep | (go_split_ands; refine ⟨?_, ?_⟩ <;> (rw [hkeep gv _ (by simp; omega) (fun _ => by omega)]; assumption)))
          ((refine step_append_keeps _ (by rfl) _ _ _ (by rfl) w.heap.size 22 i0 (.int .u64 0) 1 8 Tryd.underlying71 hi hz0 hz1 hz2 rfl (by omega) (.slice (some ⟨gv, 0, none⟩) t cv) t (ucells m) (by rfl) ((hown.alloc _).drew) ⟨wd.heap.size, 0, none⟩ 1 1 [.int .u64 (((y0 : Int) + y1 + x7 + x16).tmod 4294967296)] (by rfl) (by rfl) (World.news_of_block (cs := #[.int .u64 (((y0 : Int) + y1 + x7 + x16).tmod 4294967296)]) (t := 22) (fr := (0, 0)) (heap_alloc_new wd _)) (by simp [Value.oneCell']) (by omega) (by unfold maxLen; omega) (by omega) (by simp; omega) ?_; intro gg cap wn hown1 hgrow hat hgl2 hkeep))
        have hbel1 : Below w.heap.size w wn := ((hbel.alloc hszr _).drew).grown hgrow (by simp; omega) (own_row_ge hown)
        have e1 : ucells m ++ [.int .u64 (((y0 : Int) + y1 + x7 + x16).tmod 4294967296)] = ucells (spr bl (t + 1)) := by
          rw [unhide HS, unhide HE]
          exact ext_cells m y0 y1 x7 x16
        rw [e1] at hown1
        clear hgrow e1 hown hbel hkeep
        go_wp2
        go_roundw
        case rel => exact ⟨t + 1, by omega, by go_num, hown1, hbel1⟩
        case measure => simp [intOf]; omega
    · have hte : t = 64 := by omega
      subst hte
      rw [spr_end] at hown
      go_wp2
      go_ret
      exact ⟨_, rfl, hown, hbel⟩
end Go.Proofs.YtocfikblfobjfaaDoor
namespace Go.Proofs.YtocfikblfobjfaaDoor
open Go.RowKit

/-- Block g holds the words l, each in 64 bits. -/
def URow (w : World) (g : Nat) (ty : TypeId) (l : List Nat) : Prop := w.heap[g]? = some (.cells (ucells l).toArray ty (0, 0))
theorem URow.cell {w : World} {g : Nat} {ty : TypeId} {l : List Nat} (h : URow w g ty l) (j : Nat) (hj : j < l.length) : w.cell? ⟨g, j, none⟩ = some (.int .u64 ((l.getD j 0 : Nat) : Int)) := by
  rw [cell_of_row w g j _ _ _ h, List.getElem?_toArray]
  exact ucells_at l j hj
theorem URow.free {w : World} {g : Nat} {ty : TypeId} {l : List Nat} (h : URow w g ty l) (j : Nat) : w.frozen? ⟨g, j, none⟩ = false := frozen_of_row w g j _ _ h
theorem URow.set {w : World} {g : Nat} {ty : TypeId} {l : List Nat} (h : URow w g ty l) (j x : Nat) : URow (w.setCell ⟨g, j, none⟩ (.int .u64 (x : Int))) g ty (l.set j x) := by
  unfold URow
  rw [heap_setCell_same w g j _ _ _ h]
  congr 2
  apply Array.ext'
  simp [ucells, List.map_set]
theorem URow.other {w : World} {g g' j : Nat} {ty : TypeId} {l : List Nat} {v : Value} (h : URow w g ty l) (hg : g ≠ g') : URow (w.setCell ⟨g', j, none⟩ v) g ty l := by
  unfold URow
  rw [heap_setCell_other _ _ _ _ (by exact hg)]
  exact h
theorem URow.lt {w : World} {g : Nat} {ty : TypeId} {l : List Nat} (h : URow w g ty l) : g < w.heap.size := lt_of_block h
theorem URow.below {w w' : World} {B g : Nat} {ty : TypeId} {l : List Nat} (h : URow w g ty l) (hb : Below B w w') (hB : w.heap.size ≤ B) : URow w' g ty l := by
  unfold URow
  rw [hb.block g (Nat.lt_of_lt_of_le h.lt hB)]
  exact h
theorem URow.drewN {w : World} {g : Nat} {ty : TypeId} {l : List Nat} (h : URow w g ty l) (n : Nat) : URow (w.drewN n) g ty l := by
  unfold URow
  rw [heap_drewN']
  exact h
theorem ucells_size (l : List Nat) : (ucells l).toArray.size = l.length := by simp [ucells]
theorem ucells_one (l : List Nat) : (ucells l).toArray.all (·.oneCell') = true := by
  rw [Array.all_eq_true']
  intro v hv
  simp only [ucells, List.mem_toArray, List.mem_map] at hv
  obtain ⟨n, _, rfl⟩ := hv
  rfl
theorem info_u8w : (Tryd.prog.info? 23).map (·.size) = some 8 := by kernel_rfl
theorem z8_cells : (ucells z8).toArray = #[.int .u64 0, .int .u64 0, .int .u64 0, .int .u64 0, .int .u64 0, .int .u64 0, .int .u64 0, .int .u64 0] := rfl

theorem bg0_bits64 (x : Nat) (hx : x < 4294967296) : bits BinOp.xor IntKind.u64 (bits BinOp.xor IntKind.u64 ((rot x 2 : Nat) : Int) ((rot x 13 : Nat) : Int)) ((rot x 22 : Nat) : Int) = ((bg0 x : Nat) : Int) :=
  xor3_bits64 _ _ _ (rot_lt _ _ hx) (rot_lt _ _ hx) (rot_lt _ _ hx)
theorem bg1_bits64 (x : Nat) (hx : x < 4294967296) : bits BinOp.xor IntKind.u64 (bits BinOp.xor IntKind.u64 ((rot x 6 : Nat) : Int) ((rot x 11 : Nat) : Int)) ((rot x 25 : Nat) : Int) = ((bg1 x : Nat) : Int) :=
  xor3_bits64 _ _ _ (rot_lt _ _ hx) (rot_lt _ _ hx) (rot_lt _ _ hx)
theorem ch_or (e f g : Nat) (he : e < 4294967296) : (e &&& f) ||| ((4294967295 - e) &&& g) = chf e f g := by
  unfold chf
  apply Nat.eq_of_testBit_eq
  intro i
  have h := Nat.testBit_two_pow_sub_succ (x := e) (n := 32) (by omega) i
  rw [show 2 ^ 32 - (e + 1) = 4294967295 - e by omega] at h
  rw [Nat.testBit_or, Nat.testBit_xor, Nat.testBit_and, Nat.testBit_and, h]
  cases e.testBit i <;> simp
theorem maj_or (a b c : Nat) : (a &&& b) ||| (a &&& c) ||| (b &&& c) = maj a b c := by
  unfold maj
  apply Nat.eq_of_testBit_eq
  intro i
  simp only [Nat.testBit_or, Nat.testBit_xor, Nat.testBit_and]
  cases a.testBit i <;> cases b.testBit i <;> cases c.testBit i <;> rfl
theorem ch_bits64 (e f g : Nat) (he : e < 4294967296) (hf : f < 4294967296) (hg : g < 4294967296) :
    bits BinOp.or IntKind.u64 (bits BinOp.and IntKind.u64 (e : Int) (f : Int)) (bits BinOp.and IntKind.u64 (4294967295 - (e : Int)) (g : Int)) = ((chf e f g : Nat) : Int) := by
  rw [show (4294967295 - (e : Int)) = ((4294967295 - e : Nat) : Int) by omega, u64_and_nat e f (by omega) (by omega), u64_and_nat _ g (by omega) (by omega), u64_or_nat _ _ (by have := and_lt32 e f he; omega) (by have := and_lt32 (4294967295 - e) g (by omega); omega), ch_or e f g he]
theorem maj_bits64 (a b c : Nat) (ha : a < 4294967296) (hb : b < 4294967296) (hc : c < 4294967296) :
    bits BinOp.or IntKind.u64 (bits BinOp.or IntKind.u64 (bits BinOp.and IntKind.u64 (a : Int) (b : Int)) (bits BinOp.and IntKind.u64 (a : Int) (c : Int))) (bits BinOp.and IntKind.u64 (b : Int) (c : Int)) = ((maj a b c : Nat) : Int) := by
  have h1 := and_lt32 a b ha
  have h2 := and_lt32 a c ha
  have h3 := and_lt32 b c hb
  have h4 : (a &&& b) ||| (a &&& c) < 2 ^ 32 := Nat.or_lt_two_pow (by omega) (by omega)
  rw [u64_and_nat a b (by omega) (by omega), u64_and_nat a c (by omega) (by omega), u64_and_nat b c (by omega) (by omega), u64_or_nat _ _ (by omega) (by omega), u64_or_nat _ _ (by omega) (by omega), maj_or]

/-- Words moved up by one, from place i + 1 on. -/
def mvd (l : List Nat) (i : Nat) : List Nat := l.take (i + 1) ++ (l.drop i).take (7 - i)
theorem mvd_step (l : List Nat) (hl : l.length = 8) (i : Nat) (h : i < 7) : mvd l i = (mvd l (i + 1)).set (i + 1) (l.getD i 0) := by
  match l, hl with
  | [a, b, c, d, e, f, g, h], _ =>
    have : i = 0 ∨ i = 1 ∨ i = 2 ∨ i = 3 ∨ i = 4 ∨ i = 5 ∨ i = 6 := by omega
    rcases this with rfl | rfl | rfl | rfl | rfl | rfl | rfl <;> rfl
theorem mvd_length (l : List Nat) (hl : l.length = 8) (i : Nat) (h : i ≤ 7) : (mvd l i).length = 8 := by
  unfold mvd
  rw [List.length_append, List.length_take, List.length_take, List.length_drop]; omega
theorem mvd_low (l : List Nat) (hl : l.length = 8) (i : Nat) (h : i < 7) : (mvd l (i + 1)).getD i 0 = l.getD i 0 := by
  unfold mvd
  rw [List.getD, List.getD, List.getElem?_append_left (by rw [List.length_take]; omega), List.getElem?_take_of_lt (by omega)]

/-- The words of a state, as cells of 64 bits. -/
def S8.c64 (s : S8) : Array Value := (ucells s.words).toArray
theorem words_length (s : S8) : s.words.length = 8 := rfl
/-- The reference's own tables. -/
def tabV : Value := .agg (ucells (Hl ++ Kl)).toArray
theorem tab_at (t : Nat) (h : t < 64) : (Hl ++ Kl).getD (8 + t) 0 = Kl.getD t 0 := by
  rw [List.getD, List.getD, List.getElem?_append_right (by show 8 ≤ 8 + t; omega), show 8 + t - Hl.length = t by show 8 + t - 8 = t; omega]
theorem tab_length : (Hl ++ Kl).length = 72 := rfl
theorem heap_own {w : World} {base : Nat} {e : TypeId} {v : Value} {n : Nat} {xs : List Value} {w' : World} (h : w.ownsRow base e 1 v n xs) (hs : ∀ k, k < w.heap.size → w'.heap[k]? = w.heap[k]?) : w'.ownsRow base e 1 v n xs := by
  refine ⟨h.1, ?_⟩
  rcases h.2 with hn | ⟨g, cap, cur, rfl, hb, hgg, rest⟩
  · exact .inl hn
  · exact .inr ⟨g, cap, cur, rfl, hb, by rw [hs g (lt_of_block hgg)]; exact hgg, rest⟩

theorem URow.cells8 {w : World} {G : Nat} {ty : TypeId} {a b c d e f g h : Nat} (hr : URow w G ty [a, b, c, d, e, f, g, h]) : w.cell? ⟨G, 0, none⟩ = some (.int .u64 (a : Int)) ∧ w.cell? ⟨G, 1, none⟩ = some (.int .u64 (b : Int)) ∧ w.cell? ⟨G, 2, none⟩ = some (.int .u64 (c : Int)) ∧ w.cell? ⟨G, 3, none⟩ = some (.int .u64 (d : Int)) ∧ w.cell? ⟨G, 4, none⟩ = some (.int .u64 (e : Int)) ∧ w.cell? ⟨G, 5, none⟩ = some (.int .u64 (f : Int)) ∧ w.cell? ⟨G, 6, none⟩ = some (.int .u64 (g : Int)) ∧ w.cell? ⟨G, 7, none⟩ = some (.int .u64 (h : Int)) :=
  ⟨hr.cell 0 (by simp), hr.cell 1 (by simp), hr.cell 2 (by simp), hr.cell 3 (by simp), hr.cell 4 (by simp), hr.cell 5 (by simp), hr.cell 6 (by simp), hr.cell 7 (by simp)⟩
/-- Two lists of eight words put together, as far as k. -/
def pls (v h : List Nat) (k : Nat) : List Nat := (List.range 8).map fun j => if j < k then (v.getD j 0 + h.getD j 0) % 4294967296 else v.getD j 0
theorem pls_length (v h : List Nat) (k : Nat) : (pls v h k).length = 8 := by simp [pls]
theorem pls_get (v h : List Nat) (k j : Nat) (hj : j < 8) : (pls v h k)[j]? = some (if j < k then (v.getD j 0 + h.getD j 0) % 4294967296 else v.getD j 0) := by
  unfold pls
  rw [List.getElem?_map, List.getElem?_range hj, Option.map_some]
theorem pls_at (v h : List Nat) (k : Nat) (hk : k < 8) : (pls v h k).getD k 0 = v.getD k 0 := by
  rw [List.getD, pls_get v h k k hk, Option.getD_some, if_neg (by omega)]
theorem pls_step (v h : List Nat) (k : Nat) (hk : k < 8) : pls v h (k + 1) = (pls v h k).set k ((v.getD k 0 + h.getD k 0) % 4294967296) := by
  apply List.ext_getElem?
  intro j
  by_cases hj : j < 8
  · rw [pls_get v h _ j hj]
    by_cases he : k = j
    · subst he
      rw [List.getElem?_set_self (by rw [pls_length]; exact hk), if_pos (by omega)]
    · rw [List.getElem?_set_ne he, pls_get v h _ j hj]
      by_cases h1 : j < k
      · rw [if_pos h1, if_pos (by omega)]
      · rw [if_neg h1, if_neg (by omega)]
  · rw [List.getElem?_eq_none (by rw [pls_length]; omega), List.getElem?_eq_none (by rw [List.length_set, pls_length]; omega)]
theorem pls_zero (v h : List Nat) (hv : v.length = 8) : pls v h 0 = v := by
  apply List.ext_getElem?
  intro j
  by_cases hj : j < 8
  · rw [pls_get v h _ j hj, if_neg (by omega), List.getD, List.getElem?_eq_getElem (by omega)]
    rfl
  · rw [List.getElem?_eq_none (by rw [pls_length]; omega), List.getElem?_eq_none (by omega)]
theorem pls_end (s r : S8) : pls r.words s.words 8 = (s.plus r).words := by
  obtain ⟨a, b, c, d, e, f, g, h⟩ := s
  obtain ⟨a', b', c', d', e', f', g', h'⟩ := r
  simp only [S8.plus, S8.words, Nat.add_comm a, Nat.add_comm b, Nat.add_comm c, Nat.add_comm d, Nat.add_comm e, Nat.add_comm f, Nat.add_comm g, Nat.add_comm h]
  rfl
theorem stp_flat (a b c d e f g h k x : Nat) : stp ⟨a, b, c, d, e, f, g, h⟩ k x = ⟨(h + bg1 e + chf e f g + k + x + bg0 a + maj a b c) % 4294967296, a, b, c, (d + (h + bg1 e + chf e f g + k + x)) % 4294967296, e, f, g⟩ := by
  simp only [stp, t1, t2, S8.mk.injEq, true_and, and_true]
  constructor
  · omega
  · omega
theorem by_i (x : Nat) (k : Int) (w : World) (hx : x < 4294967296) (h0 : 0 ≤ k) (hk : k ≤ 32) :
    Calls Tryd.prog 58 #[.int .u64 x, .int .u64 k] w fun e w' => e = .returned (.int .u64 (rot x k.toNat)) ∧ w' = w := by
  obtain ⟨n, rfl⟩ := Int.eq_ofNat_of_zero_le h0
  exact by_any x n w hx (by omega)
/-- What stands still while a block is taken in. -/
structure BlkW (w : World) (tb w0 : List Nat) (gw : Nat) (ws : List Nat) (wr : World) : Prop where
  cw : ∀ j, j < 64 → wr.cell? ⟨gw, j, none⟩ = some (.int .u64 ((ws.getD j 0 : Nat) : Int))
  rt : URow wr w.heap.size 26 tb
  rh : URow wr (w.heap.size + 1) 23 w0
  rz : URow wr (w.heap.size + 1 + 1) 23 z8
  hb : Below w.heap.size w wr
theorem BlkW.set {w : World} {tb w0 : List Nat} {gw : Nat} {ws : List Nat} {wr : World} (h : BlkW w tb w0 gw ws wr) {H : Nat} (h1 : gw ≠ H) (h2 : w.heap.size + 1 + 1 < H) (j : Nat) (v : Value) : BlkW w tb w0 gw ws (wr.setCell ⟨H, j, none⟩ v) := by
  refine ⟨fun i hi => ?_, h.rt.other (by omega), h.rh.other (by omega), h.rz.other (by omega), h.hb.setCell (by show w.heap.size ≤ H; omega) v⟩
  rw [World.cell?_of_block (heap_setCell_other _ _ _ _ (by exact h1))]
  exact h.cw i hi
theorem BlkW.drewN {w : World} {tb w0 : List Nat} {gw : Nat} {ws : List Nat} {wr : World} (h : BlkW w tb w0 gw ws wr) (n : Nat) : BlkW w tb w0 gw ws (wr.drewN n) := by
  refine ⟨fun i hi => ?_, h.rt.drewN n, h.rh.drewN n, h.rz.drewN n, below_drewN h.hb n⟩
  rw [World.cell?_of_block (show (wr.drewN n).heap[gw]? = wr.heap[gw]? by rw [heap_drewN'])]
  exact h.cw i hi
theorem BlkW.drew {w : World} {tb w0 : List Nat} {gw : Nat} {ws : List Nat} {wr : World} (h : BlkW w tb w0 gw ws wr) : BlkW w tb w0 gw ws wr.drew := by
  refine ⟨fun i hi => ?_, h.rt, h.rh, h.rz, h.hb.drew⟩
  rw [World.cell?_of_block (show wr.drew.heap[gw]? = wr.heap[gw]? from rfl)]
  exact h.cw i hi

set_option maxRecDepth 100000 in
set_option maxHeartbeats 1600000 in
theorem rblock_any (s : S8) (g off cap : Nat) (bl : List UInt8) (w : World) (hs : s.ok) (hb : bl.length = 64) (hN : NumsAt w g off bl) :
    Calls Tryd.prog 35 #[tabV, .agg s.c64, .slice (some ⟨g, off, none⟩) 64 cap] w fun e w' => e = .returned (.agg (blk s bl).c64) ∧ Below w.heap.size w w' := by
  have HSok := hide hs
  have HN := hide hN
  have HB := hide hb
  clear hs hN hb
  have hc8 : s.c64.size = 8 := ucells_size s.words
  unfold tabV
  have htl := tab_length
  generalize hte : Hl ++ Kl = tb at htl ⊢
  have HTE := hide hte
  clear hte
  have hw0 : s.words.length = 8 := rfl
  unfold S8.c64
  generalize hwe : s.words = w0 at hw0 ⊢
  have HWE := hide hwe
  clear hwe
  go_enter Tryd.func35, Tryd.ntmps35
  go_wp2_with fail
  rw [← z8_cells]
  obtain ⟨g0, g1, g2⟩ := heap3 w (.cells (ucells tb).toArray 26) (.cells (ucells w0).toArray 23) (.cells (ucells z8).toArray 23)
  have hb3 : Below w.heap.size w (((w.alloc (.cells (ucells tb).toArray 26)).alloc (.cells (ucells w0).toArray 23)).alloc (.cells (ucells z8).toArray 23)) := (((Below.refl _ _).alloc (Nat.le_refl _) _).alloc (by simp) _).alloc (by simp; omega) _
  generalize (((w.alloc (.cells (ucells tb).toArray 26)).alloc (.cells (ucells w0).toArray 23)).alloc (.cells (ucells z8).toArray 23)) = W3 at g0 g1 g2 hb3 ⊢
  refine (spread_any g off cap bl W3 (unhide HB) ((unhide HN).below hb3 (Nat.le_refl _))).mono ?_
  rintro e w1 ⟨v, rfl, hown, hb1⟩
  have hz3 := hb3.size
  have k0 : URow w1 w.heap.size 26 tb := by unfold URow; rw [hb1.block _ (lt_of_block g0)]; exact g0
  have k1 : URow w1 (w.heap.size + 1) 23 w0 := by unfold URow; rw [hb1.block _ (lt_of_block g1)]; exact g1
  have k2 : URow w1 (w.heap.size + 1 + 1) 23 z8 := by unfold URow; rw [hb1.block _ (lt_of_block g2)]; exact g2
  have hl3 : w.heap.size + 1 + 1 < W3.heap.size := lt_of_block g2
  have hbel := hb3.trans (hb1.mono hz3)
  have hsz1 := hbel.size
  have hsz2 := hb1.size
  obtain ⟨gw, cw, rfl, hgw, hgwl⟩ := hown.form (by omega)
  have hwl : (sch 48 (be16 bl)).length = 64 := by rw [sch_length, be16_length]
  have hwx := sch_lt 48 _ (be16_lt bl)
  have HBK := hide (show blk s bl = s.plus (rnds (sch 48 (be16 bl)) 64 s) from rfl)
  generalize sch 48 (be16 bl) = ws at hown hwl hwx HBK
  have hcw : ∀ j, j < 64 → w1.cell? ⟨gw, j, none⟩ = some (.int .u64 ((ws.getD j 0 : Nat) : Int)) := fun j hj => by
    have := hown.cells (g := gw) rfl j _ (ucells_at ws j (by omega))
    rwa [Addr.add_lit, Nat.zero_add] at this
  have K1 := hide k1
  have HCW := hide hcw
  have HWX := hide hwx
  have HK0 := hide k0
  have HK2 := hide k2
  have HBEL := hide hbel
  have G1 := hide (show (Tryd.prog.info? 23).map (·.size) = some (ucells w0).toArray.size by rw [ucells_size, hw0]; exact info_u8w)
  have G2 := hide (show (ucells z8).toArray.size = (ucells w0).toArray.size by rw [ucells_size, ucells_size, hw0]; rfl)
  clear hown hb1 hb3 g0 g1 g2 k0 k1 k2 hwx hcw hbel
  go_wp2_with (first | ((with_reducible refine at_load ?_); refine wpList_load_row rfl 23 _ rfl (w.heap.size + 1) rfl 23 (ucells w0).toArray (0, 0) _ (unhide K1) Tryd.underlying23 rfl (unhide G1) ?_) | ((with_reducible refine at_store ?_); refine wpList_store_row rfl 23 _ _ rfl w1.heap.size (ucells w0).toArray rfl rfl 23 _ (heap_alloc_new w1 _) (unhide G1) (unhide G2) (ucells_one w0) ?_))
  have hbw : BlkW w tb w0 gw ws ((w1.alloc (.cells (ucells z8).toArray 23)).setRow w1.heap.size (ucells w0).toArray) := by
    refine ⟨fun j hj => ?_, ?_, ?_, ?_, below_row ((unhide HBEL).alloc hsz1 _) hsz1 _⟩
    · rw [World.cell?_of_block (heap_put_old w1 _ _ _ gw (by omega))]; exact unhide HCW j hj
    · unfold URow; rw [heap_put_old w1 _ _ _ _ (by omega)]; exact unhide HK0
    · unfold URow; rw [heap_put_old w1 _ _ _ _ (by omega)]; exact unhide K1
    · unfold URow; rw [heap_put_old w1 _ _ _ _ (by omega)]; exact unhide HK2
  have hv0 : URow ((w1.alloc (.cells (ucells z8).toArray 23)).setRow w1.heap.size (ucells w0).toArray) w1.heap.size 23 w0 := heap_put_new _ _ _ _
  have hH1 : gw ≠ w1.heap.size := by omega
  have hH2 : w.heap.size + 1 + 1 < w1.heap.size := by omega
  rw [← z8_cells]
  generalize ((w1.alloc (.cells (ucells z8).toArray 23)).setRow w1.heap.size (ucells w0).toArray) = W5 at hbw hv0 ⊢
  clear HK2 K1 HK0 HCW HBEL
  generalize w1.heap.size = H at *
  rw [← unhide HWE] at hv0
  go_loopw [9] (fun i wr => ∃ t : Nat, t ≤ 64 ∧ i = .int .i64 t ∧ URow wr H 23 (rnds ws t s).words ∧ BlkW w tb w0 gw ws wr) (fun i _ => 64 - (intOf i).toNat)
  case atStart => exact ⟨0, by omega, rfl, hv0, hbw⟩
  case round =>
    obtain ⟨t, ht, rfl, hv, hbw⟩ := hrel
    have hok := rnds_ok ws t _ (unhide HSok)
    by_cases hlt : t < 64
    · have HRS := hide (rnds_succ ws t s)
      generalize rnds ws t s = r at hv hok HRS
      obtain ⟨xa, xb, xc, xd, xe, xf, xg, xh⟩ := r
      have hv : URow wr H 23 [xa, xb, xc, xd, xe, xf, xg, xh] := hv
      obtain ⟨c0, c1, c2, c3, c4, c5, c6, c7⟩ := hv.cells8
      obtain ⟨ba, bb, bc, bd, be, bf, bg, bh⟩ := hok
      dsimp only at ba bb bc bd be bf bg bh
      have bk := Kl_lt t
      have bx := getD_lt ws (unhide HWX) t
      have FK : ∀ w', BlkW w tb w0 gw ws w' → w'.cell? ⟨w.heap.size, 8 + t, none⟩ = some (.int .u64 ((Kl.getD t 0 : Nat) : Int)) ∧ w'.cell? ⟨gw, t, none⟩ = some (.int .u64 ((ws.getD t 0 : Nat) : Int)) := fun w' hw' => by
        have ck := hw'.rt.cell (8 + t) (by omega)
        rw [← unhide HTE, tab_at t hlt] at ck
        exact ⟨ck, hw'.cw t hlt⟩
      have HFK := hide FK
      clear FK
      generalize Kl.getD t 0 = kt at *
      generalize ws.getD t 0 = xt at *
      have h0 := bg0_bits64 xa ba
      have h1 := bg1_bits64 xe be
      have l0 := bg0_lt xa ba
      have l1 := bg1_lt xe be
      have h2 := ch_bits64 xe xf xg be bf bg
      have h3 := maj_bits64 xa xb xc ba bb bc
      have l2 := chf_lt xe xf xg be
      have l3 := maj_lt xa xb xc ba bb
      have HST := hide (stp_flat xa xb xc xd xe xf xg xh kt xt)
      generalize bg0 xa = s0 at *
      generalize bg1 xe = s1 at *
      generalize chf xe xf xg = pk at *
      generalize maj xa xb xc = mj at *
      have q1 : IntKind.u64.wrap ((xh : Int) + s1) = (xh : Int) + s1 := u64w _ (by omega)
      have q2 : IntKind.u64.wrap ((xh : Int) + s1 + pk) = (xh : Int) + s1 + pk := u64w _ (by omega)
      have q3 : IntKind.u64.wrap ((xh : Int) + s1 + pk + kt) = (xh : Int) + s1 + pk + kt := u64w _ (by omega)
      have q4 : IntKind.u64.wrap ((xh : Int) + s1 + pk + kt + xt) = (xh : Int) + s1 + pk + kt + xt := u64w _ (by omega)
      have hd : decide ((t : Int) < 64) = true := by simp; omega
      have it : (t : Int) < 64 := by omega
      have it0 : (0 : Int) ≤ (t : Int) := by omega
      go_wp2_with fail
      go_quiet (first | (go_at_call 58; refine Calls.quiet_of_same (by_i xe _ _ be ?_ ?_) <;> decide))
      replace hv := hv.drewN nq
      replace hbw := hbw.drewN nq
      clear c0 c1 c2 c3 c4 c5 c6 c7
      generalize wr.drewN nq = wb at hv hbw ⊢
      obtain ⟨ck, cx⟩ := unhide HFK _ hbw
      obtain ⟨c0, c1, c2, c3, c4, c5, c6, c7⟩ := hv.cells8
      go_wp2_with fail
      go_quiet (fail)
      replace hv := hv.drewN nq
      replace hbw := hbw.drewN nq
      clear c0 c1 c2 c3 c4 c5 c6 c7 ck cx
      generalize wb.drewN nq = wc at hv hbw ⊢
      obtain ⟨c0, c1, c2, c3, c4, c5, c6, c7⟩ := hv.cells8
      go_wp2_with fail
      go_quiet (first | (go_at_call 58; refine Calls.quiet_of_same (by_i xa _ _ ba ?_ ?_) <;> decide))
      replace hv := hv.drewN nq
      replace hbw := hbw.drewN nq
      clear c0 c1 c2 c3 c4 c5 c6 c7
      generalize wc.drewN nq = wd at hv hbw ⊢
      obtain ⟨c0, c1, c2, c3, c4, c5, c6, c7⟩ := hv.cells8
      go_wp2_with fail
      clear c0 c1 c2 c3 c4 c5 c6 c7
      go_loopw [15] (fun i wq => ∃ k : Nat, k ≤ 7 ∧ i = .int .i64 k ∧ URow wq H 23 (mvd [xa, xb, xc, xd, xe, xf, xg, xh] k) ∧ BlkW w tb w0 gw ws wq) (fun i _ => (intOf i).toNat)
      case atStart => exact ⟨7, by omega, rfl, hv, hbw⟩
      case round =>
        obtain ⟨k, hk, rfl, hv2, hbw2⟩ := hrel
        clear hv hbw h0 h1 h2 h3 q1 q2 q3 q4
        by_cases hk0 : 0 < k
        · obtain ⟨j, rfl⟩ : ∃ j, k = j + 1 := ⟨k - 1, by omega⟩
          have cj := hv2.cell j (by rw [mvd_length _ rfl _ hk]; omega)
          rw [mvd_low _ rfl j (by omega)] at cj
          have cj1 := hv2.cell (j + 1) (by rw [mvd_length _ rfl _ hk]; omega)
          have fj1 := hv2.free (j + 1)
          have HM := hide (mvd_step [xa, xb, xc, xd, xe, xf, xg, xh] rfl j (by omega))
          generalize [xa, xb, xc, xd, xe, xf, xg, xh].getD j 0 = y at cj HM
          have hd1 : decide ((0 : Int) < ((j + 1 : Nat) : Int)) = true := by simp
          go_wp2
          go_roundw
          case rel => exact ⟨j, by omega, by go_num, by rw [unhide HM]; exact hv2.set (j + 1) y, hbw2.set hH1 hH2 _ _⟩
          case measure => simp [intOf]
        · obtain rfl : k = 0 := by omega
          have hv2 : URow wr H 23 [xa, xa, xb, xc, xd, xe, xf, xg] := hv2
          obtain ⟨c0, c1, c2, c3, c4, c5, c6, c7⟩ := hv2.cells8
          have f0 := hv2.free 0
          have f4 := hv2.free 4
          clear c1 c2 c3 c5 c6 c7
          go_wp2
          go_roundw
          case rel =>
            have e4 : ((xd : Int) + ((xh : Int) + s1 + pk + kt + xt)) % 4294967296 = (((xd + (xh + s1 + pk + kt + xt)) % 4294967296 : Nat) : Int) := by omega
            have e0 : ((xh : Int) + s1 + pk + kt + xt + s0 + mj) % 4294967296 = (((xh + s1 + pk + kt + xt + s0 + mj) % 4294967296 : Nat) : Int) := by omega
            rw [e4, e0]
            refine ⟨t + 1, by omega, by go_num, ?_, (hbw2.set hH1 hH2 _ _).set hH1 hH2 _ _⟩
            rw [unhide HRS, unhide HST]
            exact (hv2.set 4 _).set 0 _
          case measure => simp [intOf]; omega
    · obtain rfl : t = 64 := by omega
      have hok := rnds_ok ws 64 _ (unhide HSok)
      have HE := hide (pls_end s (rnds ws 64 s))
      rw [← unhide HBK] at HE
      have hrl := words_length (rnds ws 64 s)
      have hrx := words_lt _ hok
      generalize (rnds ws 64 s).words = rw8 at hv hrl hrx HE
      rw [unhide HWE] at HE
      have hsx := words_lt s (unhide HSok)
      rw [unhide HWE] at hsx
      have HRX := hide hrx
      have HSX := hide hsx
      clear hrx hsx hok
      go_wp2
      go_loopw [16] (fun i wq => ∃ k : Nat, k ≤ 8 ∧ i = .int .i64 k ∧ URow wq H 23 (pls rw8 w0 k) ∧ BlkW w tb w0 gw ws wq) (fun i _ => 8 - (intOf i).toNat)
      case atStart => exact ⟨0, by omega, rfl, by rw [pls_zero _ _ hrl]; exact hv, hbw⟩
      case round =>
        obtain ⟨k, hk, rfl, hv2, hbw2⟩ := hrel
        by_cases hlt : k < 8
        · have cv := hv2.cell k (by rw [pls_length]; omega)
          rw [pls_at _ _ k hlt] at cv
          have fv := hv2.free k
          have ch := hbw2.rh.cell k (by omega)
          have bv := getD_lt rw8 (unhide HRX) k
          have bh := getD_lt w0 (unhide HSX) k
          have HP := hide (pls_step rw8 w0 k hlt)
          generalize rw8.getD k 0 = y at *
          generalize w0.getD k 0 = z at *
          have ik : (k : Int) < 8 := by omega
          have ik0 : (0 : Int) ≤ (k : Int) := by omega
          have q1 : IntKind.u64.wrap ((y : Int) + z) = (y : Int) + z := u64w _ (by omega)
          have hd1 : decide ((k : Int) < 8) = true := by simp; omega
          go_wp2
          go_region
          go_wp2
          go_roundw
          case rel =>
            have e4 : ((y : Int) + z) % 4294967296 = (((y + z) % 4294967296 : Nat) : Int) := by omega
            rw [e4]
            refine ⟨k + 1, by omega, by go_num, ?_, (hbw2.set hH1 hH2 _ _).drew⟩
            rw [unhide HP]
            exact hv2.set k _
          case measure => simp [intOf]; omega
        · obtain rfl : k = 8 := by omega
          rw [unhide HE] at hv2
          have hfl := words_length (blk s bl)
          generalize hfe : (blk s bl).words = fin at hv2 hfl
          have HF := hide hfe
          clear hfe
          have K1 : Hid (wr.heap[H]? = some (.cells (ucells fin).toArray 23 (0, 0))) := hide hv2
          have K2 : Hid (wr.heap[w.heap.size + 1 + 1]? = some (.cells (ucells z8).toArray 23 (0, 0))) := hide hbw2.rz
          have K3 := hide (show (Tryd.prog.info? 23).map (·.size) = some (ucells fin).toArray.size by rw [ucells_size, hfl]; exact info_u8w)
          have K4 := hide (show (ucells z8).toArray.size = (ucells fin).toArray.size by rw [ucells_size, ucells_size, hfl]; rfl)
          have hbel := hbw2.hb
          clear hv2 hbw2 hbw hv G1 G2
          go_wp2_with (first | ((with_reducible refine at_load ?_); refine wpList_load_row rfl 23 _ rfl H rfl 23 (ucells fin).toArray (0, 0) _ (unhide K1) Tryd.underlying23 rfl (unhide K3) ?_) | ((with_reducible refine at_store ?_); refine wpList_store_row rfl 23 _ _ rfl (w.heap.size + 1 + 1) (ucells fin).toArray rfl rfl 23 _ (unhide K2) (unhide K3) (unhide K4) (ucells_one fin) ?_))
          refine bodyPost_ret (v := .agg (ucells fin).toArray) ?_ rfl ⟨by rw [unhide HF], below_row hbel (by omega) _⟩
          exact results_cell_row Tryd.results35 _ _ (w.heap.size + 1 + 1) 23 _ (0, 0) _ rfl (setRow_heap _ _ _ _ _ _ (unhide K2)) Tryd.underlying23 rfl (unhide K3)
end Go.Proofs.YtocfikblfobjfaaDoor
