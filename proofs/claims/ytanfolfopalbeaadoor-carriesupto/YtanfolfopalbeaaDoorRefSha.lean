import Derived.Test.YtanfolfopalbeaaDoorKeep
namespace Go.Proofs.YtanfolfopalbeaaDoor
open Go.RowKit

theorem rot_eq (x n : Nat) (hx : x < 4294967296) (hn : n ≤ 32) : (x * 4294967296 ||| x) / 2 ^ n % 4294967296 = rot x n := by
  apply Nat.eq_of_testBit_eq
  intro i
  unfold rot
  rw [show 4294967296 = 2 ^ 32 from rfl, Nat.testBit_mod_two_pow, Nat.testBit_or, Nat.testBit_mod_two_pow]
  rw [Nat.testBit_div_two_pow, Nat.testBit_div_two_pow, Nat.testBit_or, Nat.testBit_mul_two_pow, Nat.testBit_mul_two_pow]
  have hz : ∀ j, 32 ≤ j → x.testBit j = false := fun j hj => Nat.testBit_lt_two_pow (Nat.lt_of_lt_of_le hx (by
    have : 2 ^ 32 ≤ 2 ^ j := Nat.pow_le_pow_right (by decide) hj
    omega))
  by_cases h1 : i < 32
  · by_cases h2 : i + n < 32
    · simp [h1, show ¬ 32 ≤ i + n by omega, show ¬ 32 - n ≤ i by omega]
    · have e : i + n - 32 = i - (32 - n) := by omega
      simp [h1, show 32 ≤ i + n by omega, show 32 - n ≤ i by omega, hz (i + n) (by omega), e]
  · simp [h1, hz (i + n) (by omega)]

theorem by_bits (x n : Nat) (hx : x < 4294967296) (hn : n ≤ 32) : (bits BinOp.or IntKind.u64 ((x : Int) * 4294967296) (x : Int) / 2 ^ n).tmod 4294967296 = ((rot x n : Nat) : Int) := by
  rw [show (x : Int) * 4294967296 = ((x * 4294967296 : Nat) : Int) by omega, u64_or_nat _ _ (by omega) (by omega)]
  have e1 : ((x * 4294967296 ||| x : Nat) : Int) / 2 ^ n = (((x * 4294967296 ||| x) / 2 ^ n : Nat) : Int) := by simp
  rw [e1, ← rot_eq x n hx hn]
  generalize (x * 4294967296 ||| x) / 2 ^ n = q
  rw [Int.tmod_eq_emod_of_nonneg (by omega)]
  omega

set_option maxRecDepth 100000 in
set_option maxHeartbeats 400000 in
theorem by_any (x n : Nat) (w : World) (hx : x < 4294967296) (hn : n ≤ 32) :
    Calls Tryd.prog 92 #[.int .u64 x, .int .u64 n] w fun e w' => e = .returned (.int .u64 (rot x n)) ∧ w' = w := by
  go_enter Tryd.func92, Tryd.ntmps92
  go_wp2
  go_ret
  exact ⟨ret_int (by_bits x n hx hn), rfl⟩

theorem info_u64 : (Tryd.prog.info? 22).map (fun i => (i.zero, i.size, i.bytes)) = some (some (.int .u64 0), 1, 8) := by kernel_rfl
/-- Bytes as cells of numbers. -/
def ncells (l : List UInt8) : List Value := l.map fun b => Value.int .u64 (b.toNat : Int)
theorem ncells_append (a b : List UInt8) : ncells (a ++ b) = ncells a ++ ncells b := by simp [ncells]
theorem ncells_length (a : List UInt8) : (ncells a).length = a.length := by simp [ncells]
/-- The length in bits, byte by byte, from the highest on. -/
def lenR (x k : Nat) : List UInt8 := (List.range k).map fun i => UInt8.ofNat (x / 2 ^ (8 * (7 - i)) % 256)
theorem lenR_succ (x k : Nat) : lenR x (k + 1) = lenR x k ++ [UInt8.ofNat (x / 2 ^ (8 * (7 - k)) % 256)] := by
  unfold lenR
  rw [List.range_succ, List.map_append]
  rfl
def padR (l : List UInt8) : List UInt8 := l ++ [128] ++ List.replicate (zs (l.length + 1)) 0 ++ lenR (8 * l.length) 8

set_option maxRecDepth 100000 in
set_option maxHeartbeats 1600000 in
theorem rpad_any (s : ByteArray) (w : World) (hs : s.size ≤ 1048576) :
    Calls Tryd.prog 53 #[.string s] w fun e w' => ∃ v, e = .returned v ∧ w'.ownsRow w.heap.size 22 1 v (padR s.data.toList).length (ncells (padR s.data.toList)) ∧ Below w.heap.size w w' := by
  obtain ⟨i0, hi, hz0, hz1, hz2⟩ := info_parts info_u64
  go_enter Tryd.func53, Tryd.ntmps53
  go_wp2
  go_loopw [3, 4] (fun v i wr => ∃ k : Nat, k ≤ s.size ∧ i = .int .i64 k ∧ wr.ownsRow w.heap.size 22 1 v k (ncells (s.data.toList.take k)) ∧ Below w.heap.size w wr) (fun _ i _ => s.size - (intOf i).toNat)
  case atStart => exact ⟨0, Nat.zero_le _, rfl, World.ownsRow_nil _ _ _ _, Below.refl _ _⟩
  case round =>
    obtain ⟨k, hk, rfl, hown, hbel⟩ := hrel
    have hszr := hbel.size
    by_cases hlt : k < s.size
    · have HT := hide (take_snoc s k hlt)
      have hb := (s[k]'hlt).toNat_lt
      have hd1 : decide ((k : Int) < (s.size : Int)) = true := by simp; omega
      go_wp2_with (at_builtin; go_must (refine wpList_append_own _ rfl (.tmp 13) (.tmp 18) 103 rfl w.heap.size 22 i0 (.int .u64 0) 1 8 Tryd.underlying103 hi hz0 hz1 hz2 rfl (by decide) _ _ _ rfl (hown.alloc _) ⟨wr.heap.size, 0, none⟩ 1 1 [.int .u64 ((s[k].toNat : Nat) : Int)] rfl rfl ?c1 ?c2 ?c3 ?c4 ?c5 ?_))
      case c1 => exact cell_one_new _ _ _
      case c2 => intro u hu; simp at hu; subst hu; rfl
      case c3 => unfold maxLen; omega
      case c4 => omega
      case c5 => simp; omega
      intro v3 w3 hown3 hgrow3 _
      have hbel3 : Below w.heap.size w w3 := (hbel.alloc hszr _).grown hgrow3 (by simp; omega) (own_row_ge hown)
      clear hgrow3 hown hbel
      go_wp2
      go_roundw
      case rel => exact ⟨k + 1, by omega, by go_num, by rw [unhide HT, ncells_append]; exact hown3, hbel3⟩
      case measure => simp [intOf]; omega
    · have hke : k = s.size := by omega
      rw [hke] at hown
      rw [List.take_of_length_le (show s.data.toList.length ≤ s.size from Nat.le_refl _)] at hown
      have hd1 : decide ((k : Int) < (s.size : Int)) = false := by simp; omega
      have hl0 : (s.data.toList ++ [128]).length = s.size + 1 := by rw [List.length_append]; rfl
      have HP := hide (show padR s.data.toList = (s.data.toList ++ [128]) ++ List.replicate (zs (s.size + 1)) 0 ++ lenR (8 * s.size) 8 from rfl)
      have hJ : zs (s.size + 1) < 64 := by unfold zs; omega
      have hJ2 : (s.size + 1 + zs (s.size + 1)) % 64 = 56 := by unfold zs; omega
      have hJ3 : ∀ j, j < zs (s.size + 1) → (s.size + 1 + j) % 64 ≠ 56 := by unfold zs; omega
      generalize zs (s.size + 1) = J at hJ hJ2 hJ3 HP
      have HJ := hide hJ3
      have HJ2 := hide hJ2
      clear hke hJ3 hJ2
      go_wp2_with (at_builtin; go_must (refine wpList_append_own _ rfl (.tmp 20) (.tmp 21) 103 rfl w.heap.size 22 i0 (.int .u64 0) 1 8 Tryd.underlying103 hi hz0 hz1 hz2 rfl (by decide) _ _ _ rfl (hown.alloc _) ⟨wr.heap.size, 0, none⟩ 1 1 [.int .u64 128] rfl rfl ?d1 ?d2 ?d3 ?d4 ?d5 ?_))
      case d1 => exact cell_one_new _ _ _
      case d2 => intro u hu; simp at hu; subst hu; rfl
      case d3 => unfold maxLen; omega
      case d4 => omega
      case d5 => simp; omega
      intro v2 w2 hown2 hgrow2 _
      have hbel2 : Below w.heap.size w w2 := (hbel.alloc hszr _).grown hgrow2 (by simp; omega) (own_row_ge hown)
      have e2 : ncells s.data.toList ++ [Value.int .u64 128] = ncells (s.data.toList ++ [128]) := by rw [ncells_append]; rfl
      rw [e2] at hown2
      generalize s.data.toList ++ [128] = l0 at hown2 hl0 HP
      clear hgrow2 hown hbel e2
      go_wp2
      go_loopw [3] (fun v wq => ∃ j : Nat, j ≤ J ∧ wq.ownsRow w.heap.size 22 1 v (s.size + 1 + j) (ncells (l0 ++ List.replicate j 0)) ∧ Below w.heap.size w wq) (fun v _ => (match v with | .slice _ m _ => s.size + 1 + J - m | _ => 0))
      case atStart => exact ⟨0, Nat.zero_le _, by rw [List.replicate_zero, List.append_nil]; exact hown2, hbel2⟩
      case round =>
        obtain ⟨j, hj, hown, hbel⟩ := hrel
        obtain ⟨ao, cap, rfl⟩ := own_shape hown
        have hszq := hbel.size
        by_cases hlt : j < J
        · have hne := unhide HJ j hlt
          go_wp2_with (at_builtin; go_must (refine wpList_append_own _ rfl (.tmp 27) (.tmp 28) 103 rfl w.heap.size 22 i0 (.int .u64 0) 1 8 Tryd.underlying103 hi hz0 hz1 hz2 rfl (by decide) _ _ _ rfl (hown.alloc _) ⟨wr.heap.size, 0, none⟩ 1 1 [.int .u64 0] rfl rfl ?f1 ?f2 ?f3 ?f4 ?f5 ?_))
          case f1 => exact cell_one_new _ _ _
          case f2 => intro u hu; simp at hu; subst hu; rfl
          case f3 => unfold maxLen; omega
          case f4 => omega
          case f5 => simp; omega
          intro v3 w3 hown3 hgrow3 _
          have hbel3 : Below w.heap.size w w3 := (hbel.alloc hszq _).grown hgrow3 (by simp; omega) (own_row_ge hown)
          have e3 : ncells (l0 ++ List.replicate j 0) ++ [Value.int .u64 0] = ncells (l0 ++ List.replicate (j + 1) 0) := by
            rw [List.replicate_succ', ← List.append_assoc, ncells_append (l0 ++ List.replicate j 0)]; rfl
          rw [e3] at hown3
          obtain ⟨ao3, cap3, hv3⟩ := own_shape hown3
          rw [hv3] at hown3 ⊢
          clear hv3 hgrow3 e3 hown hbel
          go_wp2
          go_roundw
          case rel => exact ⟨j + 1, by omega, hown3, hbel3⟩
          case measure => simp; omega
        · have hje : j = J := by omega
          subst hje
          have hm := unhide HJ2
          generalize hqe : s.size + 1 + j = q at hown hm ⊢
          have hq2 : q ≤ 1048700 := by omega
          generalize l0 ++ List.replicate j 0 = l1 at hown HP
          have hd : ((q : Int) % 64 != 56) = false := by rw [bne_eq_false_iff_eq]; omega
          clear HJ HJ2 hqe
          go_wp2
          go_loopw [3, 6] (fun v i wz => ∃ k : Nat, k ≤ 8 ∧ i = .int .i64 (7 - (k : Int)) ∧ wz.ownsRow w.heap.size 22 1 v (q + k) (ncells (l1 ++ lenR (8 * s.size) k)) ∧ Below w.heap.size w wz) (fun _ i _ => (intOf i + 1).toNat)
          case atStart => exact ⟨0, by omega, rfl, by rw [show lenR (8 * s.size) 0 = [] from rfl, List.append_nil]; exact hown, hbel⟩
          case round =>
            obtain ⟨k, hk, rfl, hown, hbel⟩ := hrel
            have hszz := hbel.size
            by_cases hlt : k < 8
            · obtain ⟨m, hme⟩ : ∃ m : Nat, m = 7 - k := ⟨_, rfl⟩
              have hmi : (7 : Int) - (k : Int) = (m : Int) := by omega
              have HL := hide (lenR_succ (8 * s.size) k)
              have HME := hide hme
              have hm7 : m ≤ 7 := by omega
              rw [hmi]
              have HMI := hide hmi
              clear hme hmi
              go_wp2_with (at_builtin; go_must (refine wpList_append_own _ rfl (.tmp 38) (.tmp 45) 103 rfl w.heap.size 22 i0 (.int .u64 0) 1 8 Tryd.underlying103 hi hz0 hz1 hz2 rfl (by decide) _ _ _ rfl (hown.alloc _) ⟨wr.heap.size, 0, none⟩ 1 1 [.int .u64 ((8 * (s.size : Int) / 2 ^ (8 * m)).tmod 256)] rfl rfl ?g1 ?g2 ?g3 ?g4 ?g5 ?_))
              case g1 => exact cell_one_new _ _ _
              case g2 => intro u hu; simp at hu; subst hu; rfl
              case g3 => unfold maxLen; omega
              case g4 => omega
              case g5 => simp; omega
              intro v3 w3 hown3 hgrow3 _
              have hbel3 : Below w.heap.size w w3 := (hbel.alloc hszz _).grown hgrow3 (by simp; omega) (own_row_ge hown)
              have e3 : ncells (l1 ++ lenR (8 * s.size) k) ++ [Value.int .u64 ((8 * (s.size : Int) / 2 ^ (8 * m)).tmod 256)] = ncells (l1 ++ lenR (8 * s.size) (k + 1)) := by
                rw [unhide HL, ← List.append_assoc, ncells_append (l1 ++ lenR (8 * s.size) k), ← unhide HME]
                congr 1
                simp only [ncells, List.map_cons, List.map_nil]
                rw [UInt8.toNat_ofNat']
                have e4 : 8 * (s.size : Int) / 2 ^ (8 * m) = ((8 * s.size / 2 ^ (8 * m) : Nat) : Int) := by simp
                rw [e4]
                generalize 8 * s.size / 2 ^ (8 * m) = y
                rw [Int.tmod_eq_emod_of_nonneg (by omega)]
                exact congrArg (fun x => [Value.int .u64 x]) (by omega)
              rw [e3] at hown3
              clear hgrow3 e3 hown hbel
              go_wp2
              go_roundw
              case rel => exact ⟨k + 1, by omega, val_int (by have := unhide HMI; omega), hown3, hbel3⟩
              case measure => have := unhide HMI; simp [intOf]
            · have hke : k = 8 := by omega
              rw [hke, ← unhide HP] at hown
              have hi7 : (7 : Int) - (k : Int) = -1 := by omega
              have hlp : (padR s.data.toList).length = q + 8 := by
                have := hown.1
                rw [ncells_length] at this
                omega
              have HLP := hide hlp
              rw [hi7]
              clear hke hi7 hlp HP
              go_wp2
              go_ret
              exact ⟨_, rfl, by rw [unhide HLP]; exact hown, hbel⟩
end Go.Proofs.YtanfolfopalbeaaDoor
