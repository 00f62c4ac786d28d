import Derived.Test.YtanfolfopalbeaaDoorRefSha
import Derived.Deep.RegionHeld3
import Derived.Test.YtanfolfopalbeaaDoorAppend
namespace Go.Proofs.YtanfolfopalbeaaDoor
open Go.RowKit

/-- A number that uint64 holds is not wrapped. -/
theorem u64w (x : Int) (h : 0 ≤ x ∧ x < 18446744073709551616) : IntKind.u64.wrap x = x := by rw [IntKind.wrap_u64]; omega
/-- Words as cells of 64 bits. -/
def ucells (l : List Nat) : List Value := l.map fun (n : Nat) => Value.int .u64 (n : Int)
theorem ucells_append (a b : List Nat) : ucells (a ++ b) = ucells a ++ ucells b := by simp [ucells]
theorem ucells_length (a : List Nat) : (ucells a).length = a.length := by simp [ucells]
theorem ucells_at (l : List Nat) (j : Nat) (h : j < l.length) : (ucells l)[j]? = some (.int .u64 ((l.getD j 0 : Nat) : Int)) := by
  simp [ucells, List.getD, List.getElem?_eq_getElem h]

theorem sch_take (l : List Nat) (n k : Nat) (h : k ≤ n) : (sch n l).take (l.length + k) = sch k l := by
  induction n with
  | zero =>
    obtain rfl : k = 0 := by omega
    rw [List.take_of_length_le (by rw [sch_length]; omega)]
  | succ n ih =>
    by_cases he : k = n + 1
    · subst he
      rw [List.take_of_length_le (by rw [sch_length]; omega)]
    · show (sch n l ++ [_]).take _ = _
      rw [List.take_append_of_le_length (by rw [sch_length]; omega)]
      exact ih (by omega)
theorem sch_take_low (l : List Nat) (n k : Nat) (h : k ≤ l.length) : (sch n l).take k = l.take k := by
  have h0 := sch_take l n 0 (by omega)
  rw [Nat.add_zero] at h0
  have : ((sch n l).take l.length).take k = (sch n l).take k := by rw [List.take_take, Nat.min_eq_left h]
  rw [← this, h0]; rfl
/-- The first t words of a block's schedule. -/
def spr (bl : List UInt8) (t : Nat) : List Nat := (sch 48 (be16 bl)).take t
theorem spr_length (bl : List UInt8) (t : Nat) (h : t ≤ 64) : (spr bl t).length = t := by
  unfold spr
  rw [List.length_take, sch_length, be16_length]; omega
theorem spr_lt (bl : List UInt8) (t : Nat) : ∀ x ∈ spr bl t, x < 4294967296 := fun x hx => sch_lt 48 _ (be16_lt bl) x (List.mem_of_mem_take hx)
theorem spr_end (bl : List UInt8) : spr bl 64 = sch 48 (be16 bl) := by
  unfold spr
  rw [List.take_of_length_le (by rw [sch_length, be16_length]; omega)]
theorem be4 (a b c d : UInt8) : beN [a, b, c, d] = ((a.toNat * 256 + b.toNat) * 256 + c.toNat) * 256 + d.toNat := by simp [beN]
theorem spr_low (bl : List UInt8) (t : Nat) (h : t < 16) (hb : bl.length = 64) : spr bl (t + 1) = spr bl t ++ [(((bl.getD (4 * t) 0).toNat * 256 + (bl.getD (4 * t + 1) 0).toNat) * 256 + (bl.getD (4 * t + 2) 0).toNat) * 256 + (bl.getD (4 * t + 3) 0).toNat] := by
  unfold spr
  rw [sch_take_low _ _ _ (by rw [be16_length]; omega), sch_take_low _ _ _ (by rw [be16_length]; omega)]
  rw [List.take_succ_eq_append_getElem (by rw [be16_length]; omega), ← be4]
  congr 2
  unfold be16
  rw [List.getElem_map, List.getElem_range]
  congr 1
  have hd : ∀ j, j < 64 → bl[j]? = some (bl.getD j 0) := fun j hj => by rw [List.getD, List.getElem?_eq_getElem (by omega)]; rfl
  apply List.ext_getElem?
  intro i
  rw [List.getElem?_take, List.getElem?_drop]
  match i with
  | 0 => simpa using hd (4 * t) (by omega)
  | 1 => simpa using hd (4 * t + 1) (by omega)
  | 2 => simpa using hd (4 * t + 2) (by omega)
  | 3 => simpa using hd (4 * t + 3) (by omega)
  | i + 4 => simp; omega
theorem spr_high (bl : List UInt8) (t : Nat) (h : 16 ≤ t) (h2 : t < 64) : spr bl (t + 1) = spr bl t ++ [ext (spr bl t)] := by
  have hl := be16_length bl
  unfold spr
  have e1 := sch_take (be16 bl) 48 (t - 16) (by omega)
  have e2 := sch_take (be16 bl) 48 (t - 16 + 1) (by omega)
  rw [hl, show 16 + (t - 16) = t by omega] at e1
  rw [hl, show 16 + (t - 16 + 1) = t + 1 by omega] at e2
  rw [e1, e2]
  rfl

theorem xor3_bits64 (a b c : Nat) (ha : a < 4294967296) (hb : b < 4294967296) (hc : c < 4294967296) : bits BinOp.xor IntKind.u64 (bits BinOp.xor IntKind.u64 (a : Int) (b : Int)) (c : Int) = ((a ^^^ b ^^^ c : Nat) : Int) := by
  rw [u64_xor_nat a b (by omega) (by omega), u64_xor_nat _ c (by have := xor_lt32 _ _ ha hb; omega) (by omega)]
theorem sg0_bits64 (x : Nat) (hx : x < 4294967296) : bits BinOp.xor IntKind.u64 (bits BinOp.xor IntKind.u64 ((rot x 7 : Nat) : Int) ((rot x 18 : Nat) : Int)) ((x : Int) / 8) = ((sg0 x : Nat) : Int) := by
  rw [show (x : Int) / 8 = ((x / 8 : Nat) : Int) by omega]
  exact xor3_bits64 _ _ _ (rot_lt _ _ hx) (rot_lt _ _ hx) (by omega)
theorem sg1_bits64 (x : Nat) (hx : x < 4294967296) : bits BinOp.xor IntKind.u64 (bits BinOp.xor IntKind.u64 ((rot x 17 : Nat) : Int) ((rot x 19 : Nat) : Int)) ((x : Int) / 1024) = ((sg1 x : Nat) : Int) := by
  rw [show (x : Int) / 1024 = ((x / 1024 : Nat) : Int) by omega]
  exact xor3_bits64 _ _ _ (rot_lt _ _ hx) (rot_lt _ _ hx) (by omega)

theorem ext_cells (m : List Nat) (y0 y1 x7 x16 : Nat) : ucells m ++ [.int .u64 (((y0 : Int) + y1 + x7 + x16).tmod 4294967296)] = ucells (m ++ [(y1 + x7 + y0 + x16) % 4294967296]) := by
  rw [ucells_append, Int.tmod_eq_emod_of_nonneg (by omega)]
  congr 1
  simp only [ucells, List.map_cons, List.map_nil]
  exact congrArg (fun x => [Value.int .u64 x]) (by omega)

/-- 64 bytes as numbers, in a block from an offset on. -/
def NumsAt (w : World) (g off : Nat) (bl : List UInt8) : Prop := g < w.heap.size ∧ ∀ j, j < 64 → w.cell? ⟨g, off + j, none⟩ = some (.int .u64 ((bl.getD j 0).toNat : Int))
theorem NumsAt.below {w w' : World} {g off B : Nat} {bl : List UInt8} (h : NumsAt w g off bl) (hb : Below B w w') (hB : w.heap.size ≤ B) : NumsAt w' g off bl :=
  ⟨Nat.lt_of_lt_of_le h.1 hb.size, fun j hj => by rw [hb.cell (p := ⟨g, off + j, none⟩) (Nat.lt_of_lt_of_le h.1 hB)]; exact h.2 j hj⟩

set_option maxRecDepth 100000 in
set_option maxHeartbeats 1600000 in
theorem spread_any (g off cap : Nat) (bl : List UInt8) (w : World) (hb : bl.length = 64) (hN : NumsAt w g off bl) :
    Calls Tryd.prog 91 #[.slice (some ⟨g, off, none⟩) 64 cap] w fun e w' => ∃ v, e = .returned v ∧ w'.ownsRow w.heap.size 22 1 v 64 (ucells (sch 48 (be16 bl))) ∧ Below w.heap.size w w' := by
  obtain ⟨i0, hi, hz0, hz1, hz2⟩ := info_parts info_u64
  have HN := hide hN
  have hglt := hN.1
  clear hN
  go_enter Tryd.func91, Tryd.ntmps91
  go_wp2
  go_loopw [3, 4] (fun v i wr => ∃ t : Nat, t ≤ 64 ∧ i = .int .i64 t ∧ wr.ownsRow w.heap.size 22 1 v t (ucells (spr bl t)) ∧ Below w.heap.size w wr) (fun _ i _ => 64 - (intOf i).toNat)
  case atStart => exact ⟨0, Nat.zero_le _, rfl, World.ownsRow_nil _ _ _ _, Below.refl _ _⟩
  case round =>
    obtain ⟨t, ht, rfl, hown, hbel⟩ := hrel
    have hszr := hbel.size
    by_cases hlt : t < 64
    · by_cases h16 : t < 16
      · have hnr := ((unhide HN).below hbel (Nat.le_refl _)).2
        have n0 := hnr (4 * t) (by omega)
        have n1 := hnr (4 * t + 1) (by omega)
        have n2 := hnr (4 * t + 2) (by omega)
        have n3 := hnr (4 * t + 3) (by omega)
        have HS := hide (spr_low bl t h16 hb)
        have b0 := (bl.getD (4 * t) 0).toNat_lt
        have b1 := (bl.getD (4 * t + 1) 0).toNat_lt
        have b2 := (bl.getD (4 * t + 2) 0).toNat_lt
        have b3 := (bl.getD (4 * t + 3) 0).toNat_lt
        generalize (bl.getD (4 * t) 0).toNat = x0 at *
        generalize (bl.getD (4 * t + 1) 0).toNat = x1 at *
        generalize (bl.getD (4 * t + 2) 0).toNat = x2 at *
        generalize (bl.getD (4 * t + 3) 0).toNat = x3 at *
        clear hnr
        have hd1 : decide ((t : Int) < 64) = true := by simp; omega
        have hd2 : decide ((t : Int) < 16) = true := by simp; omega
        have i0' : (0 : Int) ≤ 4 * (t : Int) := by omega
        have i0'' : 4 * (t : Int) < 64 := by omega
        have i1' : (0 : Int) ≤ 4 * (t : Int) + 1 := by omega
        have i1'' : 4 * (t : Int) + 1 < 64 := by omega
        have i2' : (0 : Int) ≤ 4 * (t : Int) + 2 := by omega
        have i2'' : 4 * (t : Int) + 2 < 64 := by omega
        have i3' : (0 : Int) ≤ 4 * (t : Int) + 3 := by omega
        have i3'' : 4 * (t : Int) + 3 < 64 := by omega
        have w0 : IntKind.i64.wrap (4 * (t : Int)) = 4 * (t : Int) := i64w _ (by omega)
        have w1 : IntKind.i64.wrap (4 * (t : Int) + 1) = 4 * (t : Int) + 1 := i64w _ (by omega)
        have w2 : IntKind.i64.wrap (4 * (t : Int) + 2) = 4 * (t : Int) + 2 := i64w _ (by omega)
        have w3 : IntKind.i64.wrap (4 * (t : Int) + 3) = 4 * (t : Int) + 3 := i64w _ (by omega)
        have m0 : (4 * (t : Int)).toNat = 4 * t := by omega
        have m1 : (4 * (t : Int) + 1).toNat = 4 * t + 1 := by omega
        have m2 : (4 * (t : Int) + 2).toNat = 4 * t + 2 := by omega
        have m3 : (4 * (t : Int) + 3).toNat = 4 * t + 3 := by omega
        have y0 : IntKind.u64.wrap ((x0 : Int) * 256) = (x0 : Int) * 256 := u64w _ (by omega)
        have y1 : IntKind.u64.wrap ((x0 : Int) * 256 + x1) = (x0 : Int) * 256 + x1 := u64w _ (by omega)
        have y2 : IntKind.u64.wrap (((x0 : Int) * 256 + x1) * 256) = ((x0 : Int) * 256 + x1) * 256 := u64w _ (by omega)
        have y3 : IntKind.u64.wrap (((x0 : Int) * 256 + x1) * 256 + x2) = ((x0 : Int) * 256 + x1) * 256 + x2 := u64w _ (by omega)
        have y4 : IntKind.u64.wrap ((((x0 : Int) * 256 + x1) * 256 + x2) * 256) = (((x0 : Int) * 256 + x1) * 256 + x2) * 256 := u64w _ (by omega)
        have y5 : IntKind.u64.wrap ((((x0 : Int) * 256 + x1) * 256 + x2) * 256 + x3) = (((x0 : Int) * 256 + x1) * 256 + x2) * 256 + x3 := u64w _ (by omega)
        have HV : ∀ k, u3.ownBlock = some k → w.heap.size ≤ k := own_row_ge hown
        have hvg : u3.ownBlock ≠ some g := fun h => by have := HV _ h; omega
        go_wp2
        go_region_held3 (fun w' => w'.cell? ⟨g, off + 4 * t, none⟩ = some (.int .u64 (x0 : Int)) ∧ w'.cell? ⟨g, off + (4 * t + 1), none⟩ = some (.int .u64 (x1 : Int)) ∧ w'.cell? ⟨g, off + (4 * t + 2), none⟩ = some (.int .u64 (x2 : Int)) ∧ w'.cell? ⟨g, off + (4 * t + 3), none⟩ = some (.int .u64 (x3 : Int)))
          (first | go_keep | (go_split_ands; refine ⟨?_, ?_, ?_, ?_⟩ <;> (rw [hgrow.cell_far _ (by simp; omega) (Ne.symm hvg)]; assumption)))
          ((refine step_append_lies _ (by rfl) _ _ _ (by rfl) w.heap.size 22 i0 (.int .u64 0) 1 8 Tryd.underlying103 hi hz0 hz1 hz2 rfl (by omega) u3 t (ucells (spr bl t)) (by rfl) ((hown.alloc _).drew) ⟨wr.heap.size, 0, none⟩ 1 1 [.int .u64 ((((x0 : Int) * 256 + x1) * 256 + x2) * 256 + x3)] (by rfl) (by rfl) (World.news_of_block (cs := #[.int .u64 ((((x0 : Int) * 256 + x1) * 256 + x2) * 256 + x3)]) (t := 22) (fr := (0, 0)) (heap_alloc_new wr _)) (by simp [Value.oneCell']) (by omega) (by unfold maxLen; omega) (by omega) (by simp; omega) (wr.heap.size + 1) (by simp) ?_; intro gg cap wn hown1 hgrow hat hgl))
        have hbel1 : Below w.heap.size w wn := ((hbel.alloc hszr _).drew).grown hgrow (by simp; omega) HV
        have e1 : ucells (spr bl t) ++ [.int .u64 ((((x0 : Int) * 256 + x1) * 256 + x2) * 256 + x3)] = ucells (spr bl (t + 1)) := by
          rw [unhide HS, ucells_append]
          rfl
        rw [e1] at hown1
        clear hgrow e1 hown hbel y0 y1 y2 y3 y4 y5 w0 w1 w2 w3 m0 m1 m2 m3
        go_wp2
        go_roundw
        case rel => exact ⟨t + 1, by omega, by go_num, hown1, hbel1⟩
        case measure => simp [intOf]; omega
      · have hml := spr_length bl t ht
        have hmx := spr_lt bl t
        have HS := hide (spr_high bl t (by omega) hlt)
        generalize spr bl t = m at *
        obtain ⟨gv, cv, rfl, hgv, hgl⟩ := hown.form (by omega)
        have hcl := hown.cells (g := gv) rfl
        have get : ∀ j, j < t → wr.cell? ⟨gv, j, none⟩ = some (.int .u64 ((m.getD j 0 : Nat) : Int)) := fun j hj => by
          have := hcl j _ (ucells_at m j (by omega))
          rwa [Addr.add_lit, Nat.zero_add] at this
        have c15 := get (t - 15) (by omega)
        have c2 := get (t - 2) (by omega)
        have c7 := get (t - 7) (by omega)
        have c16 := get (t - 16) (by omega)
        have b15 := getD_lt m hmx (t - 15)
        have b2 := getD_lt m hmx (t - 2)
        have b7 := getD_lt m hmx (t - 7)
        have b16 := getD_lt m hmx (t - 16)
        have HE := hide (show ext m = (sg1 (m.getD (t - 2) 0) + m.getD (t - 7) 0 + sg0 (m.getD (t - 15) 0) + m.getD (t - 16) 0) % 4294967296 by unfold ext; rw [hml])
        generalize m.getD (t - 15) 0 = x15 at *
        generalize m.getD (t - 2) 0 = x2 at *
        generalize m.getD (t - 7) 0 = x7 at *
        generalize m.getD (t - 16) 0 = x16 at *
        clear get hmx hcl
        have hs0 := sg0_bits64 x15 b15
        have hs1 := sg1_bits64 x2 b2
        have l0 := sg0_lt x15 b15
        have l1 := sg1_lt x2 b2
        have hd1 : decide ((t : Int) < 64) = true := by simp; omega
        have hd2 : decide ((t : Int) < 16) = false := by simp; omega
        go_wp2_with fail
        refine (by_any x15 7 _ b15 (by omega)).mono ?_
        rintro e wa ⟨rfl, rfl⟩
        go_wp2_with fail
        refine (by_any x15 18 _ b15 (by omega)).mono ?_
        rintro e wb ⟨rfl, rfl⟩
        go_wp2_with fail
        refine (by_any x2 17 _ b2 (by omega)).mono ?_
        rintro e wc ⟨rfl, rfl⟩
        go_wp2_with fail
        refine (by_any x2 19 _ b2 (by omega)).mono ?_
        rintro e wd ⟨rfl, rfl⟩
        go_wp2_with fail
        generalize sg0 x15 = y0 at *
        generalize sg1 x2 = y1 at *
        obtain ⟨p7, hp7⟩ : ∃ p : Nat, p = t - 7 := ⟨_, rfl⟩
        obtain ⟨p16, hp16⟩ : ∃ p : Nat, p = t - 16 := ⟨_, rfl⟩
        rw [← hp7] at c7
        rw [← hp16] at c16
        have z7 : (t : Int) - 7 = (p7 : Int) := by omega
        have z16 : (t : Int) - 16 = (p16 : Int) := by omega
        have v7 : IntKind.i64.wrap (p7 : Int) = (p7 : Int) := i64w _ (by omega)
        have v16 : IntKind.i64.wrap (p16 : Int) = (p16 : Int) := i64w _ (by omega)
        have j7 : (p7 : Int) < (t : Int) := by omega
        have j16 : (p16 : Int) < (t : Int) := by omega
        have i7 : (0 : Int) ≤ (p7 : Int) := by omega
        have i16 : (0 : Int) ≤ (p16 : Int) := by omega
        clear hp7 hp16
        have q1 : IntKind.u64.wrap ((y0 : Int) + y1) = (y0 : Int) + y1 := u64w _ (by omega)
        have q2 : IntKind.u64.wrap ((y0 : Int) + y1 + x7) = (y0 : Int) + y1 + x7 := u64w _ (by omega)
        have q3 : IntKind.u64.wrap ((y0 : Int) + y1 + x7 + x16) = (y0 : Int) + y1 + x7 + x16 := u64w _ (by omega)
        have hbr : gv < wd.heap.size := hgl
        go_region_held3 (fun w' => w'.cell? ⟨gv, p7, none⟩ = some (.int .u64 (x7 : Int)) ∧ w'.cell? ⟨gv, p16, none⟩ = some (.int .u64 (x16 : Int)))
          (first | go_keep | (go_split_ands; refine ⟨?_, ?_⟩ <;> (rw [hkeep gv _ (by simp; omega) (fun _ => by omega)]; assumption)))
          ((refine step_append_keeps _ (by rfl) _ _ _ (by rfl) w.heap.size 22 i0 (.int .u64 0) 1 8 Tryd.underlying103 hi hz0 hz1 hz2 rfl (by omega) (.slice (some ⟨gv, 0, none⟩) t cv) t (ucells m) (by rfl) ((hown.alloc _).drew) ⟨wd.heap.size, 0, none⟩ 1 1 [.int .u64 (((y0 : Int) + y1 + x7 + x16).tmod 4294967296)] (by rfl) (by rfl) (World.news_of_block (cs := #[.int .u64 (((y0 : Int) + y1 + x7 + x16).tmod 4294967296)]) (t := 22) (fr := (0, 0)) (heap_alloc_new wd _)) (by simp [Value.oneCell']) (by omega) (by unfold maxLen; omega) (by omega) (by simp; omega) ?_; intro gg cap wn hown1 hgrow hat hgl2 hkeep))
        have hbel1 : Below w.heap.size w wn := ((hbel.alloc hszr _).drew).grown hgrow (by simp; omega) (own_row_ge hown)
        have e1 : ucells m ++ [.int .u64 (((y0 : Int) + y1 + x7 + x16).tmod 4294967296)] = ucells (spr bl (t + 1)) := by
          rw [unhide HS, unhide HE]
          exact ext_cells m y0 y1 x7 x16
        rw [e1] at hown1
        clear hgrow e1 hown hbel hkeep
        go_wp2
        go_roundw
        case rel => exact ⟨t + 1, by omega, by go_num, hown1, hbel1⟩
        case measure => simp [intOf]; omega
    · have hte : t = 64 := by omega
      subst hte
      rw [spr_end] at hown
      go_wp2
      go_ret
      exact ⟨_, rfl, hown, hbel⟩
end Go.Proofs.YtanfolfopalbeaaDoor
