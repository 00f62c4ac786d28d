import Derived.Test.YtanfolfopalbeaaDoorStrs
import Derived.Test.YtanfolfopalbeaaDoorWeak
import Derived.Test.YtanfolfopalbeaaDoorSha
import Derived.BigQuiet
import Derived.BigRegion
import Derived.Deep.QuietTactic
import Derived.Outline
namespace Go.Proofs.YtanfolfopalbeaaDoor
open Go.RowKit

theorem rot_bits (x n : Nat) (hx : x < 4294967296) : bits BinOp.or IntKind.u32 ((x : Int) / 2 ^ n) ((x : Int) * 2 ^ (32 - n) % 4294967296) = ((rot x n : Nat) : Int) := by
  have e1 : (x : Int) / 2 ^ n = ((x / 2 ^ n : Nat) : Int) := by simp
  have e2 : (x : Int) * 2 ^ (32 - n) % 4294967296 = ((x * 2 ^ (32 - n) % 4294967296 : Nat) : Int) := by simp
  rw [e1, e2]
  refine u32_or_nat _ _ (Nat.lt_of_le_of_lt (Nat.div_le_self _ _) hx) ?_
  have := Nat.mod_lt (x * 2 ^ (32 - n)) (show 0 < 4294967296 by omega)
  omega

set_option maxHeartbeats 400000 in
theorem turned_any (x n : Nat) (w : World) (hx : x < 4294967296) (hn : n ≤ 32) :
    Calls Tryd.prog 123 #[.int .u32 x, .int .u32 n] w fun e w' => e = .returned (.int .u32 (rot x n)) ∧ w' = w := by
  go_enter Tryd.func123, Tryd.ntmps123
  go_wp2
  go_ret
  exact ⟨ret_int (rot_bits x n hx), rfl⟩

theorem turned_7 (x : Nat) (w : World) (hx : x < 4294967296) : Calls Tryd.prog 123 #[.int .u32 x, .int .u32 7] w fun e w' => e = .returned (.int .u32 (rot x 7)) ∧ w' = w := turned_any x 7 w hx (by decide)
theorem turned_18 (x : Nat) (w : World) (hx : x < 4294967296) : Calls Tryd.prog 123 #[.int .u32 x, .int .u32 18] w fun e w' => e = .returned (.int .u32 (rot x 18)) ∧ w' = w := turned_any x 18 w hx (by decide)
theorem turned_17 (x : Nat) (w : World) (hx : x < 4294967296) : Calls Tryd.prog 123 #[.int .u32 x, .int .u32 17] w fun e w' => e = .returned (.int .u32 (rot x 17)) ∧ w' = w := turned_any x 17 w hx (by decide)
theorem turned_19 (x : Nat) (w : World) (hx : x < 4294967296) : Calls Tryd.prog 123 #[.int .u32 x, .int .u32 19] w fun e w' => e = .returned (.int .u32 (rot x 19)) ∧ w' = w := turned_any x 19 w hx (by decide)
theorem turned_2 (x : Nat) (w : World) (hx : x < 4294967296) : Calls Tryd.prog 123 #[.int .u32 x, .int .u32 2] w fun e w' => e = .returned (.int .u32 (rot x 2)) ∧ w' = w := turned_any x 2 w hx (by decide)
theorem turned_13 (x : Nat) (w : World) (hx : x < 4294967296) : Calls Tryd.prog 123 #[.int .u32 x, .int .u32 13] w fun e w' => e = .returned (.int .u32 (rot x 13)) ∧ w' = w := turned_any x 13 w hx (by decide)
theorem turned_22 (x : Nat) (w : World) (hx : x < 4294967296) : Calls Tryd.prog 123 #[.int .u32 x, .int .u32 22] w fun e w' => e = .returned (.int .u32 (rot x 22)) ∧ w' = w := turned_any x 22 w hx (by decide)
theorem turned_6 (x : Nat) (w : World) (hx : x < 4294967296) : Calls Tryd.prog 123 #[.int .u32 x, .int .u32 6] w fun e w' => e = .returned (.int .u32 (rot x 6)) ∧ w' = w := turned_any x 6 w hx (by decide)
theorem turned_11 (x : Nat) (w : World) (hx : x < 4294967296) : Calls Tryd.prog 123 #[.int .u32 x, .int .u32 11] w fun e w' => e = .returned (.int .u32 (rot x 11)) ∧ w' = w := turned_any x 11 w hx (by decide)
theorem turned_25 (x : Nat) (w : World) (hx : x < 4294967296) : Calls Tryd.prog 123 #[.int .u32 x, .int .u32 25] w fun e w' => e = .returned (.int .u32 (rot x 25)) ∧ w' = w := turned_any x 25 w hx (by decide)

/-- 64 words that are 0. -/
def z64 : List Nat := List.replicate 64 0
theorem z64_length : z64.length = 64 := rfl

/-- Words as cells. -/
def wcells (l : List Nat) : Array Value := (l.map fun (n : Nat) => Value.int .u32 (n : Int)).toArray

/-- Block g holds the words l. -/
def Row (w : World) (g : Nat) (ty : TypeId) (l : List Nat) : Prop := w.heap[g]? = some (.cells (wcells l) ty (0, 0))
theorem wcells_at (l : List Nat) (j : Nat) (h : j < l.length) : (wcells l)[j]? = some (.int .u32 ((l.getD j 0 : Nat) : Int)) := by
  simp [wcells, List.getD, List.getElem?_eq_getElem h]
theorem Row.cell {w : World} {g : Nat} {ty : TypeId} {l : List Nat} (h : Row w g ty l) (j : Nat) (hj : j < l.length) : w.cell? ⟨g, j, none⟩ = some (.int .u32 ((l.getD j 0 : Nat) : Int)) := by
  rw [cell_of_row w g j _ _ _ h]
  exact wcells_at l j hj
theorem Row.free {w : World} {g : Nat} {ty : TypeId} {l : List Nat} (h : Row w g ty l) (j : Nat) : w.frozen? ⟨g, j, none⟩ = false := frozen_of_row w g j _ _ h
theorem Row.set {w : World} {g : Nat} {ty : TypeId} {l : List Nat} (h : Row w g ty l) (j x : Nat) : Row (w.setCell ⟨g, j, none⟩ (.int .u32 (x : Int))) g ty (l.set j x) := by
  unfold Row
  rw [heap_setCell_same w g j _ _ _ h]
  congr 2
  apply Array.ext'
  simp [wcells, List.map_set]
theorem Row.other {w : World} {g g' j : Nat} {ty : TypeId} {l : List Nat} {v : Value} (h : Row w g ty l) (hg : g ≠ g') : Row (w.setCell ⟨g', j, none⟩ v) g ty l := by
  unfold Row
  rw [heap_setCell_other _ _ _ _ (by exact hg)]
  exact h
theorem Row.drew {w : World} {g : Nat} {ty : TypeId} {l : List Nat} (h : Row w g ty l) : Row w.drew g ty l := h

theorem wcells_zero : wcells z64 = #[.int .u32 0, .int .u32 0, .int .u32 0, .int .u32 0, .int .u32 0, .int .u32 0, .int .u32 0, .int .u32 0, .int .u32 0, .int .u32 0, .int .u32 0, .int .u32 0, .int .u32 0, .int .u32 0, .int .u32 0, .int .u32 0, .int .u32 0, .int .u32 0, .int .u32 0, .int .u32 0, .int .u32 0, .int .u32 0, .int .u32 0, .int .u32 0, .int .u32 0, .int .u32 0, .int .u32 0, .int .u32 0, .int .u32 0, .int .u32 0, .int .u32 0, .int .u32 0, .int .u32 0, .int .u32 0, .int .u32 0, .int .u32 0, .int .u32 0, .int .u32 0, .int .u32 0, .int .u32 0, .int .u32 0, .int .u32 0, .int .u32 0, .int .u32 0, .int .u32 0, .int .u32 0, .int .u32 0, .int .u32 0, .int .u32 0, .int .u32 0, .int .u32 0, .int .u32 0, .int .u32 0, .int .u32 0, .int .u32 0, .int .u32 0, .int .u32 0, .int .u32 0, .int .u32 0, .int .u32 0, .int .u32 0, .int .u32 0, .int .u32 0, .int .u32 0] := rfl

theorem word_step (x : Nat) (c : UInt8) (hx : x < 16777216) : bits BinOp.or IntKind.u32 ((x : Int) * 256) ((c.toNat : Int) % 4294967296) = ((x * 256 + c.toNat : Nat) : Int) := by
  have hc : c.toNat < 256 := c.toNat_lt
  rw [show ((x : Int) * 256) = ((x * 256 : Nat) : Int) by omega, show ((c.toNat : Int) % 4294967296) = (c.toNat : Int) by omega, u32_or_nat _ _ (by omega) (by omega), nat_join 8 _ _ (by omega) (by omega)]
theorem Row.lt {w : World} {g : Nat} {ty : TypeId} {l : List Nat} (h : Row w g ty l) : g < w.heap.size := lt_of_block h
theorem Row.below {w w' : World} {B g : Nat} {ty : TypeId} {l : List Nat} (h : Row w g ty l) (hb : Below B w w') (hB : w.heap.size ≤ B) : Row w' g ty l := by
  unfold Row
  rw [hb.block g (Nat.lt_of_lt_of_le h.lt hB)]
  exact h
theorem row_zero_new (w : World) (ty : TypeId) (X : Obj) : Row ((w.alloc X).alloc (.cells (wcells z64) ty)) (w.heap.size + 1) ty z64 := heap_alloc2_new w _ _
theorem row_zero_old (w : World) (ty : TypeId) (X : Obj) : Row ((w.alloc (.cells (wcells z64) ty)).alloc X) w.heap.size ty z64 := heap_alloc2_old w _ _

theorem run_load_arr (P : Program) (w : World) (g : Nat) (ty : TypeId) (l : List Nat) (n : Nat) (e : TypeId) (h : Row w g ty l) (hu : P.underlying ty = some (.array n e)) (hi : (P.info? ty).map (·.size) = some l.length) :
    (loadVar ty ⟨g, 0, none⟩).run P w = .ok (.agg (wcells l)) w :=
  run_loadVar_row w g ty ty (wcells l) (0, 0) _ h hu rfl (by rw [hi]; simp [wcells])

theorem xor3_bits (a b c : Nat) (ha : a < 4294967296) (hb : b < 4294967296) (hc : c < 4294967296) : bits BinOp.xor IntKind.u32 (bits BinOp.xor IntKind.u32 (a : Int) (b : Int)) (c : Int) = ((a ^^^ b ^^^ c : Nat) : Int) := by
  rw [u32_xor_nat a b ha hb, u32_xor_nat _ c (xor_lt32 _ _ ha hb) hc]
theorem sg0_bits (x : Nat) (hx : x < 4294967296) : bits BinOp.xor IntKind.u32 (bits BinOp.xor IntKind.u32 ((rot x 7 : Nat) : Int) ((rot x 18 : Nat) : Int)) ((x : Int) / 8) = ((sg0 x : Nat) : Int) := by
  rw [show (x : Int) / 8 = ((x / 8 : Nat) : Int) by omega]
  exact xor3_bits _ _ _ (rot_lt _ _ hx) (rot_lt _ _ hx) (by omega)
theorem sg1_bits (x : Nat) (hx : x < 4294967296) : bits BinOp.xor IntKind.u32 (bits BinOp.xor IntKind.u32 ((rot x 17 : Nat) : Int) ((rot x 19 : Nat) : Int)) ((x : Int) / 1024) = ((sg1 x : Nat) : Int) := by
  rw [show (x : Int) / 1024 = ((x / 1024 : Nat) : Int) by omega]
  exact xor3_bits _ _ _ (rot_lt _ _ hx) (rot_lt _ _ hx) (by omega)
theorem bg0_bits (x : Nat) (hx : x < 4294967296) : bits BinOp.xor IntKind.u32 (bits BinOp.xor IntKind.u32 ((rot x 2 : Nat) : Int) ((rot x 13 : Nat) : Int)) ((rot x 22 : Nat) : Int) = ((bg0 x : Nat) : Int) :=
  xor3_bits _ _ _ (rot_lt _ _ hx) (rot_lt _ _ hx) (rot_lt _ _ hx)
theorem bg1_bits (x : Nat) (hx : x < 4294967296) : bits BinOp.xor IntKind.u32 (bits BinOp.xor IntKind.u32 ((rot x 6 : Nat) : Int) ((rot x 11 : Nat) : Int)) ((rot x 25 : Nat) : Int) = ((bg1 x : Nat) : Int) :=
  xor3_bits _ _ _ (rot_lt _ _ hx) (rot_lt _ _ hx) (rot_lt _ _ hx)
theorem set_mid (m : List Nat) (t e : Nat) (h : m.length = t) (ht : t < 64) : (m ++ List.replicate (64 - t) 0).set t e = (m ++ [e]) ++ List.replicate (64 - (t + 1)) 0 := by
  rw [List.set_append_right _ _ (by omega), h, Nat.sub_self, show 64 - t = (64 - (t + 1)) + 1 by omega, List.replicate_succ]
  simp

theorem below_row {B : Nat} {a w : World} (h : Below B a w) {g : Nat} (hg : B ≤ g) (cs : Array Value) : Below B a (w.setRow g cs) :=
  ⟨h.os, h.tape, h.output, by rw [setRow_size]; exact h.size, fun k hk => (setRow_other w g k cs (by omega)).trans (h.block k hk)⟩
theorem wcells_size (l : List Nat) : (wcells l).size = l.length := by simp [wcells]
theorem wcells_one (l : List Nat) : (wcells l).all (·.oneCell') = true := by
  rw [Array.all_eq_true']
  intro v hv
  simp only [wcells, List.mem_toArray, List.mem_map] at hv
  obtain ⟨n, _, rfl⟩ := hv
  rfl
theorem info_w64 : (Tryd.prog.info? 159).map (·.size) = some 64 := by kernel_rfl
theorem info_w8 : (Tryd.prog.info? 137).map (·.size) = some 8 := by kernel_rfl

/-- The cells of a row, loaded. -/
theorem run_loadFrom_row (P : Program) (w : World) (g : Nat) (ty : TypeId) (l : List Nat) (n : Nat) (h : Row w g ty l) (hn : l.length = n) :
    (loadCellsFrom ⟨g, 0, none⟩ 0 n #[]).run P w = .ok (wcells l) w := by
  have := run_loadCells_list (P := P) w ⟨g, 0, none⟩ (wcells l).toList (fun j v hv => by
    rw [Addr.add_lit, cell_of_row w g _ _ _ _ h]
    simpa using hv)
  have e : (wcells l).toList.length = n := by rw [Array.length_toList, wcells_size, hn]
  rw [e] at this
  simpa [loadCells] using this
theorem run_store_row (P : Program) (w : World) (g : Nat) (ty t : TypeId) (l0 l : List Nat) (n : Nat) (h : Row w g t l0) (h0 : l0.length = n) (hn : l.length = n) (hi : (P.info? ty).map (·.size) = some n) :
    (storeCells ⟨g, 0, none⟩ (wcells l).toList 0).run P w = .ok () (w.setRow g (wcells l)) := by
  have := run_storeVar_row (P := P) w g t ty (wcells l0) (wcells l) h (by rw [hi, wcells_size, hn]) (by rw [wcells_size, wcells_size, h0, hn]) (wcells_one l)
  cases hq : P.info? ty with
  | none => simp [hq] at hi
  | some i =>
    have hs : (wcells l).size = i.size := by rw [wcells_size, hn]; simp [hq] at hi; omega
    simpa [storeVar, sizeOf, typeInfo, hq, Value.cells, hs] using this

set_option maxRecDepth 100000 in
set_option maxHeartbeats 800000 in
theorem sched_any (s : ByteArray) (w : World) (hs : s.size = 64) :
    Calls Tryd.prog 117 #[.string s] w fun e w' => e = .returned (.agg (wcells (sch 48 (be16 s.data.toList)))) ∧ Below w.heap.size w w' := by
  go_enter Tryd.func117, Tryd.ntmps117
  go_wp2
  rw [← wcells_zero]
  go_loopw [4] (fun i wr => ∃ k : Nat, k ≤ 64 ∧ i = .int .i64 k ∧ Row wr (w.heap.size + 1) 159 (wat s.data.toList k) ∧ Row wr w.heap.size 159 z64 ∧ Below w.heap.size w wr) (fun i _ => 64 - (intOf i).toNat)
  case atStart =>
    refine ⟨0, by omega, rfl, ?_, row_zero_old _ _ _, ((Below.refl _ _).alloc (Nat.le_refl _) _).alloc (by simp) _⟩
    rw [wat_zero, show List.replicate 64 0 = z64 from rfl]
    exact row_zero_new _ _ _
  case round =>
    obtain ⟨k, hk, rfl, hrow, hres, hbel⟩ := hrel
    by_cases hlt : k < 64
    · have hck := hrow.cell (k / 4) (by rw [wat_length]; omega)
      have hfk := hrow.free (k / 4)
      have hsk : k < s.size := by omega
      have hxl := wat_getD_lt s.data.toList k hlt
      have HS := hide (wat_step s.data.toList k hlt hsk)
      generalize hxe : (wat s.data.toList k).getD (k / 4) 0 = x at hck hxl HS
      clear hxe
      have fQ : (k : Int).tdiv 4 = ((k / 4 : Nat) : Int) := by rw [Int.tdiv_eq_ediv_of_nonneg (by omega)]; omega
      have fW : IntKind.i64.wrap ((k / 4 : Nat) : Int) = ((k / 4 : Nat) : Int) := i64w _ (by omega)
      go_wp2
      go_region
      go_wp2
      go_roundw
      case rel =>
        refine ⟨k + 1, by omega, by go_num, ?_, ?_, ?_⟩
        · rw [unhide HS, word_step x _ hxl]
          exact (hrow.set _ _).drew
        · exact (hres.other (by omega)).drew
        · exact (hbel.setCell (by simp) _).drew
      case measure => simp [intOf]; omega
    · have hke : k = 64 := by omega
      rw [hke, wat_end s.data.toList hs] at hrow
      clear hke
      have hb16 := be16_length s.data.toList
      have hlt16 := be16_lt s.data.toList
      generalize hbe : be16 s.data.toList = b16 at hrow hb16 hlt16
      have HBE := hide hbe
      have HLT := hide hlt16
      clear hbe hlt16
      go_wp2
      go_loopw [5] (fun i wq => ∃ t : Nat, 16 ≤ t ∧ t ≤ 64 ∧ i = .int .i64 t ∧ Row wq (w.heap.size + 1) 159 (sch (t - 16) b16 ++ List.replicate (64 - t) 0) ∧ Row wq w.heap.size 159 z64 ∧ Below w.heap.size w wq) (fun i _ => 64 - (intOf i).toNat)
      case atStart => exact ⟨16, by omega, by omega, rfl, hrow, hres, hbel⟩
      case round =>
        obtain ⟨t, ht0, ht1, rfl, hrow, hres, hbel⟩ := hrel
        by_cases hlt : t < 64
        · have hml : (sch (t - 16) b16).length = t := by rw [sch_length, hb16]; omega
          have hmx := sch_lt (t - 16) b16 (unhide HLT)
          have HSC := hide (show sch (t + 1 - 16) b16 = sch (t - 16) b16 ++ [ext (sch (t - 16) b16)] by rw [show t + 1 - 16 = (t - 16) + 1 by omega]; rfl)
          generalize sch (t - 16) b16 = m at *
          have get : ∀ j, j < t → (m ++ List.replicate (64 - t) 0).getD j 0 = m.getD j 0 := fun j hj => by
            rw [List.getD, List.getElem?_append_left (by omega)]; rfl
          have hRl : (m ++ List.replicate (64 - t) 0).length = 64 := by rw [List.length_append, hml, List.length_replicate]; omega
          have c15 := hrow.cell (t - 15) (by omega)
          have c2 := hrow.cell (t - 2) (by omega)
          have c7 := hrow.cell (t - 7) (by omega)
          have c16 := hrow.cell (t - 16) (by omega)
          have cT := hrow.cell t (by omega)
          have fT := hrow.free t
          rw [get _ (by omega)] at c15 c2 c7 c16
          have b15 := getD_lt m hmx (t - 15)
          have b2 := getD_lt m hmx (t - 2)
          have b7 := getD_lt m hmx (t - 7)
          have b16 := getD_lt m hmx (t - 16)
          have HE := hide (show ext m = (sg1 (m.getD (t - 2) 0) + m.getD (t - 7) 0 + sg0 (m.getD (t - 15) 0) + m.getD (t - 16) 0) % 4294967296 by unfold ext; rw [hml])
          generalize m.getD (t - 15) 0 = x15 at *
          generalize m.getD (t - 2) 0 = x2 at *
          generalize m.getD (t - 7) 0 = x7 at *
          generalize m.getD (t - 16) 0 = x16 at *
          clear get hmx
          have hs0 := sg0_bits x15 b15
          have hs1 := sg1_bits x2 b2
          have l0 := sg0_lt x15 b15
          have l1 := sg1_lt x2 b2
          go_wp2_with fail
          refine (turned_7 x15 _ b15).mono ?_
          rintro e w1 ⟨rfl, rfl⟩
          go_wp2_with fail
          refine (turned_18 x15 _ b15).mono ?_
          rintro e w1 ⟨rfl, rfl⟩
          go_wp2_with fail
          refine (turned_17 x2 _ b2).mono ?_
          rintro e w1 ⟨rfl, rfl⟩
          go_wp2_with fail
          refine (turned_19 x2 _ b2).mono ?_
          rintro e w1 ⟨rfl, rfl⟩
          go_wp2_with fail
          go_region
          go_wp2
          go_roundw
          case rel =>
            refine ⟨t + 1, by omega, by omega, by go_num, ?_, ?_, ?_⟩
            · rw [unhide HSC, ← set_mid m t _ hml hlt, unhide HE, show (((sg1 x2 : Nat) : Int) + x7 + (sg0 x15 : Nat) + x16) % 4294967296 = (((sg1 x2 + x7 + sg0 x15 + x16) % 4294967296 : Nat) : Int) by omega]
              exact (hrow.set _ _).drew
            · exact (hres.other (by omega)).drew
            · exact (hbel.setCell (by simp) _).drew
          case measure => simp [intOf]; omega
        · have hte : t = 64 := by omega
          rw [hte, show 64 - 16 = 48 from rfl, Nat.sub_self, List.replicate_zero, List.append_nil] at hrow
          clear hte
          have hml : (sch 48 b16).length = 64 := by rw [sch_length, hb16]
          have HF := hide (show sch 48 (be16 s.data.toList) = sch 48 b16 by rw [unhide HBE])
          generalize sch 48 b16 = m at hrow hml HF
          have hsm : (wcells m).size = 64 := by rw [wcells_size, hml]
          have HR := hide (setRow_heap wr w.heap.size _ (wcells m) _ _ hres)
          have HB := hide (below_row hbel (Nat.le_refl _) (wcells m))
          have HM := hide (show (Tryd.prog.info? 159).map (·.size) = some (wcells m).size by rw [hsm]; exact info_w64)
          have HR0 := hide hrow
          have HR1 := hide hres
          have HM2 := hide (show (wcells z64).size = (wcells m).size by rw [hsm, wcells_size, z64_length])
          have HM3 := hide (wcells_one m)
          have hd : decide ((t : Int) < 64) = false := by simp; omega
          clear hrow hres hbel hsm hml
          iterate 21 go_step
          refine wpList_load_row rfl 159 _ rfl (w.heap.size + 1) rfl 159 (wcells m) (0, 0) _ (unhide HR0) Tryd.underlying159 rfl (unhide HM) ?_
          refine wpList_store_row rfl 159 _ _ rfl w.heap.size (wcells m) (ev_other _ 76 2 _ (by decide)) (ev_same _ 76 _ (by exact (by decide : 76 < 77))) 159 _ (unhide HR1) (unhide HM) (unhide HM2) (unhide HM3) ?_
          iterate 4 go_step
          refine bodyPost_ret (v := .agg (wcells m)) ?_ rfl ⟨by rw [unhide HF], unhide HB⟩
          exact results_cell_row Tryd.results117 _ _ w.heap.size 159 _ (0, 0) _ ((tmp_other _ 76 2 _ _ (by decide)).trans rfl) (unhide HR) Tryd.underlying159 rfl (unhide HM)
end Go.Proofs.YtanfolfopalbeaaDoor
