/- package carry: the head of a disk, its body, what is read from it: the contracts. -/
import Derived.Test.YtanfolfopalbeaaDoorDiskMath
import Derived.Test.YtanfolfopalbeaaDoorCopyBig
namespace Go.Proofs.YtanfolfopalbeaaDoor
open Go.RowKit

theorem run_copy_str {P : Program} (w : World) (dT sT ty elem : TypeId) (g o dLen dCap : Nat) (s : ByteArray) (cur : Array Value) (t : TypeId) (n : Nat) (hn : Nat.min s.size dLen = n)
    (hu : P.underlying dT = some (.slice elem)) (hs : (P.info? elem).map (·.size) = some 1)
    (hg : w.heap[g]? = some (.cells cur t (0, 0))) (hfit : o + n ≤ cur.size) :
    (Builtin.copy_ #[dT, sT] ty #[.slice (some ⟨g, o, none⟩) dLen dCap, .string s]).run P w =
      .ok (goInt n) (w.setRow g (cur.toList.take o ++ bcells (s.data.toList.take n) ++ cur.toList.drop (o + n)).toArray) := by
  have hle : n ≤ s.size := by rw [← hn]; exact Nat.min_le_left _ _
  have hbl : (bcells (s.data.toList.take n)).length = n := by
    have : s.data.toList.length = s.size := rfl
    rw [bcells_length, List.length_take]
    omega
  have hst := run_storeCells_at P g o t (bcells (s.data.toList.take n)) 0 cur w hg (by rw [hbl]; simpa using hfit) (bcells_one' _)
  rw [hbl] at hst
  simp only [Nat.add_zero] at hst
  have he : bcells (s.data.toList.take n) = (s.data.toList.map fun b => Value.int .u8 (b.toNat : Int)).take n := by
    unfold bcells
    rw [List.map_take]
  rw [he] at hst ⊢
  cases hq : P.info? elem with
  | none => simp [hq] at hs
  | some i => simp [Builtin.copy_, run_underlying hu, Builtin.lenOf, Builtin.firstCells, sizeOf, typeInfo, hq, hn, hst]
/-- 'copy' out of a text. -/
theorem wpList_copy_str {P : Program} {w : World} {ops : Array Oper} {rest : List Oper} {o : Oper} {a : Act} {Q : Exit → Act → World → Prop} (hgd : o.guard = none) (d s : Operand) (dT sT : TypeId)
    (ho : o.op = .call { callee := .builtin .copy, args := #[d, s], argTypes := #[dT, sT] }) (elem : TypeId) (hu : P.underlying dT = some (.slice elem)) (hsz : (P.info? elem).map (·.size) = some 1)
    (g off dLen dCap : Nat) (x : ByteArray) (hd : a.eval d = .slice (some ⟨g, off, none⟩) dLen dCap) (hs : a.eval s = .string x) (n : Nat) (hn : Nat.min x.size dLen = n)
    (cur : Array Value) (t : TypeId) (hg : w.heap[g]? = some (.cells cur t (0, 0))) (hfit : off + n ≤ cur.size) (B : Nat) (w0 : World) (hb : Below B w0 w) (hBg : B ≤ g)
    (h : ∀ w', Hid (w'.heap[g]? = some (.cells (cur.toList.take off ++ bcells (x.data.toList.take n) ++ cur.toList.drop (off + n)).toArray t (0, 0))) → Hid (∀ k, k ≠ g → w'.heap[k]? = w.heap[k]?) → Below B w0 w' → wpList P ops Q rest (a.put o.dst (goInt n)) w') :
    wpList P ops Q (o :: rest) a w := by
  refine wpList_plain hgd fun K hK => ?_
  have hrun := run_copy_str (P := P) w dT sT o.type elem g off dLen dCap x cur t n hn hu hsz hg hfit
  unfold Oper.wp
  simp only [execOp, ho, resolve, invoke, builtin]
  simp [hd, hs, hrun, Result.andThen]
  refine hK _ _ (h _ ?_ (fun k hk => setRow_other w g k _ hk) (below_row hb hBg _))
  show _ = _
  rw [← List.append_assoc]
  exact setRow_heap w g _ _ t _ hg
theorem info_u8s : (Tryd.prog.info? 5).map (·.size) = some 1 := by kernel_rfl
theorem info_sc : (Tryd.prog.info? 126).map (·.size) = some 32 := by kernel_rfl
theorem v_sc (d : List UInt8) (h : d.length = 32) : (Tryd.prog.info? 126).map (·.size) = some (bcells d).toArray.size := by rw [bcells_size, h]; exact info_sc

/-- A sector with its first byte alone. -/
def hdz (c : Nat) : List UInt8 := UInt8.ofNat c :: List.replicate 31 0
theorem hdz_cells (c : Nat) (hc : c < 256) : (bcells (hdz c)).toArray = #[.int .u8 (c : Int), .int .u8 0, .int .u8 0, .int .u8 0, .int .u8 0, .int .u8 0, .int .u8 0, .int .u8 0, .int .u8 0, .int .u8 0, .int .u8 0, .int .u8 0, .int .u8 0, .int .u8 0, .int .u8 0, .int .u8 0, .int .u8 0, .int .u8 0, .int .u8 0, .int .u8 0, .int .u8 0, .int .u8 0, .int .u8 0, .int .u8 0, .int .u8 0, .int .u8 0, .int .u8 0, .int .u8 0, .int .u8 0, .int .u8 0, .int .u8 0, .int .u8 0] := by
  have : (UInt8.ofNat c).toNat = c := by rw [UInt8.toNat_ofNat']; omega
  show (Value.int .u8 ((UInt8.ofNat c).toNat : Int) :: _).toArray = _
  rw [this]
  rfl
theorem hd_made (c : Nat) : (bcells (hdz c)).take 1 ++ (bcells [102, 101, 114, 114, 121] ++ (bcells (hdz c)).drop 6) = bcells (hd c) := by
  unfold hdz hd bcells
  rfl

set_option maxRecDepth 100000 in
set_option maxHeartbeats 400000 in
theorem headK_any (c : Nat) (w : World) (hc : c < 256) :
    Calls Tryd.prog 110 #[.int .i64 c] w fun e w' => e = .returned (.agg (bcells (hd c)).toArray) ∧ Below w.heap.size w w' := by
  have HC := hide (hdz_cells c hc)
  go_enter Tryd.func110, Tryd.ntmps110
  go_wp2_with ((with_reducible refine at_copyD ?_); rw [← z32_cells, ← unhide HC]; go_must (refine wpList_copy_str rfl (.tmp 7) _ 45 9 rfl 5 Tryd.underlying45 info_u8s (w.heap.size + 1) 1 31 31 ⟨#[102, 101, 114, 114, 121]⟩ rfl rfl 5 rfl (bcells (hdz c)).toArray 126 (two_new w _ _).2.2 (by rw [bcells_size]; show 1 + 5 ≤ 32; decide) w.heap.size w (two_new w _ _).1 (Nat.le_succ _) ?_))
  intro w1 HG hK hb1
  have H1 := hide (show w1.heap[w.heap.size + 1]? = some (.cells (bcells (hd c)).toArray 126 (0, 0)) by rw [unhide HG, hd_made])
  have H0 := hide (show w1.heap[w.heap.size]? = some (.cells (bcells z32).toArray 126 (0, 0)) by rw [unhide hK _ (by omega)]; exact (two_new w _ _).2.1)
  have V := hide (v_sc (hd c) (hd_length c))
  have Z := hide (v_z32 (hd c) (hd_length c))
  clear HG hK
  go_wp2_with (first | ((with_reducible refine at_load ?_); go_must (refine wpList_load_row rfl 126 _ rfl (w.heap.size + 1) (by rfl) 126 (bcells (hd c)).toArray (0, 0) _ (unhide H1) Tryd.underlying126 rfl (unhide V) ?_)) | ((with_reducible refine at_store ?_); go_must (refine wpList_store_row rfl 126 _ _ rfl w.heap.size (bcells (hd c)).toArray rfl rfl 126 _ (unhide H0) (unhide V) (unhide Z) (bcells_one _) ?_)))
  refine bodyPost_ret (v := .agg (bcells (hd c)).toArray) ?_ rfl ⟨rfl, below_row hb1 (Nat.le_refl _) _⟩
  exact results_cell_row Tryd.results110 _ _ w.heap.size 126 _ (0, 0) _ rfl (setRow_heap _ _ _ _ _ _ (unhide H0)) Tryd.underlying126 rfl (unhide V)
end Go.Proofs.YtanfolfopalbeaaDoor
