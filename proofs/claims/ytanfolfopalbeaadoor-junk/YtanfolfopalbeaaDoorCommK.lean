/- package carry: the head of a disk, its body, what is read from it: the contracts. package carry: the body of a disk, what is read from it and written to it: the contracts. package carry: Entries, Status, Format: the contracts. package carry: Format, plan: the contracts. package carry: the plan: the contract. package carry: Step: the contract. -/
import Derived.Test.YtanfolfopalbeaaDoorDiskMath
import Derived.Test.YtanfolfopalbeaaDoorCopyBig
import Derived.Test.YtanfolfopalbeaaDoorDigSame
import Derived.Test.YtanfolfopalbeaaDoorTreeRoot2
import Derived.Deep.RegionHeld3
import Derived.BigQuiet
import Derived.Deep.QuietTactic
import Derived.Deep.RegionLaw
import Derived.Test.YtanfolfopalbeaaDoorRead
namespace Go.Proofs.YtanfolfopalbeaaDoor
open Go.RowKit

theorem run_copy_str {P : Program} (w : World) (dT sT ty elem : TypeId) (g o dLen dCap : Nat) (s : ByteArray) (cur : Array Value) (t : TypeId) (n : Nat) (hn : Nat.min s.size dLen = n)
    (hu : P.underlying dT = some (.slice elem)) (hs : (P.info? elem).map (·.size) = some 1)
    (hg : w.heap[g]? = some (.cells cur t (0, 0))) (hfit : o + n ≤ cur.size) :
    (Builtin.copy_ #[dT, sT] ty #[.slice (some ⟨g, o, none⟩) dLen dCap, .string s]).run P w =
      .ok (goInt n) (w.setRow g (cur.toList.take o ++ bcells (s.data.toList.take n) ++ cur.toList.drop (o + n)).toArray) := by
  have hle : n ≤ s.size := by rw [← hn]; exact Nat.min_le_left _ _
  have hbl : (bcells (s.data.toList.take n)).length = n := by
    have : s.data.toList.length = s.size := rfl
    rw [bcells_length, List.length_take]
    omega
  have hst := run_storeCells_at P g o t (bcells (s.data.toList.take n)) 0 cur w hg (by rw [hbl]; simpa using hfit) (bcells_one' _)
  rw [hbl] at hst
  simp only [Nat.add_zero] at hst
  have he : bcells (s.data.toList.take n) = (s.data.toList.map fun b => Value.int .u8 (b.toNat : Int)).take n := by
    unfold bcells
    rw [List.map_take]
  rw [he] at hst ⊢
  cases hq : P.info? elem with
  | none => simp [hq] at hs
  | some i => simp [Builtin.copy_, run_underlying hu, Builtin.lenOf, Builtin.firstCells, sizeOf, typeInfo, hq, hn, hst]
/-- 'copy' out of a text. -/
theorem wpList_copy_str {P : Program} {w : World} {ops : Array Oper} {rest : List Oper} {o : Oper} {a : Act} {Q : Exit → Act → World → Prop} (hgd : o.guard = none) (d s : Operand) (dT sT : TypeId)
    (ho : o.op = .call { callee := .builtin .copy, args := #[d, s], argTypes := #[dT, sT] }) (elem : TypeId) (hu : P.underlying dT = some (.slice elem)) (hsz : (P.info? elem).map (·.size) = some 1)
    (g off dLen dCap : Nat) (x : ByteArray) (hd : a.eval d = .slice (some ⟨g, off, none⟩) dLen dCap) (hs : a.eval s = .string x) (n : Nat) (hn : Nat.min x.size dLen = n)
    (cur : Array Value) (t : TypeId) (hg : w.heap[g]? = some (.cells cur t (0, 0))) (hfit : off + n ≤ cur.size) (B : Nat) (w0 : World) (hb : Below B w0 w) (hBg : B ≤ g)
    (h : ∀ w', Hid (w'.heap[g]? = some (.cells (cur.toList.take off ++ bcells (x.data.toList.take n) ++ cur.toList.drop (off + n)).toArray t (0, 0))) → Hid (∀ k, k ≠ g → w'.heap[k]? = w.heap[k]?) → Below B w0 w' → wpList P ops Q rest (a.put o.dst (goInt n)) w') :
    wpList P ops Q (o :: rest) a w := by
  refine wpList_plain hgd fun K hK => ?_
  have hrun := run_copy_str (P := P) w dT sT o.type elem g off dLen dCap x cur t n hn hu hsz hg hfit
  unfold Oper.wp
  simp only [execOp, ho, resolve, invoke, builtin]
  simp [hd, hs, hrun, Result.andThen]
  refine hK _ _ (h _ ?_ (fun k hk => setRow_other w g k _ hk) (below_row hb hBg _))
  show _ = _
  rw [← List.append_assoc]
  exact setRow_heap w g _ _ t _ hg
theorem info_u8s : (Tryd.prog.info? 5).map (·.size) = some 1 := by kernel_rfl
theorem info_sc : (Tryd.prog.info? 126).map (·.size) = some 32 := by kernel_rfl
theorem v_sc (d : List UInt8) (h : d.length = 32) : (Tryd.prog.info? 126).map (·.size) = some (bcells d).toArray.size := by rw [bcells_size, h]; exact info_sc

/-- A sector with its first byte alone. -/
def hdz (c : Nat) : List UInt8 := UInt8.ofNat c :: List.replicate 31 0
theorem hdz_cells (c : Nat) (hc : c < 256) : (bcells (hdz c)).toArray = #[.int .u8 (c : Int), .int .u8 0, .int .u8 0, .int .u8 0, .int .u8 0, .int .u8 0, .int .u8 0, .int .u8 0, .int .u8 0, .int .u8 0, .int .u8 0, .int .u8 0, .int .u8 0, .int .u8 0, .int .u8 0, .int .u8 0, .int .u8 0, .int .u8 0, .int .u8 0, .int .u8 0, .int .u8 0, .int .u8 0, .int .u8 0, .int .u8 0, .int .u8 0, .int .u8 0, .int .u8 0, .int .u8 0, .int .u8 0, .int .u8 0, .int .u8 0, .int .u8 0] := by
  have : (UInt8.ofNat c).toNat = c := by rw [UInt8.toNat_ofNat']; omega
  show (Value.int .u8 ((UInt8.ofNat c).toNat : Int) :: _).toArray = _
  rw [this]
  rfl
theorem hd_made (c : Nat) : (bcells (hdz c)).take 1 ++ (bcells [102, 101, 114, 114, 121] ++ (bcells (hdz c)).drop 6) = bcells (hd c) := by
  unfold hdz hd bcells
  rfl

set_option maxRecDepth 100000 in
set_option maxHeartbeats 400000 in
theorem headK_any (c : Nat) (w : World) (hc : c < 256) :
    Calls Tryd.prog 110 #[.int .i64 c] w fun e w' => e = .returned (.agg (bcells (hd c)).toArray) ∧ Below w.heap.size w w' := by
  have HC := hide (hdz_cells c hc)
  go_enter Tryd.func110, Tryd.ntmps110
  go_wp2_with ((with_reducible refine at_copyD ?_); rw [← z32_cells, ← unhide HC]; go_must (refine wpList_copy_str rfl (.tmp 7) _ 45 9 rfl 5 Tryd.underlying45 info_u8s (w.heap.size + 1) 1 31 31 ⟨#[102, 101, 114, 114, 121]⟩ rfl rfl 5 rfl (bcells (hdz c)).toArray 126 (two_new w _ _).2.2 (by rw [bcells_size]; show 1 + 5 ≤ 32; decide) w.heap.size w (two_new w _ _).1 (Nat.le_succ _) ?_))
  intro w1 HG hK hb1
  have H1 := hide (show w1.heap[w.heap.size + 1]? = some (.cells (bcells (hd c)).toArray 126 (0, 0)) by rw [unhide HG, hd_made])
  have H0 := hide (show w1.heap[w.heap.size]? = some (.cells (bcells z32).toArray 126 (0, 0)) by rw [unhide hK _ (by omega)]; exact (two_new w _ _).2.1)
  have V := hide (v_sc (hd c) (hd_length c))
  have Z := hide (v_z32 (hd c) (hd_length c))
  clear HG hK
  go_wp2_with (first | ((with_reducible refine at_load ?_); go_must (refine wpList_load_row rfl 126 _ rfl (w.heap.size + 1) (by rfl) 126 (bcells (hd c)).toArray (0, 0) _ (unhide H1) Tryd.underlying126 rfl (unhide V) ?_)) | ((with_reducible refine at_store ?_); go_must (refine wpList_store_row rfl 126 _ _ rfl w.heap.size (bcells (hd c)).toArray rfl rfl 126 _ (unhide H0) (unhide V) (unhide Z) (bcells_one _) ?_)))
  refine bodyPost_ret (v := .agg (bcells (hd c)).toArray) ?_ rfl ⟨rfl, below_row hb1 (Nat.le_refl _) _⟩
  exact results_cell_row Tryd.results110 _ _ w.heap.size 126 _ (0, 0) _ rfl (setRow_heap _ _ _ _ _ _ (unhide H0)) Tryd.underlying126 rfl (unhide V)
end Go.Proofs.YtanfolfopalbeaaDoor
namespace Go.Proofs.YtanfolfopalbeaaDoor
open Go.RowKit

theorem v_scm (d : List UInt8) (h : d.length = 32) : (Tryd.prog.info? 126).map (·.size) = some (bcells d).length := by rw [show (bcells d).length = 32 by simp [bcells, h]]; exact info_sc
/-- The bytes of the sectors from the second one up to k. -/
def upto (ds : List (List UInt8)) (k : Nat) : List UInt8 := ((ds.take k).drop 1).flatten
theorem upto_one (ds : List (List UInt8)) : upto ds 1 = [] := by
  unfold upto
  cases ds <;> rfl
theorem upto_succ (ds : List (List UInt8)) (k : Nat) (h1 : 1 ≤ k) (hk : k < ds.length) : upto ds (k + 1) = upto ds k ++ ds.getD k [] := by
  unfold upto
  rw [List.take_succ_eq_append_getElem hk, List.drop_append_of_le_length (by rw [List.length_take]; omega), List.flatten_append]
  simp [List.getD, List.getElem?_eq_getElem hk]
theorem upto_length (ds : List (List UInt8)) (h : ∀ d ∈ ds, d.length = 32) (k : Nat) (hk : k ≤ ds.length) : (upto ds k).length = 32 * (k - 1) := by
  unfold upto
  rw [flat_length _ (fun s hs => h s (List.mem_of_mem_take (List.mem_of_mem_drop hs))), List.length_drop, List.length_take]
  congr 1
  omega
theorem upto_all (ds : List (List UInt8)) : upto ds ds.length = (ds.drop 1).flatten := by unfold upto; rw [List.take_of_length_le (Nat.le_refl _)]
theorem news_of_heap {w : World} {g : Nat} {t : TypeId} {d : List UInt8} (h : w.heap[g]? = some (.cells (bcells d).toArray t (0, 0))) : ∀ j u, (bcells d)[j]? = some u → w.cell? ((⟨g, 0, none⟩ : Addr).add j) = some u := by
  intro j u hu
  rw [add_none, Nat.zero_add, cell_of_row w g j _ _ _ h]
  simpa using hu
theorem ret_str {l : List UInt8} {x : List UInt8} (h : l = x) : Ending.returned (.string ⟨l.toArray⟩) = Ending.returned (.string (mk x)) := by rw [h]; rfl

set_option maxRecDepth 100000 in
set_option maxHeartbeats 800000 in
theorem body_any (v : Value) (ds : List (List UInt8)) (w : World) (hD : Digs w v ds) (h1 : 1 ≤ ds.length) (h3 : ds.length ≤ 300) :
    Calls Tryd.prog 111 #[v] w fun e w' => e = .returned (.string (mk (ds.drop 1).flatten)) ∧ Below w.heap.size w w' := by
  obtain ⟨i0, hi, hz0, hz1, hz2⟩ := info_parts info_u8
  obtain ⟨b, off, cap, rfl, hcap, _⟩ := digs_shape hD (by omega)
  have HD := hide hD
  clear hD
  go_enter Tryd.func111, Tryd.ntmps111
  go_wp2
  go_loopw [3, 4] (fun tv i wr => ∃ k : Nat, 1 ≤ k ∧ k ≤ ds.length ∧ i = .int .i64 k ∧ wr.ownsRow w.heap.size 5 1 tv (upto ds k).length (bcells (upto ds k)) ∧ Below w.heap.size w wr) (fun _ i _ => ds.length - (intOf i).toNat)
  case atStart => exact ⟨1, Nat.le_refl _, h1, rfl, by rw [upto_one]; exact World.ownsRow_nil _ _ _ _, Below.refl _ _⟩
  case round =>
    obtain ⟨k, hk1, hk, rfl, hown, hbel⟩ := hrel
    have hszr := hbel.size
    by_cases hlt : k < ds.length
    · have hr := rangeAt_below (digs_at (unhide HD) k hlt) hbel (Nat.le_refl _)
      have hdl := digs_len (unhide HD) k hlt
      have HU := hide (upto_succ ds k hk1 hlt)
      have hul := upto_length ds (unhide HD).1 k (by omega)
      generalize ds.getD k [] = d at hr hdl HU
      generalize upto ds k = u at hown HU hul
      have HR := hide hr
      have VM := hide (v_scm d hdl)
      have VS := hide (v_sc d hdl)
      have VZ := hide (v_z32 d hdl)
      have hd1 : decide ((k : Int) < (ds.length : Int)) = true := by simp; omega
      have hka : (0 : Int) ≤ (k : Int) := by omega
      have hkb : (k : Int) < (ds.length : Int) := by omega
      clear hr
      go_wp2_with (first | ((with_reducible refine at_load ?_); go_must (refine wpList_load_mid rfl 126 _ rfl b (off + k * 32) (by rfl) (bcells d) _ (unhide HR) Tryd.underlying126 rfl (unhide VM) ?_)) | ((with_reducible refine at_store ?_); go_must (refine wpList_store_row rfl 126 _ _ rfl wr.heap.size (bcells d).toArray rfl rfl 126 _ (heap_alloc_new wr _) (unhide VS) (unhide VZ) (bcells_one d) ?_)) | (at_builtin; rw [← z32_cells]; go_must (refine wpList_append_own _ rfl (.tmp 16) (.tmp 17) 45 rfl w.heap.size 5 i0 (.int .u8 0) 1 1 Tryd.underlying45 hi hz0 hz1 hz2 rfl (by decide) _ _ _ rfl (own_keep hown (below_put wr _ _ _)) ⟨wr.heap.size, 0, none⟩ 32 32 (bcells d) rfl ?c0 (news_of_heap (heap_put_new wr _ _ _)) (bcells_one' d) ?c3 ?c4 ?c5 ?_)))
      case c0 => rw [bcells_length]; omega
      case c3 => unfold maxLen; omega
      case c4 => omega
      case c5 => simp [World.setRow]; omega
      intro v3 w3 hown3 hgrow3 _
      have hbel3 : Below w.heap.size w w3 := (below_row (hbel.alloc hszr _) hszr _).grown hgrow3 (by simp [World.setRow]; omega) (own_row_ge hown)
      clear hgrow3 hown hbel
      go_wp2
      go_roundw
      case rel => exact ⟨k + 1, by omega, by omega, by go_num, by rw [unhide HU, bcells_append, List.length_append, hdl, hul]; exact hown3, hbel3⟩
      case measure => simp [intOf]; omega
    · have hke : k = ds.length := by omega
      subst hke
      rw [upto_all] at hown
      generalize hoe : (ds.drop 1).flatten = o at hown ⊢
      have HF := hide hoe
      clear hoe
      have hd1 : decide ((ds.length : Int) < (ds.length : Int)) = false := by simp
      rcases hown with ⟨hl, ⟨rfl, h0⟩ | ⟨g, cap2, cur, rfl, hg1, hg2, hg3, hg4, hg5, hg6⟩⟩
      · have ho : o = [] := List.eq_nil_of_length_eq_zero h0
        subst ho
        have hcv := fun (w : World) => run_convert_bytes_nil (P := Tryd.prog) w 45 5 Tryd.underlying45 Tryd.underlying5 0 0 9 Tryd.underlying9
        go_wp2
        go_ret
        exact ⟨by rw [unhide HF]; rfl, hbel⟩
      · have hcv := run_convert_bytes_back (P := Tryd.prog) wr 45 9 5 ⟨g, 0, none⟩ cap2 o Tryd.underlying45 Tryd.underlying5 Tryd.underlying9 (by
          intro j hj
          have hc1 : (cur.toList.take (o.length * 1))[j]? = (bcells o)[j]? := by rw [hg6]
          rw [List.getElem?_take_of_lt (by omega)] at hc1
          rw [Addr.add_lit]
          unfold World.cell?
          rw [hg2]
          simpa [bcells, List.getElem?_eq_getElem hj] using hc1)
        clear hl hg1 hg2 hg3 hg4 hg5 hg6
        go_wp2
        go_ret
        exact ⟨by rw [unhide HF]; rfl, hbel⟩

def lenQ : Value → Nat
  | .slice _ m _ => m
  | _ => 0
theorem lenQ_own {w : World} {B : Nat} {e : TypeId} {s : Nat} {v : Value} {n : Nat} {xs : List Value} (h : w.ownsRow B e s v n xs) : lenQ v = n := by
  obtain ⟨ao, cap, rfl⟩ := own_shape h
  rfl
/-- What readBody answers. -/
def rbR (n : Nat) (t : List UInt8) : List (List UInt8) × Nat := match rb n t with | some es => (es, 0) | none => ([], 6)
/-- What is left to be read when some entries have been. -/
def RbAt (n : Nat) (L : List UInt8) (acc : List (List UInt8)) (t : List UInt8) : Prop := acc.length ≤ n ∧ rb n L = (rb (n - acc.length) t).map (acc ++ ·)
theorem RbAt.start (n : Nat) (L : List UInt8) : RbAt n L [] L := by
  refine ⟨Nat.zero_le _, ?_⟩
  show rb n L = (rb n L).map ([] ++ ·)
  cases rb n L <;> rfl
theorem RbAt.done {n : Nat} {L t : List UInt8} {acc : List (List UInt8)} (h : RbAt n L acc t) (hn : ¬ acc.length < n) : rbR n L = (acc, 0) := by
  obtain ⟨h1, h2⟩ := h
  have : n - acc.length = 0 := by omega
  rw [this, rb_zero] at h2
  unfold rbR
  rw [h2]
  simp
theorem RbAt.bad {n : Nat} {L t : List UInt8} {acc : List (List UInt8)} (h : RbAt n L acc t) (hn : acc.length < n) (hb : t = [] ∨ ∃ c r, t = c :: r ∧ (20 < c.toNat ∨ r.length < c.toNat)) : rbR n L = ([], 6) := by
  obtain ⟨h1, h2⟩ := h
  obtain ⟨m, hm⟩ : ∃ m, n - acc.length = m + 1 := ⟨n - acc.length - 1, by omega⟩
  have : rb n L = none := by
    rw [h2, hm]
    rcases hb with rfl | ⟨c, r, rfl, hb⟩
    · rfl
    · rw [rb_bad m c r hb]
      rfl
  unfold rbR
  rw [this]
theorem RbAt.next {n : Nat} {L : List UInt8} {acc : List (List UInt8)} {c : UInt8} {r : List UInt8} (h : RbAt n L acc (c :: r)) (hn : acc.length < n) (hb : ¬ (20 < c.toNat ∨ r.length < c.toNat)) : RbAt n L (acc ++ [r.take c.toNat]) (r.drop c.toNat) := by
  obtain ⟨h1, h2⟩ := h
  refine ⟨by simp; omega, ?_⟩
  obtain ⟨m, hm⟩ : ∃ m, n - acc.length = m + 1 := ⟨n - acc.length - 1, by omega⟩
  rw [h2, hm, rb_good m c r hb, show n - (acc ++ [r.take c.toNat]).length = m by simp; omega]
  cases rb m (r.drop c.toNat) <;> simp
theorem getElem0 (x : ByteArray) (h : 0 < x.size) : ∃ c r, x.data.toList = c :: r ∧ x[0] = c ∧ r.length + 1 = x.size := by
  obtain ⟨r, h1, h2⟩ := ba_getElem x h
  exact ⟨_, r, h1, rfl, h2⟩

set_option maxRecDepth 100000 in
set_option maxHeartbeats 1600000 in
theorem readBody_any (s : ByteArray) (n : Nat) (w : World) (hs : s.size ≤ 10000) (hn : n ≤ 100) :
    Calls Tryd.prog 112 #[.string s, .int .i64 n] w fun e w' => ∃ v, e = .returned (.tuple #[v, .int .i64 (rbR n s.data.toList).2]) ∧
      w'.ownsRow w.heap.size 9 1 v (rbR n s.data.toList).1.length (((rbR n s.data.toList).1.map mk).map Value.string) ∧ Below w.heap.size w w' := by
  obtain ⟨i0, hi, hz0, hz1, hz2⟩ := info_parts info_str
  go_enter Tryd.func112, Tryd.ntmps112
  go_wp2
  go_loopw [0, 6] (fun t v wr => ∃ (acc : List (List UInt8)) (x : ByteArray), x.size ≤ 10000 ∧ t = .string x ∧ RbAt n s.data.toList acc x.data.toList ∧ wr.ownsRow w.heap.size 9 1 v acc.length ((acc.map mk).map Value.string) ∧ Below w.heap.size w wr) (fun _ v _ => n - lenQ v)
  case atStart => exact ⟨[], s, hs, rfl, RbAt.start _ _, World.ownsRow_nil _ _ _ _, Below.refl _ _⟩
  case round =>
    obtain ⟨acc, x, hx, rfl, hR, hown, hbel⟩ := hrel
    have hszr := hbel.size
    have hal := hR.1
    obtain ⟨ao, cap, rfl⟩ := own_shape hown
    have HR := hide hR
    clear hR
    by_cases hlt : acc.length < n
    · have hd1 : decide ((acc.length : Int) < (n : Int)) = true := by simp; omega
      by_cases hx0 : x.size = 0
      · have hb : x.data.toList = [] := List.eq_nil_of_length_eq_zero hx0
        have HB := hide ((unhide HR).bad hlt (.inl hb))
        clear hb
        have hd2 : ((x.size : Int) == 0) = true := by simp [hx0]
        go_wp2
        go_ret2
        rw [unhide HB]
        exact ⟨_, rfl, World.ownsRow_nil _ _ _ _, hbel⟩
      · obtain ⟨c, r, hcr, hc0, hrl⟩ := getElem0 x (by omega)
        have hd2 : ((x.size : Int) == 0) = false := by rw [beq_eq_false_iff_ne]; omega
        have hcl : c.toNat < 256 := c.toNat_lt
        have HX := hide hcr
        by_cases hbad : 20 < c.toNat ∨ r.length < c.toNat
        · have HB := hide ((unhide HR).bad hlt (.inr ⟨c, r, hcr, hbad⟩))
          rw [← hc0] at hbad hcl
          clear hcr hc0
          rcases hbad with hbad | hbad
          · have hd3 : decide ((20 : Int) < (x[0].toNat : Int)) = true := by simp; omega
            go_wp2
            go_ret2
            rw [unhide HB]
            exact ⟨_, rfl, World.ownsRow_nil _ _ _ _, hbel⟩
          · by_cases h20 : 20 < x[0].toNat
            · have hd3 : decide ((20 : Int) < (x[0].toNat : Int)) = true := by simp; omega
              go_wp2
              go_ret2
              rw [unhide HB]
              exact ⟨_, rfl, World.ownsRow_nil _ _ _ _, hbel⟩
            · have hd3 : decide ((20 : Int) < (x[0].toNat : Int)) = false := by simp; omega
              have hd4 : decide ((x.size : Int) ≤ (x[0].toNat : Int)) = true := by simp; omega
              go_wp2
              go_ret2
              rw [unhide HB]
              exact ⟨_, rfl, World.ownsRow_nil _ _ _ _, hbel⟩
        · rw [hcr] at HR
          have HN := hide ((unhide HR).next hlt hbad)
          have he1 : (x.extract 1 (1 + c.toNat)).data.toList = r.take c.toNat := by
            rw [extract_data, hcr, show 1 + c.toNat - 1 = c.toNat by omega]
            rfl
          have he2 : (x.extract (1 + c.toNat) x.size).data.toList = r.drop c.toNat := by
            rw [extract_mk_drop, hcr, Nat.add_comm, List.drop_succ_cons]
          rw [← he1, ← he2] at HN
          clear hcr HX HR he1 he2
          generalize hm : c.toNat = m at *
          have hxm : x[0].toNat = m := by rw [hc0, hm]
          have hd3 : decide ((20 : Int) < (m : Int)) = false := by simp; omega
          have hd4 : decide ((x.size : Int) ≤ (m : Int)) = false := by simp; omega
          have fE : IntKind.i64.wrap (1 + (m : Int)) = 1 + (m : Int) := i64w _ (by omega)
          have f1 : (1 : Int) ≤ 1 + (m : Int) := by omega
          have f2 : 1 + (m : Int) ≤ (x.size : Int) := by omega
          have f3 : (1 + (m : Int)).toNat = 1 + m := by omega
          clear hc0
          go_wp2_with (at_builtin; go_must (refine wpList_append_own _ rfl (.tmp 26) (.tmp 31) 34 rfl w.heap.size 9 i0 (.string ⟨#[]⟩) 1 16 Tryd.underlying34 hi hz0 hz1 hz2 rfl (by decide) _ _ _ rfl (hown.alloc _) ⟨wr.heap.size, 0, none⟩ 1 1 [.string (x.extract 1 (1 + m))] rfl rfl ?c1 ?c2 ?c3 ?c4 ?c5 ?_))
          case c1 => exact cell_one_new _ _ _
          case c2 => intro u hu; simp at hu; subst hu; rfl
          case c3 => unfold maxLen; omega
          case c4 => omega
          case c5 => simp; omega
          intro v3 w3 hown3 hgrow3 _
          have hbel3 : Below w.heap.size w w3 := (hbel.alloc hszr _).grown hgrow3 (by simp; omega) (own_row_ge hown)
          have hl3 := lenQ_own hown3
          clear hgrow3 hown hbel
          go_wp2
          go_roundw
          case rel => exact ⟨acc ++ [(x.extract 1 (1 + m)).data.toList], x.extract (1 + m) x.size, by simp; omega, rfl, unhide HN, by rw [List.length_append, List.map_append, List.map_append, List.map_map]; exact hown3, hbel3⟩
          case measure =>
            show n - lenQ v3 < n - acc.length
            omega
    · have HB := hide ((unhide HR).done hlt)
      have hd1 : decide ((acc.length : Int) < (n : Int)) = false := by simp; omega
      go_wp2
      go_ret2
      rw [unhide HB]
      exact ⟨_, rfl, hown, hbel⟩

theorem wb_take_succ (ss : List ByteArray) (k : Nat) (hk : k < ss.length) : wb (bs (ss.take (k + 1))) = wb (bs (ss.take k)) ++ (UInt8.ofNat (ss.getD k ByteArray.empty).size :: (ss.getD k ByteArray.empty).data.toList) := by
  rw [bs_take_succ ss k hk, wb_snoc]
  rfl
theorem bs_small' (xs : List ByteArray) (hz : ∀ s ∈ xs, s.size ≤ 20) : ∀ e ∈ bs xs, e.length ≤ 20 := by
  intro e he
  simp only [bs, List.mem_map] at he
  obtain ⟨s, hs, rfl⟩ := he
  exact hz s hs

set_option maxRecDepth 100000 in
set_option maxHeartbeats 400000 in
theorem writeBody_empty (ao : Option Addr) (cap : Nat) (w : World) :
    Calls Tryd.prog 113 #[.slice ao 0 cap] w fun e w' => e = .returned (.string (mk (wb (bs [])))) ∧ Below w.heap.size w w' := by
  have hcv := fun (w : World) => run_convert_bytes_nil (P := Tryd.prog) w 45 5 Tryd.underlying45 Tryd.underlying5 0 0 9 Tryd.underlying9
  go_enter Tryd.func113, Tryd.ntmps113
  go_wp2
  refine wp_loop_rounds 1 ?_
  rw [rounds_succ]
  go_wp2
  go_ret
  exact ⟨rfl, Below.refl _ _⟩

set_option maxRecDepth 100000 in
set_option maxHeartbeats 800000 in
theorem writeBody_some (b off cap : Nat) (ss : List ByteArray) (w : World) (hm : ss.length ≤ 100) (hz : ∀ s ∈ ss, s.size ≤ 20)
    (hc : ∀ i, i < ss.length → w.cell? ⟨b, off + i, none⟩ = some (.string (ss.getD i ByteArray.empty))) :
    Calls Tryd.prog 113 #[.slice (some ⟨b, off, none⟩) ss.length cap] w fun e w' => e = .returned (.string (mk (wb (bs ss)))) ∧ Below w.heap.size w w' := by
  have HC := hide hc
  have HZ := hide hz
  clear hc hz
  obtain ⟨i0, hi, hz0, hz1, hz2⟩ := info_parts info_u8
  go_enter Tryd.func113, Tryd.ntmps113
  go_wp2
  go_loopw [3, 8] (fun v i wr => ∃ k : Nat, k ≤ ss.length ∧ i = .int .i64 k ∧
      wr.ownsRow w.heap.size 5 1 v (wb (bs (ss.take k))).length (bcells (wb (bs (ss.take k)))) ∧ Below w.heap.size w wr) (fun _ i _ => ss.length - (intOf i).toNat)
  case atStart => exact ⟨0, Nat.zero_le _, rfl, World.ownsRow_nil _ _ _ _, Below.refl _ _⟩
  case round =>
    obtain ⟨k, hk, rfl, hown, hbel⟩ := hrel
    have hszr := hbel.size
    by_cases hlt : k < ss.length
    · have hlen : (wb (bs (ss.take k))).length ≤ 2100 := by
        have := wb_length_le (bs (ss.take k)) (bs_small' _ (fun s hs => unhide HZ s (List.mem_of_mem_take hs)))
        simp only [bs_length, List.length_take] at this
        omega
      have HW := hide (wb_take_succ ss k hlt)
      obtain ⟨s, hs⟩ : ∃ s, s = ss.getD k ByteArray.empty := ⟨_, rfl⟩
      have hck0 := unhide HC k hlt
      have hss : (ss.getD k ByteArray.empty).size ≤ 20 := by
        rw [List.getD, List.getElem?_eq_getElem hlt]
        exact unhide HZ _ (List.getElem_mem hlt)
      rw [← hs] at hck0 hss HW
      clear hs
      have hck : wr.cell? ⟨b, off + k, none⟩ = some (.string s) := by rw [hbel.cell (p := ⟨b, off + k, none⟩) (cell_lt hck0)]; exact hck0
      generalize wb (bs (ss.take k)) = o at *
      have HBL := hide (byte_len s hss)
      have hd1 : decide ((k : Int) < (ss.length : Int)) = true := by simp; omega
      have hka : (0 : Int) ≤ (k : Int) := by omega
      have hkb : (k : Int) < (ss.length : Int) := by omega
      clear hck0
      go_wp2_with (at_builtin; go_must (refine wpList_append_own _ rfl (.tmp 12) (.tmp 16) 45 rfl w.heap.size 5 i0 (.int .u8 0) 1 1 Tryd.underlying45 hi hz0 hz1 hz2 rfl (by decide) _ _ _ rfl (hown.alloc _) ⟨wr.heap.size, 0, none⟩ 1 1 [.int .u8 (s.size : Int)] rfl rfl ?c1 ?c2 ?c3 ?c4 ?c5 ?_))
      case c1 => exact cell_one_new _ _ _
      case c2 => intro u hu; simp at hu; subst hu; rfl
      case c3 => unfold maxLen; omega
      case c4 => omega
      case c5 => simp; omega
      intro v3 w3 hown3 hgrow3 _
      have hbel3 : Below w.heap.size w w3 := (hbel.alloc hszr _).grown hgrow3 (by simp; omega) (own_row_ge hown)
      have hsz3 : w.heap.size ≤ w3.heap.size := hbel3.size
      clear hgrow3 hbel hown hck
      go_wp2_with (at_builtin; go_must (refine Lib.wpList_append_own_string _ rfl (.tmp 18) (.tmp 19) 45 9 rfl w.heap.size 5 i0 Tryd.underlying45 Tryd.underlying9 hi hz0 hz1 hz2 _ _ _ rfl hown3 s rfl ?d1 ?d2 hsz3 ?_))
      case d1 => unfold maxLen; omega
      case d2 => omega
      intro v4 w4 hown4 hgrow4 _
      have hbel4 : Below w.heap.size w w4 := hbel3.grown hgrow4 hsz3 (own_row_ge hown3)
      clear hgrow4 hbel3 hown3
      go_wp2
      go_roundw
      case rel =>
        refine ⟨k + 1, by omega, by go_num, ?_, hbel4⟩
        rw [unhide HW, bcells_append]
        have e1 : (o ++ (UInt8.ofNat s.size :: s.data.toList)).length = o.length + 1 + s.size := by
          have : s.data.toList.length = s.size := rfl
          rw [List.length_append, List.length_cons]; omega
        have e2 : bcells (UInt8.ofNat s.size :: s.data.toList) = [Value.int .u8 (s.size : Int)] ++ Lib.strCells s := by
          rw [unhide HBL]
          rfl
        rw [e1, e2]
        exact hown4
      case measure => simp [intOf]; omega
    · have hkl : ss.take k = ss := List.take_of_length_le (by omega)
      rw [hkl] at hown
      generalize hoe : wb (bs ss) = o at hown
      have HF := hide hoe
      have hd1 : decide ((k : Int) < (ss.length : Int)) = false := by simp; omega
      clear hoe
      rcases hown with ⟨hl, ⟨rfl, h0⟩ | ⟨g, cap2, cur, rfl, hg1, hg2, hg3, hg4, hg5, hg6⟩⟩
      · have ho : o = [] := List.eq_nil_of_length_eq_zero h0
        subst ho
        have hcv := fun (w : World) => run_convert_bytes_nil (P := Tryd.prog) w 45 5 Tryd.underlying45 Tryd.underlying5 0 0 9 Tryd.underlying9
        go_wp2
        go_ret
        exact ⟨by rw [unhide HF]; rfl, hbel⟩
      · have hcv := run_convert_bytes_back (P := Tryd.prog) wr 45 9 5 ⟨g, 0, none⟩ cap2 o Tryd.underlying45 Tryd.underlying5 Tryd.underlying9 (by
          intro j hj
          have hc1 : (cur.toList.take (o.length * 1))[j]? = (bcells o)[j]? := by rw [hg6]
          rw [List.getElem?_take_of_lt (by omega)] at hc1
          rw [Addr.add_lit]
          unfold World.cell?
          rw [hg2]
          simpa [bcells, List.getElem?_eq_getElem hj] using hc1)
        clear hl hg1 hg2 hg3 hg4 hg5 hg6
        go_wp2
        go_ret
        exact ⟨by rw [unhide HF]; rfl, hbel⟩
theorem writeBody_any (v : Value) (ss : List ByteArray) (w : World) (h : Strs w v ss) (hm : ss.length ≤ 100) (hz : ∀ s ∈ ss, s.size ≤ 20) :
    Calls Tryd.prog 113 #[v] w fun e w' => e = .returned (.string (mk (wb (bs ss)))) ∧ Below w.heap.size w w' := by
  obtain ⟨ao, cap, rfl, h1, h2, h3⟩ := h
  rcases h3 with rfl | ⟨b, off, rfl, hc⟩
  · exact writeBody_empty ao cap w
  · exact writeBody_some b off cap ss w hm hz hc
end Go.Proofs.YtanfolfopalbeaaDoor
namespace Go.Proofs.YtanfolfopalbeaaDoor
open Go.RowKit

theorem sector_eq (a b : List UInt8) (ha : a.length = 32) (hb : b.length = 32) (w : World) : Sem.run Tryd.prog (Op.equalIn 10000 126 (.agg (bcells a).toArray) (.agg (bcells b).toArray)) w = .ok (decide (a = b)) w := by
  have h := info_u8
  cases hi : Tryd.prog.info? 5 with
  | none => rw [hi] at h; cases h
  | some i =>
    have := run_equalIn_array (P := Tryd.prog) w 9999 (bcells a).toArray (bcells b).toArray Tryd.underlying126 hi
    rw [this, cells_u8, items_eq a b w _ fun j hj => by rw [ha, hb]; exact ⟨List.mem_range.1 hj, List.mem_range.1 hj⟩, all_eq a b ha hb]
theorem drew_bel {w w' : World} (h : Below w.drew.heap.size w.drew w') : Below w.heap.size w w' := ⟨h.os, h.tape, h.output, h.size, h.block⟩
theorem own_base {w : World} {B base : Nat} {e : TypeId} {s : Nat} {v : Value} {n : Nat} {xs : List Value} (h : w.ownsRow base e s v n xs) (hB : B ≤ base) : w.ownsRow B e s v n xs := by
  obtain ⟨h1, h2⟩ := h
  refine ⟨h1, ?_⟩
  rcases h2 with h2 | ⟨g, cap, cur, rfl, h3, h4⟩
  · exact .inl h2
  · exact .inr ⟨g, cap, cur, rfl, Nat.le_trans hB h3, h4⟩
/-- What Entries answers. -/
def dEnt (d : List (List UInt8)) : List (List UInt8) × Nat := match dOk d with | some es => (es, 0) | none => ([], 6)
theorem dEnt_wrong {d : List (List UInt8)} (h : d.length < 2 ∨ 300 < d.length) : dEnt d = ([], 6) := by unfold dEnt dOk; rw [if_pos h]
theorem dEnt_head {d : List (List UInt8)} (h : ¬ (d.length < 2 ∨ 300 < d.length)) (h2 : 100 < dCnt d ∨ d.getD 0 [] ≠ hd (dCnt d)) : dEnt d = ([], 6) := by unfold dEnt dOk; rw [if_neg h, if_pos h2]
theorem dEnt_in {d : List (List UInt8)} (h : ¬ (d.length < 2 ∨ 300 < d.length)) (h2 : ¬ 100 < dCnt d) (h3 : d.getD 0 [] = hd (dCnt d)) : dEnt d = rbR (dCnt d) (d.drop 1).flatten := by
  unfold dEnt dOk rbR
  rw [if_neg h, if_neg (by rw [← h3]; simp; omega)]
  all_goals (cases rb (dCnt d) (d.drop 1).flatten <;> rfl)
theorem head_cell (d0 : List UInt8) (h : d0.length = 32) : (bcells d0)[0]? = some (.int .u8 ((d0.headD 0).toNat : Int)) := by
  cases d0 with
  | nil => cases h
  | cons a r => rfl

set_option maxRecDepth 100000 in
set_option maxHeartbeats 400000 in
theorem ents_wrong (ao : Option Addr) (n cap : Nat) (w : World) (hn : n ≤ maxLen) (h : n < 2 ∨ 300 < n) :
    Calls Tryd.prog 81 #[.slice ao n cap] w fun e w' => e = .returned (.tuple #[.slice none 0 0, .int .i64 6]) ∧ w' = w := by
  unfold maxLen at hn
  by_cases h2 : n < 2
  · have hd1 : decide ((n : Int) < 2) = true := by simp; omega
    go_enter Tryd.func81, Tryd.ntmps81
    go_wp2
    go_ret2
    exact ⟨rfl, rfl⟩
  · have hd1 : decide ((n : Int) < 2) = false := by simp; omega
    have hd2 : decide ((300 : Int) < (n : Int)) = true := by simp; omega
    go_enter Tryd.func81, Tryd.ntmps81
    go_wp2
    go_ret2
    exact ⟨rfl, rfl⟩

set_option maxRecDepth 100000 in
set_option maxHeartbeats 800000 in
theorem ents_in (b off cap : Nat) (ds : List (List UInt8)) (w : World) (hD : Digs w (.slice (some ⟨b, off, none⟩) ds.length cap) ds) (h : ¬ (ds.length < 2 ∨ 300 < ds.length)) :
    Calls Tryd.prog 81 #[.slice (some ⟨b, off, none⟩) ds.length cap] w fun e w' => ∃ v', e = .returned (.tuple #[v', .int .i64 (dEnt ds).2]) ∧
      w'.ownsRow w.heap.size 9 1 v' (dEnt ds).1.length (((dEnt ds).1.map mk).map Value.string) ∧ Below w.heap.size w w' := by
  have hd1 : decide ((ds.length : Int) < 2) = false := by simp; omega
  have hd2 : decide ((300 : Int) < (ds.length : Int)) = false := by simp; omega
  have hr := digs_at hD 0 (by omega)
  have hdl := digs_len hD 0 (by omega)
  rw [Nat.zero_mul, Nat.add_zero] at hr
  have hc0 : w.cell? ⟨b, off, none⟩ = some (.int .u8 (dCnt ds : Int)) := hr 0 _ (head_cell _ hdl)
  have hcl : dCnt ds < 256 := UInt8.toNat_lt _
  have hq0 : (0 : Int) < (ds.length : Int) := by omega
  have hq1 : 0 < ds.length := by omega
  have HW := hide (fun hx => dEnt_head (d := ds) h hx)
  have HI := hide (fun hx hy => dEnt_in (d := ds) h hx hy)
  have HB := hide (fun wq hd => body_any (.slice (some ⟨b, off, none⟩) ds.length cap) ds wq hd (by omega) (by omega))
  have HD := hide hD
  have hfl := flat_length (ds.drop 1) (fun s hs => hD.1 s (List.mem_of_mem_drop hs))
  rw [List.length_drop] at hfl
  generalize dCnt ds = c at *
  generalize ds.getD 0 [] = d0 at *
  generalize (ds.drop 1).flatten = t at *
  clear hD
  by_cases hc : 100 < c
  · have hd3 : decide ((100 : Int) < (c : Int)) = true := by simp; omega
    have HE := hide (unhide HW (.inl hc))
    go_enter Tryd.func81, Tryd.ntmps81
    go_wp2
    go_quiet (fail)
    go_wp2
    go_ret2
    rw [unhide HE]
    exact ⟨_, rfl, World.ownsRow_nil _ _ _ _, below_drewN (Below.refl _ _) _⟩
  · have hd3 : decide ((100 : Int) < (c : Int)) = false := by simp; omega
    have hE := fun wq => sector_eq d0 (hd c) hdl (hd_length c) wq
    have hu := Tryd.underlying126
    have hmi := v_scm d0 hdl
    have hH := fun wq => headK_any c wq hcl
    have hr8 : w.drew.rangeAt b off (bcells d0) := hr
    go_enter Tryd.func81, Tryd.ntmps81
    go_upto_region 4 with fail
    by_cases he : d0 = hd c
    · rw [decide_eq_true he] at hE
      have HE := hide (unhide HI hc he)
      clear he
      generalize hd c = hdc at *
      go_region_held3 (fun w' => w'.rangeAt b off (bcells d0)) (first | (with_reducible exact hr8) | (with_reducible exact hr9)) ((go_at_call 110; refine (hH _).mono ?_; rintro e w7 ⟨rfl, hb7⟩; have hr9 := rangeAt_below hr8 hb7 (Nat.le_refl _)))
      have hb7' := drew_bel hb7
      clear hr hr8 hr9 hE hc0 hb7 HW HI
      go_wp2_with fail
      refine (unhide HB _ ((unhide HD).below hb7' (Nat.le_refl _))).mono ?_
      rintro e w8 ⟨rfl, hb8⟩
      have hbel8 := hb7'.trans (hb8.mono hb7'.size)
      go_wp2_with fail
      refine (readBody_any (mk t) c _ (by rw [mk_size]; omega) (by omega)).mono ?_
      rw [mk_data, ← unhide HE]
      rintro e w9 ⟨v9, rfl, hown9, hb9⟩
      have hbel9 := hbel8.trans (hb9.mono hbel8.size)
      go_wp2
      go_ret2
      exact ⟨_, rfl, own_base hown9 hbel8.size, hbel9⟩
    · rw [decide_eq_false he] at hE
      have HE := hide (unhide HW (.inr he))
      clear he
      generalize hd c = hdc at *
      go_region_held3 (fun w' => w'.rangeAt b off (bcells d0)) (first | (with_reducible exact hr8) | (with_reducible exact hr9)) ((go_at_call 110; refine (hH _).mono ?_; rintro e w7 ⟨rfl, hb7⟩; have hr9 := rangeAt_below hr8 hb7 (Nat.le_refl _)))
      have hb7' := drew_bel hb7
      clear hr hr8 hr9 hE hc0 hb7 HW HI
      go_wp2
      go_ret2
      rw [unhide HE]
      exact ⟨_, rfl, World.ownsRow_nil _ _ _ _, hb7'⟩

theorem ents_any (v : Value) (ds : List (List UInt8)) (w : World) (hD : Digs w v ds) :
    Calls Tryd.prog 81 #[v] w fun e w' => ∃ v', e = .returned (.tuple #[v', .int .i64 (dEnt ds).2]) ∧
      w'.ownsRow w.heap.size 9 1 v' (dEnt ds).1.length (((dEnt ds).1.map mk).map Value.string) ∧ Below w.heap.size w w' := by
  by_cases h : ds.length < 2 ∨ 300 < ds.length
  · rw [dEnt_wrong h]
    obtain ⟨_, ao, cap, rfl, h1, h2, _⟩ := hD
    refine (ents_wrong ao ds.length cap w (Nat.le_trans h1 h2) h).mono ?_
    rintro e w' ⟨rfl, rfl⟩
    exact ⟨_, rfl, World.ownsRow_nil _ _ _ _, Below.refl _ _⟩
  · obtain ⟨b, off, cap, rfl, _, _⟩ := digs_shape hD (by omega)
    exact ents_in b off cap ds w hD h

set_option maxRecDepth 100000 in
set_option maxHeartbeats 400000 in
theorem Entries_any (v : Value) (ds : List (List UInt8)) (w : World) (hD : Digs w v ds) :
    Calls Tryd.prog 41 #[v] w fun e w' => ∃ v', e = .returned (.tuple #[v', .int .i64 (dEnt ds).2]) ∧
      w'.ownsRow w.heap.size 9 1 v' (dEnt ds).1.length (((dEnt ds).1.map mk).map Value.string) ∧ Below w.heap.size w w' := by
  have HE := hide (ents_any v ds w hD)
  generalize dEnt ds = r at HE ⊢
  obtain ⟨es, c⟩ := r
  simp only at HE ⊢
  clear hD
  go_enter Tryd.func41, Tryd.ntmps41
  go_wp2_with fail
  refine (unhide HE).mono ?_
  rintro e w2 ⟨v2, rfl, hown2, hb2⟩
  go_wp2
  go_ret2
  exact ⟨_, rfl, hown2, hb2⟩

theorem dEnt_spec {d : List (List UInt8)} (he : ∀ s ∈ d, s.length = 32) : ((dEnt d).2 = 6 ∧ (dEnt d).1 = [] ∧ dOk d = none) ∨ ((dEnt d).2 = 0 ∧ Std d (dEnt d).1 ∧ dOk d = some (dEnt d).1) := by
  unfold dEnt
  cases h : dOk d with
  | none => exact .inl ⟨rfl, rfl, rfl⟩
  | some es => exact .inr ⟨rfl, std_of_ok he h, rfl⟩
theorem mk_small {es : List (List UInt8)} (h : ∀ e ∈ es, e.length ≤ 20) : ∀ s ∈ es.map mk, s.size ≤ 20 := by
  intro s hs
  simp only [List.mem_map] at hs
  obtain ⟨e, he, rfl⟩ := hs
  exact h e he
theorem results_row3 {P : Program} {fn : Func} {t0 p u : Tmp} {ty : TypeId} (h : fn.results = #[.tmp t0, .cell p ty, .tmp u]) (tmps : Array Value) (w : World) (g : Nat) (t : TypeId) (cs : Array Value) (fr : Nat × Nat) (d : TypeDesc)
    (hp : tmps.getD p undef = .pointer (some ⟨g, 0, none⟩)) (hg : w.heap[g]? = some (.cells cs t fr))
    (hu : P.underlying ty = some d) (hd : (match d with | .struct _ | .array _ _ => true | _ => false) = true) (hi : (P.info? ty).map (·.size) = some cs.size) :
    (results fn tmps).run P w = .ok (.tuple #[tmps.getD t0 undef, .agg cs, tmps.getD u undef]) w := by
  have hp' : tmps[p]?.getD undef = .pointer (some ⟨g, 0, none⟩) := by simpa using hp
  simp [results, h, hp', asAddr, run_loadVar_row w g t ty cs fr d hg hu hd hi]
/-- What Status answers. -/
def staRoot (d : List (List UInt8)) : List UInt8 := if (dEnt d).2 = 0 then rootL ((dEnt d).1.map mk) else z32
theorem staRoot_length (d : List (List UInt8)) : (staRoot d).length = 32 := by
  unfold staRoot
  split
  · exact rootL_length _
  · rfl
theorem sta_S {g h : Nat} {d z : List UInt8} {w : World} (hd : BRow w g 31 d) (hz : BRow w h 31 z) (hl : z.length = 32) : w.rangeAt g 0 (bcells d) ∧ w.there h 0 32 :=
  ⟨fun j v hv => by rw [Nat.zero_add, cell_of_row w g j _ _ _ hd]; simpa using hv, fun j hj => by rw [Nat.zero_add]; exact ⟨by rw [hz.cell j (by omega)]; rfl, hz.free j⟩⟩
theorem setC_row (g : Nat) (ty : TypeId) : ∀ (vs : List Value) (o : Nat) (w : World) (cs : Array Value), w.heap[g]? = some (.cells cs ty (0, 0)) → o + vs.length ≤ cs.size →
    (w.setCells g o vs).heap[g]? = some (.cells (cs.toList.take o ++ vs ++ cs.toList.drop (o + vs.length)).toArray ty (0, 0)) := by
  intro vs
  induction vs with
  | nil =>
    intro o w cs h _
    show w.heap[g]? = _
    rw [h]
    simp
  | cons v r ih =>
    intro o w cs h hl
    simp only [List.length_cons] at hl
    show ((w.setCell ⟨g, o, none⟩ v).setCells g (o + 1) r).heap[g]? = _
    rw [ih (o + 1) _ _ (heap_setCell_same w g o _ _ _ h) (by simp; omega)]
    congr 3
    rw [Array.toList_setIfInBounds]
    have hlt : o < cs.toList.length := by rw [Array.length_toList]; omega
    have e1 : (cs.toList.set o v).take (o + 1) = cs.toList.take o ++ [v] := by
      rw [List.take_succ_eq_append_getElem (by rw [List.length_set]; exact hlt), List.take_set_of_le (Nat.le_refl _)]
      simp
    rw [e1, List.drop_set_of_lt (by omega), show o + 1 + r.length = o + (v :: r).length by simp; omega]
    simp
theorem setC_other (g k : Nat) (hk : k ≠ g) : ∀ (vs : List Value) (o : Nat) (w : World), (w.setCells g o vs).heap[k]? = w.heap[k]? := by
  intro vs
  induction vs with
  | nil => intro o w; rfl
  | cons v r ih =>
    intro o w
    show ((w.setCell ⟨g, o, none⟩ v).setCells g (o + 1) r).heap[k]? = _
    rw [ih, heap_setCell_other _ _ _ _ (by exact hk)]
theorem below_setC {B g : Nat} (hg : B ≤ g) : ∀ (vs : List Value) (o : Nat) {a w : World}, Below B a w → Below B a (w.setCells g o vs) := by
  intro vs
  induction vs with
  | nil => intro o a w h; exact h
  | cons v r ih => intro o a w h; exact ih (o + 1) (h.setCell (by exact hg) v)
theorem setC_size (g : Nat) : ∀ (vs : List Value) (o : Nat) (w : World), (w.setCells g o vs).heap.size = w.heap.size := by
  intro vs
  induction vs with
  | nil => intro o w; rfl
  | cons v r ih =>
    intro o w
    show ((w.setCell ⟨g, o, none⟩ v).setCells g (o + 1) r).heap.size = _
    rw [ih]
    simp [World.setCell]
theorem brow_setC {w : World} {g : Nat} {ty : TypeId} {l l2 : List UInt8} (h : BRow w g ty l) (hl : l.length = l2.length) : BRow (w.setCells g 0 (bcells l2)) g ty l2 := by
  unfold BRow
  rw [setC_row g ty (bcells l2) 0 w _ h (by rw [bcells_size]; simp [bcells]; omega)]
  congr 3
  rw [List.take_zero, List.nil_append, List.drop_eq_nil_of_le (by simp [bcells]; omega), List.append_nil]

set_option maxRecDepth 100000 in
set_option maxHeartbeats 1600000 in
theorem status_any (v : Value) (ds : List (List UInt8)) (w : World) (hD : Digs w v ds) (hT : Tabs w) :
    Calls Tryd.prog 80 #[v] w fun e w' => e = .returned (.tuple #[.int .i64 (dEnt ds).1.length, .agg (bcells (staRoot ds)).toArray, .int .i64 (dEnt ds).2]) ∧ Below w.heap.size w w' := by
  have hbel0 : Below w.heap.size w (w.alloc (.cells (bcells z32).toArray 31)) := (Below.refl _ _).alloc (Nat.le_refl _) _
  have hres0 : (w.alloc (.cells (bcells z32).toArray 31)).heap[w.heap.size]? = some (.cells (bcells z32).toArray 31 (0, 0)) := heap_alloc_new w _
  have HD := hide (hD.below hbel0 (Nat.le_refl _))
  have HT := hide (hT.below hbel0 (Nat.le_refl _))
  have K0 := hide hbel0
  have R0 := hide hres0
  have hsp := dEnt_spec hD.1
  have hE := fun wq hd => ents_any v ds wq hd
  have hrl : staRoot ds = if (dEnt ds).2 = 0 then rootL ((dEnt ds).1.map mk) else z32 := rfl
  generalize staRoot ds = sr at hrl ⊢
  generalize hr : dEnt ds = r at hE hsp hrl ⊢
  obtain ⟨es, c⟩ := r
  simp only at hE hsp hrl ⊢
  have HRL := hide hrl
  clear hrl
  clear hD hT hbel0 hres0 hr
  rcases hsp with ⟨rfl, rfl, _⟩ | ⟨rfl, hstd, _⟩
  · have hsr : sr = z32 := by rw [unhide HRL, if_neg (by decide)]
    subst hsr
    clear HRL
    go_enter Tryd.func80, Tryd.ntmps80
    go_wp2_with fail
    rw [← z32_cells]
    refine (hE _ (unhide HD)).mono ?_
    rintro e w1 ⟨v1, rfl, hown1, hb1⟩
    have hbel1 := (unhide K0).trans (hb1.mono (unhide K0).size)
    have V1 := hide (show BRow w1 w.heap.size 31 z32 from (hb1.block _ (lt_of_block (unhide R0))).trans (unhide R0))
    have V2 := hide (v_dg z32 rfl)
    clear hb1 hE HD HT
    go_wp2_with ((with_reducible refine at_store ?_); rw [← z32_cells]; go_must (refine wpList_store_row rfl 31 _ _ rfl w.heap.size (bcells z32).toArray rfl rfl 31 _ (unhide V1) (unhide V2) rfl (bcells_one z32) ?_))
    refine bodyPost_ret (v := .tuple #[.int .i64 0, .agg (bcells z32).toArray, .int .i64 6]) ?_ rfl ⟨rfl, below_row hbel1 (Nat.le_refl _) _⟩
    exact results_row3 Tryd.results80 _ _ w.heap.size 31 _ (0, 0) _ rfl (setRow_heap _ _ _ _ _ _ (unhide V1)) Tryd.underlying31 rfl (unhide V2)
  · have hsr : sr = rootL (es.map mk) := by rw [unhide HRL, if_pos rfl]
    have hsm := mk_small hstd.small
    have hfe := hstd.few
    have hml : (es.map mk).length ≤ 100 := by simpa using hfe
    have hrt := fun wq vq hs ht => treeRoot_any vq (es.map mk) wq hs ht
    rw [show chk (es.map mk) = 0 by
      unfold chk
      rw [if_neg (by omega), if_neg]
      rw [List.any_eq_true]
      rintro ⟨s, hs, hl⟩
      have := hsm s hs
      simp at hl
      omega] at hrt
    rw [show rootR (es.map mk) = sr by
      rw [hsr]
      unfold rootR chk
      rw [if_pos]
      rw [if_neg (by omega), if_neg]
      rw [List.any_eq_true]
      rintro ⟨s, hs, hl⟩
      have := hsm s hs
      simp at hl
      omega] at hrt
    have hdl : sr.length = 32 := by rw [hsr]; exact rootL_length _
    have V2 := hide (v_dg sr hdl)
    have V3 := hide (v_z32 sr hdl)
    clear hsm HRL hsr hml hstd
    go_enter Tryd.func80, Tryd.ntmps80
    go_wp2_with fail
    rw [← z32_cells]
    refine (hE _ (unhide HD)).mono ?_
    rintro e w1 ⟨v1, rfl, hown1, hb1⟩
    have hS1 := strs_of_own (ss := es.map mk) (by simpa using hown1)
    have hbel1 := (unhide K0).trans (hb1.mono (unhide K0).size)
    have V1 := hide (show BRow w1 w.heap.size 31 z32 from (hb1.block _ (lt_of_block (unhide R0))).trans (unhide R0))
    have T1 := hide ((unhide HT).below hb1 (Nat.le_refl _))
    obtain ⟨ao, cap, hv1⟩ := own_shape hown1
    subst hv1
    have S1 := hide hS1
    clear hb1 hE HD HT hS1 hown1 K0 R0
    go_wp2_with fail
    refine (hrt _ _ (unhide S1) (unhide T1)).mono ?_
    rintro e w2 ⟨rfl, hb2⟩
    have hbel2 := hbel1.trans (hb2.mono hbel1.size)
    have g2 : BRow w2 w.heap.size 31 z32 := (hb2.block _ (lt_of_block (unhide V1))).trans (unhide V1)
    have hl2 := lt_of_block g2
    have G2 := hide g2
    clear hb2 hrt S1 T1 hbel1 V1 g2
    go_upto_region 5 with ((with_reducible refine at_store ?_); go_must (refine wpList_store_row rfl 31 _ _ rfl w2.heap.size (bcells sr).toArray rfl rfl 31 _ (heap_alloc_new w2 _) (unhide V2) (unhide V3) (bcells_one sr) ?_))
    rw [← z32_cells]
    have hbel3 : Below w.heap.size w ((w2.alloc (.cells (bcells z32).toArray 31)).setRow w2.heap.size (bcells sr).toArray) := below_row (hbel2.alloc hbel2.size _) hbel2.size _
    have g3 : BRow ((w2.alloc (.cells (bcells z32).toArray 31)).setRow w2.heap.size (bcells sr).toArray) w2.heap.size 31 sr := heap_put_new _ _ _ _
    have g4 : BRow ((w2.alloc (.cells (bcells z32).toArray 31)).setRow w2.heap.size (bcells sr).toArray) w.heap.size 31 z32 := (heap_put_old w2 _ _ _ _ hl2).trans (unhide G2)
    generalize ((w2.alloc (.cells (bcells z32).toArray 31)).setRow w2.heap.size (bcells sr).toArray) = W3 at hbel3 g3 g4 ⊢
    have hne : w2.heap.size ≠ w.heap.size := by omega
    generalize w2.heap.size = g at g3 hne ⊢
    have g5 : BRow (W3.drew.setCells w.heap.size 0 (bcells sr)) w.heap.size 31 sr := brow_setC (w := W3.drew) g4 (by rw [hdl]; rfl)
    have hbel5 : Below w.heap.size w (W3.drew.setCells w.heap.size 0 (bcells sr)) := below_setC (Nat.le_refl _) _ _ hbel3.drew
    have hr8 := sta_S (w := W3.drew) g3 g4 rfl
    have hr9 := sta_S (show BRow (W3.drew.setCells w.heap.size 0 (bcells sr)) g 31 sr from (setC_other _ _ hne _ _ _).trans g3) g5 hdl
    have G5 := hide g5
    have B5 := hide hbel5
    have hu := Tryd.underlying31
    have hmi := v_mid sr hdl
    have hcl : (bcells sr).length = 32 := by simp [bcells, hdl]
    have hone := bcells_one' sr
    clear g3 g4 g5 hbel3 hbel5 hbel2 G2 V3
    go_region_held3 (fun w' => w'.rangeAt g 0 (bcells sr) ∧ w'.there w.heap.size 0 32) (first | (with_reducible exact hr8) | (with_reducible exact hr9)) (fail)
    generalize W3.drew.setCells w.heap.size 0 (bcells sr) = W5 at *
    go_wp2
    refine bodyPost_ret (v := .tuple #[.int .i64 es.length, .agg (bcells sr).toArray, .int .i64 0]) ?_ rfl ⟨rfl, unhide B5⟩
    exact results_row3 Tryd.results80 _ _ w.heap.size 31 _ (0, 0) _ rfl (unhide G5) Tryd.underlying31 rfl (unhide V2)
end Go.Proofs.YtanfolfopalbeaaDoor
namespace Go.Proofs.YtanfolfopalbeaaDoor
open Go.RowKit

set_option maxRecDepth 100000 in
set_option maxHeartbeats 800000 in
theorem Status_any (v : Value) (ds : List (List UInt8)) (w : World) (hD : Digs w v ds) (hT : Tabs w) :
    Calls Tryd.prog 40 #[v] w fun e w' => e = .returned (.tuple #[.int .i64 (dEnt ds).1.length, .agg (bcells (staRoot ds)).toArray, .int .i64 (dEnt ds).2]) ∧ Below w.heap.size w w' := by
  have hbel0 : Below w.heap.size w (w.alloc (.cells (bcells z32).toArray 31)) := (Below.refl _ _).alloc (Nat.le_refl _) _
  have hres0 : (w.alloc (.cells (bcells z32).toArray 31)).heap[w.heap.size]? = some (.cells (bcells z32).toArray 31 (0, 0)) := heap_alloc_new w _
  have HR := hide (status_any v ds _ (hD.below hbel0 (Nat.le_refl _)) (hT.below hbel0 (Nat.le_refl _)))
  have K0 := hide hbel0
  have R0 := hide hres0
  have hdl := staRoot_length ds
  generalize staRoot ds = d8 at HR hdl ⊢
  generalize (dEnt ds).1.length = n at HR ⊢
  generalize (dEnt ds).2 = c at HR ⊢
  have V2 := hide (v_dg d8 hdl)
  have V3 := hide (v_z32 d8 hdl)
  clear hT hbel0 hres0 hD
  go_enter Tryd.func40, Tryd.ntmps40
  go_wp2_with fail
  rw [← z32_cells]
  refine (unhide HR).mono ?_
  rintro e w1 ⟨rfl, hb1⟩
  have hbel1 := (unhide K0).trans (hb1.mono (unhide K0).size)
  have V1 := hide (show BRow w1 w.heap.size 31 z32 from (hb1.block _ (lt_of_block (unhide R0))).trans (unhide R0))
  clear hb1 HR
  go_wp2_with ((with_reducible refine at_store ?_); go_must (refine wpList_store_row rfl 31 _ _ rfl w.heap.size (bcells d8).toArray rfl rfl 31 _ (unhide V1) (unhide V2) (unhide V3) (bcells_one d8) ?_))
  refine bodyPost_ret (v := .tuple #[.int .i64 n, .agg (bcells d8).toArray, .int .i64 c]) ?_ rfl ⟨rfl, below_row hbel1 (Nat.le_refl _) _⟩
  exact results_row3 Tryd.results40 _ _ w.heap.size 31 _ (0, 0) _ rfl (setRow_heap _ _ _ _ _ _ (unhide V1)) Tryd.underlying31 rfl (unhide V2)

/-- A disk that Format gave. -/
def fmt (n : Nat) : List (List UInt8) := hd 0 :: List.replicate (n - 1) z32
theorem fmt_length (n : Nat) (h : 1 ≤ n) : (fmt n).length = n := by simp [fmt]; omega
theorem fmt_elem (n : Nat) : ∀ s ∈ fmt n, s.length = 32 := by
  intro s hs
  simp only [fmt, List.mem_cons, List.mem_replicate] at hs
  rcases hs with rfl | ⟨_, rfl⟩ <;> rfl
theorem fmt_std (n : Nat) (h2 : 2 ≤ n) (h3 : n ≤ 300) : Std (fmt n) [] := by
  have hl := fmt_length n (by omega)
  exact ⟨by omega, by omega, fmt_elem n, rfl, by simp, by simp, by simp [wb], fun j hj => by simp [wb] at hj⟩
theorem made_zero (n : Nat) : (madeCells (bcells z32).toArray (n * 32)).toList = List.replicate (n * 32) (.int .u8 0) := by
  rw [List.eq_replicate_iff]
  refine ⟨by rw [Array.length_toList, size_madeCells], ?_⟩
  intro b hb
  simp only [madeCells, Array.toList_map, List.mem_map] at hb
  obtain ⟨i, _, rfl⟩ := hb
  have hz : ∀ j, j < 32 → ((bcells z32).toArray)[j]! = Value.int .u8 0 := by
    intro j hj
    have e : bcells z32 = List.replicate 32 (.int .u8 0) := rfl
    rw [e, List.getElem!_toArray, List.getElem!_eq_getElem?_getD, List.getElem?_replicate, if_pos hj]
    rfl
  exact hz _ (Nat.mod_lt _ (by decide))
theorem dcells_zero (n : Nat) : dcells (List.replicate n z32) = List.replicate (n * 32) (.int .u8 0) := by
  induction n with
  | zero => rfl
  | succ n ih =>
    rw [List.replicate_succ, show (n + 1) * 32 = 32 + n * 32 by omega, ← List.replicate_append_replicate, ← ih]
    rfl
theorem fmt_cells (n : Nat) : List.take 0 (List.replicate (n * 32) (Value.int .u8 0)).toArray.toList ++ bcells (hd 0) ++ List.drop (0 + 32) (List.replicate (n * 32) (Value.int .u8 0)).toArray.toList = dcells (fmt n) := by
  have e : dcells (fmt n) = bcells (hd 0) ++ dcells (List.replicate (n - 1) z32) := rfl
  rw [e, dcells_zero, List.take_zero, List.nil_append, List.drop_replicate, show n * 32 - (0 + 32) = (n - 1) * 32 by omega]
theorem info_sec : (Tryd.prog.info? 126).map (fun i => (i.zero, i.size, i.bytes)) = some (some (.agg (bcells z32).toArray), 32, 32) := by kernel_rfl

set_option maxRecDepth 100000 in
set_option maxHeartbeats 400000 in
theorem format_bad (n : Int) (w : World) (hn : -9223372036854775808 ≤ n ∧ n ≤ 9223372036854775807) (h : n < 2 ∨ 300 < n) :
    Calls Tryd.prog 108 #[.int .i64 n] w fun e w' => e = .returned (.tuple #[.slice none 0 0, .int .i64 6]) ∧ w' = w := by
  by_cases h2 : n < 2
  · have hd1 : decide (n < 2) = true := by simp; omega
    go_enter Tryd.func108, Tryd.ntmps108
    go_wp2
    go_ret2
    exact ⟨rfl, rfl⟩
  · have hd1 : decide (n < 2) = false := by simp; omega
    have hd2 : decide (300 < n) = true := by simp; omega
    go_enter Tryd.func108, Tryd.ntmps108
    go_wp2
    go_ret2
    exact ⟨rfl, rfl⟩

set_option maxRecDepth 100000 in
set_option maxHeartbeats 800000 in
theorem format_in (n : Nat) (w : World) (h2 : 2 ≤ n) (h3 : n ≤ 300) :
    Calls Tryd.prog 108 #[.int .i64 n] w fun e w' => e = .returned (.tuple #[.slice (some ⟨w.heap.size, 0, none⟩) n n, .int .i64 0]) ∧
      w'.ownsRow w.heap.size 126 32 (.slice (some ⟨w.heap.size, 0, none⟩) n n) n (dcells (fmt n)) ∧ Below w.heap.size w w' := by
  obtain ⟨i0, hi, hz0, hz1, hz2⟩ := info_parts info_sec
  have hd1 : decide ((n : Int) < 2) = false := by simp; omega
  have hd2 : decide ((300 : Int) < (n : Int)) = false := by simp; omega
  have hq1 : 0 < n := by omega
  go_enter Tryd.func108, Tryd.ntmps108
  go_wp2_with (at_make; go_must (refine wpList_make_full _ rfl _ _ 52 rfl w.heap.size 126 i0 (.agg (bcells z32).toArray) 32 Tryd.underlying52 hi hz0 hz1 _ _ _ _ n rfl rfl rfl rfl (by rw [hz2]; omega) (by unfold maxLen; omega) (Nat.le_refl _) ?_))
  intro w1 hown1 hgrow1
  have hbel1 : Below w.heap.size w w1 := (Below.refl _ _).grown hgrow1 (Nat.le_refl _) (fun k h => by cases h)
  rw [made_zero] at hown1
  obtain ⟨hl1, h1⟩ := hown1
  rcases h1 with ⟨h1, _⟩ | ⟨g, cap1, cur, hv, hg1, hg2, hg3, hg4, hg5, hg6⟩
  · simp at h1
  simp only [Value.slice.injEq, Option.some.injEq, Addr.mk.injEq, and_true, true_and] at hv
  obtain ⟨hgB, hcap1⟩ := hv
  rw [← hcap1] at hg5
  rw [← hgB] at hg2
  have hcl : cur.toList.length = n * 32 := by rw [Array.length_toList]; exact hg5
  rw [List.take_of_length_le (by omega)] at hg6
  have HG : Hid (w1.heap[w.heap.size]? = some (.cells (List.replicate (n * 32) (Value.int .u8 0)).toArray 126 (0, 0))) := hide (by rw [← hg6, Array.toArray_toList]; exact hg2)
  clear hl1 hg1 hg2 hg3 hg4 hg5 hg6 hcl hgB hcap1 hgrow1
  have hlt := lt_of_block (unhide HG)
  go_wp2_with fail
  refine (headK_any 0 _ (by decide)).mono ?_
  rintro e w2 ⟨rfl, hb2⟩
  have hbel2 := hbel1.trans (hb2.mono hbel1.size)
  have g2 : w2.heap[w.heap.size]? = some (.cells (List.replicate (n * 32) (Value.int .u8 0)).toArray 126 (0, 0)) := (hb2.block _ hlt).trans (unhide HG)
  have hthere : w2.there w.heap.size 0 (bcells (hd 0)).toArray.size := fun j hj => by
    rw [bcells_size, hd_length] at hj
    refine ⟨?_, frozen_of_row w2 w.heap.size _ _ _ g2⟩
    rw [cell_of_row w2 w.heap.size _ _ _ _ g2, List.getElem?_toArray, List.getElem?_eq_getElem (by simp; omega)]
    rfl
  have hrow := setC_row w.heap.size 126 (bcells (hd 0)) 0 w2 _ g2 (by simp [bcells_length, hd_length]; omega)
  have hcells : List.take 0 (List.replicate (n * 32) (Value.int .u8 0)).toArray.toList ++ bcells (hd 0) ++ List.drop (0 + (bcells (hd 0)).length) (List.replicate (n * 32) (Value.int .u8 0)).toArray.toList = dcells (fmt n) := by
    rw [bcells_length, hd_length]
    exact fmt_cells n
  rw [hcells] at hrow
  have hbel3 : Below w.heap.size w (w2.setCells w.heap.size 0 (bcells (hd 0))) := below_setC (Nat.le_refl _) _ _ hbel2
  have hown3 : (w2.setCells w.heap.size 0 (bcells (hd 0))).ownsRow w.heap.size 126 32 (.slice (some ⟨w.heap.size, 0, none⟩) n n) n (dcells (fmt n)) := by
    have hdl : (dcells (fmt n)).length = n * 32 := by rw [dcells_length _ (fmt_elem n), fmt_length n (by omega)]; omega
    exact ⟨hdl, .inr ⟨w.heap.size, n, _, rfl, Nat.le_refl _, hrow, Nat.le_refl _, by unfold maxLen; omega, by rw [List.size_toArray]; exact hdl, by rw [List.take_of_length_le (Nat.le_of_eq hdl)]⟩⟩
  have HTH := hide hthere
  have HO := hide hown3
  have HB := hide hbel3
  have V := hide (v_sc (hd 0) (hd_length 0))
  clear hthere hown3 hbel3 hrow hcells g2 hb2 hbel2 hbel1
  go_wp2_with ((with_reducible refine at_store ?_); go_must (refine wpList_store_mid rfl 126 _ _ rfl w.heap.size 0 (bcells (hd 0)).toArray (by rfl) (by rfl) (unhide HTH) (unhide V) (bcells_one (hd 0)) ?_))
  generalize w2.setCells w.heap.size 0 (bcells (hd 0)) = W3 at *
  go_wp2
  go_ret2
  exact ⟨rfl, unhide HO, unhide HB⟩

set_option maxRecDepth 100000 in
set_option maxHeartbeats 400000 in
theorem Format_in (n : Nat) (w : World) (h2 : 2 ≤ n) (h3 : n ≤ 300) :
    Calls Tryd.prog 70 #[.int .i64 n] w fun e w' => e = .returned (.tuple #[.slice (some ⟨w.heap.size, 0, none⟩) n n, .int .i64 0]) ∧
      w'.ownsRow w.heap.size 126 32 (.slice (some ⟨w.heap.size, 0, none⟩) n n) n (dcells (fmt n)) ∧ Below w.heap.size w w' := by
  have HF := hide (format_in n w h2 h3)
  go_enter Tryd.func70, Tryd.ntmps70
  go_wp2_with fail
  refine (unhide HF).mono ?_
  rintro e w2 ⟨rfl, hown2, hb2⟩
  go_wp2
  go_ret2
  exact ⟨rfl, hown2, hb2⟩
set_option maxRecDepth 100000 in
set_option maxHeartbeats 400000 in
theorem Format_bad (n : Int) (w : World) (hn : -9223372036854775808 ≤ n ∧ n ≤ 9223372036854775807) (h : n < 2 ∨ 300 < n) :
    Calls Tryd.prog 70 #[.int .i64 n] w fun e w' => e = .returned (.tuple #[.slice none 0 0, .int .i64 6]) ∧ w' = w := by
  have HF := hide (format_bad n w hn h)
  clear h
  go_enter Tryd.func70, Tryd.ntmps70
  go_wp2_with fail
  refine (unhide HF).mono ?_
  rintro e w2 ⟨rfl, rfl⟩
  go_wp2
  go_ret2
  exact ⟨rfl, rfl⟩
end Go.Proofs.YtanfolfopalbeaaDoor
namespace Go.Proofs.YtanfolfopalbeaaDoor
open Go.RowKit

/-- The cells of an item, of a plan. -/
def itcells (x : It) : List Value := [.bool x.fl, .int .i64 (x.at_ : Int)] ++ bcells x.data
def pcells (l : List It) : List Value := l.flatMap itcells
theorem itcells_length (x : It) (h : x.data.length = 32) : (itcells x).length = 34 := by simp [itcells, bcells_length, h]
theorem pcells_length (l : List It) (h : ∀ x ∈ l, x.data.length = 32) : (pcells l).length = 34 * l.length := by
  induction l with
  | nil => rfl
  | cons a r ih =>
    show (itcells a ++ pcells r).length = _
    rw [List.length_append, itcells_length a (h a (by simp)), ih (fun x hx => h x (by simp [hx])), List.length_cons]
    omega
theorem pcells_snoc (l : List It) (x : It) : pcells (l ++ [x]) = pcells l ++ itcells x := by simp [pcells]
theorem itcells_one (x : It) : ∀ u ∈ itcells x, u.oneCell' = true := by
  intro u hu
  simp only [itcells, List.mem_append, List.mem_cons, List.not_mem_nil, or_false] at hu
  rcases hu with (rfl | rfl) | hu
  · rfl
  · rfl
  · exact bcells_one' _ u hu
theorem step_copy_str {P : Program} {ops : Array Oper} {o : Oper} {a : Act} {w : World} {K : Act → World → Prop} {Q : Exit → Act → World → Prop} {E : Prop} (hgd : o.guard = none) (d s : Operand) (dT sT : TypeId)
    (ho : o.op = .call { callee := .builtin .copy, args := #[d, s], argTypes := #[dT, sT] }) (elem : TypeId) (hu : P.underlying dT = some (.slice elem)) (hsz : (P.info? elem).map (·.size) = some 1)
    (g off dLen dCap : Nat) (x : ByteArray) (hd : a.eval d = .slice (some ⟨g, off, none⟩) dLen dCap) (hs : a.eval s = .string x) (n : Nat) (hn : Nat.min x.size dLen = n)
    (cur : Array Value) (t : TypeId) (hg : w.heap[g]? = some (.cells cur t (0, 0))) (hfit : off + n ≤ cur.size) (B : Nat) (w0 : World) (hb : Below B w0 w) (hBg : B ≤ g)
    (h : ∀ w', Hid (w'.heap[g]? = some (.cells (cur.toList.take off ++ bcells (x.data.toList.take n) ++ cur.toList.drop (off + n)).toArray t (0, 0))) → Hid (∀ k, k ≠ g → w'.heap[k]? = w.heap[k]?) → Below B w0 w' → K (a.put o.dst (goInt n)) w') :
    if Region.wanted o (yielded ops a.tmps) = true then Oper.wp P o a w K Q else E := by
  have hw : Region.wanted o (yielded ops a.tmps) = true := by simp [Region.wanted, hgd]
  rw [if_pos hw]
  have hrun := run_copy_str (P := P) w dT sT o.type elem g off dLen dCap x cur t n hn hu hsz hg hfit
  unfold Oper.wp
  simp only [execOp, ho, resolve, invoke, builtin]
  simp [hd, hs, hrun, Result.andThen]
  refine h _ ?_ (fun k hk => setRow_other w g k _ hk) (below_row hb hBg _)
  show _ = _
  rw [← List.append_assoc]
  exact setRow_heap w g _ _ t _ hg
/-- The item that is nothing. -/
def fIt0 : It := ⟨false, 0, z32⟩
theorem info_wr : (Tryd.prog.info? 131).map (fun i => (i.zero, i.size, i.bytes)) = some (some (.agg (itcells fIt0).toArray), 34, 48) := by kernel_rfl

theorem own_same {w w' : World} {B : Nat} {e : TypeId} {s : Nat} {v : Value} {n : Nat} {xs : List Value} (h : w.ownsRow B e s v n xs) (hs : ∀ g, v.ownBlock = some g → w'.heap[g]? = w.heap[g]?) : w'.ownsRow B e s v n xs := by
  obtain ⟨h1, h2⟩ := h
  refine ⟨h1, ?_⟩
  rcases h2 with h2 | ⟨g, cap, cur, rfl, h3, h4, h5⟩
  · exact .inl h2
  · exact .inr ⟨g, cap, cur, rfl, h3, by rw [hs g rfl]; exact h4, h5⟩
theorem fold_set2 (a b : Value) : ∀ (l : List Value) (k : Nat) (cs : Array Value) (pre tail : List Value), cs.toList = a :: b :: (pre ++ tail) → pre.length = k → tail.length = l.length →
    (List.foldl (fun (cs : Array Value) (x : Value × Nat) => cs.setIfInBounds (2 + x.snd) x.fst) cs (l.zipIdx k)).toList = a :: b :: (pre ++ l) := by
  intro l
  induction l with
  | nil =>
    intro k cs pre tail h _ ht
    have : tail = [] := List.length_eq_zero_iff.1 ht
    subst this
    simpa using h
  | cons x l ih =>
    intro k cs pre tail h hk ht
    cases tail with
    | nil => cases ht
    | cons y tail =>
      rw [List.zipIdx_cons, List.foldl_cons]
      have := ih (k + 1) (cs.setIfInBounds (2 + k) x) (pre ++ [x]) tail (by
        rw [Array.toList_setIfInBounds, h, ← hk, Nat.add_comm 2, List.set_cons_succ, List.set_cons_succ, List.set_append_right _ _ (Nat.le_refl _), Nat.sub_self]
        simp) (by simp [hk]) (by simpa using ht)
      rw [this]
      simp
/-- A write, as it is built. -/
theorem fold34 (n : Int) (d : List UInt8) (h : d.length = 32) : List.foldl (fun (cs : Array Value) (x : Value × Nat) => cs.setIfInBounds (2 + x.snd) x.fst) #[.bool false, .int .i64 n, .int .u8 0, .int .u8 0, .int .u8 0, .int .u8 0, .int .u8 0, .int .u8 0, .int .u8 0, .int .u8 0, .int .u8 0, .int .u8 0, .int .u8 0, .int .u8 0, .int .u8 0, .int .u8 0, .int .u8 0, .int .u8 0, .int .u8 0, .int .u8 0, .int .u8 0, .int .u8 0, .int .u8 0, .int .u8 0, .int .u8 0, .int .u8 0, .int .u8 0, .int .u8 0, .int .u8 0, .int .u8 0, .int .u8 0, .int .u8 0, .int .u8 0, .int .u8 0] (bcells d).zipIdx = (Value.bool false :: Value.int .i64 n :: bcells d).toArray := by
  apply Array.ext'
  have := fold_set2 (.bool false) (.int .i64 n) (bcells d) 0 (Value.bool false :: Value.int .i64 n :: bcells z32).toArray [] (bcells z32) (by simp) rfl (by simp [bcells, h, z32])
  exact this
theorem zero34 : (itcells fIt0).toArray = #[.bool false, .int .i64 0, .int .u8 0, .int .u8 0, .int .u8 0, .int .u8 0, .int .u8 0, .int .u8 0, .int .u8 0, .int .u8 0, .int .u8 0, .int .u8 0, .int .u8 0, .int .u8 0, .int .u8 0, .int .u8 0, .int .u8 0, .int .u8 0, .int .u8 0, .int .u8 0, .int .u8 0, .int .u8 0, .int .u8 0, .int .u8 0, .int .u8 0, .int .u8 0, .int .u8 0, .int .u8 0, .int .u8 0, .int .u8 0, .int .u8 0, .int .u8 0, .int .u8 0, .int .u8 0] := rfl
theorem flush34 : (itcells fIt).toArray = #[.bool true, .int .i64 0, .int .u8 0, .int .u8 0, .int .u8 0, .int .u8 0, .int .u8 0, .int .u8 0, .int .u8 0, .int .u8 0, .int .u8 0, .int .u8 0, .int .u8 0, .int .u8 0, .int .u8 0, .int .u8 0, .int .u8 0, .int .u8 0, .int .u8 0, .int .u8 0, .int .u8 0, .int .u8 0, .int .u8 0, .int .u8 0, .int .u8 0, .int .u8 0, .int .u8 0, .int .u8 0, .int .u8 0, .int .u8 0, .int .u8 0, .int .u8 0, .int .u8 0, .int .u8 0] := rfl
/-- The row of one item, as it is built. -/
theorem fold_row (y : List Value) (h : y.length = 34) : List.foldl (fun (cs : Array Value) (x : Value × Nat) => cs.setIfInBounds x.snd x.fst) (itcells fIt0).toArray y.zipIdx = y.toArray := by
  apply Array.ext'
  have := fold_set y 0 (itcells fIt0).toArray [] (itcells fIt0) (by simp) rfl (by rw [h]; rfl)
  rw [this]
  simp
theorem news_row (w : World) (y : List Value) (t : TypeId) (g : Nat) (hg : w.heap.size = g) : ∀ j u, y[j]? = some u → (w.alloc (.cells y.toArray t)).cell? ((⟨g, 0, none⟩ : Addr).add j) = some u := by
  intro j u hu
  subst hg
  rw [add_none, Nat.zero_add, cell_of_row _ w.heap.size j _ _ _ (heap_alloc_new w _)]
  simpa using hu
theorem info_wrs : (Tryd.prog.info? 131).map (·.size) = some 34 := by kernel_rfl
/-- The items that a plan has so far. -/
def bodyK (d : List (List UInt8)) (text : List UInt8) (a k : Nat) : List It := (List.range' (1 + a / 32) k).map (wIt d text)
theorem bodyK_succ (d : List (List UInt8)) (text : List UInt8) (a k : Nat) : bodyK d text a (k + 1) = bodyK d text a k ++ [wIt d text (a / 32 + k + 1)] := by
  unfold bodyK
  rw [List.range'_1_concat, List.map_append, show 1 + a / 32 + k = a / 32 + k + 1 by omega]
  rfl
theorem bodyK_length (d : List (List UInt8)) (text : List UInt8) (a k : Nat) : (bodyK d text a k).length = k := by simp [bodyK]
theorem ov_cells (s t : List UInt8) (n : Nat) (hn : n = min t.length 32) : bcells (t.take n) ++ (bcells s).drop n = bcells (ov s t) := by
  unfold ov
  rw [bcells_append]
  have e : t.take n = t.take 32 := by
    rw [hn]
    by_cases h : t.length ≤ 32
    · rw [Nat.min_eq_left h, List.take_of_length_le (Nat.le_refl _), List.take_of_length_le h]
    · rw [Nat.min_eq_right (by omega)]
  have el : (t.take 32).length = n := by rw [List.length_take]; omega
  rw [e, el]
  unfold bcells
  rw [List.map_drop]

set_option maxRecDepth 100000 in
set_option maxHeartbeats 1600000 in
theorem plan_any (v : Value) (ds : List (List UInt8)) (A M : ByteArray) (c : Nat) (w : World) (hD : Digs w v ds) (h2 : 2 ≤ ds.length) (h3 : ds.length ≤ 300) (hr : A.size + M.size ≤ 32 * (ds.length - 1)) (hc : c < 256) :
    Calls Tryd.prog 114 #[v, .string A, .string M, .int .i64 c] w fun e w' => ∃ v', e = .returned v' ∧
      w'.ownsRow w.heap.size 131 34 v' (planL ds A.data.toList M.data.toList c).length (pcells (planL ds A.data.toList M.data.toList c)) ∧ Below w.heap.size w w' := by
  obtain ⟨b, off, cap, hv, hcap, _⟩ := digs_shape hD (by omega)
  subst hv
  obtain ⟨i0, hi, hz0, hz1, hz2⟩ := info_parts info_wr
  have hTd : (A ++ M).data.toList = A.data.toList ++ M.data.toList := by rw [ByteArray.data_append, Array.toList_append]
  have hTs : (A ++ M).size = A.size + M.size := ByteArray.size_append
  have hAl : A.data.toList.length = A.size := rfl
  have HPL := hide (show planL ds A.data.toList M.data.toList c = bodyK ds (A ++ M).data.toList A.size (nW A.size (A ++ M).size) ++ [fIt, hIt c, fIt] by rw [hTd, ← hAl]; rfl)
  have hnW : nW A.size (A ++ M).size = ((A ++ M).size + 31) / 32 - A.size / 32 := rfl
  have HD := hide hD
  clear hD hTd
  generalize hTe : A ++ M = T at *
  have hTe2 : A ++ M = T := hTe
  have HTE := hide hTe
  have hT1 : T.size ≤ 32 * (ds.length - 1) := by omega
  have hT2 : A.size ≤ T.size := by omega
  clear hTe
  go_enter Tryd.func114, Tryd.ntmps114
  go_wp2
  clear hTs hr
  go_loopw [10, 11] (fun iv at_ wr => ∃ k : Nat, k ≤ nW A.size T.size ∧ at_ = .int .i64 (((A.size / 32 + k : Nat) : Int) + 1) ∧ wr.ownsRow w.heap.size 131 34 iv k (pcells (bodyK ds T.data.toList A.size k)) ∧ Below w.heap.size w wr) (fun _ at_ _ => 100000 - (intOf at_).toNat)
  case atStart => exact ⟨0, Nat.zero_le _, val_int (by omega), World.ownsRow_nil _ _ _ _, Below.refl _ _⟩
  case round =>
    obtain ⟨k, hk, rfl, hown, hbel⟩ := hrel
    have hszr := hbel.size
    have HBS := hide (bodyK_succ ds T.data.toList A.size k)
    have HBL := hide (bodyK_length ds T.data.toList A.size k)
    by_cases hlt : k < nW A.size T.size
    · have hql : A.size / 32 + k + 1 < ds.length := by omega
      have hqt : (A.size / 32 + k) * 32 < T.size := by omega
      have hqk : A.size / 32 + k = A.size / 32 + k := rfl
      have hr1 := rangeAt_below (digs_at (unhide HD) _ hql) hbel (Nat.le_refl _)
      have hdl := digs_len (unhide HD) _ hql
      have HWI := hide (show wIt ds T.data.toList (A.size / 32 + k + 1) = ⟨false, A.size / 32 + k + 1, ov (ds.getD (A.size / 32 + k + 1) []) (T.data.toList.drop ((A.size / 32 + k) * 32))⟩ from rfl)
      generalize hqe : A.size / 32 + k = q at *
      generalize ds.getD (q + 1) [] = d at *
      have hd1 : decide ((q : Int) + 1 < (ds.length : Int)) = true := by simp; omega
      have hd2 : decide ((q : Int) * 32 < (T.size : Int)) = true := by simp; omega
      have hka : (0 : Int) ≤ (q : Int) + 1 := by omega
      have hkb : (q : Int) + 1 < (ds.length : Int) := by omega
      have f0 : (0 : Int) ≤ (q : Int) * 32 := by omega
      have f1 : (q : Int) * 32 ≤ (T.size : Int) := by omega
      have f2 : ((q : Int) * 32).toNat = q * 32 := by omega
      have f3 : IntKind.i64.wrap ((q : Int) * 32) = (q : Int) * 32 := i64w _ (by omega)
      have f4 : IntKind.i64.wrap (q : Int) = (q : Int) := i64w _ (by omega)
      have f5 : ((q : Int) + 1).toNat = q + 1 := by omega
      have HR := hide hr1
      have VM := hide (v_scm d hdl)
      have VS := hide (v_sc d hdl)
      have VZ := hide (v_z32 d hdl)
      clear hr1
      go_upto_region 7 with (first | ((with_reducible refine at_load ?_); go_must (refine wpList_load_mid rfl 126 _ rfl b (off + (q + 1) * 32) (by rfl) (bcells d) _ (unhide HR) Tryd.underlying126 rfl (unhide VM) ?_)) | ((with_reducible refine at_store ?_); go_must (refine wpList_store_row rfl 126 _ _ rfl wr.heap.size (bcells d).toArray rfl rfl 126 _ (heap_alloc_new wr _) (unhide VS) (unhide VZ) (bcells_one d) ?_)))
      rw [← z32_cells]
      have hbA : Below w.heap.size w ((wr.alloc (.cells (bcells z32).toArray 126)).setRow wr.heap.size (bcells d).toArray) := below_row (hbel.alloc hszr _) hszr _
      have hgA : ((wr.alloc (.cells (bcells z32).toArray 126)).setRow wr.heap.size (bcells d).toArray).heap[wr.heap.size]? = some (.cells (bcells d).toArray 126 (0, 0)) := heap_put_new _ _ _ _
      have hoA := own_keep hown (below_put wr (bcells z32).toArray (bcells d).toArray 126)
      have hne : ∀ g, u10.ownBlock = some g → g ≠ wr.heap.size := fun g hg => by have := (hown.lt g hg).2; omega
      generalize ((wr.alloc (.cells (bcells z32).toArray 126)).setRow wr.heap.size (bcells d).toArray) = WA at hbA hgA hoA ⊢
      have hxs : (T.extract (q * 32) T.size).size = T.size - q * 32 := by simp
      have hxd : (T.extract (q * 32) T.size).data.toList = T.data.toList.drop (q * 32) := extract_mk_drop T _
      have hTl : T.data.toList.length = T.size := rfl
      obtain ⟨n, hn⟩ : ∃ n, n = min (T.size - q * 32) 32 := ⟨_, rfl⟩
      have hcn : Nat.min (T.extract (q * 32) T.size).size 32 = n := by rw [hxs, hn]
      have hfit : 0 + n ≤ (bcells d).toArray.size := by rw [bcells_size, hdl]; omega
      have HOV := hide (show List.take 0 (bcells d).toArray.toList ++ bcells (List.take n (T.extract (q * 32) T.size).data.toList) ++ List.drop (0 + n) (bcells d).toArray.toList = bcells (ov d (T.data.toList.drop (q * 32))) by
        rw [hxd, List.take_zero, List.nil_append, Nat.zero_add]
        exact ov_cells d (T.data.toList.drop (q * 32)) n (by rw [List.length_drop]; omega))
      have hol := ov_length d (T.data.toList.drop (q * 32)) hdl
      generalize ov d (T.data.toList.drop (q * 32)) = x at HWI HOV hol
      have HGA := hide (show WA.drew.heap[wr.heap.size]? = some (.cells (bcells d).toArray 126 (0, 0)) from hgA)
      have HBA := hide hbA.drew
      have HOA := hide hoA.drew
      have HNE := hide hne
      clear hgA hbA hoA hne hown hbel HR VM VS VZ hxd
      go_wp2_with fail
      refine wp_region_held_drew (S := fun _ => True) (by kernel_rfl) trivial (fun hHeld => ?_)
      refine wpAnyH_take (i := 0) (v := .slice (some ⟨wr.heap.size, 0, none⟩) 32 32) rfl (by kernel_rfl) (by kernel_rfl) (by kernel_rfl) (fun _ _ _ h => h) (Or.inl ⟨by rfl, fun _ _ => by go_simp⟩) hHeld ?_
      simp only [List.getElem_toArray, List.getElem_cons_zero, Act.put, List.setIfInBounds_toArray, List.set_cons_zero, List.set_cons_succ]
      refine wpAnyH_take (i := 1) (v := .string T) rfl (by kernel_rfl) (by kernel_rfl) (by kernel_rfl) (fun _ _ _ h => h) (Or.inl ⟨by rfl, fun _ _ => by go_simp⟩) hHeld ?_
      simp only [List.getElem_toArray, List.getElem_cons_zero, List.getElem_cons_succ, Act.put, List.setIfInBounds_toArray, List.set_cons_zero, List.set_cons_succ]
      refine wpAnyH_take (i := 2) (v := .int .i64 ((q : Int) + 1)) rfl (by kernel_rfl) (by kernel_rfl) (by kernel_rfl) (fun _ _ _ h => h) (Or.inl ⟨by rfl, fun _ _ => by go_simp⟩) hHeld ?_
      simp only [List.getElem_toArray, List.getElem_cons_zero, List.getElem_cons_succ, Act.put, List.setIfInBounds_toArray, List.set_cons_zero, List.set_cons_succ]
      refine wpAnyH_take (i := 3) (v := .int .i64 (q : Int)) rfl (by kernel_rfl) (by kernel_rfl) (by kernel_rfl) (fun _ _ _ h => h) (Or.inl ⟨by rfl, fun _ _ => by go_simp⟩) hHeld ?_
      simp only [List.getElem_toArray, List.getElem_cons_zero, List.getElem_cons_succ, Act.put, List.setIfInBounds_toArray, List.set_cons_zero, List.set_cons_succ]
      refine wpAnyH_take (i := 4) (v := .int .i64 ((q : Int) * 32)) rfl (by kernel_rfl) (by kernel_rfl) (by kernel_rfl) (fun _ _ _ h => h) (Or.inl ⟨by rfl, fun _ _ => by go_simp⟩) hHeld ?_
      simp only [List.getElem_toArray, List.getElem_cons_zero, List.getElem_cons_succ, Act.put, List.setIfInBounds_toArray, List.set_cons_zero, List.set_cons_succ]
      refine wpAnyH_take (i := 5) (v := .string (T.extract (q * 32) T.size)) rfl (by kernel_rfl) (by kernel_rfl) (by kernel_rfl) (fun _ _ _ h => h) (Or.inl ⟨by rfl, fun _ _ => by go_simp⟩) hHeld ?_
      simp only [List.getElem_toArray, List.getElem_cons_zero, List.getElem_cons_succ, Act.put, List.setIfInBounds_toArray, List.set_cons_zero, List.set_cons_succ]
      refine wpAnyH_ready (rs := [6]) (by kernel_rfl) (by simp) ?_
      refine AllReadyH.cons rfl (fun K hK => ?_) AllReadyH.nil
      refine step_copy_str rfl (.tmp 38) (.tmp 43) 45 9 rfl 5 Tryd.underlying45 info_u8s wr.heap.size 0 32 32 (T.extract (q * 32) T.size) rfl rfl n hcn (bcells d).toArray 126 (unhide HGA) hfit w.heap.size w (unhide HBA) hszr ?_
      intro wB HGB HKB hbB
      refine hK.out _ _ trivial (fun _ => ?_)
      clear hK K
      refine wpAnyH_done (by kernel_rfl) ?_ _
      have GB := hide (show wB.heap[wr.heap.size]? = some (.cells (bcells x).toArray 126 (0, 0)) by rw [unhide HGB, unhide HOV])
      have OB := hide (show wB.ownsRow w.heap.size 131 34 u10 k (pcells (bodyK ds T.data.toList A.size k)) from own_same (unhide HOA) (fun g hg => unhide HKB g (unhide HNE g hg)))
      have VX := hide (v_sc x hol)
      clear HGB HKB HOV HOA HGA HBA hHeld hfit hcn
      have hfold := fold34 ((q : Int) + 1) x hol
      have HY := hide (show itcells (wIt ds T.data.toList (q + 1)) = Value.bool false :: Value.int .i64 ((q : Int) + 1) :: bcells x by rw [unhide HWI]; rfl)
      have hyl : (Value.bool false :: Value.int .i64 ((q : Int) + 1) :: bcells x).length = 34 := by simp [bcells_length, hol]
      have HY1 := hide (show ∀ u ∈ (Value.bool false :: Value.int .i64 ((q : Int) + 1) :: bcells x), u.oneCell' = true by rw [← unhide HY]; exact itcells_one _)
      generalize (Value.bool false :: Value.int .i64 ((q : Int) + 1) :: bcells x) = y at hfold HY hyl HY1
      have HFR := hide (fold_row y hyl)
      have hxl : (bcells x).length = 32 := by rw [bcells_length, hol]
      have HKL := hide hk
      clear HWI hol hk
      go_wp2_with (first | ((with_reducible refine at_load ?_); go_must (refine wpList_load_row rfl 126 _ rfl wr.heap.size (by rfl) 126 (bcells x).toArray (0, 0) _ (unhide GB) Tryd.underlying126 rfl (unhide VX) ?_)) | (at_builtin; rw [← zero34, unhide HFR]; go_must (refine wpList_append_own _ rfl (.tmp 45) (.tmp 49) 54 rfl w.heap.size 131 i0 (.agg (itcells fIt0).toArray) 34 48 Tryd.underlying54 hi hz0 hz1 hz2 rfl (by decide) _ _ _ rfl ((unhide OB).alloc _) ⟨wB.heap.size, 0, none⟩ 1 1 y rfl (by rw [hyl]) (news_row wB y _ _ rfl) (unhide HY1) ?c3 ?c4 ?c5 ?_)))
      case c3 => have := unhide HKL; unfold maxLen; omega
      case c4 => have := unhide HKL; omega
      case c5 => have := hbB.size; simp; omega
      intro v3 w3 hown3 hgrow3 _
      have hbel3 : Below w.heap.size w w3 := (hbB.alloc hbB.size _).grown hgrow3 (by have := hbB.size; simp; omega) (own_row_ge (unhide OB))
      clear hgrow3 hbB OB GB hfold HFR
      go_wp2
      go_roundw
      case rel =>
        refine ⟨k + 1, by omega, val_int (by omega), ?_, hbel3⟩
        rw [unhide HBS, pcells_snoc, unhide HY]
        exact hown3
      case measure => simp [intOf]; omega
    · have hkk : k = nW A.size T.size := by omega
      have HE := hide (show bodyK ds T.data.toList A.size (nW A.size T.size) = bodyK ds T.data.toList A.size k by rw [hkk])
      have hqt : T.size ≤ (A.size / 32 + k) * 32 := by omega
      have hkm : k ≤ 300 := by omega
      clear hkk HBS
      generalize A.size / 32 + k = q at *
      have hd2 : decide ((q : Int) * 32 < (T.size : Int)) = false := by simp; omega
      by_cases hql : q + 1 < ds.length
      · have hd1 : decide ((q : Int) + 1 < (ds.length : Int)) = true := by simp; omega
        go_wp2_with (at_builtin; go_must (rw [← flush34]); go_must (refine wpList_append_own _ rfl (.tmp 51) (.tmp 53) 54 rfl w.heap.size 131 i0 (.agg (itcells fIt0).toArray) 34 48 Tryd.underlying54 hi hz0 hz1 hz2 rfl (by decide) _ _ _ rfl (hown.alloc _) ⟨wr.heap.size, 0, none⟩ 1 1 (itcells fIt) rfl rfl (news_row wr _ _ _ rfl) (itcells_one fIt) ?c3 ?c4 ?c5 ?_))
        case c3 => unfold maxLen; omega
        case c4 => omega
        case c5 => simp; omega
        intro v3 w3 hown3 hgrow3 _
        have hbel3 : Below w.heap.size w w3 := (hbel.alloc hszr _).grown hgrow3 (by simp; omega) (own_row_ge hown)
        clear hgrow3 hown hbel
        go_wp2_with fail
        refine (headK_any c _ hc).mono ?_
        rintro e w4 ⟨rfl, hb4⟩
        have hbel4 := hbel3.trans (hb4.mono hbel3.size)
        have hown4 := own_keep hown3 hb4
        have hfold := fold34 0 (hd c) (hd_length c)
        have HY := hide (show itcells (hIt c) = Value.bool false :: Value.int .i64 0 :: bcells (hd c) from rfl)
        have hyl : (Value.bool false :: Value.int .i64 0 :: bcells (hd c)).length = 34 := rfl
        have HY1 := hide (show ∀ u ∈ (Value.bool false :: Value.int .i64 0 :: bcells (hd c)), u.oneCell' = true from itcells_one (hIt c))
        have hxl : (bcells (hd c)).length = 32 := rfl
        have hszr4 := hbel4.size
        generalize (Value.bool false :: Value.int .i64 0 :: bcells (hd c)) = y at hfold HY hyl HY1
        generalize bcells (hd c) = hb at hfold hxl ⊢
        have HFR := hide (fold_row y hyl)
        clear hb4 hown3 hbel3
        go_wp2_with (at_builtin; go_must (rw [← zero34, unhide HFR]); go_must (refine wpList_append_own _ rfl (.tmp 55) (.tmp 59) 54 rfl w.heap.size 131 i0 (.agg (itcells fIt0).toArray) 34 48 Tryd.underlying54 hi hz0 hz1 hz2 rfl (by decide) _ _ _ rfl (hown4.alloc _) ⟨w4.heap.size, 0, none⟩ 1 1 y rfl (by rw [hyl]) (news_row w4 y _ _ rfl) (unhide HY1) ?d3 ?d4 ?d5 ?_))
        case d3 => unfold maxLen; omega
        case d4 => omega
        case d5 => simp; omega
        intro v5 w5 hown5 hgrow5 _
        have hbel5 : Below w.heap.size w w5 := (hbel4.alloc hszr4 _).grown hgrow5 (by simp; omega) (own_row_ge hown4)
        have hszr5 := hbel5.size
        clear hgrow5 hown4 hbel4 hfold HFR HY1 hxl
        go_wp2_with (at_builtin; go_must (rw [← flush34]); go_must (refine wpList_append_own _ rfl (.tmp 61) (.tmp 63) 54 rfl w.heap.size 131 i0 (.agg (itcells fIt0).toArray) 34 48 Tryd.underlying54 hi hz0 hz1 hz2 rfl (by decide) _ _ _ rfl (hown5.alloc _) ⟨w5.heap.size, 0, none⟩ 1 1 (itcells fIt) rfl rfl (news_row w5 _ _ _ rfl) (itcells_one fIt) ?e3 ?e4 ?e5 ?_))
        case e3 => unfold maxLen; omega
        case e4 => omega
        case e5 => simp; omega
        intro v6 w6 hown6 hgrow6 _
        have hbel6 : Below w.heap.size w w6 := (hbel5.alloc hszr5 _).grown hgrow6 (by simp; omega) (own_row_ge hown5)
        clear hgrow6 hown5 hbel5
        go_wp2
        go_ret
        refine ⟨_, rfl, ?_, hbel6⟩
        rw [unhide HPL, unhide HE, List.length_append, unhide HBL, show bodyK ds T.data.toList A.size k ++ [fIt, hIt c, fIt] = ((bodyK ds T.data.toList A.size k ++ [fIt]) ++ [hIt c]) ++ [fIt] by simp, pcells_snoc, pcells_snoc, pcells_snoc, unhide HY, List.append_assoc, List.append_assoc]
        exact hown6
      · have hd1 : decide ((q : Int) + 1 < (ds.length : Int)) = false := by simp; omega
        go_wp2_with (at_builtin; go_must (rw [← flush34]); go_must (refine wpList_append_own _ rfl (.tmp 51) (.tmp 53) 54 rfl w.heap.size 131 i0 (.agg (itcells fIt0).toArray) 34 48 Tryd.underlying54 hi hz0 hz1 hz2 rfl (by decide) _ _ _ rfl (hown.alloc _) ⟨wr.heap.size, 0, none⟩ 1 1 (itcells fIt) rfl rfl (news_row wr _ _ _ rfl) (itcells_one fIt) ?f3 ?f4 ?f5 ?_))
        case f3 => unfold maxLen; omega
        case f4 => omega
        case f5 => simp; omega
        intro v3 w3 hown3 hgrow3 _
        have hbel3 : Below w.heap.size w w3 := (hbel.alloc hszr _).grown hgrow3 (by simp; omega) (own_row_ge hown)
        clear hgrow3 hown hbel
        go_wp2_with fail
        refine (headK_any c _ hc).mono ?_
        rintro e w4 ⟨rfl, hb4⟩
        have hbel4 := hbel3.trans (hb4.mono hbel3.size)
        have hown4 := own_keep hown3 hb4
        have hfold := fold34 0 (hd c) (hd_length c)
        have HY := hide (show itcells (hIt c) = Value.bool false :: Value.int .i64 0 :: bcells (hd c) from rfl)
        have hyl : (Value.bool false :: Value.int .i64 0 :: bcells (hd c)).length = 34 := rfl
        have HY1 := hide (show ∀ u ∈ (Value.bool false :: Value.int .i64 0 :: bcells (hd c)), u.oneCell' = true from itcells_one (hIt c))
        have hxl : (bcells (hd c)).length = 32 := rfl
        have hszr4 := hbel4.size
        generalize (Value.bool false :: Value.int .i64 0 :: bcells (hd c)) = y at hfold HY hyl HY1
        generalize bcells (hd c) = hb at hfold hxl ⊢
        have HFR := hide (fold_row y hyl)
        clear hb4 hown3 hbel3
        go_wp2_with (at_builtin; go_must (rw [← zero34, unhide HFR]); go_must (refine wpList_append_own _ rfl (.tmp 55) (.tmp 59) 54 rfl w.heap.size 131 i0 (.agg (itcells fIt0).toArray) 34 48 Tryd.underlying54 hi hz0 hz1 hz2 rfl (by decide) _ _ _ rfl (hown4.alloc _) ⟨w4.heap.size, 0, none⟩ 1 1 y rfl (by rw [hyl]) (news_row w4 y _ _ rfl) (unhide HY1) ?g3 ?g4 ?g5 ?_))
        case g3 => unfold maxLen; omega
        case g4 => omega
        case g5 => simp; omega
        intro v5 w5 hown5 hgrow5 _
        have hbel5 : Below w.heap.size w w5 := (hbel4.alloc hszr4 _).grown hgrow5 (by simp; omega) (own_row_ge hown4)
        have hszr5 := hbel5.size
        clear hgrow5 hown4 hbel4 hfold HFR HY1 hxl
        go_wp2_with (at_builtin; go_must (rw [← flush34]); go_must (refine wpList_append_own _ rfl (.tmp 61) (.tmp 63) 54 rfl w.heap.size 131 i0 (.agg (itcells fIt0).toArray) 34 48 Tryd.underlying54 hi hz0 hz1 hz2 rfl (by decide) _ _ _ rfl (hown5.alloc _) ⟨w5.heap.size, 0, none⟩ 1 1 (itcells fIt) rfl rfl (news_row w5 _ _ _ rfl) (itcells_one fIt) ?h3 ?h4 ?h5 ?_))
        case h3 => unfold maxLen; omega
        case h4 => omega
        case h5 => simp; omega
        intro v6 w6 hown6 hgrow6 _
        have hbel6 : Below w.heap.size w w6 := (hbel5.alloc hszr5 _).grown hgrow6 (by simp; omega) (own_row_ge hown5)
        clear hgrow6 hown5 hbel5
        go_wp2
        go_ret
        refine ⟨_, rfl, ?_, hbel6⟩
        rw [unhide HPL, unhide HE, List.length_append, unhide HBL, show bodyK ds T.data.toList A.size k ++ [fIt, hIt c, fIt] = ((bodyK ds T.data.toList A.size k ++ [fIt]) ++ [hIt c]) ++ [fIt] by simp, pcells_snoc, pcells_snoc, pcells_snoc, unhide HY, List.append_assoc, List.append_assoc]
        exact hown6
end Go.Proofs.YtanfolfopalbeaaDoor
namespace Go.Proofs.YtanfolfopalbeaaDoor
open Go.RowKit

theorem rd_facts : ∀ (f k v : Nat) (l : List UInt8), k ≤ 100 → (rd f k v l).1.length + k ≤ 100 ∧ (∀ e ∈ (rd f k v l).1, e.length ≤ 20) ∧ (rd f k v l).2.1 ≤ 4 ∧ (rd f k v l).2.2 ≤ 100 := by
  intro f
  induction f with
  | zero => intro k v l hk; exact ⟨by simpa [rd] using hk, by simp [rd], by simp [rd], by simp [rd]⟩
  | succ f ih =>
    intro k v l hk
    by_cases hl : l = []
    · subst hl
      rw [rd_end]
      exact ⟨by simpa using hk, by simp, by simp, by simp⟩
    · by_cases h1 : k = 100
      · subst h1
        rw [rd_full f v l hl]
        exact ⟨by simp, by simp, by simp, by simp⟩
      · by_cases he : rfErr l v = 0
        · rw [rd_step f k v l hl h1 he]
          obtain ⟨a, b, c, d⟩ := ih (k + 1) (rfLnk l v) (l.drop (3 + (rfEnt l v).length)) (by omega)
          refine ⟨by simp only [List.length_cons]; omega, ?_, c, d⟩
          intro e hm
          rcases List.mem_cons.1 hm with rfl | hm
          · exact (rfEnt_le l v).1
          · exact b e hm
        · rw [rd_bad f k v l hl h1 he]
          exact ⟨by simpa using hk, by simp, rfErr_le l v, hk⟩
theorem rdOld_facts (l : List UInt8) : (rdOld l).1.length ≤ 100 ∧ (∀ e ∈ (rdOld l).1, e.length ≤ 20) ∧ (rdOld l).2.1 ≤ 4 ∧ (rdOld l).2.2 ≤ 100 := by
  unfold rdOld
  split
  · exact ⟨by simp, by simp, by simp, by simp⟩
  · have := rd_facts l.length 0 0 l (by omega)
    exact ⟨by omega, this.2.1, this.2.2.1, this.2.2.2⟩
/-- How far a batch goes. -/
def goesTo (k b n : Nat) : Nat := min (k + b) n
/-- The entries of the next batch. -/
def nextB (rs : List (List UInt8)) (k b : Nat) : List (List UInt8) := (rs.drop k).take (goesTo k b rs.length - k)
/-- What Step answers of a disk with entries es and of an old log that reads as r: the plan, the error, the number. -/
def stepOf (r : List (List UInt8) × Nat × Nat) (d es : List (List UInt8)) (b : Nat) : List It × Nat × Nat :=
  if r.2.1 = 1 ∨ (r.2.1 ≠ 0 ∧ r.2.2 < es.length + b) then ([], r.2.1, r.2.2)
  else if r.1.length ≤ es.length then ([], 8, 0)
  else if 32 * (d.length - 1) < (wb es).length + (wb (nextB r.1 es.length b)).length then ([], 9, 0)
  else (planL d (wb es) (wb (nextB r.1 es.length b)) (goesTo es.length b r.1.length), 0, 0)
/-- What Step answers. -/
def stepR (l : List UInt8) (d : List (List UInt8)) (b : Int) : List It × Nat × Nat :=
  if (dEnt d).2 ≠ 0 then ([], 6, 0) else if b < 1 ∨ 100 < b then ([], 7, 0) else stepOf (rdOld l) d (dEnt d).1 b.toNat
theorem Strs.mid {w : World} {b off cap n : Nat} {ss : List ByteArray} (h : Strs w (.slice (some ⟨b, off, none⟩) n cap) ss) (k m : Nat) (hk : k + m ≤ n) : Strs w (.slice (some ⟨b, off + k, none⟩) m (cap - k)) ((ss.drop k).take m) :=
  (h.back k (by omega)).front m (by omega)
theorem map_mk_mid (rs : List (List UInt8)) (k m : Nat) : ((rs.map mk).drop k).take m = ((rs.drop k).take m).map mk := by rw [List.map_take, List.map_drop]

set_option maxRecDepth 100000 in
set_option maxHeartbeats 400000 in
theorem step_disk (s : ByteArray) (v : Value) (ds : List (List UInt8)) (bt : Int) (w : World) (hD : Digs w v ds) (h6 : (dEnt ds).2 = 6) :
    Calls Tryd.prog 82 #[.string s, v, .int .i64 bt] w fun e w' => e = .returned (.tuple #[.slice none 0 0, .int .i64 6, .int .i64 0]) ∧ Below w.heap.size w w' := by
  have HE := hide (ents_any v ds w hD)
  rw [h6] at HE
  clear h6 hD
  go_enter Tryd.func82, Tryd.ntmps82
  go_wp2_with fail
  refine (unhide HE).mono ?_
  rintro e w1 ⟨v1, rfl, hown1, hb1⟩
  go_wp2
  go_ret3
  exact ⟨rfl, hb1⟩

set_option maxRecDepth 100000 in
set_option maxHeartbeats 400000 in
theorem step_batch (s : ByteArray) (v : Value) (ds : List (List UInt8)) (bt : Int) (w : World) (hD : Digs w v ds) (h0 : (dEnt ds).2 = 0) (hb : bt < 1 ∨ 100 < bt) :
    Calls Tryd.prog 82 #[.string s, v, .int .i64 bt] w fun e w' => e = .returned (.tuple #[.slice none 0 0, .int .i64 7, .int .i64 0]) ∧ Below w.heap.size w w' := by
  have HE := hide (ents_any v ds w hD)
  rw [h0] at HE
  clear h0 hD
  by_cases h1 : bt < 1
  · have hd1 : decide (bt < 1) = true := by simp; omega
    go_enter Tryd.func82, Tryd.ntmps82
    go_wp2_with fail
    refine (unhide HE).mono ?_
    rintro e w1 ⟨v1, rfl, hown1, hb1⟩
    go_wp2
    go_ret3
    exact ⟨rfl, hb1⟩
  · have hd1 : decide (bt < 1) = false := by simp; omega
    have hd2 : decide (100 < bt) = true := by simp; omega
    go_enter Tryd.func82, Tryd.ntmps82
    go_wp2_with fail
    refine (unhide HE).mono ?_
    rintro e w1 ⟨v1, rfl, hown1, hb1⟩
    go_wp2
    go_ret3
    exact ⟨rfl, hb1⟩

set_option maxRecDepth 100000 in
set_option maxHeartbeats 3200000 in
theorem step_in (s : ByteArray) (v : Value) (ds es : List (List UInt8)) (bt : Nat) (w : World) (hm : s.size ≤ maxLen) (hD : Digs w v ds) (hE : dEnt ds = (es, 0)) (hst : Std ds es) (hb1 : 1 ≤ bt) (hb2 : bt ≤ 100) :
    Calls Tryd.prog 82 #[.string s, v, .int .i64 bt] w fun e w' => ∃ v', e = .returned (.tuple #[v', .int .i64 (stepOf (rdOld s.data.toList) ds es bt).2.1, .int .i64 (stepOf (rdOld s.data.toList) ds es bt).2.2]) ∧
      w'.ownsRow w.heap.size 131 34 v' (stepOf (rdOld s.data.toList) ds es bt).1.length (pcells (stepOf (rdOld s.data.toList) ds es bt).1) ∧ Below w.heap.size w w' := by
  have HE := hide (ents_any v ds w hD)
  rw [hE] at HE
  have HRD := hide (fun wq => read_any s wq hm)
  obtain ⟨hr1, hr2, hr3, hr4⟩ := rdOld_facts s.data.toList
  have hn2 := hst.n2
  have hn3 := hst.n300
  have hfe := hst.few
  have HSM := hide (mk_small hst.small)
  have hwl := wb_length_le es hst.small
  have HD := hide (fun wq hb => hD.below (w' := wq) (B := w.heap.size) hb (Nat.le_refl _))
  obtain ⟨b, off, cap, hv, _, _⟩ := digs_shape hD (by omega)
  subst hv
  generalize rdOld s.data.toList = R at HRD hr1 hr2 hr3 hr4 ⊢
  obtain ⟨rs, er, nu⟩ := R
  simp only at hr1 hr2 hr3 hr4 HRD ⊢
  have HRS := hide hr2
  have hd1 : decide ((bt : Int) < 1) = false := by simp; omega
  have hd2 : decide ((100 : Int) < (bt : Int)) = false := by simp; omega
  clear hE hst hD hr2
  go_enter Tryd.func82, Tryd.ntmps82
  go_wp2_with fail
  refine (unhide HE).mono ?_
  rintro e w1 ⟨v1, rfl, hown1, hbel1⟩
  obtain ⟨ao1, cap1, hv1⟩ := own_shape hown1
  subst hv1
  have S1 := hide (strs_of_own (ss := es.map mk) (by simpa using hown1))
  clear HE hown1
  go_wp2_with fail
  refine (unhide HRD _).mono ?_
  rintro e w2 ⟨v2, rfl, hown2, hb2'⟩
  obtain ⟨ao2, cap2, hv2⟩ := own_shape hown2
  subst hv2
  have hbel2 := hbel1.trans (hb2'.mono hbel1.size)
  have S2 := hide ((unhide S1).below hb2' (Nat.le_refl _))
  have hR2 := strs_of_own (ss := rs.map mk) (by simpa using hown2)
  clear HRD S1 hown2 hb2' hbel1
  by_cases hbad : er = 1 ∨ (er ≠ 0 ∧ nu < es.length + bt)
  · have HST := hide (show stepOf (rs, er, nu) ds es bt = ([], er, nu) by unfold stepOf; rw [if_pos hbad])
    by_cases he1 : er = 1
    · have hx1 : ((er : Int) == 1) = true := by rw [beq_iff_eq]; omega
      clear hbad he1
      go_wp2
      go_ret3
      rw [unhide HST]
      exact ⟨_, rfl, World.ownsRow_nil _ _ _ _, hbel2⟩
    · have hx1 : ((er : Int) == 1) = false := by rw [beq_eq_false_iff_ne]; omega
      have hx2 : ((er : Int) != 0) = true := by rw [bne_iff_ne]; omega
      have hx3 : decide ((nu : Int) < (es.length : Int) + (bt : Int)) = true := by simp; omega
      clear hbad he1
      go_wp2
      go_ret3
      rw [unhide HST]
      exact ⟨_, rfl, World.ownsRow_nil _ _ _ _, hbel2⟩
  · by_cases hdone : rs.length ≤ es.length
    · have HST := hide (show stepOf (rs, er, nu) ds es bt = ([], 8, 0) by unfold stepOf; rw [if_neg hbad, if_pos hdone])
      have hx4 : decide ((rs.length : Int) ≤ (es.length : Int)) = true := by simp; omega
      have hx1 : ((er : Int) == 1) = false := by rw [beq_eq_false_iff_ne]; omega
      by_cases he0 : er = 0
      · have hx2 : ((er : Int) != 0) = false := by rw [bne_eq_false_iff_eq]; omega
        clear hbad he0
        go_wp2
        go_ret3
        rw [unhide HST]
        exact ⟨_, rfl, World.ownsRow_nil _ _ _ _, hbel2⟩
      · have hx2 : ((er : Int) != 0) = true := by rw [bne_iff_ne]; omega
        have hx3 : decide ((nu : Int) < (es.length : Int) + (bt : Int)) = false := by simp; omega
        clear hbad he0
        go_wp2
        go_ret3
        rw [unhide HST]
        exact ⟨_, rfl, World.ownsRow_nil _ _ _ _, hbel2⟩
    · have hx4 : decide ((rs.length : Int) ≤ (es.length : Int)) = false := by simp; omega
      have hx1 : ((er : Int) == 1) = false := by rw [beq_eq_false_iff_ne]; omega
      obtain ⟨b2, o2, c2, hv2, hc2⟩ := strs_shape hR2 (by intro h; have := congrArg List.length h; simp at this; rw [this] at hdone; simp at hdone)
      simp only [Value.slice.injEq, List.length_map, true_and] at hv2
      obtain ⟨rfl, rfl⟩ := hv2
      rw [List.length_map] at hc2
      have hnb : (nextB rs es.length bt).length = goesTo es.length bt rs.length - es.length := by
        unfold nextB goesTo
        rw [List.length_take, List.length_drop]
        omega
      have hns : ∀ e ∈ nextB rs es.length bt, e.length ≤ 20 := fun e he => unhide HRS e (List.mem_of_mem_drop (List.mem_of_mem_take he))
      have hnwl := wb_length_le _ hns
      have HNS := hide (mk_small hns)
      have hgt : goesTo es.length bt rs.length = min (es.length + bt) rs.length := rfl
      have HMID := hide (fun wq (hb : Below w2.heap.size w2 wq) => (map_mk_mid rs es.length (goesTo es.length bt rs.length - es.length)) ▸ ((hR2.below (w' := wq) (B := w2.heap.size) hb (Nat.le_refl _)).mid es.length (goesTo es.length bt rs.length - es.length) (by omega)))
      have HST0 := hide (show stepOf (rs, er, nu) ds es bt = if 32 * (ds.length - 1) < (wb es).length + (wb (nextB rs es.length bt)).length then ([], 9, 0) else (planL ds (wb es) (wb (nextB rs es.length bt)) (goesTo es.length bt rs.length), 0, 0) by unfold stepOf; rw [if_neg hbad, if_neg hdone])
      have hmore : (rs.drop es.length).take (goesTo es.length bt rs.length - es.length) = nextB rs es.length bt := rfl
      rw [hmore] at HMID
      generalize hge : goesTo es.length bt rs.length = g at *
      generalize hne : nextB rs es.length bt = nb at *
      have hgl : es.length < g ∧ g ≤ rs.length := by omega
      clear hmore hne hns hR2 hgt
      have HGE := hide hge
      clear hge
      by_cases he0 : er = 0
      · have hx2 : ((er : Int) != 0) = false := by rw [bne_eq_false_iff_eq]; omega
        clear hbad hdone he0
        by_cases hend : rs.length < es.length + bt
        · have hx5 : decide ((rs.length : Int) < (es.length : Int) + (bt : Int)) = true := by simp; omega
          obtain rfl : g = rs.length := by have := unhide HGE; unfold goesTo at this; omega
          go_wp2_with fail
          refine (writeBody_any _ (es.map mk) _ (unhide S2) (by simpa using hfe) (unhide HSM)).mono ?_
          rw [bs_mk]
          rintro e w3 ⟨rfl, hb3⟩
          have hbel3 := hbel2.trans (hb3.mono hbel2.size)
          have M3 := hide (unhide HMID _ hb3)
          have hnl : nb.length ≤ 100 := by omega
          have g1 : (es.length : Int) ≤ (rs.length : Int) := by omega
          have g2 : (rs.length : Int) ≤ (cap2 : Int) := by omega
          have g3 : (rs.length : Int) ≤ (rs.length : Int) := by omega
          have g4 : ((rs.length : Int) - (es.length : Int)).toNat = rs.length - es.length := by omega
          clear S2 HMID HSM hb3 hbel2 hnb
          go_wp2_with fail
          refine (writeBody_any _ (nb.map mk) _ (unhide M3) (by rw [List.length_map]; exact hnl) (unhide HNS)).mono ?_
          rw [bs_mk]
          rintro e w4 ⟨rfl, hb4⟩
          have hbel4 := hbel3.trans (hb4.mono hbel3.size)
          have D4 := hide (unhide HD _ hbel4)
          clear M3 HD HNS hb4 hbel3
          have hA : (mk (wb es)).size = (wb es).length := mk_size _
          have hM : (mk (wb nb)).size = (wb nb).length := mk_size _
          have hP := fun wq hd hr => plan_any (.slice (some ⟨b, off, none⟩) ds.length cap) ds (mk (wb es)) (mk (wb nb)) rs.length wq hd hn2 hn3 hr (by omega)
          have HP := hide hP
          clear hP
          have HAM := hide (show ∀ c, planL ds (mk (wb es)).data.toList (mk (wb nb)).data.toList c = planL ds (wb es) (wb nb) c from fun _ => rfl)
          rw [← hA, ← hM] at HST0
          rw [← hA] at hwl
          rw [← hM] at hnwl
          clear hA hM
          generalize hAe : mk (wb es) = A at *
          generalize hMe : mk (wb nb) = M at *
          clear hAe hMe
          by_cases hfull : 32 * (ds.length - 1) < A.size + M.size
          · have HST := hide (show stepOf (rs, er, nu) ds es bt = ([], 9, 0) by rw [unhide HST0, if_pos hfull])
            have hx6 : decide (((ds.length : Int) - 1) * 32 < (A.size : Int) + (M.size : Int)) = true := by simp; omega
            go_wp2
            go_ret3
            rw [unhide HST]
            exact ⟨_, rfl, World.ownsRow_nil _ _ _ _, hbel4⟩
          · have HST := hide (show stepOf (rs, er, nu) ds es bt = (planL ds (wb es) (wb nb) rs.length, 0, 0) by rw [unhide HST0, if_neg hfull])
            have hx6 : decide (((ds.length : Int) - 1) * 32 < (A.size : Int) + (M.size : Int)) = false := by simp; omega
            go_wp2_with fail
            refine (unhide HP _ (unhide D4) (by omega)).mono ?_
            rw [unhide HAM]
            rintro e w5 ⟨v5, rfl, hown5, hb5⟩
            have hbel5 := hbel4.trans (hb5.mono hbel4.size)
            go_wp2
            go_ret3
            rw [unhide HST]
            exact ⟨_, rfl, own_base hown5 hbel4.size, hbel5⟩
        · have hx5 : decide ((rs.length : Int) < (es.length : Int) + (bt : Int)) = false := by simp; omega
          obtain rfl : g = es.length + bt := by have := unhide HGE; unfold goesTo at this; omega
          rw [Nat.add_sub_cancel_left] at HMID
          go_wp2_with fail
          refine (writeBody_any _ (es.map mk) _ (unhide S2) (by simpa using hfe) (unhide HSM)).mono ?_
          rw [bs_mk]
          rintro e w3 ⟨rfl, hb3⟩
          have hbel3 := hbel2.trans (hb3.mono hbel2.size)
          have M3 := hide (unhide HMID _ hb3)
          have hnl : nb.length ≤ 100 := by omega
          have g1 : (es.length : Int) ≤ (es.length : Int) + (bt : Int) := by omega
          have g2 : (es.length : Int) + (bt : Int) ≤ (cap2 : Int) := by omega
          have g3 : (es.length : Int) + (bt : Int) ≤ (rs.length : Int) := by omega
          clear S2 HMID HSM hb3 hbel2 hnb
          go_wp2_with fail
          refine (writeBody_any _ (nb.map mk) _ (unhide M3) (by rw [List.length_map]; exact hnl) (unhide HNS)).mono ?_
          rw [bs_mk]
          rintro e w4 ⟨rfl, hb4⟩
          have hbel4 := hbel3.trans (hb4.mono hbel3.size)
          have D4 := hide (unhide HD _ hbel4)
          clear M3 HD HNS hb4 hbel3
          have hA : (mk (wb es)).size = (wb es).length := mk_size _
          have hM : (mk (wb nb)).size = (wb nb).length := mk_size _
          have hP := fun wq hd hr => plan_any (.slice (some ⟨b, off, none⟩) ds.length cap) ds (mk (wb es)) (mk (wb nb)) (es.length + bt) wq hd hn2 hn3 hr (by omega)
          simp only [Int.natCast_add] at hP
          have HP := hide hP
          clear hP
          have HAM := hide (show ∀ c, planL ds (mk (wb es)).data.toList (mk (wb nb)).data.toList c = planL ds (wb es) (wb nb) c from fun _ => rfl)
          rw [← hA, ← hM] at HST0
          rw [← hA] at hwl
          rw [← hM] at hnwl
          clear hA hM
          generalize hAe : mk (wb es) = A at *
          generalize hMe : mk (wb nb) = M at *
          clear hAe hMe
          by_cases hfull : 32 * (ds.length - 1) < A.size + M.size
          · have HST := hide (show stepOf (rs, er, nu) ds es bt = ([], 9, 0) by rw [unhide HST0, if_pos hfull])
            have hx6 : decide (((ds.length : Int) - 1) * 32 < (A.size : Int) + (M.size : Int)) = true := by simp; omega
            go_wp2
            go_ret3
            rw [unhide HST]
            exact ⟨_, rfl, World.ownsRow_nil _ _ _ _, hbel4⟩
          · have HST := hide (show stepOf (rs, er, nu) ds es bt = (planL ds (wb es) (wb nb) (es.length + bt), 0, 0) by rw [unhide HST0, if_neg hfull])
            have hx6 : decide (((ds.length : Int) - 1) * 32 < (A.size : Int) + (M.size : Int)) = false := by simp; omega
            go_wp2_with fail
            refine (unhide HP _ (unhide D4) (by omega)).mono ?_
            rw [unhide HAM]
            rintro e w5 ⟨v5, rfl, hown5, hb5⟩
            have hbel5 := hbel4.trans (hb5.mono hbel4.size)
            go_wp2
            go_ret3
            rw [unhide HST]
            exact ⟨_, rfl, own_base hown5 hbel4.size, hbel5⟩
      · have hx2 : ((er : Int) != 0) = true := by rw [bne_iff_ne]; omega
        have hx3 : decide ((nu : Int) < (es.length : Int) + (bt : Int)) = false := by simp; omega
        clear hbad hdone he0
        by_cases hend : rs.length < es.length + bt
        · have hx5 : decide ((rs.length : Int) < (es.length : Int) + (bt : Int)) = true := by simp; omega
          obtain rfl : g = rs.length := by have := unhide HGE; unfold goesTo at this; omega
          go_wp2_with fail
          refine (writeBody_any _ (es.map mk) _ (unhide S2) (by simpa using hfe) (unhide HSM)).mono ?_
          rw [bs_mk]
          rintro e w3 ⟨rfl, hb3⟩
          have hbel3 := hbel2.trans (hb3.mono hbel2.size)
          have M3 := hide (unhide HMID _ hb3)
          have hnl : nb.length ≤ 100 := by omega
          have g1 : (es.length : Int) ≤ (rs.length : Int) := by omega
          have g2 : (rs.length : Int) ≤ (cap2 : Int) := by omega
          have g3 : (rs.length : Int) ≤ (rs.length : Int) := by omega
          have g4 : ((rs.length : Int) - (es.length : Int)).toNat = rs.length - es.length := by omega
          clear S2 HMID HSM hb3 hbel2 hnb
          go_wp2_with fail
          refine (writeBody_any _ (nb.map mk) _ (unhide M3) (by rw [List.length_map]; exact hnl) (unhide HNS)).mono ?_
          rw [bs_mk]
          rintro e w4 ⟨rfl, hb4⟩
          have hbel4 := hbel3.trans (hb4.mono hbel3.size)
          have D4 := hide (unhide HD _ hbel4)
          clear M3 HD HNS hb4 hbel3
          have hA : (mk (wb es)).size = (wb es).length := mk_size _
          have hM : (mk (wb nb)).size = (wb nb).length := mk_size _
          have hP := fun wq hd hr => plan_any (.slice (some ⟨b, off, none⟩) ds.length cap) ds (mk (wb es)) (mk (wb nb)) rs.length wq hd hn2 hn3 hr (by omega)
          have HP := hide hP
          clear hP
          have HAM := hide (show ∀ c, planL ds (mk (wb es)).data.toList (mk (wb nb)).data.toList c = planL ds (wb es) (wb nb) c from fun _ => rfl)
          rw [← hA, ← hM] at HST0
          rw [← hA] at hwl
          rw [← hM] at hnwl
          clear hA hM
          generalize hAe : mk (wb es) = A at *
          generalize hMe : mk (wb nb) = M at *
          clear hAe hMe
          by_cases hfull : 32 * (ds.length - 1) < A.size + M.size
          · have HST := hide (show stepOf (rs, er, nu) ds es bt = ([], 9, 0) by rw [unhide HST0, if_pos hfull])
            have hx6 : decide (((ds.length : Int) - 1) * 32 < (A.size : Int) + (M.size : Int)) = true := by simp; omega
            go_wp2
            go_ret3
            rw [unhide HST]
            exact ⟨_, rfl, World.ownsRow_nil _ _ _ _, hbel4⟩
          · have HST := hide (show stepOf (rs, er, nu) ds es bt = (planL ds (wb es) (wb nb) rs.length, 0, 0) by rw [unhide HST0, if_neg hfull])
            have hx6 : decide (((ds.length : Int) - 1) * 32 < (A.size : Int) + (M.size : Int)) = false := by simp; omega
            go_wp2_with fail
            refine (unhide HP _ (unhide D4) (by omega)).mono ?_
            rw [unhide HAM]
            rintro e w5 ⟨v5, rfl, hown5, hb5⟩
            have hbel5 := hbel4.trans (hb5.mono hbel4.size)
            go_wp2
            go_ret3
            rw [unhide HST]
            exact ⟨_, rfl, own_base hown5 hbel4.size, hbel5⟩
        · have hx5 : decide ((rs.length : Int) < (es.length : Int) + (bt : Int)) = false := by simp; omega
          obtain rfl : g = es.length + bt := by have := unhide HGE; unfold goesTo at this; omega
          rw [Nat.add_sub_cancel_left] at HMID
          go_wp2_with fail
          refine (writeBody_any _ (es.map mk) _ (unhide S2) (by simpa using hfe) (unhide HSM)).mono ?_
          rw [bs_mk]
          rintro e w3 ⟨rfl, hb3⟩
          have hbel3 := hbel2.trans (hb3.mono hbel2.size)
          have M3 := hide (unhide HMID _ hb3)
          have hnl : nb.length ≤ 100 := by omega
          have g1 : (es.length : Int) ≤ (es.length : Int) + (bt : Int) := by omega
          have g2 : (es.length : Int) + (bt : Int) ≤ (cap2 : Int) := by omega
          have g3 : (es.length : Int) + (bt : Int) ≤ (rs.length : Int) := by omega
          clear S2 HMID HSM hb3 hbel2 hnb
          go_wp2_with fail
          refine (writeBody_any _ (nb.map mk) _ (unhide M3) (by rw [List.length_map]; exact hnl) (unhide HNS)).mono ?_
          rw [bs_mk]
          rintro e w4 ⟨rfl, hb4⟩
          have hbel4 := hbel3.trans (hb4.mono hbel3.size)
          have D4 := hide (unhide HD _ hbel4)
          clear M3 HD HNS hb4 hbel3
          have hA : (mk (wb es)).size = (wb es).length := mk_size _
          have hM : (mk (wb nb)).size = (wb nb).length := mk_size _
          have hP := fun wq hd hr => plan_any (.slice (some ⟨b, off, none⟩) ds.length cap) ds (mk (wb es)) (mk (wb nb)) (es.length + bt) wq hd hn2 hn3 hr (by omega)
          simp only [Int.natCast_add] at hP
          have HP := hide hP
          clear hP
          have HAM := hide (show ∀ c, planL ds (mk (wb es)).data.toList (mk (wb nb)).data.toList c = planL ds (wb es) (wb nb) c from fun _ => rfl)
          rw [← hA, ← hM] at HST0
          rw [← hA] at hwl
          rw [← hM] at hnwl
          clear hA hM
          generalize hAe : mk (wb es) = A at *
          generalize hMe : mk (wb nb) = M at *
          clear hAe hMe
          by_cases hfull : 32 * (ds.length - 1) < A.size + M.size
          · have HST := hide (show stepOf (rs, er, nu) ds es bt = ([], 9, 0) by rw [unhide HST0, if_pos hfull])
            have hx6 : decide (((ds.length : Int) - 1) * 32 < (A.size : Int) + (M.size : Int)) = true := by simp; omega
            go_wp2
            go_ret3
            rw [unhide HST]
            exact ⟨_, rfl, World.ownsRow_nil _ _ _ _, hbel4⟩
          · have HST := hide (show stepOf (rs, er, nu) ds es bt = (planL ds (wb es) (wb nb) (es.length + bt), 0, 0) by rw [unhide HST0, if_neg hfull])
            have hx6 : decide (((ds.length : Int) - 1) * 32 < (A.size : Int) + (M.size : Int)) = false := by simp; omega
            go_wp2_with fail
            refine (unhide HP _ (unhide D4) (by omega)).mono ?_
            rw [unhide HAM]
            rintro e w5 ⟨v5, rfl, hown5, hb5⟩
            have hbel5 := hbel4.trans (hb5.mono hbel4.size)
            go_wp2
            go_ret3
            rw [unhide HST]
            exact ⟨_, rfl, own_base hown5 hbel4.size, hbel5⟩

theorem step_any (s : ByteArray) (v : Value) (ds : List (List UInt8)) (bt : Int) (w : World) (hm : s.size ≤ maxLen) (hD : Digs w v ds) :
    Calls Tryd.prog 82 #[.string s, v, .int .i64 bt] w fun e w' => ∃ v', e = .returned (.tuple #[v', .int .i64 (stepR s.data.toList ds bt).2.1, .int .i64 (stepR s.data.toList ds bt).2.2]) ∧
      w'.ownsRow w.heap.size 131 34 v' (stepR s.data.toList ds bt).1.length (pcells (stepR s.data.toList ds bt).1) ∧ Below w.heap.size w w' := by
  rcases dEnt_spec hD.1 with ⟨h1, h2, _⟩ | ⟨h1, h2, _⟩
  · rw [show stepR s.data.toList ds bt = ([], 6, 0) by unfold stepR; rw [if_pos (by omega)]]
    refine (step_disk s v ds bt w hD h1).mono ?_
    rintro e w' ⟨rfl, hb⟩
    exact ⟨_, rfl, World.ownsRow_nil _ _ _ _, hb⟩
  · by_cases hb : bt < 1 ∨ 100 < bt
    · rw [show stepR s.data.toList ds bt = ([], 7, 0) by unfold stepR; rw [if_neg (by omega), if_pos hb]]
      refine (step_batch s v ds bt w hD h1 hb).mono ?_
      rintro e w' ⟨rfl, hb⟩
      exact ⟨_, rfl, World.ownsRow_nil _ _ _ _, hb⟩
    · rw [show stepR s.data.toList ds bt = stepOf (rdOld s.data.toList) ds (dEnt ds).1 bt.toNat by unfold stepR; rw [if_neg (by omega), if_neg hb]]
      obtain ⟨n, rfl⟩ : ∃ n : Nat, bt = (n : Int) := ⟨bt.toNat, by omega⟩
      exact step_in s v ds (dEnt ds).1 n w hm hD (by rw [← h1]) h2 (by omega) (by omega)

set_option maxRecDepth 100000 in
set_option maxHeartbeats 400000 in
theorem Step_any (s : ByteArray) (v : Value) (ds : List (List UInt8)) (bt : Int) (w : World) (hm : s.size ≤ maxLen) (hD : Digs w v ds) :
    Calls Tryd.prog 42 #[.string s, v, .int .i64 bt] w fun e w' => ∃ v', e = .returned (.tuple #[v', .int .i64 (stepR s.data.toList ds bt).2.1, .int .i64 (stepR s.data.toList ds bt).2.2]) ∧
      w'.ownsRow w.heap.size 131 34 v' (stepR s.data.toList ds bt).1.length (pcells (stepR s.data.toList ds bt).1) ∧ Below w.heap.size w w' := by
  have HS := hide (step_any s v ds bt w hm hD)
  generalize stepR s.data.toList ds bt = r at HS ⊢
  obtain ⟨pl, c, n⟩ := r
  simp only at HS ⊢
  clear hD hm
  go_enter Tryd.func42, Tryd.ntmps42
  go_wp2_with fail
  refine (unhide HS).mono ?_
  rintro e w2 ⟨v2, rfl, hown2, hb2⟩
  go_wp2
  go_ret3
  exact ⟨_, rfl, hown2, hb2⟩
end Go.Proofs.YtanfolfopalbeaaDoor
