/- package carry: the plan: the contract. -/
import Derived.Test.YtanfolfopalbeaaDoorCarry4
namespace Go.Proofs.YtanfolfopalbeaaDoor
open Go.RowKit

/-- The cells of an item, of a plan. -/
def itcells (x : It) : List Value := [.bool x.fl, .int .i64 (x.at_ : Int)] ++ bcells x.data
def pcells (l : List It) : List Value := l.flatMap itcells
theorem itcells_length (x : It) (h : x.data.length = 32) : (itcells x).length = 34 := by simp [itcells, bcells_length, h]
theorem pcells_length (l : List It) (h : ∀ x ∈ l, x.data.length = 32) : (pcells l).length = 34 * l.length := by
  induction l with
  | nil => rfl
  | cons a r ih =>
    show (itcells a ++ pcells r).length = _
    rw [List.length_append, itcells_length a (h a (by simp)), ih (fun x hx => h x (by simp [hx])), List.length_cons]
    omega
theorem pcells_snoc (l : List It) (x : It) : pcells (l ++ [x]) = pcells l ++ itcells x := by simp [pcells]
theorem itcells_one (x : It) : ∀ u ∈ itcells x, u.oneCell' = true := by
  intro u hu
  simp only [itcells, List.mem_append, List.mem_cons, List.not_mem_nil, or_false] at hu
  rcases hu with (rfl | rfl) | hu
  · rfl
  · rfl
  · exact bcells_one' _ u hu
theorem step_copy_str {P : Program} {ops : Array Oper} {o : Oper} {a : Act} {w : World} {K : Act → World → Prop} {Q : Exit → Act → World → Prop} {E : Prop} (hgd : o.guard = none) (d s : Operand) (dT sT : TypeId)
    (ho : o.op = .call { callee := .builtin .copy, args := #[d, s], argTypes := #[dT, sT] }) (elem : TypeId) (hu : P.underlying dT = some (.slice elem)) (hsz : (P.info? elem).map (·.size) = some 1)
    (g off dLen dCap : Nat) (x : ByteArray) (hd : a.eval d = .slice (some ⟨g, off, none⟩) dLen dCap) (hs : a.eval s = .string x) (n : Nat) (hn : Nat.min x.size dLen = n)
    (cur : Array Value) (t : TypeId) (hg : w.heap[g]? = some (.cells cur t (0, 0))) (hfit : off + n ≤ cur.size) (B : Nat) (w0 : World) (hb : Below B w0 w) (hBg : B ≤ g)
    (h : ∀ w', Hid (w'.heap[g]? = some (.cells (cur.toList.take off ++ bcells (x.data.toList.take n) ++ cur.toList.drop (off + n)).toArray t (0, 0))) → Hid (∀ k, k ≠ g → w'.heap[k]? = w.heap[k]?) → Below B w0 w' → K (a.put o.dst (goInt n)) w') :
    if Region.wanted o (yielded ops a.tmps) = true then Oper.wp P o a w K Q else E := by
  have hw : Region.wanted o (yielded ops a.tmps) = true := by simp [Region.wanted, hgd]
  rw [if_pos hw]
  have hrun := run_copy_str (P := P) w dT sT o.type elem g off dLen dCap x cur t n hn hu hsz hg hfit
  unfold Oper.wp
  simp only [execOp, ho, resolve, invoke, builtin]
  simp [hd, hs, hrun, Result.andThen]
  refine h _ ?_ (fun k hk => setRow_other w g k _ hk) (below_row hb hBg _)
  show _ = _
  rw [← List.append_assoc]
  exact setRow_heap w g _ _ t _ hg
/-- The item that is nothing. -/
def fIt0 : It := ⟨false, 0, z32⟩
theorem info_wr : (Tryd.prog.info? 131).map (fun i => (i.zero, i.size, i.bytes)) = some (some (.agg (itcells fIt0).toArray), 34, 48) := by kernel_rfl

theorem own_same {w w' : World} {B : Nat} {e : TypeId} {s : Nat} {v : Value} {n : Nat} {xs : List Value} (h : w.ownsRow B e s v n xs) (hs : ∀ g, v.ownBlock = some g → w'.heap[g]? = w.heap[g]?) : w'.ownsRow B e s v n xs := by
  obtain ⟨h1, h2⟩ := h
  refine ⟨h1, ?_⟩
  rcases h2 with h2 | ⟨g, cap, cur, rfl, h3, h4, h5⟩
  · exact .inl h2
  · exact .inr ⟨g, cap, cur, rfl, h3, by rw [hs g rfl]; exact h4, h5⟩
theorem fold_set2 (a b : Value) : ∀ (l : List Value) (k : Nat) (cs : Array Value) (pre tail : List Value), cs.toList = a :: b :: (pre ++ tail) → pre.length = k → tail.length = l.length →
    (List.foldl (fun (cs : Array Value) (x : Value × Nat) => cs.setIfInBounds (2 + x.snd) x.fst) cs (l.zipIdx k)).toList = a :: b :: (pre ++ l) := by
  intro l
  induction l with
  | nil =>
    intro k cs pre tail h _ ht
    have : tail = [] := List.length_eq_zero_iff.1 ht
    subst this
    simpa using h
  | cons x l ih =>
    intro k cs pre tail h hk ht
    cases tail with
    | nil => cases ht
    | cons y tail =>
      rw [List.zipIdx_cons, List.foldl_cons]
      have := ih (k + 1) (cs.setIfInBounds (2 + k) x) (pre ++ [x]) tail (by
        rw [Array.toList_setIfInBounds, h, ← hk, Nat.add_comm 2, List.set_cons_succ, List.set_cons_succ, List.set_append_right _ _ (Nat.le_refl _), Nat.sub_self]
        simp) (by simp [hk]) (by simpa using ht)
      rw [this]
      simp
/-- A write, as it is built. -/
theorem fold34 (n : Int) (d : List UInt8) (h : d.length = 32) : List.foldl (fun (cs : Array Value) (x : Value × Nat) => cs.setIfInBounds (2 + x.snd) x.fst) #[.bool false, .int .i64 n, .int .u8 0, .int .u8 0, .int .u8 0, .int .u8 0, .int .u8 0, .int .u8 0, .int .u8 0, .int .u8 0, .int .u8 0, .int .u8 0, .int .u8 0, .int .u8 0, .int .u8 0, .int .u8 0, .int .u8 0, .int .u8 0, .int .u8 0, .int .u8 0, .int .u8 0, .int .u8 0, .int .u8 0, .int .u8 0, .int .u8 0, .int .u8 0, .int .u8 0, .int .u8 0, .int .u8 0, .int .u8 0, .int .u8 0, .int .u8 0, .int .u8 0, .int .u8 0] (bcells d).zipIdx = (Value.bool false :: Value.int .i64 n :: bcells d).toArray := by
  apply Array.ext'
  have := fold_set2 (.bool false) (.int .i64 n) (bcells d) 0 (Value.bool false :: Value.int .i64 n :: bcells z32).toArray [] (bcells z32) (by simp) rfl (by simp [bcells, h, z32])
  exact this
theorem zero34 : (itcells fIt0).toArray = #[.bool false, .int .i64 0, .int .u8 0, .int .u8 0, .int .u8 0, .int .u8 0, .int .u8 0, .int .u8 0, .int .u8 0, .int .u8 0, .int .u8 0, .int .u8 0, .int .u8 0, .int .u8 0, .int .u8 0, .int .u8 0, .int .u8 0, .int .u8 0, .int .u8 0, .int .u8 0, .int .u8 0, .int .u8 0, .int .u8 0, .int .u8 0, .int .u8 0, .int .u8 0, .int .u8 0, .int .u8 0, .int .u8 0, .int .u8 0, .int .u8 0, .int .u8 0, .int .u8 0, .int .u8 0] := rfl
theorem flush34 : (itcells fIt).toArray = #[.bool true, .int .i64 0, .int .u8 0, .int .u8 0, .int .u8 0, .int .u8 0, .int .u8 0, .int .u8 0, .int .u8 0, .int .u8 0, .int .u8 0, .int .u8 0, .int .u8 0, .int .u8 0, .int .u8 0, .int .u8 0, .int .u8 0, .int .u8 0, .int .u8 0, .int .u8 0, .int .u8 0, .int .u8 0, .int .u8 0, .int .u8 0, .int .u8 0, .int .u8 0, .int .u8 0, .int .u8 0, .int .u8 0, .int .u8 0, .int .u8 0, .int .u8 0, .int .u8 0, .int .u8 0] := rfl
/-- The row of one item, as it is built. -/
theorem fold_row (y : List Value) (h : y.length = 34) : List.foldl (fun (cs : Array Value) (x : Value × Nat) => cs.setIfInBounds x.snd x.fst) (itcells fIt0).toArray y.zipIdx = y.toArray := by
  apply Array.ext'
  have := fold_set y 0 (itcells fIt0).toArray [] (itcells fIt0) (by simp) rfl (by rw [h]; rfl)
  rw [this]
  simp
theorem news_row (w : World) (y : List Value) (t : TypeId) (g : Nat) (hg : w.heap.size = g) : ∀ j u, y[j]? = some u → (w.alloc (.cells y.toArray t)).cell? ((⟨g, 0, none⟩ : Addr).add j) = some u := by
  intro j u hu
  subst hg
  rw [add_none, Nat.zero_add, cell_of_row _ w.heap.size j _ _ _ (heap_alloc_new w _)]
  simpa using hu
theorem info_wrs : (Tryd.prog.info? 131).map (·.size) = some 34 := by kernel_rfl
/-- The items that a plan has so far. -/
def bodyK (d : List (List UInt8)) (text : List UInt8) (a k : Nat) : List It := (List.range' (1 + a / 32) k).map (wIt d text)
theorem bodyK_succ (d : List (List UInt8)) (text : List UInt8) (a k : Nat) : bodyK d text a (k + 1) = bodyK d text a k ++ [wIt d text (a / 32 + k + 1)] := by
  unfold bodyK
  rw [List.range'_1_concat, List.map_append, show 1 + a / 32 + k = a / 32 + k + 1 by omega]
  rfl
theorem bodyK_length (d : List (List UInt8)) (text : List UInt8) (a k : Nat) : (bodyK d text a k).length = k := by simp [bodyK]
theorem ov_cells (s t : List UInt8) (n : Nat) (hn : n = min t.length 32) : bcells (t.take n) ++ (bcells s).drop n = bcells (ov s t) := by
  unfold ov
  rw [bcells_append]
  have e : t.take n = t.take 32 := by
    rw [hn]
    by_cases h : t.length ≤ 32
    · rw [Nat.min_eq_left h, List.take_of_length_le (Nat.le_refl _), List.take_of_length_le h]
    · rw [Nat.min_eq_right (by omega)]
  have el : (t.take 32).length = n := by rw [List.length_take]; omega
  rw [e, el]
  unfold bcells
  rw [List.map_drop]

set_option maxRecDepth 100000 in
set_option maxHeartbeats 1600000 in
theorem plan_any (v : Value) (ds : List (List UInt8)) (A M : ByteArray) (c : Nat) (w : World) (hD : Digs w v ds) (h2 : 2 ≤ ds.length) (h3 : ds.length ≤ 300) (hr : A.size + M.size ≤ 32 * (ds.length - 1)) (hc : c < 256) :
    Calls Tryd.prog 114 #[v, .string A, .string M, .int .i64 c] w fun e w' => ∃ v', e = .returned v' ∧
      w'.ownsRow w.heap.size 131 34 v' (planL ds A.data.toList M.data.toList c).length (pcells (planL ds A.data.toList M.data.toList c)) ∧ Below w.heap.size w w' := by
  obtain ⟨b, off, cap, hv, hcap, _⟩ := digs_shape hD (by omega)
  subst hv
  obtain ⟨i0, hi, hz0, hz1, hz2⟩ := info_parts info_wr
  have hTd : (A ++ M).data.toList = A.data.toList ++ M.data.toList := by rw [ByteArray.data_append, Array.toList_append]
  have hTs : (A ++ M).size = A.size + M.size := ByteArray.size_append
  have hAl : A.data.toList.length = A.size := rfl
  have HPL := hide (show planL ds A.data.toList M.data.toList c = bodyK ds (A ++ M).data.toList A.size (nW A.size (A ++ M).size) ++ [fIt, hIt c, fIt] by rw [hTd, ← hAl]; rfl)
  have hnW : nW A.size (A ++ M).size = ((A ++ M).size + 31) / 32 - A.size / 32 := rfl
  have HD := hide hD
  clear hD hTd
  generalize hTe : A ++ M = T at *
  have hTe2 : A ++ M = T := hTe
  have HTE := hide hTe
  have hT1 : T.size ≤ 32 * (ds.length - 1) := by omega
  have hT2 : A.size ≤ T.size := by omega
  clear hTe
  go_enter Tryd.func114, Tryd.ntmps114
  go_wp2
  clear hTs hr
  go_loopw [10, 11] (fun iv at_ wr => ∃ k : Nat, k ≤ nW A.size T.size ∧ at_ = .int .i64 (((A.size / 32 + k : Nat) : Int) + 1) ∧ wr.ownsRow w.heap.size 131 34 iv k (pcells (bodyK ds T.data.toList A.size k)) ∧ Below w.heap.size w wr) (fun _ at_ _ => 100000 - (intOf at_).toNat)
  case atStart => exact ⟨0, Nat.zero_le _, val_int (by omega), World.ownsRow_nil _ _ _ _, Below.refl _ _⟩
  case round =>
    obtain ⟨k, hk, rfl, hown, hbel⟩ := hrel
    have hszr := hbel.size
    have HBS := hide (bodyK_succ ds T.data.toList A.size k)
    have HBL := hide (bodyK_length ds T.data.toList A.size k)
    by_cases hlt : k < nW A.size T.size
    · have hql : A.size / 32 + k + 1 < ds.length := by omega
      have hqt : (A.size / 32 + k) * 32 < T.size := by omega
      have hqk : A.size / 32 + k = A.size / 32 + k := rfl
      have hr1 := rangeAt_below (digs_at (unhide HD) _ hql) hbel (Nat.le_refl _)
      have hdl := digs_len (unhide HD) _ hql
      have HWI := hide (show wIt ds T.data.toList (A.size / 32 + k + 1) = ⟨false, A.size / 32 + k + 1, ov (ds.getD (A.size / 32 + k + 1) []) (T.data.toList.drop ((A.size / 32 + k) * 32))⟩ from rfl)
      generalize hqe : A.size / 32 + k = q at *
      generalize ds.getD (q + 1) [] = d at *
      have hd1 : decide ((q : Int) + 1 < (ds.length : Int)) = true := by simp; omega
      have hd2 : decide ((q : Int) * 32 < (T.size : Int)) = true := by simp; omega
      have hka : (0 : Int) ≤ (q : Int) + 1 := by omega
      have hkb : (q : Int) + 1 < (ds.length : Int) := by omega
      have f0 : (0 : Int) ≤ (q : Int) * 32 := by omega
      have f1 : (q : Int) * 32 ≤ (T.size : Int) := by omega
      have f2 : ((q : Int) * 32).toNat = q * 32 := by omega
      have f3 : IntKind.i64.wrap ((q : Int) * 32) = (q : Int) * 32 := i64w _ (by omega)
      have f4 : IntKind.i64.wrap (q : Int) = (q : Int) := i64w _ (by omega)
      have f5 : ((q : Int) + 1).toNat = q + 1 := by omega
      have HR := hide hr1
      have VM := hide (v_scm d hdl)
      have VS := hide (v_sc d hdl)
      have VZ := hide (v_z32 d hdl)
      clear hr1
      go_upto_region 7 with (first | ((with_reducible refine at_load ?_); go_must (refine wpList_load_mid rfl 126 _ rfl b (off + (q + 1) * 32) (by rfl) (bcells d) _ (unhide HR) Tryd.underlying126 rfl (unhide VM) ?_)) | ((with_reducible refine at_store ?_); go_must (refine wpList_store_row rfl 126 _ _ rfl wr.heap.size (bcells d).toArray rfl rfl 126 _ (heap_alloc_new wr _) (unhide VS) (unhide VZ) (bcells_one d) ?_)))
      rw [← z32_cells]
      have hbA : Below w.heap.size w ((wr.alloc (.cells (bcells z32).toArray 126)).setRow wr.heap.size (bcells d).toArray) := below_row (hbel.alloc hszr _) hszr _
      have hgA : ((wr.alloc (.cells (bcells z32).toArray 126)).setRow wr.heap.size (bcells d).toArray).heap[wr.heap.size]? = some (.cells (bcells d).toArray 126 (0, 0)) := heap_put_new _ _ _ _
      have hoA := own_keep hown (below_put wr (bcells z32).toArray (bcells d).toArray 126)
      have hne : ∀ g, u10.ownBlock = some g → g ≠ wr.heap.size := fun g hg => by have := (hown.lt g hg).2; omega
      generalize ((wr.alloc (.cells (bcells z32).toArray 126)).setRow wr.heap.size (bcells d).toArray) = WA at hbA hgA hoA ⊢
      have hxs : (T.extract (q * 32) T.size).size = T.size - q * 32 := by simp
      have hxd : (T.extract (q * 32) T.size).data.toList = T.data.toList.drop (q * 32) := extract_mk_drop T _
      have hTl : T.data.toList.length = T.size := rfl
      obtain ⟨n, hn⟩ : ∃ n, n = min (T.size - q * 32) 32 := ⟨_, rfl⟩
      have hcn : Nat.min (T.extract (q * 32) T.size).size 32 = n := by rw [hxs, hn]
      have hfit : 0 + n ≤ (bcells d).toArray.size := by rw [bcells_size, hdl]; omega
      have HOV := hide (show List.take 0 (bcells d).toArray.toList ++ bcells (List.take n (T.extract (q * 32) T.size).data.toList) ++ List.drop (0 + n) (bcells d).toArray.toList = bcells (ov d (T.data.toList.drop (q * 32))) by
        rw [hxd, List.take_zero, List.nil_append, Nat.zero_add]
        exact ov_cells d (T.data.toList.drop (q * 32)) n (by rw [List.length_drop]; omega))
      have hol := ov_length d (T.data.toList.drop (q * 32)) hdl
      generalize ov d (T.data.toList.drop (q * 32)) = x at HWI HOV hol
      have HGA := hide (show WA.drew.heap[wr.heap.size]? = some (.cells (bcells d).toArray 126 (0, 0)) from hgA)
      have HBA := hide hbA.drew
      have HOA := hide hoA.drew
      have HNE := hide hne
      clear hgA hbA hoA hne hown hbel HR VM VS VZ hxd
      go_wp2_with fail
      refine wp_region_held_drew (S := fun _ => True) (by kernel_rfl) trivial (fun hHeld => ?_)
      refine wpAnyH_take (i := 0) (v := .slice (some ⟨wr.heap.size, 0, none⟩) 32 32) rfl (by kernel_rfl) (by kernel_rfl) (by kernel_rfl) (fun _ _ _ h => h) (Or.inl ⟨by rfl, fun _ _ => by go_simp⟩) hHeld ?_
      simp only [List.getElem_toArray, List.getElem_cons_zero, Act.put, List.setIfInBounds_toArray, List.set_cons_zero, List.set_cons_succ]
      refine wpAnyH_take (i := 1) (v := .string T) rfl (by kernel_rfl) (by kernel_rfl) (by kernel_rfl) (fun _ _ _ h => h) (Or.inl ⟨by rfl, fun _ _ => by go_simp⟩) hHeld ?_
      simp only [List.getElem_toArray, List.getElem_cons_zero, List.getElem_cons_succ, Act.put, List.setIfInBounds_toArray, List.set_cons_zero, List.set_cons_succ]
      refine wpAnyH_take (i := 2) (v := .int .i64 ((q : Int) + 1)) rfl (by kernel_rfl) (by kernel_rfl) (by kernel_rfl) (fun _ _ _ h => h) (Or.inl ⟨by rfl, fun _ _ => by go_simp⟩) hHeld ?_
      simp only [List.getElem_toArray, List.getElem_cons_zero, List.getElem_cons_succ, Act.put, List.setIfInBounds_toArray, List.set_cons_zero, List.set_cons_succ]
      refine wpAnyH_take (i := 3) (v := .int .i64 (q : Int)) rfl (by kernel_rfl) (by kernel_rfl) (by kernel_rfl) (fun _ _ _ h => h) (Or.inl ⟨by rfl, fun _ _ => by go_simp⟩) hHeld ?_
      simp only [List.getElem_toArray, List.getElem_cons_zero, List.getElem_cons_succ, Act.put, List.setIfInBounds_toArray, List.set_cons_zero, List.set_cons_succ]
      refine wpAnyH_take (i := 4) (v := .int .i64 ((q : Int) * 32)) rfl (by kernel_rfl) (by kernel_rfl) (by kernel_rfl) (fun _ _ _ h => h) (Or.inl ⟨by rfl, fun _ _ => by go_simp⟩) hHeld ?_
      simp only [List.getElem_toArray, List.getElem_cons_zero, List.getElem_cons_succ, Act.put, List.setIfInBounds_toArray, List.set_cons_zero, List.set_cons_succ]
      refine wpAnyH_take (i := 5) (v := .string (T.extract (q * 32) T.size)) rfl (by kernel_rfl) (by kernel_rfl) (by kernel_rfl) (fun _ _ _ h => h) (Or.inl ⟨by rfl, fun _ _ => by go_simp⟩) hHeld ?_
      simp only [List.getElem_toArray, List.getElem_cons_zero, List.getElem_cons_succ, Act.put, List.setIfInBounds_toArray, List.set_cons_zero, List.set_cons_succ]
      refine wpAnyH_ready (rs := [6]) (by kernel_rfl) (by simp) ?_
      refine AllReadyH.cons rfl (fun K hK => ?_) AllReadyH.nil
      refine step_copy_str rfl (.tmp 38) (.tmp 43) 45 9 rfl 5 Tryd.underlying45 info_u8s wr.heap.size 0 32 32 (T.extract (q * 32) T.size) rfl rfl n hcn (bcells d).toArray 126 (unhide HGA) hfit w.heap.size w (unhide HBA) hszr ?_
      intro wB HGB HKB hbB
      refine hK.out _ _ trivial (fun _ => ?_)
      clear hK K
      refine wpAnyH_done (by kernel_rfl) ?_ _
      have GB := hide (show wB.heap[wr.heap.size]? = some (.cells (bcells x).toArray 126 (0, 0)) by rw [unhide HGB, unhide HOV])
      have OB := hide (show wB.ownsRow w.heap.size 131 34 u10 k (pcells (bodyK ds T.data.toList A.size k)) from own_same (unhide HOA) (fun g hg => unhide HKB g (unhide HNE g hg)))
      have VX := hide (v_sc x hol)
      clear HGB HKB HOV HOA HGA HBA hHeld hfit hcn
      have hfold := fold34 ((q : Int) + 1) x hol
      have HY := hide (show itcells (wIt ds T.data.toList (q + 1)) = Value.bool false :: Value.int .i64 ((q : Int) + 1) :: bcells x by rw [unhide HWI]; rfl)
      have hyl : (Value.bool false :: Value.int .i64 ((q : Int) + 1) :: bcells x).length = 34 := by simp [bcells_length, hol]
      have HY1 := hide (show ∀ u ∈ (Value.bool false :: Value.int .i64 ((q : Int) + 1) :: bcells x), u.oneCell' = true by rw [← unhide HY]; exact itcells_one _)
      generalize (Value.bool false :: Value.int .i64 ((q : Int) + 1) :: bcells x) = y at hfold HY hyl HY1
      have HFR := hide (fold_row y hyl)
      have hxl : (bcells x).length = 32 := by rw [bcells_length, hol]
      have HKL := hide hk
      clear HWI hol hk
      go_wp2_with (first | ((with_reducible refine at_load ?_); go_must (refine wpList_load_row rfl 126 _ rfl wr.heap.size (by rfl) 126 (bcells x).toArray (0, 0) _ (unhide GB) Tryd.underlying126 rfl (unhide VX) ?_)) | (at_builtin; rw [← zero34, unhide HFR]; go_must (refine wpList_append_own _ rfl (.tmp 45) (.tmp 49) 54 rfl w.heap.size 131 i0 (.agg (itcells fIt0).toArray) 34 48 Tryd.underlying54 hi hz0 hz1 hz2 rfl (by decide) _ _ _ rfl ((unhide OB).alloc _) ⟨wB.heap.size, 0, none⟩ 1 1 y rfl (by rw [hyl]) (news_row wB y _ _ rfl) (unhide HY1) ?c3 ?c4 ?c5 ?_)))
      case c3 => have := unhide HKL; unfold maxLen; omega
      case c4 => have := unhide HKL; omega
      case c5 => have := hbB.size; simp; omega
      intro v3 w3 hown3 hgrow3 _
      have hbel3 : Below w.heap.size w w3 := (hbB.alloc hbB.size _).grown hgrow3 (by have := hbB.size; simp; omega) (own_row_ge (unhide OB))
      clear hgrow3 hbB OB GB hfold HFR
      go_wp2
      go_roundw
      case rel =>
        refine ⟨k + 1, by omega, val_int (by omega), ?_, hbel3⟩
        rw [unhide HBS, pcells_snoc, unhide HY]
        exact hown3
      case measure => simp [intOf]; omega
    · have hkk : k = nW A.size T.size := by omega
      have HE := hide (show bodyK ds T.data.toList A.size (nW A.size T.size) = bodyK ds T.data.toList A.size k by rw [hkk])
      have hqt : T.size ≤ (A.size / 32 + k) * 32 := by omega
      have hkm : k ≤ 300 := by omega
      clear hkk HBS
      generalize A.size / 32 + k = q at *
      have hd2 : decide ((q : Int) * 32 < (T.size : Int)) = false := by simp; omega
      by_cases hql : q + 1 < ds.length
      · have hd1 : decide ((q : Int) + 1 < (ds.length : Int)) = true := by simp; omega
        go_wp2_with (at_builtin; go_must (rw [← flush34]); go_must (refine wpList_append_own _ rfl (.tmp 51) (.tmp 53) 54 rfl w.heap.size 131 i0 (.agg (itcells fIt0).toArray) 34 48 Tryd.underlying54 hi hz0 hz1 hz2 rfl (by decide) _ _ _ rfl (hown.alloc _) ⟨wr.heap.size, 0, none⟩ 1 1 (itcells fIt) rfl rfl (news_row wr _ _ _ rfl) (itcells_one fIt) ?c3 ?c4 ?c5 ?_))
        case c3 => unfold maxLen; omega
        case c4 => omega
        case c5 => simp; omega
        intro v3 w3 hown3 hgrow3 _
        have hbel3 : Below w.heap.size w w3 := (hbel.alloc hszr _).grown hgrow3 (by simp; omega) (own_row_ge hown)
        clear hgrow3 hown hbel
        go_wp2_with fail
        refine (headK_any c _ hc).mono ?_
        rintro e w4 ⟨rfl, hb4⟩
        have hbel4 := hbel3.trans (hb4.mono hbel3.size)
        have hown4 := own_keep hown3 hb4
        have hfold := fold34 0 (hd c) (hd_length c)
        have HY := hide (show itcells (hIt c) = Value.bool false :: Value.int .i64 0 :: bcells (hd c) from rfl)
        have hyl : (Value.bool false :: Value.int .i64 0 :: bcells (hd c)).length = 34 := rfl
        have HY1 := hide (show ∀ u ∈ (Value.bool false :: Value.int .i64 0 :: bcells (hd c)), u.oneCell' = true from itcells_one (hIt c))
        have hxl : (bcells (hd c)).length = 32 := rfl
        have hszr4 := hbel4.size
        generalize (Value.bool false :: Value.int .i64 0 :: bcells (hd c)) = y at hfold HY hyl HY1
        generalize bcells (hd c) = hb at hfold hxl ⊢
        have HFR := hide (fold_row y hyl)
        clear hb4 hown3 hbel3
        go_wp2_with (at_builtin; go_must (rw [← zero34, unhide HFR]); go_must (refine wpList_append_own _ rfl (.tmp 55) (.tmp 59) 54 rfl w.heap.size 131 i0 (.agg (itcells fIt0).toArray) 34 48 Tryd.underlying54 hi hz0 hz1 hz2 rfl (by decide) _ _ _ rfl (hown4.alloc _) ⟨w4.heap.size, 0, none⟩ 1 1 y rfl (by rw [hyl]) (news_row w4 y _ _ rfl) (unhide HY1) ?d3 ?d4 ?d5 ?_))
        case d3 => unfold maxLen; omega
        case d4 => omega
        case d5 => simp; omega
        intro v5 w5 hown5 hgrow5 _
        have hbel5 : Below w.heap.size w w5 := (hbel4.alloc hszr4 _).grown hgrow5 (by simp; omega) (own_row_ge hown4)
        have hszr5 := hbel5.size
        clear hgrow5 hown4 hbel4 hfold HFR HY1 hxl
        go_wp2_with (at_builtin; go_must (rw [← flush34]); go_must (refine wpList_append_own _ rfl (.tmp 61) (.tmp 63) 54 rfl w.heap.size 131 i0 (.agg (itcells fIt0).toArray) 34 48 Tryd.underlying54 hi hz0 hz1 hz2 rfl (by decide) _ _ _ rfl (hown5.alloc _) ⟨w5.heap.size, 0, none⟩ 1 1 (itcells fIt) rfl rfl (news_row w5 _ _ _ rfl) (itcells_one fIt) ?e3 ?e4 ?e5 ?_))
        case e3 => unfold maxLen; omega
        case e4 => omega
        case e5 => simp; omega
        intro v6 w6 hown6 hgrow6 _
        have hbel6 : Below w.heap.size w w6 := (hbel5.alloc hszr5 _).grown hgrow6 (by simp; omega) (own_row_ge hown5)
        clear hgrow6 hown5 hbel5
        go_wp2
        go_ret
        refine ⟨_, rfl, ?_, hbel6⟩
        rw [unhide HPL, unhide HE, List.length_append, unhide HBL, show bodyK ds T.data.toList A.size k ++ [fIt, hIt c, fIt] = ((bodyK ds T.data.toList A.size k ++ [fIt]) ++ [hIt c]) ++ [fIt] by simp, pcells_snoc, pcells_snoc, pcells_snoc, unhide HY, List.append_assoc, List.append_assoc]
        exact hown6
      · have hd1 : decide ((q : Int) + 1 < (ds.length : Int)) = false := by simp; omega
        go_wp2_with (at_builtin; go_must (rw [← flush34]); go_must (refine wpList_append_own _ rfl (.tmp 51) (.tmp 53) 54 rfl w.heap.size 131 i0 (.agg (itcells fIt0).toArray) 34 48 Tryd.underlying54 hi hz0 hz1 hz2 rfl (by decide) _ _ _ rfl (hown.alloc _) ⟨wr.heap.size, 0, none⟩ 1 1 (itcells fIt) rfl rfl (news_row wr _ _ _ rfl) (itcells_one fIt) ?f3 ?f4 ?f5 ?_))
        case f3 => unfold maxLen; omega
        case f4 => omega
        case f5 => simp; omega
        intro v3 w3 hown3 hgrow3 _
        have hbel3 : Below w.heap.size w w3 := (hbel.alloc hszr _).grown hgrow3 (by simp; omega) (own_row_ge hown)
        clear hgrow3 hown hbel
        go_wp2_with fail
        refine (headK_any c _ hc).mono ?_
        rintro e w4 ⟨rfl, hb4⟩
        have hbel4 := hbel3.trans (hb4.mono hbel3.size)
        have hown4 := own_keep hown3 hb4
        have hfold := fold34 0 (hd c) (hd_length c)
        have HY := hide (show itcells (hIt c) = Value.bool false :: Value.int .i64 0 :: bcells (hd c) from rfl)
        have hyl : (Value.bool false :: Value.int .i64 0 :: bcells (hd c)).length = 34 := rfl
        have HY1 := hide (show ∀ u ∈ (Value.bool false :: Value.int .i64 0 :: bcells (hd c)), u.oneCell' = true from itcells_one (hIt c))
        have hxl : (bcells (hd c)).length = 32 := rfl
        have hszr4 := hbel4.size
        generalize (Value.bool false :: Value.int .i64 0 :: bcells (hd c)) = y at hfold HY hyl HY1
        generalize bcells (hd c) = hb at hfold hxl ⊢
        have HFR := hide (fold_row y hyl)
        clear hb4 hown3 hbel3
        go_wp2_with (at_builtin; go_must (rw [← zero34, unhide HFR]); go_must (refine wpList_append_own _ rfl (.tmp 55) (.tmp 59) 54 rfl w.heap.size 131 i0 (.agg (itcells fIt0).toArray) 34 48 Tryd.underlying54 hi hz0 hz1 hz2 rfl (by decide) _ _ _ rfl (hown4.alloc _) ⟨w4.heap.size, 0, none⟩ 1 1 y rfl (by rw [hyl]) (news_row w4 y _ _ rfl) (unhide HY1) ?g3 ?g4 ?g5 ?_))
        case g3 => unfold maxLen; omega
        case g4 => omega
        case g5 => simp; omega
        intro v5 w5 hown5 hgrow5 _
        have hbel5 : Below w.heap.size w w5 := (hbel4.alloc hszr4 _).grown hgrow5 (by simp; omega) (own_row_ge hown4)
        have hszr5 := hbel5.size
        clear hgrow5 hown4 hbel4 hfold HFR HY1 hxl
        go_wp2_with (at_builtin; go_must (rw [← flush34]); go_must (refine wpList_append_own _ rfl (.tmp 61) (.tmp 63) 54 rfl w.heap.size 131 i0 (.agg (itcells fIt0).toArray) 34 48 Tryd.underlying54 hi hz0 hz1 hz2 rfl (by decide) _ _ _ rfl (hown5.alloc _) ⟨w5.heap.size, 0, none⟩ 1 1 (itcells fIt) rfl rfl (news_row w5 _ _ _ rfl) (itcells_one fIt) ?h3 ?h4 ?h5 ?_))
        case h3 => unfold maxLen; omega
        case h4 => omega
        case h5 => simp; omega
        intro v6 w6 hown6 hgrow6 _
        have hbel6 : Below w.heap.size w w6 := (hbel5.alloc hszr5 _).grown hgrow6 (by simp; omega) (own_row_ge hown5)
        clear hgrow6 hown5 hbel5
        go_wp2
        go_ret
        refine ⟨_, rfl, ?_, hbel6⟩
        rw [unhide HPL, unhide HE, List.length_append, unhide HBL, show bodyK ds T.data.toList A.size k ++ [fIt, hIt c, fIt] = ((bodyK ds T.data.toList A.size k ++ [fIt]) ++ [hIt c]) ++ [fIt] by simp, pcells_snoc, pcells_snoc, pcells_snoc, unhide HY, List.append_assoc, List.append_assoc]
        exact hown6
end Go.Proofs.YtanfolfopalbeaaDoor
