/- The reference's Tree: the contract. -/
import Derived.Test.YtanfolfopalbeabDoorRefTree
import Derived.Test.YtanfolfopalbeabDoorHeapMath
import Derived.Deep.CutRange
import Derived.WalkSmall
import Derived.BigQuiet
namespace Go.Proofs.YtanfolfopalbeabDoor
open Go.RowKit

/-- The cells of a heap, of a list of them. -/
def hc (p : Nat × List UInt8) : List Value := .int .i64 (p.1 : Int) :: bcells p.2
def hcs (l : List (Nat × List UInt8)) : List Value := l.flatMap hc
theorem hc_length (p : Nat × List UInt8) (h : p.2.length = 32) : (hc p).length = 33 := by simp [hc, bcells, h]
theorem hcs_snoc (l : List (Nat × List UInt8)) (p : Nat × List UInt8) : hcs (l ++ [p]) = hcs l ++ hc p := by simp [hcs]
theorem hcs_length (l : List (Nat × List UInt8)) (h : ∀ p ∈ l, p.2.length = 32) : (hcs l).length = l.length * 33 := by
  induction l with
  | nil => rfl
  | cons a r ih =>
    have h2 := ih (fun p hp => h p (by simp [hp]))
    have h1 := hc_length a (h a (by simp))
    unfold hcs at h2 ⊢
    rw [List.flatMap_cons, List.length_append, h2, List.length_cons, h1]
    omega
theorem hc_one (p : Nat × List UInt8) : ∀ u ∈ hc p, u.oneCell' = true := by
  intro u hu
  rcases List.mem_cons.1 hu with rfl | hu
  · rfl
  · exact bcells_one' p.2 u hu
def z33 : Nat × List UInt8 := (0, z32)
theorem info_heap : (Tryd.prog.info? 138).map (fun i => (i.zero, i.size, i.bytes)) = some (some (.agg (hc z33).toArray), 33, 40) := by kernel_rfl
theorem info_hp : (Tryd.prog.info? 138).map (·.size) = some 33 := by kernel_rfl
theorem v_hp (p : Nat × List UInt8) (h : p.2.length = 32) : (Tryd.prog.info? 138).map (·.size) = some (hc p).toArray.size := by rw [List.size_toArray, hc_length p h]; exact info_hp
theorem hc_all (p : Nat × List UInt8) : (hc p).toArray.all (·.oneCell') = true := Array.all_eq_true'.2 (fun v hv => hc_one p v (by simpa using hv))
theorem getD_take_succ (ss : List ByteArray) (k : Nat) (h : k < ss.length) : ss.take (k + 1) = ss.take k ++ [ss.getD k ByteArray.empty] := by
  rw [List.take_succ_eq_append_getElem h]
  simp [List.getD, List.getElem?_eq_getElem h]
theorem there_of_hrow {w : World} {g : Nat} {t : TypeId} {p : Nat × List UInt8} (h : w.heap[g]? = some (.cells (hc p).toArray t (0, 0))) (hd : p.2.length = 32) : w.there g 0 33 := fun j hj => by
  rw [Nat.zero_add]
  refine ⟨?_, frozen_of_row w g j _ _ h⟩
  rw [cell_of_row w g j _ _ _ h, List.getElem?_toArray, List.getElem?_eq_getElem (by rw [hc_length p hd]; exact hj)]
  rfl
theorem hrow_setCells {w : World} {g : Nat} {ty : TypeId} {p q : Nat × List UInt8} (h : w.heap[g]? = some (.cells (hc p).toArray ty (0, 0))) (hp : p.2.length = 32) (hq : q.2.length = 32) : (w.setCells g 0 (hc q)).heap[g]? = some (.cells (hc q).toArray ty (0, 0)) := by
  rw [setCells_row g ty (hc q) 0 w _ h (by rw [List.size_toArray, hc_length p hp, hc_length q hq]; omega)]
  congr 3
  rw [List.take_zero, List.nil_append, List.drop_eq_nil_of_le (by rw [Nat.zero_add, hc_length q hq]; simp [hc_length p hp]), List.append_nil]
def lenH : Value → Nat
  | .slice _ n _ => n
  | _ => 0
theorem q_len {xs : List ByteArray} {t : List (Nat × List UInt8)} {n : Nat} {q : List UInt8} (h : Car xs t n q) : q.length = 32 := by
  obtain ⟨A, S, _, _, _, hq, _⟩ := h
  rw [hq]
  exact rootL_length _
theorem n_len {xs : List ByteArray} {t : List (Nat × List UInt8)} {n : Nat} {q : List UInt8} (h : Car xs t n q) : n ≤ xs.length := by
  obtain ⟨A, S, hx, hl, _⟩ := h
  rw [hx, List.length_append]
  omega
theorem t_len {xs : List ByteArray} {t : List (Nat × List UInt8)} {n : Nat} {q : List UInt8} (h : Car xs t n q) : t.length ≤ xs.length := by
  obtain ⟨A, S, hx, hl, _, _, hs⟩ := h
  have := hs.len
  rw [hx, List.length_append]
  omega
theorem t_elem {xs : List ByteArray} {t : List (Nat × List UInt8)} {n : Nat} {q : List UInt8} (h : Car xs t n q) : ∀ p ∈ t, p.2.length = 32 ∧ p.1 ≤ xs.length := by
  obtain ⟨A, S, hx, hl, _, _, hs⟩ := h
  intro p hp
  have := hs.elem p hp
  rw [hx, List.length_append]
  exact ⟨this.1, by omega⟩
theorem own_top {w : World} {base : Nat} {e : TypeId} {v : Value} {n : Nat} {xs : List Value} (h : w.ownsRow base e 33 v n xs) (hn : 0 < n) : ∃ g cap, v = .slice (some ⟨g, 0, none⟩) n cap := by
  rcases h.2 with ⟨_, h0⟩ | ⟨g, cap, cur, hv, _⟩
  · omega
  · exact ⟨g, cap, hv⟩
theorem top_cell (t : List (Nat × List UInt8)) (p : Nat × List UInt8) (h : ∀ p ∈ t, p.2.length = 32) (j : Nat) : (hcs ((p :: t).reverse))[t.length * 33 + j]? = (hc p)[j]? := by
  rw [List.reverse_cons, hcs_snoc, List.getElem?_append_right (by rw [hcs_length _ (fun p hp => h p (by simpa using hp)), List.length_reverse]; omega), hcs_length _ (fun p hp => h p (by simpa using hp)), List.length_reverse]
  congr 1
  omega
/-- Is the last heap one of n entries? -/
def topIs (t : List (Nat × List UInt8)) (n : Nat) : Bool := match t with | [] => false | (m, _) :: _ => decide (m = n)
/-- The row of a list of one heap, as it is built. -/
theorem fold_heap (p : Nat × List UInt8) (h : p.2.length = 32) : List.foldl (fun (cs : Array Value) (x : Value × Nat) => cs.setIfInBounds x.snd x.fst) (hc z33).toArray (hc p).zipIdx = (hc p).toArray := by
  apply Array.ext'
  have := fold_set (hc p) 0 (hc z33).toArray [] (hc z33) (by simp) rfl (by rw [hc_length p h]; rfl)
  rw [this]
  simp
theorem news_heap (w : World) (p : Nat × List UInt8) (t : TypeId) : ∀ j u, (hc p)[j]? = some u → (w.alloc (.cells (hc p).toArray t)).cell? ((⟨w.heap.size, 0, none⟩ : Addr).add j) = some u := by
  intro j u hu
  rw [add_none, Nat.zero_add, cell_of_row _ w.heap.size j _ _ _ (heap_alloc_new w _)]
  simpa using hu
theorem range_tab {w : World} {g : Nat} {ty : TypeId} {tb : List Nat} (h : URow w g ty tb) (htl : tb.length = 72) : w.rangeAt g 0 (ucells tb) := by
  have := range_of_urow h 72
  rwa [List.take_of_length_le (by omega)] at this
theorem range_root {w : World} {G : Nat} {ty : TypeId} {p : Nat × List UInt8} (h : w.heap[G]? = some (.cells (hc p).toArray ty (0, 0))) : w.rangeAt G 1 (bcells p.2) := fun j v hv => by
  rw [cell_of_row w G (1 + j) _ _ _ h, List.getElem?_toArray, Nat.add_comm]
  simpa [hc] using hv
theorem range_top {w : World} {base g cp : Nat} {e : TypeId} (t : List (Nat × List UInt8)) (p : Nat × List UInt8) (h : ∀ p ∈ t, p.2.length = 32) (how : w.ownsRow base e 33 (.slice (some ⟨g, 0, none⟩) (p :: t).length cp) (p :: t).length (hcs (p :: t).reverse)) : w.rangeAt g (t.length * 33 + 1) (bcells p.2) := fun j v hv => by
  have hj : t.length * 33 + 1 + j < (p :: t).length * 33 := by
    have h1 := how.1
    have h2 := (List.getElem?_eq_some_iff.1 hv).1
    rw [List.reverse_cons, hcs_snoc, List.length_append, hcs_length _ (fun p hp => h p (by simpa using hp)), List.length_reverse] at h1
    have h3 : (hc p).length = (bcells p.2).length + 1 := rfl
    omega
  rw [how.cellAt _ hj, show t.length * 33 + 1 + j = t.length * 33 + (j + 1) by omega, top_cell t p h (j + 1)]
  simpa [hc] using hv
theorem own_cap {w : World} {base g n cap : Nat} {e : TypeId} {s : Nat} {xs : List Value} (h : w.ownsRow base e s (.slice (some ⟨g, 0, none⟩) n cap) n xs) : n ≤ cap := by
  rcases h.2 with ⟨h0, _⟩ | ⟨g', cap', cur, hv, _, _, h1, _⟩
  · cases h0
  · simp only [Value.slice.injEq] at hv
    obtain ⟨_, _, rfl⟩ := hv
    exact h1
theorem hc2 (m : Nat) (d : List UInt8) : hc (2 * m, d) = Value.int .i64 (2 * (m : Int)) :: bcells d := by simp [hc]
theorem range_of_brow3 {w : World} {g : Nat} {t : TypeId} {d : List UInt8} (h : BRow w g t d) : w.rangeAt g 0 (bcells d) := fun j v hv => by
  rw [Nat.zero_add, cell_of_row w g j _ _ _ h]
  simpa using hv
theorem gather_succ (q : List UInt8) (t : List (Nat × List UInt8)) (s : Nat) (h : s < t.length) : gather q (t.take (s + 1)) = nd (t.getD s (0, [])).2 (gather q (t.take s)) := by
  unfold gather
  rw [List.take_succ_eq_append_getElem h, List.foldl_append]
  simp [List.getD, List.getElem?_eq_getElem h]
theorem hcs_at (l : List (Nat × List UInt8)) (j : Nat) (hj : j < l.length) : hcs l = hcs (l.take j) ++ (hc (l[j]) ++ hcs (l.drop (j + 1))) := by
  have h1 : l.take j ++ l[j] :: l.drop (j + 1) = l := by rw [← List.drop_eq_getElem_cons hj, List.take_append_drop]
  have h2 : hcs (l.take j ++ l[j] :: l.drop (j + 1)) = hcs (l.take j) ++ (hc (l[j]) ++ hcs (l.drop (j + 1))) := by
    unfold hcs
    rw [List.flatMap_append, List.flatMap_cons]
  rw [← h2, h1]
theorem range_el {w : World} {base g cp N : Nat} {e : TypeId} (t : List (Nat × List UInt8)) (p : Nat × List UInt8) (h : ∀ p ∈ t, p.2.length = 32) (hN : N = (p :: t).length) (how : w.ownsRow base e 33 (.slice (some ⟨g, 0, none⟩) N cp) (p :: t).length (hcs (p :: t).reverse)) (hp : p.2.length = 32) (s : Nat) (hs : s < t.length) :
    w.rangeAt g ((t.length - 1 - s) * 33 + 1) (bcells (t.getD s (0, [])).2) := by
  subst hN
  have hall : ∀ x ∈ (p :: t).reverse, x.2.length = 32 := by
    intro x hx
    simp only [List.mem_reverse, List.mem_cons] at hx
    rcases hx with rfl | hx
    · exact hp
    · exact h x hx
  have hj : t.length - 1 - s < (p :: t).reverse.length := by simp; omega
  have hge : (p :: t).reverse[t.length - 1 - s] = t[s] := by
    simp only [List.reverse_cons]
    rw [List.getElem_append_left (by rw [List.length_reverse]; omega), List.getElem_reverse]
    congr 1
    omega
  have e1 := hcs_at (p :: t).reverse (t.length - 1 - s) hj
  rw [hge] at e1
  have hA : (hcs ((p :: t).reverse.take (t.length - 1 - s))).length = (t.length - 1 - s) * 33 := by
    rw [hcs_length _ (fun x hx => hall x (List.mem_of_mem_take hx)), List.length_take, Nat.min_eq_left (by omega)]
  have hx : (hc t[s]).length = 33 := hc_length _ (h _ (List.getElem_mem hs))
  intro i v hv
  rw [List.getD, List.getElem?_eq_getElem hs, Option.getD_some] at hv
  have hi : i + 1 < 33 := by
    have h1 := (List.getElem?_eq_some_iff.1 hv).1
    have h2 : (hc t[s]).length = (bcells t[s].2).length + 1 := rfl
    omega
  rw [how.cellAt _ (by simp only [List.length_cons]; omega), e1, show (t.length - 1 - s) * 33 + 1 + i = (t.length - 1 - s) * 33 + (i + 1) by omega, List.getElem?_append_right (by omega), hA, Nat.add_sub_cancel_left, List.getElem?_append_left (by omega)]
  simpa [hc] using hv
theorem four_two (w : World) (A B : Obj) : Below w.heap.size w ((w.alloc A).alloc B) ∧ ((w.alloc A).alloc B).heap.size = w.heap.size + 2 := ⟨(two_new w A B).1, by simp⟩

/-- What Tree keeps: its tables, its result, the heaps t (the last one first). -/
def Hp (w : World) (tb : List Nat) (t : List (Nat × List UInt8)) (v : Value) (wr : World) : Prop :=
  URow wr w.heap.size 38 tb ∧ BRow wr (w.heap.size + 1) 64 z32 ∧ wr.ownsRow (w.heap.size + 2) 138 33 v t.length (hcs t.reverse) ∧ Below w.heap.size w wr ∧ w.heap.size + 2 ≤ wr.heap.size

theorem Hp.below {w : World} {tb : List Nat} {t : List (Nat × List UInt8)} {v : Value} {wr wq : World} (h : Hp w tb t v wr) (hb : Below wr.heap.size wr wq) : Hp w tb t v wq :=
  ⟨h.1.below hb (Nat.le_refl _), (hb.block _ (lt_of_block h.2.1)).trans h.2.1, own_keep h.2.2.1 hb, h.2.2.2.1.trans (hb.mono h.2.2.2.1.size), Nat.le_trans h.2.2.2.2 hb.size⟩
/-- .. and beside them one heap more, in block G. -/
def Hq (w : World) (tb : List Nat) (t : List (Nat × List UInt8)) (v : Value) (G : Nat) (p : Nat × List UInt8) (wr : World) : Prop :=
  Hp w tb t v wr ∧ wr.heap[G]? = some (.cells (hc p).toArray 138 (0, 0)) ∧ w.heap.size + 2 ≤ G ∧ v.ownBlock ≠ some G
theorem Hq.below {w : World} {tb : List Nat} {t : List (Nat × List UInt8)} {v : Value} {G : Nat} {p : Nat × List UInt8} {wr wq : World} (h : Hq w tb t v G p wr) (hb : Below wr.heap.size wr wq) : Hq w tb t v G p wq :=
  ⟨h.1.below hb, (hb.block _ (lt_of_block h.2.1)).trans h.2.1, h.2.2⟩
theorem z33_cells : (hc z33).toArray = #[.int .i64 0, .int .u8 0, .int .u8 0, .int .u8 0, .int .u8 0, .int .u8 0, .int .u8 0, .int .u8 0, .int .u8 0, .int .u8 0, .int .u8 0, .int .u8 0, .int .u8 0, .int .u8 0, .int .u8 0, .int .u8 0, .int .u8 0, .int .u8 0, .int .u8 0, .int .u8 0, .int .u8 0, .int .u8 0, .int .u8 0, .int .u8 0, .int .u8 0, .int .u8 0, .int .u8 0, .int .u8 0, .int .u8 0, .int .u8 0, .int .u8 0, .int .u8 0, .int .u8 0] := rfl

theorem fold_set1 (a : Value) : ∀ (l : List Value) (k : Nat) (cs : Array Value) (pre tail : List Value), cs.toList = a :: (pre ++ tail) → pre.length = k → tail.length = l.length →
    (List.foldl (fun (cs : Array Value) (x : Value × Nat) => cs.setIfInBounds (1 + x.snd) x.fst) cs (l.zipIdx k)).toList = a :: (pre ++ l) := by
  intro l
  induction l with
  | nil =>
    intro k cs pre tail h _ ht
    have : tail = [] := List.length_eq_zero_iff.1 ht
    subst this
    simpa using h
  | cons x l ih =>
    intro k cs pre tail h hk ht
    cases tail with
    | nil => cases ht
    | cons y tail =>
      rw [List.zipIdx_cons, List.foldl_cons]
      have := ih (k + 1) (cs.setIfInBounds (1 + k) x) (pre ++ [x]) tail (by
        rw [Array.toList_setIfInBounds, h, ← hk, Nat.add_comm 1, List.set_cons_succ, List.set_append_right _ _ (Nat.le_refl _), Nat.sub_self]
        simp) (by simp [hk]) (by simpa using ht)
      rw [this]
      simp
/-- A heap, as it is built. -/
theorem fold33 (n : Int) (d : List UInt8) (h : d.length = 32) : List.foldl (fun (cs : Array Value) (x : Value × Nat) => cs.setIfInBounds (1 + x.snd) x.fst) #[.int .i64 n, .int .u8 0, .int .u8 0, .int .u8 0, .int .u8 0, .int .u8 0, .int .u8 0, .int .u8 0, .int .u8 0, .int .u8 0, .int .u8 0, .int .u8 0, .int .u8 0, .int .u8 0, .int .u8 0, .int .u8 0, .int .u8 0, .int .u8 0, .int .u8 0, .int .u8 0, .int .u8 0, .int .u8 0, .int .u8 0, .int .u8 0, .int .u8 0, .int .u8 0, .int .u8 0, .int .u8 0, .int .u8 0, .int .u8 0, .int .u8 0, .int .u8 0, .int .u8 0] (bcells d).zipIdx = (Value.int .i64 n :: bcells d).toArray := by
  apply Array.ext'
  have := fold_set1 (.int .i64 n) (bcells d) 0 (Value.int .i64 n :: bcells z32).toArray [] (bcells z32) (by simp) rfl (by simp [bcells, h, z32])
  exact this

/-- .. while the roots are gathered in block G9. -/
def Hr (w : World) (tb : List Nat) (t : List (Nat × List UInt8)) (v : Value) (G9 : Nat) (r : List UInt8) (wr : World) : Prop :=
  Hp w tb t v wr ∧ BRow wr G9 64 r ∧ w.heap.size + 2 ≤ G9 ∧ v.ownBlock ≠ some G9
theorem Hr.below {w : World} {tb : List Nat} {t : List (Nat × List UInt8)} {v : Value} {G : Nat} {r : List UInt8} {wr wq : World} (h : Hr w tb t v G r wr) (hb : Below wr.heap.size wr wq) : Hr w tb t v G r wq :=
  ⟨h.1.below hb, (hb.block _ (lt_of_block h.2.1)).trans h.2.1, h.2.2⟩
theorem Hr.put {w : World} {tb : List Nat} {t : List (Nat × List UInt8)} {v : Value} {G : Nat} {r : List UInt8} {wr : World} (h : Hr w tb t v G r wr) (d : List UInt8) (hd : r.length = d.length) : Hr w tb t v G d (wr.setCells G 0 (bcells d)) := by
  have hG := h.2.2.1
  have hgr : wr.grownBy (wr.setCells G 0 (bcells d)) (some G) := by
    have hb := below_setCells (B := G) (Nat.le_refl _) (bcells d) 0 (Below.refl G wr)
    refine ⟨hb.os, hb.tape, hb.output, hb.size, fun k hk hne => setCells_other _ _ (fun e => hne (by rw [e])) _ _ _⟩
  exact ⟨⟨(setCells_other _ _ (by omega) _ _ _).trans h.1.1, (setCells_other _ _ (by omega) _ _ _).trans h.1.2.1, h.1.2.2.1.kept hgr (.inr h.2.2.2), below_setCells (by omega) _ _ h.1.2.2.2.1, by rw [setCells_size]; exact h.1.2.2.2.2⟩, brow_setCells h.2.1 hd, hG, h.2.2.2⟩

set_option maxRecDepth 100000 in
set_option maxHeartbeats 3200000 in
theorem rtree_any (tb : List Nat) (ht : TabOk tb) (v : Value) (ss : List ByteArray) (w : World) (hS : Strs w v ss) (hl : ss.length ≤ 100) (hz : ∀ s ∈ ss, s.size ≤ 20) :
    Calls Tryd.prog 77 #[.agg (ucells tb).toArray, v] w fun e w' => e = .returned (.agg (bcells (rootL ss)).toArray) ∧ Below w.heap.size w w' := by
  obtain ⟨i0, hi, hz0, hz1, hz2⟩ := info_parts info_heap
  have htl := ht.1
  have VT := hide (v_tab tb htl)
  have VTM := hide (v_tabm tb htl)
  have HOK := hide ht
  have HS := hide (fun wq hb => hS.below (w' := wq) (B := w.heap.size) hb (Nat.le_refl _))
  obtain ⟨ao, cap, hv, hca, hcb, hcc⟩ := hS
  subst hv
  have HZ := hide hz
  obtain ⟨hbel0, g0, g1⟩ := two_new w (.cells (ucells tb).toArray 38) (.cells (bcells z32).toArray 64)
  have hsz0 := (four_two w (.cells (ucells tb).toArray 38) (.cells (bcells z32).toArray 64)).2
  have H0 := hide (show Hp w tb [] (.slice none 0 0) ((w.alloc (.cells (ucells tb).toArray 38)).alloc (.cells (bcells z32).toArray 64)) from ⟨g0, g1, World.ownsRow_nil _ _ _ _, hbel0, by omega⟩)
  clear hbel0 g0 g1 hz hcc ht hsz0
  go_enter Tryd.func77, Tryd.ntmps77
  go_upto_region 1 with fail
  rw [← z32_cells]
  generalize ((w.alloc (.cells (ucells tb).toArray 38)).alloc (.cells (bcells z32).toArray 64)) = W0 at H0 ⊢
  go_wp2_with fail
  go_loopw [5, 6, 7, 8] (fun vl i _ _ wr => ∃ (k : Nat) (t : List (Nat × List UInt8)), k ≤ ss.length ∧ i = .int .i64 k ∧ Stk (ss.take k) t 1 ∧ Hp w tb t vl wr) (fun _ i _ _ _ => ss.length - (intOf i).toNat)
  case atStart => exact ⟨0, [], Nat.zero_le _, rfl, rfl, unhide H0⟩
  case round =>
    obtain ⟨k, t, hk, rfl, hst, hhp⟩ := hrel
    have HST := hide hst
    have HHP := hide hhp
    clear hst hhp
    by_cases hlt : k < ss.length
    · have hd1 : decide ((k : Int) < (ss.length : Int)) = true := by simp; omega
      have hbr := (unhide HHP).2.2.2.1
      obtain ⟨b, off, cap', hv', _⟩ := strs_shape (unhide HS _ hbr) (by intro h; rw [h] at hlt; cases hlt)
      simp only [Value.slice.injEq, true_and] at hv'
      obtain ⟨rfl, rfl⟩ := hv'
      obtain ⟨x, hx⟩ : ∃ x, x = ss.getD k ByteArray.empty := ⟨_, rfl⟩
      have hcx := strs_cell (unhide HS _ hbr) k hlt
      rw [← hx] at hcx
      have hxs : x.size ≤ 20 := by
        rw [hx, List.getD, List.getElem?_eq_getElem hlt]
        exact unhide HZ _ (List.getElem_mem hlt)
      have HX := hide hx
      have HLf := hide (fun wq => rleaf_any tb (unhide HOK) x wq (by omega))
      have dl : (lf x).length = 32 := sha_length _
      have hcar := hide (show Car (ss.take (k + 1)) t 1 (lf x) by
        have := car_start x (unhide HST)
        rwa [hx, ← getD_take_succ ss k hlt, ← hx] at this)
      generalize lf x = dL at HLf dl hcar
      have hR8 : wr.drew.rangeAt w.heap.size 0 (ucells tb) ∧ wr.drew.cell? ⟨b, off + k, none⟩ = some (.string x) := by
        refine ⟨?_, hcx⟩
        have := range_of_urow (unhide HHP).1 72; rw [List.take_of_length_le (by omega)] at this; exact this
      have hKeep := hide (fun (wq : World) (h : Below wr.heap.size wr wq) => show Hp w tb t u5 wq ∧ (wq.rangeAt w.heap.size 0 (ucells tb) ∧ wq.cell? ⟨b, off + k, none⟩ = some (.string x)) from
        ⟨(unhide HHP).below h, rangeAt_below hR8.1 (show Below wr.heap.size wr.drew wq from ⟨h.os, h.tape, h.output, h.size, h.block⟩) (Nat.le_refl _), by rw [h.cell (p := ⟨b, off + k, none⟩) (cell_lt hcx)]; exact hcx⟩)
      have hk0 : (0 : Int) ≤ (k : Int) := by omega
      have hk1 : (k : Int) < (ss.length : Int) := by omega
      have hlv : ∀ G, wr.heap.size ≤ G → u5.ownBlock ≠ some G := fun G hG h => by
        have := ((unhide HHP).2.2.1.lt G h).2
        omega
      have HLV := hide hlv
      have hwz := (unhide HHP).2.2.2.2
      have VH := hide (v_hp (1, dL) dl)
      have hfold := fold33 1 dL dl
      have hbl : (bcells dL).length = 32 := by simp [bcells, dl]
      clear hx hcx hlv HST
      go_upto_region 5 with fail
      go_cut [7] from 17 to 23 (fun p wx => ∃ G : Nat, p = .pointer (some ⟨G, 0, none⟩) ∧ Hq w tb t u5 G (1, dL) wx)
      case first =>
        refine wp_region_held_drew (S := fun w' => w'.rangeAt w.heap.size 0 (ucells tb) ∧ w'.cell? ⟨b, off + k, none⟩ = some (.string x)) (by kernel_rfl) hR8 (fun hHeld => ?_)
        refine wpAnyH_take (i := 0) rfl (by kernel_rfl) (by kernel_rfl) (by kernel_rfl) (fun _ _ _ h => h)
            (yieldsIf_load_mid (by rfl) 38 _ rfl w.heap.size 0 rfl (ucells tb) _ (fun _ h => h.1) Tryd.underlying38 rfl (unhide VTM)) hHeld ?_
        simp only [List.getElem_toArray, List.getElem_cons_zero, Act.put, List.setIfInBounds_toArray, List.set_cons_zero, List.set_cons_succ]
        refine wpAnyH_take (i := 1) (v := .slice (some ⟨b, off, none⟩) ss.length cap) rfl (by kernel_rfl) (by kernel_rfl) (by kernel_rfl) (fun _ _ _ h => h) (Or.inl ⟨by rfl, fun _ _ => by go_simp⟩) hHeld ?_
        simp only [List.getElem_toArray, List.getElem_cons_zero, List.getElem_cons_succ, Act.put, List.setIfInBounds_toArray, List.set_cons_zero, List.set_cons_succ]
        refine wpAnyH_take (i := 2) (v := .int .i64 k) rfl (by kernel_rfl) (by kernel_rfl) (by kernel_rfl) (fun _ _ _ h => h) (Or.inl ⟨by rfl, fun _ _ => by go_simp⟩) hHeld ?_
        simp only [List.getElem_toArray, List.getElem_cons_zero, List.getElem_cons_succ, Act.put, List.setIfInBounds_toArray, List.set_cons_zero, List.set_cons_succ]
        refine wpAnyH_take (i := 3) (v := .pointer (some ⟨b, off + k, none⟩)) rfl (by kernel_rfl) (by kernel_rfl) (by kernel_rfl) (fun _ _ _ h => h) (Or.inl ⟨by rfl, fun _ _ => by go_simp⟩) hHeld ?_
        simp only [List.getElem_toArray, List.getElem_cons_zero, List.getElem_cons_succ, Act.put, List.setIfInBounds_toArray, List.set_cons_zero, List.set_cons_succ]
        refine wpAnyH_take (i := 4) (v := .string x) rfl (by kernel_rfl) (by kernel_rfl) (by kernel_rfl) (fun _ _ _ h => h) (Or.inl ⟨by rfl, fun _ hq => by have hq2 := hq.2; clear hq; go_simp⟩) hHeld ?_
        simp only [List.getElem_toArray, List.getElem_cons_zero, List.getElem_cons_succ, Act.put, List.setIfInBounds_toArray, List.set_cons_zero, List.set_cons_succ]
        refine wpAnyH_ready (rs := [5, 7]) (by kernel_rfl) (by simp) ?_
        refine AllReadyH.cons rfl (fun K hK => ?_) (AllReadyH.cons rfl (fun K hK => ?_) AllReadyH.nil)
        · go_simp
          go_at_call 92
          refine (unhide HLf _).mono ?_
          rintro e w2 ⟨rfl, hb2⟩
          have hb2' : Below wr.heap.size wr w2 := ⟨hb2.os, hb2.tape, hb2.output, hb2.size, hb2.block⟩
          dsimp only
          refine hK.out _ _ (unhide hKeep _ hb2').2 (fun hHeld => ?_)
          clear hK K
          refine wpAnyH_take (i := 6) (v := .agg (Value.int .i64 1 :: bcells dL).toArray) rfl (by kernel_rfl) (by kernel_rfl) (by kernel_rfl) (fun _ _ _ h => h) (Or.inl ⟨by rfl, fun _ _ => by go_simp⟩) hHeld ?_
          simp only [List.getElem_toArray, List.getElem_cons_zero, List.getElem_cons_succ, Act.put, List.setIfInBounds_toArray, List.set_cons_zero, List.set_cons_succ]
          refine wpAnyH_ready (rs := [7]) (by kernel_rfl) (by simp) ?_
          refine AllReadyH.cons rfl (fun K hK => ?_) AllReadyH.nil
          go_simp
          rw [← z33_cells]
          have hb3 : Below wr.heap.size wr (w2.alloc (.cells (hc z33).toArray 138)) := hb2'.alloc hb2'.size _
          have g3 : (w2.alloc (.cells (hc z33).toArray 138)).heap[w2.heap.size]? = some (.cells (hc z33).toArray 138 (0, 0)) := heap_alloc_new w2 _
          have hge := hb2'.size
          generalize w2.heap.size = G at g3 hge ⊢
          generalize w2.alloc (.cells (hc z33).toArray 138) = w3 at hb3 g3 ⊢
          refine hK.out _ _ (unhide hKeep _ hb3).2 (fun hHeld => ?_)
          clear hK K
          refine wpAnyH_ready (rs := [8]) (by kernel_rfl) (by simp) ?_
          refine AllReadyH.cons rfl (fun K hK => ?_) AllReadyH.nil
          rw [if_pos (by rfl)]
          refine wp_store_mid 138 _ _ rfl G 0 (hc (1, dL)).toArray rfl rfl (by rw [List.size_toArray, hc_length _ dl]; exact there_of_hrow g3 rfl) (unhide VH) (hc_all _) ?_
          rw [show (hc (1, dL)).toArray.toList = hc (1, dL) from rfl]
          have g4 : (w3.setCells G 0 (hc (1, dL))).heap[G]? = some (.cells (hc (1, dL)).toArray 138 (0, 0)) := hrow_setCells g3 rfl dl
          have hb4 : Below wr.heap.size wr (w3.setCells G 0 (hc (1, dL))) := below_setCells hge _ _ hb3
          generalize w3.setCells G 0 (hc (1, dL)) = w4 at g4 hb4 ⊢
          refine hK.out _ _ (unhide hKeep _ hb4).2 (fun hHeld => ?_)
          clear hK K
          refine wpAnyH_done (by kernel_rfl) ?_ _
          go_wp2_with fail
          go_meet
          exact ⟨G, rfl, (unhide hKeep _ hb4).1, g4, by omega, unhide HLV G hge⟩
        · go_simp
          rw [← z33_cells]
          have hb3 : Below wr.heap.size wr (wr.alloc (.cells (hc z33).toArray 138)).drew := ((Below.refl _ _).alloc (Nat.le_refl _) _).drew
          have g3 : (wr.alloc (.cells (hc z33).toArray 138)).drew.heap[wr.heap.size]? = some (.cells (hc z33).toArray 138 (0, 0)) := heap_alloc_new wr _
          generalize hG : wr.heap.size = G at g3 ⊢
          generalize (wr.alloc (.cells (hc z33).toArray 138)).drew = w3 at hb3 g3 ⊢
          refine hK.out _ _ (unhide hKeep _ hb3).2 (fun hHeld => ?_)
          clear hK K
          refine wpAnyH_ready (rs := [5]) (by kernel_rfl) (by simp) ?_
          refine AllReadyH.cons rfl (fun K hK => ?_) AllReadyH.nil
          go_simp
          go_at_call 92
          refine (unhide HLf _).mono ?_
          rintro e w2 ⟨rfl, hb2⟩
          have hb2' := hb3.trans (hb2.mono hb3.size)
          have g5 : w2.heap[G]? = some (.cells (hc z33).toArray 138 (0, 0)) := (hb2.block _ (lt_of_block g3)).trans g3
          dsimp only
          refine hK.out _ _ (unhide hKeep _ hb2').2 (fun hHeld => ?_)
          clear hK K
          refine wpAnyH_take (i := 6) (v := .agg (Value.int .i64 1 :: bcells dL).toArray) rfl (by kernel_rfl) (by kernel_rfl) (by kernel_rfl) (fun _ _ _ h => h) (Or.inl ⟨by rfl, fun _ _ => by go_simp⟩) hHeld ?_
          simp only [List.getElem_toArray, List.getElem_cons_zero, List.getElem_cons_succ, Act.put, List.setIfInBounds_toArray, List.set_cons_zero, List.set_cons_succ]
          refine wpAnyH_ready (rs := [8]) (by kernel_rfl) (by simp) ?_
          refine AllReadyH.cons rfl (fun K hK => ?_) AllReadyH.nil
          rw [if_pos (by rfl)]
          refine wp_store_mid 138 _ _ rfl G 0 (hc (1, dL)).toArray rfl rfl (by rw [List.size_toArray, hc_length _ dl]; exact there_of_hrow g5 rfl) (unhide VH) (hc_all _) ?_
          rw [show (hc (1, dL)).toArray.toList = hc (1, dL) from rfl]
          have g4 : (w2.setCells G 0 (hc (1, dL))).heap[G]? = some (.cells (hc (1, dL)).toArray 138 (0, 0)) := hrow_setCells g5 rfl dl
          have hb4 : Below wr.heap.size wr (w2.setCells G 0 (hc (1, dL))) := below_setCells (by omega) _ _ hb2'
          generalize w2.setCells G 0 (hc (1, dL)) = w4 at g4 hb4 ⊢
          refine hK.out _ _ (unhide hKeep _ hb4).2 (fun hHeld => ?_)
          clear hK K
          refine wpAnyH_done (by kernel_rfl) ?_ _
          go_wp2_with fail
          go_meet
          exact ⟨G, rfl, (unhide hKeep _ hb4).1, g4, by omega, unhide HLV G (by omega)⟩
      case rest =>
        obtain ⟨G, rfl, hq⟩ := hcut
        have HQ := hide hq
        clear hq hKeep hR8 HLV HLf VH hfold HX HHP hxs hwz
        go_wp2_with fail
        go_loopw [5, 8] (fun vl _ wq => ∃ (t : List (Nat × List UInt8)) (n : Nat) (q : List UInt8), Car (ss.take (k + 1)) t n q ∧ Hq w tb t vl G (n, q) wq) (fun vl _ _ => lenH vl)
        case atStart => exact ⟨t, 1, dL, unhide hcar, unhide HQ⟩
        case round =>
          obtain ⟨t, n, q, hcr, hq⟩ := hrel
          have HCR := hide hcr
          have hql := q_len hcr
          have hnl := n_len hcr
          rw [List.length_take] at hnl
          have hte := t_elem hcr
          have HTE := hide hte
          obtain ⟨T, hT⟩ : ∃ T : Nat, t.length = T := ⟨_, rfl⟩
          have hown := hq.1.2.2.1
          rw [hT] at hown
          have HOW := hide hown
          have hn0 := cell_of_row wr G 0 _ _ _ hq.2.1
          have hn1 : wr.cell? ⟨G, 0, none⟩ = some (.int .i64 (n : Int)) := hn0
          have HQ := hide hq
          have hTl : T ≤ 100 := by
            have := t_len hcr
            rw [List.length_take] at this
            omega
          clear hcr hq hte hn0 hown
          obtain ⟨c, hcc⟩ : ∃ c : Bool, c = topIs t n := ⟨_, rfl⟩
          have HCC := hide hcc
          clear hcc
          go_upto_region 6 with fail
          go_cut [38] from 24 to 37 (fun p wx => p = .bool c ∧ Below wr.heap.size wr wx)
          case first =>
            cases t with
            | nil =>
              obtain ⟨al, cl, rfl⟩ := own_shape (unhide HOW)
              have hT0 : T = 0 := hT.symm
              subst hT0
              have hcf : c = false := unhide HCC
              subst hcf
              go_quiet (fail)
              go_wp2_with fail
              go_meet
              exact ⟨rfl, below_drewN (Below.refl _ _) _⟩
            | cons p t' =>
              obtain ⟨m, r⟩ := p
              obtain ⟨g, cp, hg⟩ := own_top (unhide HOW) (by rw [← hT]; simp)
              subst hg
              have hct := (unhide HOW).cellAt ((T - 1) * 33) (by have : 0 < T := (by rw [← hT]; simp); omega)
              rw [show T - 1 = t'.length by rw [← hT]; simp, ← Nat.add_zero (t'.length * 33), top_cell t' (m, r) (fun p hp => (unhide HTE p (by simp [hp])).1) 0, Nat.add_zero, show t'.length = T - 1 by rw [← hT]; simp] at hct
              have hct2 : wr.cell? ⟨g, (T - 1) * 33, none⟩ = some (.int .i64 (m : Int)) := hct
              have hT1 : 1 ≤ T := by rw [← hT]; simp
              have hml := (unhide HTE (m, r) (by simp)).2
              simp only [List.length_take] at hml
              have fa : (1 : Int) ≤ (T : Int) := by omega
              have fb : decide (0 < T) = true := by simp; omega
              have fW : IntKind.i64.wrap ((T : Int) - 1) = (T : Int) - 1 := i64w _ (by omega)
              have fc : (0 : Int) ≤ (T : Int) - 1 := by omega
              have fd : (T : Int) - 1 < (T : Int) := by omega
              have fe : ((T : Int) - 1).toNat = T - 1 := by omega
              have hcf : c = decide (m = n) := unhide HCC
              have hcmp : ((m : Int) == (n : Int)) = c := by
                rw [hcf, Bool.eq_iff_iff, beq_iff_eq, decide_eq_true_iff]
                omega
              clear hct hcf hT
              go_quiet (fail)
              go_wp2_with fail
              go_meet
              exact ⟨rfl, below_drewN (Below.refl _ _) _⟩
          case rest =>
            obtain ⟨rfl, hbq⟩ := hcut
            have HQ2 := hide ((unhide HQ).below hbq)
            have HOW2 := hide (own_keep (unhide HOW) hbq)
            clear HQ HOW hn1
            cases c with
            | false =>
              have hq2 := unhide HQ2
              have gG := hide hq2.2.1
              have VH := hide (v_hp (n, q) hql)
              have hfold := fold_heap (n, q) hql
              have hbl : (hc (n, q)).length = 33 := hc_length _ hql
              have HNB := hide hq2.2.2.2
              have hwz := hq2.1.2.2.2.2
              have hbc := hq2.1.2.2.2.1
              clear hq2
              go_wp2_with (first | ((with_reducible refine at_load ?_); refine wpList_load_row rfl 138 _ rfl G (by rfl) 138 (hc (n, q)).toArray (0, 0) _ (unhide gG) Tryd.underlying138 rfl (unhide VH) ?_) | (at_builtin; rw [← z33_cells, hfold]; go_must (refine wpList_append_own _ rfl (.tmp 60) (.tmp 62) 136 rfl (w.heap.size + 2) 138 i0 (.agg (hc z33).toArray) 33 40 Tryd.underlying136 hi hz0 hz1 hz2 rfl (by decide) _ _ _ rfl ((unhide HOW2).alloc _) ⟨wc.heap.size, 0, none⟩ 1 1 (hc (n, q)) rfl (by rw [hbl]) ?c2 (hc_one (n, q)) ?c3 ?c4 ?c5 ?_)))
              case c2 => exact news_heap wc (n, q) _
              case c3 => unfold maxLen; omega
              case c4 => omega
              case c5 => simp; omega
              intro v6 w6 hown6 hgrow6 _
              have hb6 : Below (w.heap.size + 2) wc w6 := ((Below.refl (w.heap.size + 2) wc).alloc hwz _).grown hgrow6 (by simp; omega) (own_row_ge (unhide HOW2))
              have hp6 : Hp w tb ((n, q) :: t) v6 w6 := by
                have h1 := (unhide HQ2).1
                refine ⟨(hb6.block _ (by omega)).trans h1.1, (hb6.block _ (by omega)).trans h1.2.1, ?_, hbc.trans (hb6.mono (by omega)), Nat.le_trans hwz hb6.size⟩
                rw [List.reverse_cons, hcs_snoc, List.length_cons, hT]
                exact hown6
              have HP6 := hide hp6
              clear hown6 hgrow6 hb6 hp6
              go_wp2_with fail
              have hne : ∀ m r t', t = (m, r) :: t' → m ≠ n := by
                intro m r t' ht hm
                have h5 := unhide HCC
                rw [ht] at h5
                have h6 : false = decide (m = n) := h5
                rw [decide_eq_true hm] at h6
                cases h6
              exact ⟨⟨k + 1, (n, q) :: t, by omega, by go_num, car_end (unhide HCR) hne, unhide HP6⟩, by simp [intOf]; omega⟩
            | true =>
              cases t with
              | nil => cases unhide HCC
              | cons p t' =>
              obtain ⟨m, r⟩ := p
              obtain rfl : m = n := by
                have h5 : true = decide (m = n) := unhide HCC
                exact of_decide_eq_true h5.symm
              obtain ⟨g, cp, hg⟩ := own_top (unhide HOW2) (by rw [← hT]; simp)
              subst hg
              have hT1 : 1 ≤ T := by rw [← hT]; simp
              have hTe : T - 1 = t'.length := by rw [← hT]; simp
              have hrl := (unhide HTE (m, r) (by simp)).1
              simp only at hrl
              have hrt : wc.rangeAt g ((T - 1) * 33 + 1) (bcells r) := by
                have h6 := unhide HOW2
                rw [← hT] at h6
                rw [hTe]
                exact range_top t' (m, r) (fun p hp => (unhide HTE p (by simp [hp])).1) h6
              have HRT := hide hrt
              have fa : (1 : Int) ≤ (T : Int) := by omega
              have fW : IntKind.i64.wrap ((T : Int) - 1) = (T : Int) - 1 := i64w _ (by omega)
              have fc : (0 : Int) ≤ (T : Int) - 1 := by omega
              have fd : (T : Int) - 1 < (T : Int) := by omega
              have fe : ((T : Int) - 1).toNat = T - 1 := by omega
              have hcpT := own_cap (unhide HOW2)
              have ff : (T : Int) - 1 ≤ (cp : Int) := by omega
              have VMr := hide (v_mid r hrl)
              have VMq := hide (v_mid q hql)
              have HNd := hide (fun wq => rnode_any tb (unhide HOK) r q wq hrl hql)
              have dn : (nd r q).length = 32 := sha_length _
              generalize hnd : nd r q = dN at HNd dn
              have HND := hide hnd
              have VN := hide (v_dg dN dn)
              have ZN := hide (v_z32 dN dn)
              have hKeep := hide (fun (wq : World) (h : Below wc.heap.size wc wq) => show Hq w tb ((m, r) :: t') (.slice (some ⟨g, 0, none⟩) T cp) G (m, q) wq ∧ (wq.rangeAt w.heap.size 0 (ucells tb) ∧ wq.rangeAt g ((T - 1) * 33 + 1) (bcells r) ∧ wq.rangeAt G 1 (bcells q)) from
                ⟨(unhide HQ2).below h, rangeAt_below (range_tab (unhide HQ2).1.1 htl) h (Nat.le_refl _), rangeAt_below (unhide HRT) h (Nat.le_refl _), rangeAt_below (range_root (unhide HQ2).2.1) h (Nat.le_refl _)⟩)
              have hW1 : Below wc.heap.size wc wc.drew := (Below.refl _ _).drew
              have hR8 := (unhide hKeep _ hW1).2
              have hGlt : G < wc.heap.size := lt_of_block (unhide HQ2).2.1
              clear hnd hT
              go_wp2_with fail
              go_cut [8] from 39 to 49 (fun p wx => ∃ G8 : Nat, p = .pointer (some ⟨G8, 0, none⟩) ∧ BRow wx G8 64 dN ∧ G8 ≠ G ∧ Hq w tb ((m, r) :: t') (.slice (some ⟨g, 0, none⟩) T cp) G (m, q) wx)
              case first =>
                refine wp_region_held_drew (S := fun w' => w'.rangeAt w.heap.size 0 (ucells tb) ∧ w'.rangeAt g ((T - 1) * 33 + 1) (bcells r) ∧ w'.rangeAt G 1 (bcells q)) (by kernel_rfl) hR8 (fun hHeld => ?_)
                refine wpAnyH_take (i := 0) rfl (by kernel_rfl) (by kernel_rfl) (by kernel_rfl) (fun _ _ _ h => h) (yieldsIf_load_mid (by rfl) 38 _ rfl w.heap.size (0) rfl (ucells tb) _ (fun _ h => h.1) Tryd.underlying38 rfl (unhide VTM)) hHeld ?_
                simp only [List.getElem_toArray, List.getElem_cons_zero, Act.put, List.setIfInBounds_toArray, List.set_cons_zero, List.set_cons_succ]
                refine wpAnyH_take (i := 1) (v := .slice (some ⟨g, 0, none⟩) T cp) rfl (by kernel_rfl) (by kernel_rfl) (by kernel_rfl) (fun _ _ _ h => h) (Or.inl ⟨by rfl, fun _ _ => by go_simp⟩) hHeld ?_
                simp only [List.getElem_toArray, List.getElem_cons_zero, List.getElem_cons_succ, Act.put, List.setIfInBounds_toArray, List.set_cons_zero, List.set_cons_succ]
                refine wpAnyH_take (i := 2) (v := .slice (some ⟨g, 0, none⟩) T cp) rfl (by kernel_rfl) (by kernel_rfl) (by kernel_rfl) (fun _ _ _ h => h) (Or.inl ⟨by rfl, fun _ _ => by go_simp⟩) hHeld ?_
                simp only [List.getElem_toArray, List.getElem_cons_zero, List.getElem_cons_succ, Act.put, List.setIfInBounds_toArray, List.set_cons_zero, List.set_cons_succ]
                refine wpAnyH_take (i := 3) (v := .int .i64 T) rfl (by kernel_rfl) (by kernel_rfl) (by kernel_rfl) (fun _ _ _ h => h) (Or.inl ⟨by rfl, fun _ _ => by go_simp⟩) hHeld ?_
                simp only [List.getElem_toArray, List.getElem_cons_zero, List.getElem_cons_succ, Act.put, List.setIfInBounds_toArray, List.set_cons_zero, List.set_cons_succ]
                refine wpAnyH_take (i := 4) (v := .int .i64 ((T : Int) - 1)) rfl (by kernel_rfl) (by kernel_rfl) (by kernel_rfl) (fun _ _ _ h => h) (Or.inl ⟨by rfl, fun _ _ => by first | (go_simp; done) | (go_simp; exact fW)⟩) hHeld ?_
                simp only [List.getElem_toArray, List.getElem_cons_zero, List.getElem_cons_succ, Act.put, List.setIfInBounds_toArray, List.set_cons_zero, List.set_cons_succ]
                refine wpAnyH_take (i := 5) (v := .pointer (some ⟨g, (T - 1) * 33, none⟩)) rfl (by kernel_rfl) (by kernel_rfl) (by kernel_rfl) (fun _ _ _ h => h) (Or.inl ⟨by rfl, fun _ _ => by go_simp⟩) hHeld ?_
                simp only [List.getElem_toArray, List.getElem_cons_zero, List.getElem_cons_succ, Act.put, List.setIfInBounds_toArray, List.set_cons_zero, List.set_cons_succ]
                refine wpAnyH_take (i := 6) (v := .pointer (some ⟨g, (T - 1) * 33 + 1, none⟩)) rfl (by kernel_rfl) (by kernel_rfl) (by kernel_rfl) (fun _ _ _ h => h) (Or.inl ⟨by rfl, fun _ _ => by go_simp⟩) hHeld ?_
                simp only [List.getElem_toArray, List.getElem_cons_zero, List.getElem_cons_succ, Act.put, List.setIfInBounds_toArray, List.set_cons_zero, List.set_cons_succ]
                refine wpAnyH_take (i := 7) rfl (by kernel_rfl) (by kernel_rfl) (by kernel_rfl) (fun _ _ _ h => h) (yieldsIf_load_mid (by rfl) 64 _ rfl g ((T - 1) * 33 + 1) rfl (bcells r) _ (fun _ h => h.2.1) Tryd.underlying64 rfl (unhide VMr)) hHeld ?_
                simp only [List.getElem_toArray, List.getElem_cons_zero, List.getElem_cons_succ, Act.put, List.setIfInBounds_toArray, List.set_cons_zero, List.set_cons_succ]
                refine wpAnyH_take (i := 8) (v := .pointer (some ⟨G, 1, none⟩)) rfl (by kernel_rfl) (by kernel_rfl) (by kernel_rfl) (fun _ _ _ h => h) (Or.inl ⟨by rfl, fun _ _ => by go_simp⟩) hHeld ?_
                simp only [List.getElem_toArray, List.getElem_cons_zero, List.getElem_cons_succ, Act.put, List.setIfInBounds_toArray, List.set_cons_zero, List.set_cons_succ]
                refine wpAnyH_take (i := 9) rfl (by kernel_rfl) (by kernel_rfl) (by kernel_rfl) (fun _ _ _ h => h) (yieldsIf_load_mid (by rfl) 64 _ rfl G (1) rfl (bcells q) _ (fun _ h => h.2.2) Tryd.underlying64 rfl (unhide VMq)) hHeld ?_
                simp only [List.getElem_toArray, List.getElem_cons_zero, List.getElem_cons_succ, Act.put, List.setIfInBounds_toArray, List.set_cons_zero, List.set_cons_succ]
                refine wpAnyH_ready (rs := [10, 11]) (by kernel_rfl) (by simp) ?_
                refine AllReadyH.cons rfl (fun K hK => ?_) (AllReadyH.cons rfl (fun K hK => ?_) AllReadyH.nil)
                · go_simp
                  go_at_call 93
                  refine (unhide HNd _).mono ?_
                  rintro e w2 ⟨rfl, hb2⟩
                  have hb2' : Below wc.heap.size wc w2 := ⟨hb2.os, hb2.tape, hb2.output, hb2.size, hb2.block⟩
                  dsimp only
                  refine hK.out _ _ (unhide hKeep _ hb2').2 (fun hHeld => ?_)
                  clear hK K
                  refine wpAnyH_ready (rs := [11]) (by kernel_rfl) (by simp) ?_
                  refine AllReadyH.cons rfl (fun K hK => ?_) AllReadyH.nil
                  go_simp
                  rw [← z32_cells]
                  have hb3 : Below wc.heap.size wc (w2.alloc (.cells (bcells z32).toArray 64)) := hb2'.alloc hb2'.size _
                  have g3 : BRow (w2.alloc (.cells (bcells z32).toArray 64)) w2.heap.size 64 z32 := heap_alloc_new w2 _
                  have hge := hb2'.size
                  generalize w2.heap.size = G8 at g3 hge ⊢
                  generalize w2.alloc (.cells (bcells z32).toArray 64) = w3 at hb3 g3 ⊢
                  refine hK.out _ _ (unhide hKeep _ hb3).2 (fun hHeld => ?_)
                  clear hK K
                  refine wpAnyH_ready (rs := [12]) (by kernel_rfl) (by simp) ?_
                  refine AllReadyH.cons rfl (fun K hK => ?_) AllReadyH.nil
                  rw [if_pos (by rfl)]
                  refine wp_store_mid 64 _ _ rfl G8 0 (bcells dN).toArray rfl rfl (by rw [bcells_size, dn]; exact there_of_brow g3 rfl) (unhide VN) (bcells_one dN) ?_
                  rw [show (bcells dN).toArray.toList = bcells dN from rfl]
                  have g4 : BRow (w3.setCells G8 0 (bcells dN)) G8 64 dN := brow_setCells g3 (by rw [dn]; rfl)
                  have hb4 : Below wc.heap.size wc (w3.setCells G8 0 (bcells dN)) := below_setCells hge _ _ hb3
                  generalize w3.setCells G8 0 (bcells dN) = w4 at g4 hb4 ⊢
                  refine hK.out _ _ (unhide hKeep _ hb4).2 (fun hHeld => ?_)
                  clear hK K
                  refine wpAnyH_done (by kernel_rfl) ?_ _
                  go_wp2_with fail
                  go_meet
                  exact ⟨G8, rfl, g4, by omega, (unhide hKeep _ hb4).1⟩
                · go_simp
                  rw [← z32_cells]
                  have hb5 : Below wc.heap.size wc (wc.alloc (.cells (bcells z32).toArray 64)).drew := ((Below.refl _ _).alloc (Nat.le_refl _) _).drew
                  have g5 : BRow (wc.alloc (.cells (bcells z32).toArray 64)).drew wc.heap.size 64 z32 := heap_alloc_new wc _
                  have hge : wc.heap.size ≤ wc.heap.size := Nat.le_refl _
                  generalize hG8 : wc.heap.size = G8 at g5 ⊢
                  generalize (wc.alloc (.cells (bcells z32).toArray 64)).drew = w5 at hb5 g5 ⊢
                  refine hK.out _ _ (unhide hKeep _ hb5).2 (fun hHeld => ?_)
                  clear hK K
                  refine wpAnyH_ready (rs := [10]) (by kernel_rfl) (by simp) ?_
                  refine AllReadyH.cons rfl (fun K hK => ?_) AllReadyH.nil
                  go_simp
                  go_at_call 93
                  refine (unhide HNd _).mono ?_
                  rintro e w3 ⟨rfl, hb2⟩
                  have hb3 := hb5.trans (hb2.mono hb5.size)
                  have g3 : BRow w3 G8 64 z32 := (hb2.block _ (lt_of_block g5)).trans g5
                  rw [hG8] at hge
                  dsimp only
                  refine hK.out _ _ (unhide hKeep _ hb3).2 (fun hHeld => ?_)
                  clear hK K
                  refine wpAnyH_ready (rs := [12]) (by kernel_rfl) (by simp) ?_
                  refine AllReadyH.cons rfl (fun K hK => ?_) AllReadyH.nil
                  rw [if_pos (by rfl)]
                  refine wp_store_mid 64 _ _ rfl G8 0 (bcells dN).toArray rfl rfl (by rw [bcells_size, dn]; exact there_of_brow g3 rfl) (unhide VN) (bcells_one dN) ?_
                  rw [show (bcells dN).toArray.toList = bcells dN from rfl]
                  have g4 : BRow (w3.setCells G8 0 (bcells dN)) G8 64 dN := brow_setCells g3 (by rw [dn]; rfl)
                  have hb4 : Below wc.heap.size wc (w3.setCells G8 0 (bcells dN)) := below_setCells (by omega) _ _ hb3
                  generalize w3.setCells G8 0 (bcells dN) = w4 at g4 hb4 ⊢
                  refine hK.out _ _ (unhide hKeep _ hb4).2 (fun hHeld => ?_)
                  clear hK K
                  refine wpAnyH_done (by kernel_rfl) ?_ _
                  go_wp2_with fail
                  go_meet
                  exact ⟨G8, rfl, g4, by omega, (unhide hKeep _ hb4).1⟩
              case rest =>
                obtain ⟨G8, rfl, g8, hne8, hq3⟩ := hcut
                have hnc : wc.cell? ⟨G, 0, none⟩ = some (.int .i64 (m : Int)) := cell_of_row wc G 0 _ _ _ hq3.2.1
                have hfold := fold33 (2 * (m : Int)) dN dn
                have hbl : (bcells dN).length = 32 := by simp [bcells, dn]
                have HG3 := hide hq3.2.1
                have HG8 := hide g8
                have VH := hide (show (Tryd.prog.info? 138).map (·.size) = some (Value.int .i64 (2 * (m : Int)) :: bcells dN).toArray.size by rw [List.size_toArray, List.length_cons, hbl]; exact info_hp)
                have ZH := hide (show (hc (m, q)).toArray.size = (Value.int .i64 (2 * (m : Int)) :: bcells dN).toArray.size by rw [List.size_toArray, List.size_toArray, hc_length _ hql, List.length_cons, hbl])
                have OH := hide (show (Value.int .i64 (2 * (m : Int)) :: bcells dN).toArray.all (·.oneCell') = true by have h7 := hc_all (2 * m, dN); rwa [hc2] at h7)
                have HQ3 := hide hq3
                clear hq3 g8 hR8 hKeep HNd HRT HQ2 HOW2 hrt
                go_wp2_with (first | ((with_reducible refine at_load ?_); refine wpList_load_row rfl 64 _ rfl G8 (by rfl) 64 (bcells dN).toArray (0, 0) _ (unhide HG8) Tryd.underlying64 rfl (unhide VN) ?_) | ((with_reducible refine at_store ?_); refine wpList_store_row rfl 138 _ _ rfl G (Value.int .i64 (2 * (m : Int)) :: bcells dN).toArray rfl rfl 138 _ (unhide HG3) (unhide VH) (unhide ZH) (unhide OH) ?_))
                have hq4 := unhide HQ3
                have hTe2 : T = t'.length + 1 := by omega
                rw [← hc2]
                have hgr : wc.grownBy (wc.setRow G (hc (2 * m, dN)).toArray) (some G) := ⟨rfl, rfl, rfl, by simp [World.setRow], fun k hk hne => setRow_other _ _ _ _ (fun e => hne (by rw [e]))⟩
                have hown9 := hq4.1.2.2.1.kept hgr (.inr hq4.2.2.2)
                rw [List.length_cons, List.reverse_cons, hcs_snoc, hTe2] at hown9
                have hownA := ownsRow_pop (by rw [hcs_length _ (fun p hp => (unhide HTE p (by simp at hp; simp [hp])).1), List.length_reverse]) hown9
                have hG2 := hq4.2.2.1
                refine ⟨⟨t', 2 * m, dN, by rw [← unhide HND]; exact car_step (unhide HCR), ⟨⟨(setRow_other _ _ _ _ (by omega)).trans hq4.1.1, (setRow_other _ _ _ _ (by omega)).trans hq4.1.2.1, hownA, below_row hq4.1.2.2.2.1 (by omega) _, by simp only [World.setRow, Array.size_modify]; exact hq4.1.2.2.2.2⟩, setRow_heap _ _ _ _ _ _ hq4.2.1, hG2, hq4.2.2.2⟩⟩, by simp only [lenH]; omega⟩
    · have hd1 : decide ((k : Int) < (ss.length : Int)) = false := by simp; omega
      have hst : Stk ss t 1 := by
        have h1 := unhide HST
        rwa [List.take_of_length_le (by omega)] at h1
      have HGR := hide (fun n q t' (h : t = (n, q) :: t') => gather_all (xs := ss) (by rw [← h]; exact hst))
      have hte := hst.elem
      have htn := hst.len
      cases t with
      | nil =>
        have hs0 : ss = [] := hst
        have HN := hide (fun wq => (unhide HOK).2 ⟨#[]⟩ wq (by decide))
        rw [show (ByteArray.mk #[]).data.toList = [] from rfl] at HN
        have HR := hide (show rootL ss = shaL [] by rw [hs0, rootL_nil])
        have dl : (shaL []).length = 32 := sha_length _
        generalize shaL [] = d8 at HN dl HR
        have V2 := hide (v_dg d8 dl)
        have V3 := hide (v_z32 d8 dl)
        obtain ⟨al, cl, hvl⟩ := own_shape (unhide HHP).2.2.1
        subst hvl
        clear hst hte htn hs0 HST HGR
        go_wp2_with ((with_reducible refine at_load ?_); refine wpList_load_row rfl 38 _ rfl w.heap.size (by rfl) 38 (ucells tb).toArray (0, 0) _ (unhide HHP).1 Tryd.underlying38 rfl (unhide VT) ?_)
        refine (unhide HN _).mono ?_
        rintro e w2 ⟨rfl, hb2⟩
        have hp2 := (unhide HHP).below hb2
        have V1 := hide hp2.2.1
        go_wp2_with ((with_reducible refine at_store ?_); refine wpList_store_row rfl 64 _ _ rfl (w.heap.size + 1) (bcells d8).toArray rfl rfl 64 _ (unhide V1) (unhide V2) (unhide V3) (bcells_one d8) ?_)
        refine bodyPost_ret (v := .agg (bcells d8).toArray) ?_ rfl ⟨by rw [unhide HR], below_row hp2.2.2.2.1 (by omega) _⟩
        exact results_cell_row Tryd.results77 _ _ (w.heap.size + 1) 64 _ (0, 0) _ rfl (setRow_heap _ _ _ _ _ _ (unhide V1)) Tryd.underlying64 rfl (unhide V2)
      | cons p t' =>
        obtain ⟨n, q⟩ := p
        have hgr := unhide HGR n q t' rfl
        obtain ⟨T, hT⟩ : ∃ T : Nat, t'.length + 1 = T := ⟨_, rfl⟩
        have how := (unhide HHP).2.2.1
        obtain ⟨g, cp, hg⟩ := own_top how (by simp)
        subst hg
        have hql := (hte (n, q) (by simp)).1
        simp only at hql
        have htl' : ∀ p ∈ t', p.2.length = 32 := fun p hp => (hte p (by simp [hp])).1
        have hrt := range_top t' (n, q) htl' how
        rw [show t'.length = T - 1 by omega] at hrt
        have HRT := hide hrt
        have HTL := hide htl'
        have hT1 : 1 ≤ T := by omega
        have hTl : T ≤ 100 := by simp only [List.length_cons] at htn; omega
        rw [List.length_cons, hT]
        have hT0 : ((T : Int) == 0) = false := by rw [beq_eq_false_iff_ne]; omega
        have fW : IntKind.i64.wrap ((T : Int) - 1) = (T : Int) - 1 := i64w _ (by omega)
        have fW2 : IntKind.i64.wrap ((T : Int) - 2) = (T : Int) - 2 := i64w _ (by omega)
        have fa : (1 : Int) ≤ (T : Int) := by omega
        have fc : (0 : Int) ≤ (T : Int) - 1 := by omega
        have fd : (T : Int) - 1 < (T : Int) := by omega
        have fe : ((T : Int) - 1).toNat = T - 1 := by omega
        have VMq := hide (v_mid q hql)
        have VQ := hide (v_dg q hql)
        have ZQ := hide (v_z32 q hql)
        clear hst hte htn HST HGR how hrt htl'
        go_wp2_with (first | ((with_reducible refine at_load ?_); refine wpList_load_mid rfl 64 _ rfl g ((T - 1) * 33 + 1) (by rfl) (bcells q) _ (unhide HRT) Tryd.underlying64 rfl (unhide VMq) ?_) | ((with_reducible refine at_store ?_); refine wpList_store_row rfl 64 _ _ rfl wr.heap.size (bcells q).toArray rfl rfl 64 _ (heap_alloc_new wr _) (unhide VQ) (unhide ZQ) (bcells_one q) ?_))
        rw [← z32_cells]
        have hbA := below_put wr (bcells z32).toArray (bcells q).toArray 64
        have gA : BRow ((wr.alloc (.cells (bcells z32).toArray 64)).setRow wr.heap.size (bcells q).toArray) wr.heap.size 64 q := heap_put_new _ _ _ _
        have hr0 : Hr w tb ((n, q) :: t') (.slice (some ⟨g, 0, none⟩) T cp) wr.heap.size q ((wr.alloc (.cells (bcells z32).toArray 64)).setRow wr.heap.size (bcells q).toArray) := by
          have h1 := unhide HHP
          rw [List.length_cons, hT] at h1
          refine ⟨h1.below hbA, gA, h1.2.2.2.2, fun h => ?_⟩
          have := (h1.2.2.1.lt _ h).2
          omega
        generalize ((wr.alloc (.cells (bcells z32).toArray 64)).setRow wr.heap.size (bcells q).toArray) = W9 at hr0 ⊢
        generalize wr.heap.size = G9 at hr0 ⊢
        have HR0 := hide hr0
        clear hbA gA hr0 HHP HRT
        go_loopw [10] (fun i wx => ∃ (s : Nat) (r : List UInt8), s ≤ t'.length ∧ i = .int .i64 ((T : Int) - 2 - s) ∧ r = gather q (t'.take s) ∧ r.length = 32 ∧ Hr w tb ((n, q) :: t') (.slice (some ⟨g, 0, none⟩) T cp) G9 r wx) (fun i _ => (intOf i + 1).toNat)
        case atStart => exact ⟨0, q, Nat.zero_le _, val_int (by omega), rfl, hql, unhide HR0⟩
        case round =>
          obtain ⟨s, r, hs, rfl, hr, hrl, hh⟩ := hrel
          have HRR := hide hr
          have HH := hide hh
          clear hr hh
          by_cases hsl : s < t'.length
          · obtain ⟨j, hj⟩ : ∃ j : Nat, j = t'.length - 1 - s := ⟨_, rfl⟩
            have hji : ((T : Int) - 2 - (s : Int)) = (j : Int) := by omega
            rw [hji]
            have hjT : j + 1 < T := by omega
            obtain ⟨p2, hp2⟩ : ∃ p2, p2 = (t'.getD s (0, [])).2 := ⟨_, rfl⟩
            have hel := range_el t' (n, q) (unhide HTL) (by rw [List.length_cons, hT]) (unhide HH).1.2.2.1 hql s hsl
            rw [← hp2, ← hj] at hel
            have hpl : p2.length = 32 := by
              rw [hp2, List.getD, List.getElem?_eq_getElem hsl]
              exact unhide HTL _ (List.getElem_mem hsl)
            have HGN := hide (gather_succ q t' s hsl)
            have HP2 := hide hp2
            have HEL := hide hel
            have dn : (nd p2 r).length = 32 := sha_length _
            have HNd := hide (fun wq => rnode_any tb (unhide HOK) p2 r wq hpl hrl)
            generalize hnd : nd p2 r = dN at HNd dn
            have HND := hide hnd
            have VN := hide (v_dg dN dn)
            have VMp := hide (v_mid p2 hpl)
            have VMr := hide (v_mid r hrl)
            have fj0 : (0 : Int) ≤ (j : Int) := by omega
            have fj1 : (j : Int) < (T : Int) := by omega
            have fd0 : decide ((0 : Int) ≤ (j : Int)) = true := by simp
            have hKeep := hide (fun (wq : World) (h : Below wr.heap.size wr wq) => show Hr w tb ((n, q) :: t') (.slice (some ⟨g, 0, none⟩) T cp) G9 r wq ∧ (wq.rangeAt w.heap.size 0 (ucells tb) ∧ wq.rangeAt g (j * 33 + 1) (bcells p2)) from
              ⟨(unhide HH).below h, rangeAt_below (range_tab (unhide HH).1.1 htl) h (Nat.le_refl _), rangeAt_below (unhide HEL) h (Nat.le_refl _)⟩)
            have hW1 : Below wr.heap.size wr wr.drew := (Below.refl _ _).drew
            have hR8 := (unhide hKeep _ hW1).2
            have hR9 : wr.drew.rangeAt G9 0 (bcells r) := range_of_brow3 (unhide HH).2.1
            have HJ := hide hj
            clear hnd hp2 hj hel hji
            go_wp2_with fail
            refine wp_region_held_drew (S := fun w' => w'.rangeAt w.heap.size 0 (ucells tb) ∧ w'.rangeAt g (j * 33 + 1) (bcells p2)) (by kernel_rfl) hR8 (fun hHeld => ?_)
            refine wpAnyH_take (i := 0) rfl (by kernel_rfl) (by kernel_rfl) (by kernel_rfl) (fun _ _ _ h => h) (yieldsIf_load_mid (by rfl) 38 _ rfl w.heap.size (0) rfl (ucells tb) _ (fun _ h => h.1) Tryd.underlying38 rfl (unhide VTM)) hHeld ?_
            simp only [List.getElem_toArray, List.getElem_cons_zero, Act.put, List.setIfInBounds_toArray, List.set_cons_zero, List.set_cons_succ]
            refine wpAnyH_take (i := 1) (v := .slice (some ⟨g, 0, none⟩) T cp) rfl (by kernel_rfl) (by kernel_rfl) (by kernel_rfl) (fun _ _ _ h => h) (Or.inl ⟨by rfl, fun _ _ => by go_simp⟩) hHeld ?_
            simp only [List.getElem_toArray, List.getElem_cons_zero, List.getElem_cons_succ, Act.put, List.setIfInBounds_toArray, List.set_cons_zero, List.set_cons_succ]
            refine wpAnyH_take (i := 2) (v := .int .i64 j) rfl (by kernel_rfl) (by kernel_rfl) (by kernel_rfl) (fun _ _ _ h => h) (Or.inl ⟨by rfl, fun _ _ => by go_simp⟩) hHeld ?_
            simp only [List.getElem_toArray, List.getElem_cons_zero, List.getElem_cons_succ, Act.put, List.setIfInBounds_toArray, List.set_cons_zero, List.set_cons_succ]
            refine wpAnyH_take (i := 3) (v := .pointer (some ⟨g, j * 33, none⟩)) rfl (by kernel_rfl) (by kernel_rfl) (by kernel_rfl) (fun _ _ _ h => h) (Or.inl ⟨by rfl, fun _ _ => by go_simp⟩) hHeld ?_
            simp only [List.getElem_toArray, List.getElem_cons_zero, List.getElem_cons_succ, Act.put, List.setIfInBounds_toArray, List.set_cons_zero, List.set_cons_succ]
            refine wpAnyH_take (i := 4) (v := .pointer (some ⟨g, j * 33 + 1, none⟩)) rfl (by kernel_rfl) (by kernel_rfl) (by kernel_rfl) (fun _ _ _ h => h) (Or.inl ⟨by rfl, fun _ _ => by go_simp⟩) hHeld ?_
            simp only [List.getElem_toArray, List.getElem_cons_zero, List.getElem_cons_succ, Act.put, List.setIfInBounds_toArray, List.set_cons_zero, List.set_cons_succ]
            refine wpAnyH_take (i := 5) rfl (by kernel_rfl) (by kernel_rfl) (by kernel_rfl) (fun _ _ _ h => h) (yieldsIf_load_mid (by rfl) 64 _ rfl g (j * 33 + 1) rfl (bcells p2) _ (fun _ h => h.2) Tryd.underlying64 rfl (unhide VMp)) hHeld ?_
            simp only [List.getElem_toArray, List.getElem_cons_zero, List.getElem_cons_succ, Act.put, List.setIfInBounds_toArray, List.set_cons_zero, List.set_cons_succ]
            refine wpAnyH_ready (rs := [6]) (by kernel_rfl) (by simp) ?_
            refine AllReadyH.cons rfl (fun K hK => ?_) AllReadyH.nil
            rw [if_pos (by rfl)]
            refine wp_load_mid 64 _ rfl G9 0 rfl (bcells r) _ hR9 Tryd.underlying64 rfl (unhide VMr) ?_
            refine hK.out _ _ hHeld (fun hHeld => ?_)
            clear hK K
            simp only [List.getElem_toArray, List.getElem_cons_zero, List.getElem_cons_succ, Act.put, List.setIfInBounds_toArray, List.set_cons_zero, List.set_cons_succ]
            refine wpAnyH_ready (rs := [7]) (by kernel_rfl) (by simp) ?_
            refine AllReadyH.cons rfl (fun K hK => ?_) AllReadyH.nil
            go_simp
            go_at_call 93
            refine (unhide HNd _).mono ?_
            rintro e w3 ⟨rfl, hb2⟩
            have hb3 : Below wr.heap.size wr w3 := ⟨hb2.os, hb2.tape, hb2.output, hb2.size, hb2.block⟩
            have hh3 := (unhide hKeep _ hb3).1
            dsimp only
            refine hK.out _ _ (unhide hKeep _ hb3).2 (fun hHeld => ?_)
            clear hK K
            refine wpAnyH_ready (rs := [8]) (by kernel_rfl) (by simp) ?_
            refine AllReadyH.cons rfl (fun K hK => ?_) AllReadyH.nil
            rw [if_pos (by rfl)]
            refine wp_store_mid 64 _ _ rfl G9 0 (bcells dN).toArray rfl rfl (by rw [bcells_size, dn]; exact there_of_brow hh3.2.1 hrl) (unhide VN) (bcells_one dN) ?_
            rw [show (bcells dN).toArray.toList = bcells dN from rfl]
            have hh4 := hh3.put dN (by rw [hrl, dn])
            have hS4 : (w3.setCells G9 0 (bcells dN)).rangeAt w.heap.size 0 (ucells tb) ∧ (w3.setCells G9 0 (bcells dN)).rangeAt g (j * 33 + 1) (bcells p2) := by
              refine ⟨range_tab hh4.1.1 htl, ?_⟩
              have hel4 := range_el t' (n, q) (unhide HTL) (by rw [List.length_cons, hT]) hh4.1.2.2.1 hql s hsl
              rw [← unhide HP2, ← unhide HJ] at hel4
              exact hel4
            generalize w3.setCells G9 0 (bcells dN) = w4 at hh4 hS4 ⊢
            refine hK.out _ _ hS4 (fun hHeld => ?_)
            clear hK K
            refine wpAnyH_done (by kernel_rfl) ?_ _
            go_wp2_with fail
            have hj2 := unhide HJ
            exact ⟨⟨s + 1, dN, by omega, val_int (by omega), by rw [unhide HGN, ← unhide HP2, ← unhide HRR]; exact (unhide HND).symm, dn, hh4⟩, by simp [intOf]⟩
          · have hse : s = t'.length := by omega
            have hfin : r = rootL ss := by rw [unhide HRR, hse, List.take_of_length_le (Nat.le_refl _), hgr]
            have HFIN := hide hfin
            have fd0 : decide ((0 : Int) ≤ (T : Int) - 2 - (s : Int)) = false := by simp; omega
            have VR := hide (v_dg r hrl)
            have ZR := hide (v_z32 r hrl)
            have hh := unhide HH
            have HG9 := hide hh.2.1
            have HG4 := hide hh.1.2.1
            have hbf := hh.1.2.2.2.1
            clear hh hse hfin
            go_wp2_with (first | ((with_reducible refine at_load ?_); refine wpList_load_row rfl 64 _ rfl G9 (by rfl) 64 (bcells r).toArray (0, 0) _ (unhide HG9) Tryd.underlying64 rfl (unhide VR) ?_) | ((with_reducible refine at_store ?_); refine wpList_store_row rfl 64 _ _ rfl (w.heap.size + 1) (bcells r).toArray rfl rfl 64 _ (unhide HG4) (unhide VR) (unhide ZR) (bcells_one r) ?_))
            refine bodyPost_ret (v := .agg (bcells r).toArray) ?_ rfl ⟨by rw [unhide HFIN], below_row hbf (by omega) _⟩
            exact results_cell_row Tryd.results77 _ _ (w.heap.size + 1) 64 _ (0, 0) _ rfl (setRow_heap _ _ _ _ _ _ (unhide HG4)) Tryd.underlying64 rfl (unhide VR)
end Go.Proofs.YtanfolfopalbeabDoor
