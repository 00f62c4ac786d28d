/- The reference's heaps: logs of as many entries as a power of two, the smallest last; what is gathered from them is the root. The reference's Tree: the contract. lend, over the strong sum's texts. lent, sameTexts, num: the contracts. ferrylaw.Junk. World's format where there is no disk: the contract. World's format where there is a disk: the contract. The reference's may: the contract. Plain mathematics of proofs by links: two chains that end alike, and part. The reference's ReadOld: the contract. The reference's Size, Round and Wanted: the contracts. -/
import Derived.Test.YtanfolfopalbeaaDoorTreeMath
import Derived.Test.YtanfolfopalbeaaDoorCommR
import Derived.Deep.CutRange
import Derived.WalkSmall
import Derived.BigQuiet
import Derived.Test.YtanfolfopalbeaaDoorKeep
import Derived.Laws.CopyOwn
import Derived.Deep.QuietTactic
import Derived.Test.YtanfolfopalbeaaDoorCheck
import Derived.Test.YtanfolfopalbeaaDoorMath
import Derived.Test.YtanfolfopalbeaaDoorCommQ
namespace Go.Proofs.YtanfolfopalbeaaDoor
open Go.RowKit

/-- The heaps t (the last one first) are those of the log xs; each has at least L entries. -/
def Stk : List ByteArray → List (Nat × List UInt8) → Nat → Prop
  | xs, [], _ => xs = []
  | xs, (n, r) :: t, L => (∃ j, n = 2 ^ j) ∧ L ≤ n ∧ n ≤ xs.length ∧ r = rootL (xs.drop (xs.length - n)) ∧ Stk (xs.take (xs.length - n)) t (n + 1)

theorem pow_next {i j : Nat} (h : 2 ^ j + 1 ≤ 2 ^ i) : 2 ^ j + 2 ^ j ≤ 2 ^ i := by
  have hij : j < i := by
    apply Decidable.byContradiction
    intro hn
    have := Nat.pow_le_pow_right (n := 2) (by decide) (show i ≤ j by omega)
    omega
  have := Nat.pow_le_pow_right (n := 2) (by decide) (show j + 1 ≤ i by omega)
  rw [Nat.pow_succ] at this
  omega
theorem Stk.up {xs : List ByteArray} {t : List (Nat × List UInt8)} {n : Nat} (hn : ∃ j, n = 2 ^ j) (h : Stk xs t (n + 1)) : Stk xs t (n + n) := by
  cases t with
  | nil => exact h
  | cons p t =>
    obtain ⟨m, r⟩ := p
    obtain ⟨hj, h1, h2, h3, h4⟩ := h
    obtain ⟨j, rfl⟩ := hn
    obtain ⟨i, rfl⟩ := hj
    exact ⟨⟨i, rfl⟩, pow_next h1, h2, h3, h4⟩
theorem Stk.low {xs : List ByteArray} {t : List (Nat × List UInt8)} {L L' : Nat} (h : Stk xs t L) (hl : L' ≤ L) : Stk xs t L' := by
  cases t with
  | nil => exact h
  | cons p t =>
    obtain ⟨m, r⟩ := p
    obtain ⟨hj, h1, h2⟩ := h
    exact ⟨hj, Nat.le_trans hl h1, h2⟩
theorem Stk.len {xs : List ByteArray} {t : List (Nat × List UInt8)} {L : Nat} (h : Stk xs t L) : t.length ≤ xs.length := by
  induction t generalizing xs L with
  | nil => exact Nat.zero_le _
  | cons p t ih =>
    obtain ⟨m, r⟩ := p
    obtain ⟨⟨j, rfl⟩, h1, h2, h3, h4⟩ := h
    have := ih h4
    rw [List.length_take] at this
    have hp := Nat.two_pow_pos j
    simp only [List.length_cons]
    omega
theorem Stk.elem {xs : List ByteArray} {t : List (Nat × List UInt8)} {L : Nat} (h : Stk xs t L) : ∀ p ∈ t, p.2.length = 32 ∧ p.1 ≤ xs.length := by
  induction t generalizing xs L with
  | nil => intro p hp; cases hp
  | cons q t ih =>
    obtain ⟨m, r⟩ := q
    obtain ⟨hj, h1, h2, h3, h4⟩ := h
    intro p hp
    rcases List.mem_cons.1 hp with rfl | hp
    · exact ⟨by rw [h3]; exact rootL_length _, h2⟩
    · have := ih h4 p hp
      rw [List.length_take] at this
      exact ⟨this.1, by omega⟩
/-- The log A ++ S: the heaps of A, and beside them one of S. -/
def Car (xs : List ByteArray) (t : List (Nat × List UInt8)) (n : Nat) (r : List UInt8) : Prop :=
  ∃ A S, xs = A ++ S ∧ S.length = n ∧ (∃ j, n = 2 ^ j) ∧ r = rootL S ∧ Stk A t n
theorem car_start {xs : List ByteArray} {t : List (Nat × List UInt8)} (x : ByteArray) (h : Stk xs t 1) : Car (xs ++ [x]) t 1 (lf x) :=
  ⟨xs, [x], rfl, rfl, ⟨0, rfl⟩, by rw [rootL_one [x] rfl]; rfl, h⟩
theorem root_join (A S : List ByteArray) (n : Nat) (hn : ∃ j, n = 2 ^ j) (hA : A.length = n) (hS : 0 < S.length) (hS2 : S.length ≤ n) : rootL (A ++ S) = nd (rootL A) (rootL S) := by
  obtain ⟨j, rfl⟩ := hn
  have hp := Nat.two_pow_pos j
  have hl : (A ++ S).length = 2 ^ j + S.length := by rw [List.length_append, hA]
  rw [rootL_two _ (by omega), hl, half_of _ j (by omega) (by omega), List.take_left' hA, List.drop_left' hA]
theorem car_step {xs : List ByteArray} {t : List (Nat × List UInt8)} {n : Nat} {r q : List UInt8} (h : Car xs ((n, r) :: t) n q) : Car xs t (2 * n) (nd r q) := by
  obtain ⟨A, S, hx, hl, hn, hq, hj, h1, h2, h3, h4⟩ := h
  have hp : 0 < n := by obtain ⟨j, rfl⟩ := hn; exact Nat.two_pow_pos j
  refine ⟨A.take (A.length - n), A.drop (A.length - n) ++ S, by rw [← List.append_assoc, List.take_append_drop, hx], by rw [List.length_append, List.length_drop]; omega, ?_, ?_, ?_⟩
  · obtain ⟨j, rfl⟩ := hn
    exact ⟨j + 1, by rw [Nat.pow_succ]; omega⟩
  · rw [root_join _ S n hn (by rw [List.length_drop]; omega) (by omega) (by omega), h3, hq]
  · have := h4.up hn
    rwa [show n + n = 2 * n by omega] at this
theorem car_end {xs : List ByteArray} {t : List (Nat × List UInt8)} {n : Nat} {q : List UInt8} (h : Car xs t n q) (hne : ∀ m r t', t = (m, r) :: t' → m ≠ n) : Stk xs ((n, q) :: t) 1 := by
  obtain ⟨A, S, hx, hl, hn, hq, hs⟩ := h
  have hp : 0 < n := by obtain ⟨j, rfl⟩ := hn; exact Nat.two_pow_pos j
  have hlen : xs.length - n = A.length := by rw [hx, List.length_append]; omega
  refine ⟨hn, hp, by rw [hx, List.length_append]; omega, ?_, ?_⟩
  · rw [hlen, hx, List.drop_left' rfl, hq]
  · rw [hlen, hx, List.take_left' rfl]
    cases t with
    | nil => exact hs
    | cons p t =>
      obtain ⟨m, r⟩ := p
      obtain ⟨hj, h1, h2⟩ := hs
      have := hne m r t rfl
      exact ⟨hj, by omega, h2⟩
/-- What is gathered from the heaps. -/
def gather (q : List UInt8) (t : List (Nat × List UInt8)) : List UInt8 := t.foldl (fun r p => nd p.2 r) q
theorem gather_root : ∀ (t : List (Nat × List UInt8)) (A S : List ByteArray) (L : Nat), Stk A t L → 0 < S.length → S.length ≤ L → gather (rootL S) t = rootL (A ++ S) := by
  intro t
  induction t with
  | nil =>
    intro A S L h _ _
    have h0 : A = [] := h
    rw [h0]
    rfl
  | cons p t ih =>
    intro A S L h h0 hL
    obtain ⟨n, r⟩ := p
    obtain ⟨hn, h1, h2, h3, h4⟩ := h
    have := ih (A.take (A.length - n)) (A.drop (A.length - n) ++ S) (n + n) (h4.up hn) (by rw [List.length_append]; omega) (by rw [List.length_append, List.length_drop]; omega)
    rw [← List.append_assoc, List.take_append_drop, root_join _ S n hn (by rw [List.length_drop]; omega) h0 (by omega), ← h3] at this
    exact this
theorem gather_all {xs : List ByteArray} {t : List (Nat × List UInt8)} {n : Nat} {q : List UInt8} (h : Stk xs ((n, q) :: t) 1) : gather q t = rootL xs := by
  obtain ⟨hn, h1, h2, h3, h4⟩ := h
  have := gather_root t (xs.take (xs.length - n)) (xs.drop (xs.length - n)) (n + n) (h4.up hn) (by rw [List.length_drop]; omega) (by rw [List.length_drop]; omega)
  rw [List.take_append_drop, ← h3] at this
  exact this
end Go.Proofs.YtanfolfopalbeaaDoor
namespace Go.Proofs.YtanfolfopalbeaaDoor
open Go.RowKit

/-- The cells of a heap, of a list of them. -/
def hc (p : Nat × List UInt8) : List Value := .int .i64 (p.1 : Int) :: bcells p.2
def hcs (l : List (Nat × List UInt8)) : List Value := l.flatMap hc
theorem hc_length (p : Nat × List UInt8) (h : p.2.length = 32) : (hc p).length = 33 := by simp [hc, bcells, h]
theorem hcs_snoc (l : List (Nat × List UInt8)) (p : Nat × List UInt8) : hcs (l ++ [p]) = hcs l ++ hc p := by simp [hcs]
theorem hcs_length (l : List (Nat × List UInt8)) (h : ∀ p ∈ l, p.2.length = 32) : (hcs l).length = l.length * 33 := by
  induction l with
  | nil => rfl
  | cons a r ih =>
    have h2 := ih (fun p hp => h p (by simp [hp]))
    have h1 := hc_length a (h a (by simp))
    unfold hcs at h2 ⊢
    rw [List.flatMap_cons, List.length_append, h2, List.length_cons, h1]
    omega
theorem hc_one (p : Nat × List UInt8) : ∀ u ∈ hc p, u.oneCell' = true := by
  intro u hu
  rcases List.mem_cons.1 hu with rfl | hu
  · rfl
  · exact bcells_one' p.2 u hu
def z33 : Nat × List UInt8 := (0, z32)
theorem info_heap : (Tryd.prog.info? 129).map (fun i => (i.zero, i.size, i.bytes)) = some (some (.agg (hc z33).toArray), 33, 40) := by kernel_rfl
theorem info_hp : (Tryd.prog.info? 129).map (·.size) = some 33 := by kernel_rfl
theorem v_hp (p : Nat × List UInt8) (h : p.2.length = 32) : (Tryd.prog.info? 129).map (·.size) = some (hc p).toArray.size := by rw [List.size_toArray, hc_length p h]; exact info_hp
theorem hc_all (p : Nat × List UInt8) : (hc p).toArray.all (·.oneCell') = true := Array.all_eq_true'.2 (fun v hv => hc_one p v (by simpa using hv))
theorem getD_take_succ (ss : List ByteArray) (k : Nat) (h : k < ss.length) : ss.take (k + 1) = ss.take k ++ [ss.getD k ByteArray.empty] := by
  rw [List.take_succ_eq_append_getElem h]
  simp [List.getD, List.getElem?_eq_getElem h]
theorem there_of_hrow {w : World} {g : Nat} {t : TypeId} {p : Nat × List UInt8} (h : w.heap[g]? = some (.cells (hc p).toArray t (0, 0))) (hd : p.2.length = 32) : w.there g 0 33 := fun j hj => by
  rw [Nat.zero_add]
  refine ⟨?_, frozen_of_row w g j _ _ h⟩
  rw [cell_of_row w g j _ _ _ h, List.getElem?_toArray, List.getElem?_eq_getElem (by rw [hc_length p hd]; exact hj)]
  rfl
theorem hrow_setCells {w : World} {g : Nat} {ty : TypeId} {p q : Nat × List UInt8} (h : w.heap[g]? = some (.cells (hc p).toArray ty (0, 0))) (hp : p.2.length = 32) (hq : q.2.length = 32) : (w.setCells g 0 (hc q)).heap[g]? = some (.cells (hc q).toArray ty (0, 0)) := by
  rw [setCells_row g ty (hc q) 0 w _ h (by rw [List.size_toArray, hc_length p hp, hc_length q hq]; omega)]
  congr 3
  rw [List.take_zero, List.nil_append, List.drop_eq_nil_of_le (by rw [Nat.zero_add, hc_length q hq]; simp [hc_length p hp]), List.append_nil]
def lenH : Value → Nat
  | .slice _ n _ => n
  | _ => 0
theorem q_len {xs : List ByteArray} {t : List (Nat × List UInt8)} {n : Nat} {q : List UInt8} (h : Car xs t n q) : q.length = 32 := by
  obtain ⟨A, S, _, _, _, hq, _⟩ := h
  rw [hq]
  exact rootL_length _
theorem n_len {xs : List ByteArray} {t : List (Nat × List UInt8)} {n : Nat} {q : List UInt8} (h : Car xs t n q) : n ≤ xs.length := by
  obtain ⟨A, S, hx, hl, _⟩ := h
  rw [hx, List.length_append]
  omega
theorem t_len {xs : List ByteArray} {t : List (Nat × List UInt8)} {n : Nat} {q : List UInt8} (h : Car xs t n q) : t.length ≤ xs.length := by
  obtain ⟨A, S, hx, hl, _, _, hs⟩ := h
  have := hs.len
  rw [hx, List.length_append]
  omega
theorem t_elem {xs : List ByteArray} {t : List (Nat × List UInt8)} {n : Nat} {q : List UInt8} (h : Car xs t n q) : ∀ p ∈ t, p.2.length = 32 ∧ p.1 ≤ xs.length := by
  obtain ⟨A, S, hx, hl, _, _, hs⟩ := h
  intro p hp
  have := hs.elem p hp
  rw [hx, List.length_append]
  exact ⟨this.1, by omega⟩
theorem own_top {w : World} {base : Nat} {e : TypeId} {v : Value} {n : Nat} {xs : List Value} (h : w.ownsRow base e 33 v n xs) (hn : 0 < n) : ∃ g cap, v = .slice (some ⟨g, 0, none⟩) n cap := by
  rcases h.2 with ⟨_, h0⟩ | ⟨g, cap, cur, hv, _⟩
  · omega
  · exact ⟨g, cap, hv⟩
theorem top_cell (t : List (Nat × List UInt8)) (p : Nat × List UInt8) (h : ∀ p ∈ t, p.2.length = 32) (j : Nat) : (hcs ((p :: t).reverse))[t.length * 33 + j]? = (hc p)[j]? := by
  rw [List.reverse_cons, hcs_snoc, List.getElem?_append_right (by rw [hcs_length _ (fun p hp => h p (by simpa using hp)), List.length_reverse]; omega), hcs_length _ (fun p hp => h p (by simpa using hp)), List.length_reverse]
  congr 1
  omega
/-- Is the last heap one of n entries? -/
def topIs (t : List (Nat × List UInt8)) (n : Nat) : Bool := match t with | [] => false | (m, _) :: _ => decide (m = n)
/-- The row of a list of one heap, as it is built. -/
theorem fold_heap (p : Nat × List UInt8) (h : p.2.length = 32) : List.foldl (fun (cs : Array Value) (x : Value × Nat) => cs.setIfInBounds x.snd x.fst) (hc z33).toArray (hc p).zipIdx = (hc p).toArray := by
  apply Array.ext'
  have := fold_set (hc p) 0 (hc z33).toArray [] (hc z33) (by simp) rfl (by rw [hc_length p h]; rfl)
  rw [this]
  simp
theorem news_heap (w : World) (p : Nat × List UInt8) (t : TypeId) : ∀ j u, (hc p)[j]? = some u → (w.alloc (.cells (hc p).toArray t)).cell? ((⟨w.heap.size, 0, none⟩ : Addr).add j) = some u := by
  intro j u hu
  rw [add_none, Nat.zero_add, cell_of_row _ w.heap.size j _ _ _ (heap_alloc_new w _)]
  simpa using hu
theorem range_tab {w : World} {g : Nat} {ty : TypeId} {tb : List Nat} (h : URow w g ty tb) (htl : tb.length = 72) : w.rangeAt g 0 (ucells tb) := by
  have := range_of_urow h 72
  rwa [List.take_of_length_le (by omega)] at this
theorem range_root {w : World} {G : Nat} {ty : TypeId} {p : Nat × List UInt8} (h : w.heap[G]? = some (.cells (hc p).toArray ty (0, 0))) : w.rangeAt G 1 (bcells p.2) := fun j v hv => by
  rw [cell_of_row w G (1 + j) _ _ _ h, List.getElem?_toArray, Nat.add_comm]
  simpa [hc] using hv
theorem range_top {w : World} {base g cp : Nat} {e : TypeId} (t : List (Nat × List UInt8)) (p : Nat × List UInt8) (h : ∀ p ∈ t, p.2.length = 32) (how : w.ownsRow base e 33 (.slice (some ⟨g, 0, none⟩) (p :: t).length cp) (p :: t).length (hcs (p :: t).reverse)) : w.rangeAt g (t.length * 33 + 1) (bcells p.2) := fun j v hv => by
  have hj : t.length * 33 + 1 + j < (p :: t).length * 33 := by
    have h1 := how.1
    have h2 := (List.getElem?_eq_some_iff.1 hv).1
    rw [List.reverse_cons, hcs_snoc, List.length_append, hcs_length _ (fun p hp => h p (by simpa using hp)), List.length_reverse] at h1
    have h3 : (hc p).length = (bcells p.2).length + 1 := rfl
    omega
  rw [how.cellAt _ hj, show t.length * 33 + 1 + j = t.length * 33 + (j + 1) by omega, top_cell t p h (j + 1)]
  simpa [hc] using hv
theorem own_cap {w : World} {base g n cap : Nat} {e : TypeId} {s : Nat} {xs : List Value} (h : w.ownsRow base e s (.slice (some ⟨g, 0, none⟩) n cap) n xs) : n ≤ cap := by
  rcases h.2 with ⟨h0, _⟩ | ⟨g', cap', cur, hv, _, _, h1, _⟩
  · cases h0
  · simp only [Value.slice.injEq] at hv
    obtain ⟨_, _, rfl⟩ := hv
    exact h1
theorem hc2 (m : Nat) (d : List UInt8) : hc (2 * m, d) = Value.int .i64 (2 * (m : Int)) :: bcells d := by simp [hc]
theorem range_of_brow3 {w : World} {g : Nat} {t : TypeId} {d : List UInt8} (h : BRow w g t d) : w.rangeAt g 0 (bcells d) := fun j v hv => by
  rw [Nat.zero_add, cell_of_row w g j _ _ _ h]
  simpa using hv
theorem gather_succ (q : List UInt8) (t : List (Nat × List UInt8)) (s : Nat) (h : s < t.length) : gather q (t.take (s + 1)) = nd (t.getD s (0, [])).2 (gather q (t.take s)) := by
  unfold gather
  rw [List.take_succ_eq_append_getElem h, List.foldl_append]
  simp [List.getD, List.getElem?_eq_getElem h]
theorem hcs_at (l : List (Nat × List UInt8)) (j : Nat) (hj : j < l.length) : hcs l = hcs (l.take j) ++ (hc (l[j]) ++ hcs (l.drop (j + 1))) := by
  have h1 : l.take j ++ l[j] :: l.drop (j + 1) = l := by rw [← List.drop_eq_getElem_cons hj, List.take_append_drop]
  have h2 : hcs (l.take j ++ l[j] :: l.drop (j + 1)) = hcs (l.take j) ++ (hc (l[j]) ++ hcs (l.drop (j + 1))) := by
    unfold hcs
    rw [List.flatMap_append, List.flatMap_cons]
  rw [← h2, h1]
theorem range_el {w : World} {base g cp N : Nat} {e : TypeId} (t : List (Nat × List UInt8)) (p : Nat × List UInt8) (h : ∀ p ∈ t, p.2.length = 32) (hN : N = (p :: t).length) (how : w.ownsRow base e 33 (.slice (some ⟨g, 0, none⟩) N cp) (p :: t).length (hcs (p :: t).reverse)) (hp : p.2.length = 32) (s : Nat) (hs : s < t.length) :
    w.rangeAt g ((t.length - 1 - s) * 33 + 1) (bcells (t.getD s (0, [])).2) := by
  subst hN
  have hall : ∀ x ∈ (p :: t).reverse, x.2.length = 32 := by
    intro x hx
    simp only [List.mem_reverse, List.mem_cons] at hx
    rcases hx with rfl | hx
    · exact hp
    · exact h x hx
  have hj : t.length - 1 - s < (p :: t).reverse.length := by simp; omega
  have hge : (p :: t).reverse[t.length - 1 - s] = t[s] := by
    simp only [List.reverse_cons]
    rw [List.getElem_append_left (by rw [List.length_reverse]; omega), List.getElem_reverse]
    congr 1
    omega
  have e1 := hcs_at (p :: t).reverse (t.length - 1 - s) hj
  rw [hge] at e1
  have hA : (hcs ((p :: t).reverse.take (t.length - 1 - s))).length = (t.length - 1 - s) * 33 := by
    rw [hcs_length _ (fun x hx => hall x (List.mem_of_mem_take hx)), List.length_take, Nat.min_eq_left (by omega)]
  have hx : (hc t[s]).length = 33 := hc_length _ (h _ (List.getElem_mem hs))
  intro i v hv
  rw [List.getD, List.getElem?_eq_getElem hs, Option.getD_some] at hv
  have hi : i + 1 < 33 := by
    have h1 := (List.getElem?_eq_some_iff.1 hv).1
    have h2 : (hc t[s]).length = (bcells t[s].2).length + 1 := rfl
    omega
  rw [how.cellAt _ (by simp only [List.length_cons]; omega), e1, show (t.length - 1 - s) * 33 + 1 + i = (t.length - 1 - s) * 33 + (i + 1) by omega, List.getElem?_append_right (by omega), hA, Nat.add_sub_cancel_left, List.getElem?_append_left (by omega)]
  simpa [hc] using hv
theorem four_two (w : World) (A B : Obj) : Below w.heap.size w ((w.alloc A).alloc B) ∧ ((w.alloc A).alloc B).heap.size = w.heap.size + 2 := ⟨(two_new w A B).1, by simp⟩

/-- What Tree keeps: its tables, its result, the heaps t (the last one first). -/
def Hp (w : World) (tb : List Nat) (t : List (Nat × List UInt8)) (v : Value) (wr : World) : Prop :=
  URow wr w.heap.size 26 tb ∧ BRow wr (w.heap.size + 1) 31 z32 ∧ wr.ownsRow (w.heap.size + 2) 129 33 v t.length (hcs t.reverse) ∧ Below w.heap.size w wr ∧ w.heap.size + 2 ≤ wr.heap.size

theorem Hp.below {w : World} {tb : List Nat} {t : List (Nat × List UInt8)} {v : Value} {wr wq : World} (h : Hp w tb t v wr) (hb : Below wr.heap.size wr wq) : Hp w tb t v wq :=
  ⟨h.1.below hb (Nat.le_refl _), (hb.block _ (lt_of_block h.2.1)).trans h.2.1, own_keep h.2.2.1 hb, h.2.2.2.1.trans (hb.mono h.2.2.2.1.size), Nat.le_trans h.2.2.2.2 hb.size⟩
/-- .. and beside them one heap more, in block G. -/
def Hq (w : World) (tb : List Nat) (t : List (Nat × List UInt8)) (v : Value) (G : Nat) (p : Nat × List UInt8) (wr : World) : Prop :=
  Hp w tb t v wr ∧ wr.heap[G]? = some (.cells (hc p).toArray 129 (0, 0)) ∧ w.heap.size + 2 ≤ G ∧ v.ownBlock ≠ some G
theorem Hq.below {w : World} {tb : List Nat} {t : List (Nat × List UInt8)} {v : Value} {G : Nat} {p : Nat × List UInt8} {wr wq : World} (h : Hq w tb t v G p wr) (hb : Below wr.heap.size wr wq) : Hq w tb t v G p wq :=
  ⟨h.1.below hb, (hb.block _ (lt_of_block h.2.1)).trans h.2.1, h.2.2⟩
theorem z33_cells : (hc z33).toArray = #[.int .i64 0, .int .u8 0, .int .u8 0, .int .u8 0, .int .u8 0, .int .u8 0, .int .u8 0, .int .u8 0, .int .u8 0, .int .u8 0, .int .u8 0, .int .u8 0, .int .u8 0, .int .u8 0, .int .u8 0, .int .u8 0, .int .u8 0, .int .u8 0, .int .u8 0, .int .u8 0, .int .u8 0, .int .u8 0, .int .u8 0, .int .u8 0, .int .u8 0, .int .u8 0, .int .u8 0, .int .u8 0, .int .u8 0, .int .u8 0, .int .u8 0, .int .u8 0, .int .u8 0] := rfl

theorem fold_set1 (a : Value) : ∀ (l : List Value) (k : Nat) (cs : Array Value) (pre tail : List Value), cs.toList = a :: (pre ++ tail) → pre.length = k → tail.length = l.length →
    (List.foldl (fun (cs : Array Value) (x : Value × Nat) => cs.setIfInBounds (1 + x.snd) x.fst) cs (l.zipIdx k)).toList = a :: (pre ++ l) := by
  intro l
  induction l with
  | nil =>
    intro k cs pre tail h _ ht
    have : tail = [] := List.length_eq_zero_iff.1 ht
    subst this
    simpa using h
  | cons x l ih =>
    intro k cs pre tail h hk ht
    cases tail with
    | nil => cases ht
    | cons y tail =>
      rw [List.zipIdx_cons, List.foldl_cons]
      have := ih (k + 1) (cs.setIfInBounds (1 + k) x) (pre ++ [x]) tail (by
        rw [Array.toList_setIfInBounds, h, ← hk, Nat.add_comm 1, List.set_cons_succ, List.set_append_right _ _ (Nat.le_refl _), Nat.sub_self]
        simp) (by simp [hk]) (by simpa using ht)
      rw [this]
      simp
/-- A heap, as it is built. -/
theorem fold33 (n : Int) (d : List UInt8) (h : d.length = 32) : List.foldl (fun (cs : Array Value) (x : Value × Nat) => cs.setIfInBounds (1 + x.snd) x.fst) #[.int .i64 n, .int .u8 0, .int .u8 0, .int .u8 0, .int .u8 0, .int .u8 0, .int .u8 0, .int .u8 0, .int .u8 0, .int .u8 0, .int .u8 0, .int .u8 0, .int .u8 0, .int .u8 0, .int .u8 0, .int .u8 0, .int .u8 0, .int .u8 0, .int .u8 0, .int .u8 0, .int .u8 0, .int .u8 0, .int .u8 0, .int .u8 0, .int .u8 0, .int .u8 0, .int .u8 0, .int .u8 0, .int .u8 0, .int .u8 0, .int .u8 0, .int .u8 0, .int .u8 0] (bcells d).zipIdx = (Value.int .i64 n :: bcells d).toArray := by
  apply Array.ext'
  have := fold_set1 (.int .i64 n) (bcells d) 0 (Value.int .i64 n :: bcells z32).toArray [] (bcells z32) (by simp) rfl (by simp [bcells, h, z32])
  exact this

/-- .. while the roots are gathered in block G9. -/
def Hr (w : World) (tb : List Nat) (t : List (Nat × List UInt8)) (v : Value) (G9 : Nat) (r : List UInt8) (wr : World) : Prop :=
  Hp w tb t v wr ∧ BRow wr G9 31 r ∧ w.heap.size + 2 ≤ G9 ∧ v.ownBlock ≠ some G9
theorem Hr.below {w : World} {tb : List Nat} {t : List (Nat × List UInt8)} {v : Value} {G : Nat} {r : List UInt8} {wr wq : World} (h : Hr w tb t v G r wr) (hb : Below wr.heap.size wr wq) : Hr w tb t v G r wq :=
  ⟨h.1.below hb, (hb.block _ (lt_of_block h.2.1)).trans h.2.1, h.2.2⟩
theorem Hr.put {w : World} {tb : List Nat} {t : List (Nat × List UInt8)} {v : Value} {G : Nat} {r : List UInt8} {wr : World} (h : Hr w tb t v G r wr) (d : List UInt8) (hd : r.length = d.length) : Hr w tb t v G d (wr.setCells G 0 (bcells d)) := by
  have hG := h.2.2.1
  have hgr : wr.grownBy (wr.setCells G 0 (bcells d)) (some G) := by
    have hb := below_setCells (B := G) (Nat.le_refl _) (bcells d) 0 (Below.refl G wr)
    refine ⟨hb.os, hb.tape, hb.output, hb.size, fun k hk hne => setCells_other _ _ (fun e => hne (by rw [e])) _ _ _⟩
  exact ⟨⟨(setCells_other _ _ (by omega) _ _ _).trans h.1.1, (setCells_other _ _ (by omega) _ _ _).trans h.1.2.1, h.1.2.2.1.kept hgr (.inr h.2.2.2), below_setCells (by omega) _ _ h.1.2.2.2.1, by rw [setCells_size]; exact h.1.2.2.2.2⟩, brow_setCells h.2.1 hd, hG, h.2.2.2⟩

set_option maxRecDepth 100000 in
set_option maxHeartbeats 3200000 in
theorem rtree_any (tb : List Nat) (ht : TabOk tb) (v : Value) (ss : List ByteArray) (w : World) (hS : Strs w v ss) (hl : ss.length ≤ 100) (hz : ∀ s ∈ ss, s.size ≤ 20) :
    Calls Tryd.prog 45 #[.agg (ucells tb).toArray, v] w fun e w' => e = .returned (.agg (bcells (rootL ss)).toArray) ∧ Below w.heap.size w w' := by
  obtain ⟨i0, hi, hz0, hz1, hz2⟩ := info_parts info_heap
  have htl := ht.1
  have VT := hide (v_tab tb htl)
  have VTM := hide (v_tabm tb htl)
  have HOK := hide ht
  have HS := hide (fun wq hb => hS.below (w' := wq) (B := w.heap.size) hb (Nat.le_refl _))
  obtain ⟨ao, cap, hv, hca, hcb, hcc⟩ := hS
  subst hv
  have HZ := hide hz
  obtain ⟨hbel0, g0, g1⟩ := two_new w (.cells (ucells tb).toArray 26) (.cells (bcells z32).toArray 31)
  have hsz0 := (four_two w (.cells (ucells tb).toArray 26) (.cells (bcells z32).toArray 31)).2
  have H0 := hide (show Hp w tb [] (.slice none 0 0) ((w.alloc (.cells (ucells tb).toArray 26)).alloc (.cells (bcells z32).toArray 31)) from ⟨g0, g1, World.ownsRow_nil _ _ _ _, hbel0, by omega⟩)
  clear hbel0 g0 g1 hz hcc ht hsz0
  go_enter Tryd.func45, Tryd.ntmps45
  go_upto_region 1 with fail
  rw [← z32_cells]
  generalize ((w.alloc (.cells (ucells tb).toArray 26)).alloc (.cells (bcells z32).toArray 31)) = W0 at H0 ⊢
  go_wp2_with fail
  go_loopw [5, 6, 7, 8] (fun vl i _ _ wr => ∃ (k : Nat) (t : List (Nat × List UInt8)), k ≤ ss.length ∧ i = .int .i64 k ∧ Stk (ss.take k) t 1 ∧ Hp w tb t vl wr) (fun _ i _ _ _ => ss.length - (intOf i).toNat)
  case atStart => exact ⟨0, [], Nat.zero_le _, rfl, rfl, unhide H0⟩
  case round =>
    obtain ⟨k, t, hk, rfl, hst, hhp⟩ := hrel
    have HST := hide hst
    have HHP := hide hhp
    clear hst hhp
    by_cases hlt : k < ss.length
    · have hd1 : decide ((k : Int) < (ss.length : Int)) = true := by simp; omega
      have hbr := (unhide HHP).2.2.2.1
      obtain ⟨b, off, cap', hv', _⟩ := strs_shape (unhide HS _ hbr) (by intro h; rw [h] at hlt; cases hlt)
      simp only [Value.slice.injEq, true_and] at hv'
      obtain ⟨rfl, rfl⟩ := hv'
      obtain ⟨x, hx⟩ : ∃ x, x = ss.getD k ByteArray.empty := ⟨_, rfl⟩
      have hcx := strs_cell (unhide HS _ hbr) k hlt
      rw [← hx] at hcx
      have hxs : x.size ≤ 20 := by
        rw [hx, List.getD, List.getElem?_eq_getElem hlt]
        exact unhide HZ _ (List.getElem_mem hlt)
      have HX := hide hx
      have HLf := hide (fun wq => rleaf_any tb (unhide HOK) x wq (by omega))
      have dl : (lf x).length = 32 := sha_length _
      have hcar := hide (show Car (ss.take (k + 1)) t 1 (lf x) by
        have := car_start x (unhide HST)
        rwa [hx, ← getD_take_succ ss k hlt, ← hx] at this)
      generalize lf x = dL at HLf dl hcar
      have hR8 : wr.drew.rangeAt w.heap.size 0 (ucells tb) ∧ wr.drew.cell? ⟨b, off + k, none⟩ = some (.string x) := by
        refine ⟨?_, hcx⟩
        have := range_of_urow (unhide HHP).1 72; rw [List.take_of_length_le (by omega)] at this; exact this
      have hKeep := hide (fun (wq : World) (h : Below wr.heap.size wr wq) => show Hp w tb t u5 wq ∧ (wq.rangeAt w.heap.size 0 (ucells tb) ∧ wq.cell? ⟨b, off + k, none⟩ = some (.string x)) from
        ⟨(unhide HHP).below h, rangeAt_below hR8.1 (show Below wr.heap.size wr.drew wq from ⟨h.os, h.tape, h.output, h.size, h.block⟩) (Nat.le_refl _), by rw [h.cell (p := ⟨b, off + k, none⟩) (cell_lt hcx)]; exact hcx⟩)
      have hk0 : (0 : Int) ≤ (k : Int) := by omega
      have hk1 : (k : Int) < (ss.length : Int) := by omega
      have hlv : ∀ G, wr.heap.size ≤ G → u5.ownBlock ≠ some G := fun G hG h => by
        have := ((unhide HHP).2.2.1.lt G h).2
        omega
      have HLV := hide hlv
      have hwz := (unhide HHP).2.2.2.2
      have VH := hide (v_hp (1, dL) dl)
      have hfold := fold33 1 dL dl
      have hbl : (bcells dL).length = 32 := by simp [bcells, dl]
      clear hx hcx hlv HST
      go_upto_region 5 with fail
      go_cut [7] from 17 to 23 (fun p wx => ∃ G : Nat, p = .pointer (some ⟨G, 0, none⟩) ∧ Hq w tb t u5 G (1, dL) wx)
      case first =>
        refine wp_region_held_drew (S := fun w' => w'.rangeAt w.heap.size 0 (ucells tb) ∧ w'.cell? ⟨b, off + k, none⟩ = some (.string x)) (by kernel_rfl) hR8 (fun hHeld => ?_)
        refine wpAnyH_take (i := 0) rfl (by kernel_rfl) (by kernel_rfl) (by kernel_rfl) (fun _ _ _ h => h)
            (yieldsIf_load_mid (by rfl) 26 _ rfl w.heap.size 0 rfl (ucells tb) _ (fun _ h => h.1) Tryd.underlying26 rfl (unhide VTM)) hHeld ?_
        simp only [List.getElem_toArray, List.getElem_cons_zero, Act.put, List.setIfInBounds_toArray, List.set_cons_zero, List.set_cons_succ]
        refine wpAnyH_take (i := 1) (v := .slice (some ⟨b, off, none⟩) ss.length cap) rfl (by kernel_rfl) (by kernel_rfl) (by kernel_rfl) (fun _ _ _ h => h) (Or.inl ⟨by rfl, fun _ _ => by go_simp⟩) hHeld ?_
        simp only [List.getElem_toArray, List.getElem_cons_zero, List.getElem_cons_succ, Act.put, List.setIfInBounds_toArray, List.set_cons_zero, List.set_cons_succ]
        refine wpAnyH_take (i := 2) (v := .int .i64 k) rfl (by kernel_rfl) (by kernel_rfl) (by kernel_rfl) (fun _ _ _ h => h) (Or.inl ⟨by rfl, fun _ _ => by go_simp⟩) hHeld ?_
        simp only [List.getElem_toArray, List.getElem_cons_zero, List.getElem_cons_succ, Act.put, List.setIfInBounds_toArray, List.set_cons_zero, List.set_cons_succ]
        refine wpAnyH_take (i := 3) (v := .pointer (some ⟨b, off + k, none⟩)) rfl (by kernel_rfl) (by kernel_rfl) (by kernel_rfl) (fun _ _ _ h => h) (Or.inl ⟨by rfl, fun _ _ => by go_simp⟩) hHeld ?_
        simp only [List.getElem_toArray, List.getElem_cons_zero, List.getElem_cons_succ, Act.put, List.setIfInBounds_toArray, List.set_cons_zero, List.set_cons_succ]
        refine wpAnyH_take (i := 4) (v := .string x) rfl (by kernel_rfl) (by kernel_rfl) (by kernel_rfl) (fun _ _ _ h => h) (Or.inl ⟨by rfl, fun _ hq => by have hq2 := hq.2; clear hq; go_simp⟩) hHeld ?_
        simp only [List.getElem_toArray, List.getElem_cons_zero, List.getElem_cons_succ, Act.put, List.setIfInBounds_toArray, List.set_cons_zero, List.set_cons_succ]
        refine wpAnyH_ready (rs := [5, 7]) (by kernel_rfl) (by simp) ?_
        refine AllReadyH.cons rfl (fun K hK => ?_) (AllReadyH.cons rfl (fun K hK => ?_) AllReadyH.nil)
        · go_simp
          go_at_call 63
          refine (unhide HLf _).mono ?_
          rintro e w2 ⟨rfl, hb2⟩
          have hb2' : Below wr.heap.size wr w2 := ⟨hb2.os, hb2.tape, hb2.output, hb2.size, hb2.block⟩
          dsimp only
          refine hK.out _ _ (unhide hKeep _ hb2').2 (fun hHeld => ?_)
          clear hK K
          refine wpAnyH_take (i := 6) (v := .agg (Value.int .i64 1 :: bcells dL).toArray) rfl (by kernel_rfl) (by kernel_rfl) (by kernel_rfl) (fun _ _ _ h => h) (Or.inl ⟨by rfl, fun _ _ => by go_simp⟩) hHeld ?_
          simp only [List.getElem_toArray, List.getElem_cons_zero, List.getElem_cons_succ, Act.put, List.setIfInBounds_toArray, List.set_cons_zero, List.set_cons_succ]
          refine wpAnyH_ready (rs := [7]) (by kernel_rfl) (by simp) ?_
          refine AllReadyH.cons rfl (fun K hK => ?_) AllReadyH.nil
          go_simp
          rw [← z33_cells]
          have hb3 : Below wr.heap.size wr (w2.alloc (.cells (hc z33).toArray 129)) := hb2'.alloc hb2'.size _
          have g3 : (w2.alloc (.cells (hc z33).toArray 129)).heap[w2.heap.size]? = some (.cells (hc z33).toArray 129 (0, 0)) := heap_alloc_new w2 _
          have hge := hb2'.size
          generalize w2.heap.size = G at g3 hge ⊢
          generalize w2.alloc (.cells (hc z33).toArray 129) = w3 at hb3 g3 ⊢
          refine hK.out _ _ (unhide hKeep _ hb3).2 (fun hHeld => ?_)
          clear hK K
          refine wpAnyH_ready (rs := [8]) (by kernel_rfl) (by simp) ?_
          refine AllReadyH.cons rfl (fun K hK => ?_) AllReadyH.nil
          rw [if_pos (by rfl)]
          refine wp_store_mid 129 _ _ rfl G 0 (hc (1, dL)).toArray rfl rfl (by rw [List.size_toArray, hc_length _ dl]; exact there_of_hrow g3 rfl) (unhide VH) (hc_all _) ?_
          rw [show (hc (1, dL)).toArray.toList = hc (1, dL) from rfl]
          have g4 : (w3.setCells G 0 (hc (1, dL))).heap[G]? = some (.cells (hc (1, dL)).toArray 129 (0, 0)) := hrow_setCells g3 rfl dl
          have hb4 : Below wr.heap.size wr (w3.setCells G 0 (hc (1, dL))) := below_setCells hge _ _ hb3
          generalize w3.setCells G 0 (hc (1, dL)) = w4 at g4 hb4 ⊢
          refine hK.out _ _ (unhide hKeep _ hb4).2 (fun hHeld => ?_)
          clear hK K
          refine wpAnyH_done (by kernel_rfl) ?_ _
          go_wp2_with fail
          go_meet
          exact ⟨G, rfl, (unhide hKeep _ hb4).1, g4, by omega, unhide HLV G hge⟩
        · go_simp
          rw [← z33_cells]
          have hb3 : Below wr.heap.size wr (wr.alloc (.cells (hc z33).toArray 129)).drew := ((Below.refl _ _).alloc (Nat.le_refl _) _).drew
          have g3 : (wr.alloc (.cells (hc z33).toArray 129)).drew.heap[wr.heap.size]? = some (.cells (hc z33).toArray 129 (0, 0)) := heap_alloc_new wr _
          generalize hG : wr.heap.size = G at g3 ⊢
          generalize (wr.alloc (.cells (hc z33).toArray 129)).drew = w3 at hb3 g3 ⊢
          refine hK.out _ _ (unhide hKeep _ hb3).2 (fun hHeld => ?_)
          clear hK K
          refine wpAnyH_ready (rs := [5]) (by kernel_rfl) (by simp) ?_
          refine AllReadyH.cons rfl (fun K hK => ?_) AllReadyH.nil
          go_simp
          go_at_call 63
          refine (unhide HLf _).mono ?_
          rintro e w2 ⟨rfl, hb2⟩
          have hb2' := hb3.trans (hb2.mono hb3.size)
          have g5 : w2.heap[G]? = some (.cells (hc z33).toArray 129 (0, 0)) := (hb2.block _ (lt_of_block g3)).trans g3
          dsimp only
          refine hK.out _ _ (unhide hKeep _ hb2').2 (fun hHeld => ?_)
          clear hK K
          refine wpAnyH_take (i := 6) (v := .agg (Value.int .i64 1 :: bcells dL).toArray) rfl (by kernel_rfl) (by kernel_rfl) (by kernel_rfl) (fun _ _ _ h => h) (Or.inl ⟨by rfl, fun _ _ => by go_simp⟩) hHeld ?_
          simp only [List.getElem_toArray, List.getElem_cons_zero, List.getElem_cons_succ, Act.put, List.setIfInBounds_toArray, List.set_cons_zero, List.set_cons_succ]
          refine wpAnyH_ready (rs := [8]) (by kernel_rfl) (by simp) ?_
          refine AllReadyH.cons rfl (fun K hK => ?_) AllReadyH.nil
          rw [if_pos (by rfl)]
          refine wp_store_mid 129 _ _ rfl G 0 (hc (1, dL)).toArray rfl rfl (by rw [List.size_toArray, hc_length _ dl]; exact there_of_hrow g5 rfl) (unhide VH) (hc_all _) ?_
          rw [show (hc (1, dL)).toArray.toList = hc (1, dL) from rfl]
          have g4 : (w2.setCells G 0 (hc (1, dL))).heap[G]? = some (.cells (hc (1, dL)).toArray 129 (0, 0)) := hrow_setCells g5 rfl dl
          have hb4 : Below wr.heap.size wr (w2.setCells G 0 (hc (1, dL))) := below_setCells (by omega) _ _ hb2'
          generalize w2.setCells G 0 (hc (1, dL)) = w4 at g4 hb4 ⊢
          refine hK.out _ _ (unhide hKeep _ hb4).2 (fun hHeld => ?_)
          clear hK K
          refine wpAnyH_done (by kernel_rfl) ?_ _
          go_wp2_with fail
          go_meet
          exact ⟨G, rfl, (unhide hKeep _ hb4).1, g4, by omega, unhide HLV G (by omega)⟩
      case rest =>
        obtain ⟨G, rfl, hq⟩ := hcut
        have HQ := hide hq
        clear hq hKeep hR8 HLV HLf VH hfold HX HHP hxs hwz
        go_wp2_with fail
        go_loopw [5, 8] (fun vl _ wq => ∃ (t : List (Nat × List UInt8)) (n : Nat) (q : List UInt8), Car (ss.take (k + 1)) t n q ∧ Hq w tb t vl G (n, q) wq) (fun vl _ _ => lenH vl)
        case atStart => exact ⟨t, 1, dL, unhide hcar, unhide HQ⟩
        case round =>
          obtain ⟨t, n, q, hcr, hq⟩ := hrel
          have HCR := hide hcr
          have hql := q_len hcr
          have hnl := n_len hcr
          rw [List.length_take] at hnl
          have hte := t_elem hcr
          have HTE := hide hte
          obtain ⟨T, hT⟩ : ∃ T : Nat, t.length = T := ⟨_, rfl⟩
          have hown := hq.1.2.2.1
          rw [hT] at hown
          have HOW := hide hown
          have hn0 := cell_of_row wr G 0 _ _ _ hq.2.1
          have hn1 : wr.cell? ⟨G, 0, none⟩ = some (.int .i64 (n : Int)) := hn0
          have HQ := hide hq
          have hTl : T ≤ 100 := by
            have := t_len hcr
            rw [List.length_take] at this
            omega
          clear hcr hq hte hn0 hown
          obtain ⟨c, hcc⟩ : ∃ c : Bool, c = topIs t n := ⟨_, rfl⟩
          have HCC := hide hcc
          clear hcc
          go_upto_region 6 with fail
          go_cut [38] from 24 to 37 (fun p wx => p = .bool c ∧ Below wr.heap.size wr wx)
          case first =>
            cases t with
            | nil =>
              obtain ⟨al, cl, rfl⟩ := own_shape (unhide HOW)
              have hT0 : T = 0 := hT.symm
              subst hT0
              have hcf : c = false := unhide HCC
              subst hcf
              go_quiet (fail)
              go_wp2_with fail
              go_meet
              exact ⟨rfl, below_drewN (Below.refl _ _) _⟩
            | cons p t' =>
              obtain ⟨m, r⟩ := p
              obtain ⟨g, cp, hg⟩ := own_top (unhide HOW) (by rw [← hT]; simp)
              subst hg
              have hct := (unhide HOW).cellAt ((T - 1) * 33) (by have : 0 < T := (by rw [← hT]; simp); omega)
              rw [show T - 1 = t'.length by rw [← hT]; simp, ← Nat.add_zero (t'.length * 33), top_cell t' (m, r) (fun p hp => (unhide HTE p (by simp [hp])).1) 0, Nat.add_zero, show t'.length = T - 1 by rw [← hT]; simp] at hct
              have hct2 : wr.cell? ⟨g, (T - 1) * 33, none⟩ = some (.int .i64 (m : Int)) := hct
              have hT1 : 1 ≤ T := by rw [← hT]; simp
              have hml := (unhide HTE (m, r) (by simp)).2
              simp only [List.length_take] at hml
              have fa : (1 : Int) ≤ (T : Int) := by omega
              have fb : decide (0 < T) = true := by simp; omega
              have fW : IntKind.i64.wrap ((T : Int) - 1) = (T : Int) - 1 := i64w _ (by omega)
              have fc : (0 : Int) ≤ (T : Int) - 1 := by omega
              have fd : (T : Int) - 1 < (T : Int) := by omega
              have fe : ((T : Int) - 1).toNat = T - 1 := by omega
              have hcf : c = decide (m = n) := unhide HCC
              have hcmp : ((m : Int) == (n : Int)) = c := by
                rw [hcf, Bool.eq_iff_iff, beq_iff_eq, decide_eq_true_iff]
                omega
              clear hct hcf hT
              go_quiet (fail)
              go_wp2_with fail
              go_meet
              exact ⟨rfl, below_drewN (Below.refl _ _) _⟩
          case rest =>
            obtain ⟨rfl, hbq⟩ := hcut
            have HQ2 := hide ((unhide HQ).below hbq)
            have HOW2 := hide (own_keep (unhide HOW) hbq)
            clear HQ HOW hn1
            cases c with
            | false =>
              have hq2 := unhide HQ2
              have gG := hide hq2.2.1
              have VH := hide (v_hp (n, q) hql)
              have hfold := fold_heap (n, q) hql
              have hbl : (hc (n, q)).length = 33 := hc_length _ hql
              have HNB := hide hq2.2.2.2
              have hwz := hq2.1.2.2.2.2
              have hbc := hq2.1.2.2.2.1
              clear hq2
              go_wp2_with (first | ((with_reducible refine at_load ?_); refine wpList_load_row rfl 129 _ rfl G (by rfl) 129 (hc (n, q)).toArray (0, 0) _ (unhide gG) Tryd.underlying129 rfl (unhide VH) ?_) | (at_builtin; rw [← z33_cells, hfold]; go_must (refine wpList_append_own _ rfl (.tmp 60) (.tmp 62) 127 rfl (w.heap.size + 2) 129 i0 (.agg (hc z33).toArray) 33 40 Tryd.underlying127 hi hz0 hz1 hz2 rfl (by decide) _ _ _ rfl ((unhide HOW2).alloc _) ⟨wc.heap.size, 0, none⟩ 1 1 (hc (n, q)) rfl (by rw [hbl]) ?c2 (hc_one (n, q)) ?c3 ?c4 ?c5 ?_)))
              case c2 => exact news_heap wc (n, q) _
              case c3 => unfold maxLen; omega
              case c4 => omega
              case c5 => simp; omega
              intro v6 w6 hown6 hgrow6 _
              have hb6 : Below (w.heap.size + 2) wc w6 := ((Below.refl (w.heap.size + 2) wc).alloc hwz _).grown hgrow6 (by simp; omega) (own_row_ge (unhide HOW2))
              have hp6 : Hp w tb ((n, q) :: t) v6 w6 := by
                have h1 := (unhide HQ2).1
                refine ⟨(hb6.block _ (by omega)).trans h1.1, (hb6.block _ (by omega)).trans h1.2.1, ?_, hbc.trans (hb6.mono (by omega)), Nat.le_trans hwz hb6.size⟩
                rw [List.reverse_cons, hcs_snoc, List.length_cons, hT]
                exact hown6
              have HP6 := hide hp6
              clear hown6 hgrow6 hb6 hp6
              go_wp2_with fail
              have hne : ∀ m r t', t = (m, r) :: t' → m ≠ n := by
                intro m r t' ht hm
                have h5 := unhide HCC
                rw [ht] at h5
                have h6 : false = decide (m = n) := h5
                rw [decide_eq_true hm] at h6
                cases h6
              exact ⟨⟨k + 1, (n, q) :: t, by omega, by go_num, car_end (unhide HCR) hne, unhide HP6⟩, by simp [intOf]; omega⟩
            | true =>
              cases t with
              | nil => cases unhide HCC
              | cons p t' =>
              obtain ⟨m, r⟩ := p
              obtain rfl : m = n := by
                have h5 : true = decide (m = n) := unhide HCC
                exact of_decide_eq_true h5.symm
              obtain ⟨g, cp, hg⟩ := own_top (unhide HOW2) (by rw [← hT]; simp)
              subst hg
              have hT1 : 1 ≤ T := by rw [← hT]; simp
              have hTe : T - 1 = t'.length := by rw [← hT]; simp
              have hrl := (unhide HTE (m, r) (by simp)).1
              simp only at hrl
              have hrt : wc.rangeAt g ((T - 1) * 33 + 1) (bcells r) := by
                have h6 := unhide HOW2
                rw [← hT] at h6
                rw [hTe]
                exact range_top t' (m, r) (fun p hp => (unhide HTE p (by simp [hp])).1) h6
              have HRT := hide hrt
              have fa : (1 : Int) ≤ (T : Int) := by omega
              have fW : IntKind.i64.wrap ((T : Int) - 1) = (T : Int) - 1 := i64w _ (by omega)
              have fc : (0 : Int) ≤ (T : Int) - 1 := by omega
              have fd : (T : Int) - 1 < (T : Int) := by omega
              have fe : ((T : Int) - 1).toNat = T - 1 := by omega
              have hcpT := own_cap (unhide HOW2)
              have ff : (T : Int) - 1 ≤ (cp : Int) := by omega
              have VMr := hide (v_mid r hrl)
              have VMq := hide (v_mid q hql)
              have HNd := hide (fun wq => rnode_any tb (unhide HOK) r q wq hrl hql)
              have dn : (nd r q).length = 32 := sha_length _
              generalize hnd : nd r q = dN at HNd dn
              have HND := hide hnd
              have VN := hide (v_dg dN dn)
              have ZN := hide (v_z32 dN dn)
              have hKeep := hide (fun (wq : World) (h : Below wc.heap.size wc wq) => show Hq w tb ((m, r) :: t') (.slice (some ⟨g, 0, none⟩) T cp) G (m, q) wq ∧ (wq.rangeAt w.heap.size 0 (ucells tb) ∧ wq.rangeAt g ((T - 1) * 33 + 1) (bcells r) ∧ wq.rangeAt G 1 (bcells q)) from
                ⟨(unhide HQ2).below h, rangeAt_below (range_tab (unhide HQ2).1.1 htl) h (Nat.le_refl _), rangeAt_below (unhide HRT) h (Nat.le_refl _), rangeAt_below (range_root (unhide HQ2).2.1) h (Nat.le_refl _)⟩)
              have hW1 : Below wc.heap.size wc wc.drew := (Below.refl _ _).drew
              have hR8 := (unhide hKeep _ hW1).2
              have hGlt : G < wc.heap.size := lt_of_block (unhide HQ2).2.1
              clear hnd hT
              go_wp2_with fail
              go_cut [8] from 39 to 49 (fun p wx => ∃ G8 : Nat, p = .pointer (some ⟨G8, 0, none⟩) ∧ BRow wx G8 31 dN ∧ G8 ≠ G ∧ Hq w tb ((m, r) :: t') (.slice (some ⟨g, 0, none⟩) T cp) G (m, q) wx)
              case first =>
                refine wp_region_held_drew (S := fun w' => w'.rangeAt w.heap.size 0 (ucells tb) ∧ w'.rangeAt g ((T - 1) * 33 + 1) (bcells r) ∧ w'.rangeAt G 1 (bcells q)) (by kernel_rfl) hR8 (fun hHeld => ?_)
                refine wpAnyH_take (i := 0) rfl (by kernel_rfl) (by kernel_rfl) (by kernel_rfl) (fun _ _ _ h => h) (yieldsIf_load_mid (by rfl) 26 _ rfl w.heap.size (0) rfl (ucells tb) _ (fun _ h => h.1) Tryd.underlying26 rfl (unhide VTM)) hHeld ?_
                simp only [List.getElem_toArray, List.getElem_cons_zero, Act.put, List.setIfInBounds_toArray, List.set_cons_zero, List.set_cons_succ]
                refine wpAnyH_take (i := 1) (v := .slice (some ⟨g, 0, none⟩) T cp) rfl (by kernel_rfl) (by kernel_rfl) (by kernel_rfl) (fun _ _ _ h => h) (Or.inl ⟨by rfl, fun _ _ => by go_simp⟩) hHeld ?_
                simp only [List.getElem_toArray, List.getElem_cons_zero, List.getElem_cons_succ, Act.put, List.setIfInBounds_toArray, List.set_cons_zero, List.set_cons_succ]
                refine wpAnyH_take (i := 2) (v := .slice (some ⟨g, 0, none⟩) T cp) rfl (by kernel_rfl) (by kernel_rfl) (by kernel_rfl) (fun _ _ _ h => h) (Or.inl ⟨by rfl, fun _ _ => by go_simp⟩) hHeld ?_
                simp only [List.getElem_toArray, List.getElem_cons_zero, List.getElem_cons_succ, Act.put, List.setIfInBounds_toArray, List.set_cons_zero, List.set_cons_succ]
                refine wpAnyH_take (i := 3) (v := .int .i64 T) rfl (by kernel_rfl) (by kernel_rfl) (by kernel_rfl) (fun _ _ _ h => h) (Or.inl ⟨by rfl, fun _ _ => by go_simp⟩) hHeld ?_
                simp only [List.getElem_toArray, List.getElem_cons_zero, List.getElem_cons_succ, Act.put, List.setIfInBounds_toArray, List.set_cons_zero, List.set_cons_succ]
                refine wpAnyH_take (i := 4) (v := .int .i64 ((T : Int) - 1)) rfl (by kernel_rfl) (by kernel_rfl) (by kernel_rfl) (fun _ _ _ h => h) (Or.inl ⟨by rfl, fun _ _ => by first | (go_simp; done) | (go_simp; exact fW)⟩) hHeld ?_
                simp only [List.getElem_toArray, List.getElem_cons_zero, List.getElem_cons_succ, Act.put, List.setIfInBounds_toArray, List.set_cons_zero, List.set_cons_succ]
                refine wpAnyH_take (i := 5) (v := .pointer (some ⟨g, (T - 1) * 33, none⟩)) rfl (by kernel_rfl) (by kernel_rfl) (by kernel_rfl) (fun _ _ _ h => h) (Or.inl ⟨by rfl, fun _ _ => by go_simp⟩) hHeld ?_
                simp only [List.getElem_toArray, List.getElem_cons_zero, List.getElem_cons_succ, Act.put, List.setIfInBounds_toArray, List.set_cons_zero, List.set_cons_succ]
                refine wpAnyH_take (i := 6) (v := .pointer (some ⟨g, (T - 1) * 33 + 1, none⟩)) rfl (by kernel_rfl) (by kernel_rfl) (by kernel_rfl) (fun _ _ _ h => h) (Or.inl ⟨by rfl, fun _ _ => by go_simp⟩) hHeld ?_
                simp only [List.getElem_toArray, List.getElem_cons_zero, List.getElem_cons_succ, Act.put, List.setIfInBounds_toArray, List.set_cons_zero, List.set_cons_succ]
                refine wpAnyH_take (i := 7) rfl (by kernel_rfl) (by kernel_rfl) (by kernel_rfl) (fun _ _ _ h => h) (yieldsIf_load_mid (by rfl) 31 _ rfl g ((T - 1) * 33 + 1) rfl (bcells r) _ (fun _ h => h.2.1) Tryd.underlying31 rfl (unhide VMr)) hHeld ?_
                simp only [List.getElem_toArray, List.getElem_cons_zero, List.getElem_cons_succ, Act.put, List.setIfInBounds_toArray, List.set_cons_zero, List.set_cons_succ]
                refine wpAnyH_take (i := 8) (v := .pointer (some ⟨G, 1, none⟩)) rfl (by kernel_rfl) (by kernel_rfl) (by kernel_rfl) (fun _ _ _ h => h) (Or.inl ⟨by rfl, fun _ _ => by go_simp⟩) hHeld ?_
                simp only [List.getElem_toArray, List.getElem_cons_zero, List.getElem_cons_succ, Act.put, List.setIfInBounds_toArray, List.set_cons_zero, List.set_cons_succ]
                refine wpAnyH_take (i := 9) rfl (by kernel_rfl) (by kernel_rfl) (by kernel_rfl) (fun _ _ _ h => h) (yieldsIf_load_mid (by rfl) 31 _ rfl G (1) rfl (bcells q) _ (fun _ h => h.2.2) Tryd.underlying31 rfl (unhide VMq)) hHeld ?_
                simp only [List.getElem_toArray, List.getElem_cons_zero, List.getElem_cons_succ, Act.put, List.setIfInBounds_toArray, List.set_cons_zero, List.set_cons_succ]
                refine wpAnyH_ready (rs := [10, 11]) (by kernel_rfl) (by simp) ?_
                refine AllReadyH.cons rfl (fun K hK => ?_) (AllReadyH.cons rfl (fun K hK => ?_) AllReadyH.nil)
                · go_simp
                  go_at_call 65
                  refine (unhide HNd _).mono ?_
                  rintro e w2 ⟨rfl, hb2⟩
                  have hb2' : Below wc.heap.size wc w2 := ⟨hb2.os, hb2.tape, hb2.output, hb2.size, hb2.block⟩
                  dsimp only
                  refine hK.out _ _ (unhide hKeep _ hb2').2 (fun hHeld => ?_)
                  clear hK K
                  refine wpAnyH_ready (rs := [11]) (by kernel_rfl) (by simp) ?_
                  refine AllReadyH.cons rfl (fun K hK => ?_) AllReadyH.nil
                  go_simp
                  rw [← z32_cells]
                  have hb3 : Below wc.heap.size wc (w2.alloc (.cells (bcells z32).toArray 31)) := hb2'.alloc hb2'.size _
                  have g3 : BRow (w2.alloc (.cells (bcells z32).toArray 31)) w2.heap.size 31 z32 := heap_alloc_new w2 _
                  have hge := hb2'.size
                  generalize w2.heap.size = G8 at g3 hge ⊢
                  generalize w2.alloc (.cells (bcells z32).toArray 31) = w3 at hb3 g3 ⊢
                  refine hK.out _ _ (unhide hKeep _ hb3).2 (fun hHeld => ?_)
                  clear hK K
                  refine wpAnyH_ready (rs := [12]) (by kernel_rfl) (by simp) ?_
                  refine AllReadyH.cons rfl (fun K hK => ?_) AllReadyH.nil
                  rw [if_pos (by rfl)]
                  refine wp_store_mid 31 _ _ rfl G8 0 (bcells dN).toArray rfl rfl (by rw [bcells_size, dn]; exact there_of_brow g3 rfl) (unhide VN) (bcells_one dN) ?_
                  rw [show (bcells dN).toArray.toList = bcells dN from rfl]
                  have g4 : BRow (w3.setCells G8 0 (bcells dN)) G8 31 dN := brow_setCells g3 (by rw [dn]; rfl)
                  have hb4 : Below wc.heap.size wc (w3.setCells G8 0 (bcells dN)) := below_setCells hge _ _ hb3
                  generalize w3.setCells G8 0 (bcells dN) = w4 at g4 hb4 ⊢
                  refine hK.out _ _ (unhide hKeep _ hb4).2 (fun hHeld => ?_)
                  clear hK K
                  refine wpAnyH_done (by kernel_rfl) ?_ _
                  go_wp2_with fail
                  go_meet
                  exact ⟨G8, rfl, g4, by omega, (unhide hKeep _ hb4).1⟩
                · go_simp
                  rw [← z32_cells]
                  have hb5 : Below wc.heap.size wc (wc.alloc (.cells (bcells z32).toArray 31)).drew := ((Below.refl _ _).alloc (Nat.le_refl _) _).drew
                  have g5 : BRow (wc.alloc (.cells (bcells z32).toArray 31)).drew wc.heap.size 31 z32 := heap_alloc_new wc _
                  have hge : wc.heap.size ≤ wc.heap.size := Nat.le_refl _
                  generalize hG8 : wc.heap.size = G8 at g5 ⊢
                  generalize (wc.alloc (.cells (bcells z32).toArray 31)).drew = w5 at hb5 g5 ⊢
                  refine hK.out _ _ (unhide hKeep _ hb5).2 (fun hHeld => ?_)
                  clear hK K
                  refine wpAnyH_ready (rs := [10]) (by kernel_rfl) (by simp) ?_
                  refine AllReadyH.cons rfl (fun K hK => ?_) AllReadyH.nil
                  go_simp
                  go_at_call 65
                  refine (unhide HNd _).mono ?_
                  rintro e w3 ⟨rfl, hb2⟩
                  have hb3 := hb5.trans (hb2.mono hb5.size)
                  have g3 : BRow w3 G8 31 z32 := (hb2.block _ (lt_of_block g5)).trans g5
                  rw [hG8] at hge
                  dsimp only
                  refine hK.out _ _ (unhide hKeep _ hb3).2 (fun hHeld => ?_)
                  clear hK K
                  refine wpAnyH_ready (rs := [12]) (by kernel_rfl) (by simp) ?_
                  refine AllReadyH.cons rfl (fun K hK => ?_) AllReadyH.nil
                  rw [if_pos (by rfl)]
                  refine wp_store_mid 31 _ _ rfl G8 0 (bcells dN).toArray rfl rfl (by rw [bcells_size, dn]; exact there_of_brow g3 rfl) (unhide VN) (bcells_one dN) ?_
                  rw [show (bcells dN).toArray.toList = bcells dN from rfl]
                  have g4 : BRow (w3.setCells G8 0 (bcells dN)) G8 31 dN := brow_setCells g3 (by rw [dn]; rfl)
                  have hb4 : Below wc.heap.size wc (w3.setCells G8 0 (bcells dN)) := below_setCells (by omega) _ _ hb3
                  generalize w3.setCells G8 0 (bcells dN) = w4 at g4 hb4 ⊢
                  refine hK.out _ _ (unhide hKeep _ hb4).2 (fun hHeld => ?_)
                  clear hK K
                  refine wpAnyH_done (by kernel_rfl) ?_ _
                  go_wp2_with fail
                  go_meet
                  exact ⟨G8, rfl, g4, by omega, (unhide hKeep _ hb4).1⟩
              case rest =>
                obtain ⟨G8, rfl, g8, hne8, hq3⟩ := hcut
                have hnc : wc.cell? ⟨G, 0, none⟩ = some (.int .i64 (m : Int)) := cell_of_row wc G 0 _ _ _ hq3.2.1
                have hfold := fold33 (2 * (m : Int)) dN dn
                have hbl : (bcells dN).length = 32 := by simp [bcells, dn]
                have HG3 := hide hq3.2.1
                have HG8 := hide g8
                have VH := hide (show (Tryd.prog.info? 129).map (·.size) = some (Value.int .i64 (2 * (m : Int)) :: bcells dN).toArray.size by rw [List.size_toArray, List.length_cons, hbl]; exact info_hp)
                have ZH := hide (show (hc (m, q)).toArray.size = (Value.int .i64 (2 * (m : Int)) :: bcells dN).toArray.size by rw [List.size_toArray, List.size_toArray, hc_length _ hql, List.length_cons, hbl])
                have OH := hide (show (Value.int .i64 (2 * (m : Int)) :: bcells dN).toArray.all (·.oneCell') = true by have h7 := hc_all (2 * m, dN); rwa [hc2] at h7)
                have HQ3 := hide hq3
                clear hq3 g8 hR8 hKeep HNd HRT HQ2 HOW2 hrt
                go_wp2_with (first | ((with_reducible refine at_load ?_); refine wpList_load_row rfl 31 _ rfl G8 (by rfl) 31 (bcells dN).toArray (0, 0) _ (unhide HG8) Tryd.underlying31 rfl (unhide VN) ?_) | ((with_reducible refine at_store ?_); refine wpList_store_row rfl 129 _ _ rfl G (Value.int .i64 (2 * (m : Int)) :: bcells dN).toArray rfl rfl 129 _ (unhide HG3) (unhide VH) (unhide ZH) (unhide OH) ?_))
                have hq4 := unhide HQ3
                have hTe2 : T = t'.length + 1 := by omega
                rw [← hc2]
                have hgr : wc.grownBy (wc.setRow G (hc (2 * m, dN)).toArray) (some G) := ⟨rfl, rfl, rfl, by simp [World.setRow], fun k hk hne => setRow_other _ _ _ _ (fun e => hne (by rw [e]))⟩
                have hown9 := hq4.1.2.2.1.kept hgr (.inr hq4.2.2.2)
                rw [List.length_cons, List.reverse_cons, hcs_snoc, hTe2] at hown9
                have hownA := ownsRow_pop (by rw [hcs_length _ (fun p hp => (unhide HTE p (by simp at hp; simp [hp])).1), List.length_reverse]) hown9
                have hG2 := hq4.2.2.1
                refine ⟨⟨t', 2 * m, dN, by rw [← unhide HND]; exact car_step (unhide HCR), ⟨⟨(setRow_other _ _ _ _ (by omega)).trans hq4.1.1, (setRow_other _ _ _ _ (by omega)).trans hq4.1.2.1, hownA, below_row hq4.1.2.2.2.1 (by omega) _, by simp only [World.setRow, Array.size_modify]; exact hq4.1.2.2.2.2⟩, setRow_heap _ _ _ _ _ _ hq4.2.1, hG2, hq4.2.2.2⟩⟩, by simp only [lenH]; omega⟩
    · have hd1 : decide ((k : Int) < (ss.length : Int)) = false := by simp; omega
      have hst : Stk ss t 1 := by
        have h1 := unhide HST
        rwa [List.take_of_length_le (by omega)] at h1
      have HGR := hide (fun n q t' (h : t = (n, q) :: t') => gather_all (xs := ss) (by rw [← h]; exact hst))
      have hte := hst.elem
      have htn := hst.len
      cases t with
      | nil =>
        have hs0 : ss = [] := hst
        have HN := hide (fun wq => (unhide HOK).2 ⟨#[]⟩ wq (by decide))
        rw [show (ByteArray.mk #[]).data.toList = [] from rfl] at HN
        have HR := hide (show rootL ss = shaL [] by rw [hs0, rootL_nil])
        have dl : (shaL []).length = 32 := sha_length _
        generalize shaL [] = d8 at HN dl HR
        have V2 := hide (v_dg d8 dl)
        have V3 := hide (v_z32 d8 dl)
        obtain ⟨al, cl, hvl⟩ := own_shape (unhide HHP).2.2.1
        subst hvl
        clear hst hte htn hs0 HST HGR
        go_wp2_with ((with_reducible refine at_load ?_); refine wpList_load_row rfl 26 _ rfl w.heap.size (by rfl) 26 (ucells tb).toArray (0, 0) _ (unhide HHP).1 Tryd.underlying26 rfl (unhide VT) ?_)
        refine (unhide HN _).mono ?_
        rintro e w2 ⟨rfl, hb2⟩
        have hp2 := (unhide HHP).below hb2
        have V1 := hide hp2.2.1
        go_wp2_with ((with_reducible refine at_store ?_); refine wpList_store_row rfl 31 _ _ rfl (w.heap.size + 1) (bcells d8).toArray rfl rfl 31 _ (unhide V1) (unhide V2) (unhide V3) (bcells_one d8) ?_)
        refine bodyPost_ret (v := .agg (bcells d8).toArray) ?_ rfl ⟨by rw [unhide HR], below_row hp2.2.2.2.1 (by omega) _⟩
        exact results_cell_row Tryd.results45 _ _ (w.heap.size + 1) 31 _ (0, 0) _ rfl (setRow_heap _ _ _ _ _ _ (unhide V1)) Tryd.underlying31 rfl (unhide V2)
      | cons p t' =>
        obtain ⟨n, q⟩ := p
        have hgr := unhide HGR n q t' rfl
        obtain ⟨T, hT⟩ : ∃ T : Nat, t'.length + 1 = T := ⟨_, rfl⟩
        have how := (unhide HHP).2.2.1
        obtain ⟨g, cp, hg⟩ := own_top how (by simp)
        subst hg
        have hql := (hte (n, q) (by simp)).1
        simp only at hql
        have htl' : ∀ p ∈ t', p.2.length = 32 := fun p hp => (hte p (by simp [hp])).1
        have hrt := range_top t' (n, q) htl' how
        rw [show t'.length = T - 1 by omega] at hrt
        have HRT := hide hrt
        have HTL := hide htl'
        have hT1 : 1 ≤ T := by omega
        have hTl : T ≤ 100 := by simp only [List.length_cons] at htn; omega
        rw [List.length_cons, hT]
        have hT0 : ((T : Int) == 0) = false := by rw [beq_eq_false_iff_ne]; omega
        have fW : IntKind.i64.wrap ((T : Int) - 1) = (T : Int) - 1 := i64w _ (by omega)
        have fW2 : IntKind.i64.wrap ((T : Int) - 2) = (T : Int) - 2 := i64w _ (by omega)
        have fa : (1 : Int) ≤ (T : Int) := by omega
        have fc : (0 : Int) ≤ (T : Int) - 1 := by omega
        have fd : (T : Int) - 1 < (T : Int) := by omega
        have fe : ((T : Int) - 1).toNat = T - 1 := by omega
        have VMq := hide (v_mid q hql)
        have VQ := hide (v_dg q hql)
        have ZQ := hide (v_z32 q hql)
        clear hst hte htn HST HGR how hrt htl'
        go_wp2_with (first | ((with_reducible refine at_load ?_); refine wpList_load_mid rfl 31 _ rfl g ((T - 1) * 33 + 1) (by rfl) (bcells q) _ (unhide HRT) Tryd.underlying31 rfl (unhide VMq) ?_) | ((with_reducible refine at_store ?_); refine wpList_store_row rfl 31 _ _ rfl wr.heap.size (bcells q).toArray rfl rfl 31 _ (heap_alloc_new wr _) (unhide VQ) (unhide ZQ) (bcells_one q) ?_))
        rw [← z32_cells]
        have hbA := below_put wr (bcells z32).toArray (bcells q).toArray 31
        have gA : BRow ((wr.alloc (.cells (bcells z32).toArray 31)).setRow wr.heap.size (bcells q).toArray) wr.heap.size 31 q := heap_put_new _ _ _ _
        have hr0 : Hr w tb ((n, q) :: t') (.slice (some ⟨g, 0, none⟩) T cp) wr.heap.size q ((wr.alloc (.cells (bcells z32).toArray 31)).setRow wr.heap.size (bcells q).toArray) := by
          have h1 := unhide HHP
          rw [List.length_cons, hT] at h1
          refine ⟨h1.below hbA, gA, h1.2.2.2.2, fun h => ?_⟩
          have := (h1.2.2.1.lt _ h).2
          omega
        generalize ((wr.alloc (.cells (bcells z32).toArray 31)).setRow wr.heap.size (bcells q).toArray) = W9 at hr0 ⊢
        generalize wr.heap.size = G9 at hr0 ⊢
        have HR0 := hide hr0
        clear hbA gA hr0 HHP HRT
        go_loopw [10] (fun i wx => ∃ (s : Nat) (r : List UInt8), s ≤ t'.length ∧ i = .int .i64 ((T : Int) - 2 - s) ∧ r = gather q (t'.take s) ∧ r.length = 32 ∧ Hr w tb ((n, q) :: t') (.slice (some ⟨g, 0, none⟩) T cp) G9 r wx) (fun i _ => (intOf i + 1).toNat)
        case atStart => exact ⟨0, q, Nat.zero_le _, val_int (by omega), rfl, hql, unhide HR0⟩
        case round =>
          obtain ⟨s, r, hs, rfl, hr, hrl, hh⟩ := hrel
          have HRR := hide hr
          have HH := hide hh
          clear hr hh
          by_cases hsl : s < t'.length
          · obtain ⟨j, hj⟩ : ∃ j : Nat, j = t'.length - 1 - s := ⟨_, rfl⟩
            have hji : ((T : Int) - 2 - (s : Int)) = (j : Int) := by omega
            rw [hji]
            have hjT : j + 1 < T := by omega
            obtain ⟨p2, hp2⟩ : ∃ p2, p2 = (t'.getD s (0, [])).2 := ⟨_, rfl⟩
            have hel := range_el t' (n, q) (unhide HTL) (by rw [List.length_cons, hT]) (unhide HH).1.2.2.1 hql s hsl
            rw [← hp2, ← hj] at hel
            have hpl : p2.length = 32 := by
              rw [hp2, List.getD, List.getElem?_eq_getElem hsl]
              exact unhide HTL _ (List.getElem_mem hsl)
            have HGN := hide (gather_succ q t' s hsl)
            have HP2 := hide hp2
            have HEL := hide hel
            have dn : (nd p2 r).length = 32 := sha_length _
            have HNd := hide (fun wq => rnode_any tb (unhide HOK) p2 r wq hpl hrl)
            generalize hnd : nd p2 r = dN at HNd dn
            have HND := hide hnd
            have VN := hide (v_dg dN dn)
            have VMp := hide (v_mid p2 hpl)
            have VMr := hide (v_mid r hrl)
            have fj0 : (0 : Int) ≤ (j : Int) := by omega
            have fj1 : (j : Int) < (T : Int) := by omega
            have fd0 : decide ((0 : Int) ≤ (j : Int)) = true := by simp
            have hKeep := hide (fun (wq : World) (h : Below wr.heap.size wr wq) => show Hr w tb ((n, q) :: t') (.slice (some ⟨g, 0, none⟩) T cp) G9 r wq ∧ (wq.rangeAt w.heap.size 0 (ucells tb) ∧ wq.rangeAt g (j * 33 + 1) (bcells p2)) from
              ⟨(unhide HH).below h, rangeAt_below (range_tab (unhide HH).1.1 htl) h (Nat.le_refl _), rangeAt_below (unhide HEL) h (Nat.le_refl _)⟩)
            have hW1 : Below wr.heap.size wr wr.drew := (Below.refl _ _).drew
            have hR8 := (unhide hKeep _ hW1).2
            have hR9 : wr.drew.rangeAt G9 0 (bcells r) := range_of_brow3 (unhide HH).2.1
            have HJ := hide hj
            clear hnd hp2 hj hel hji
            go_wp2_with fail
            refine wp_region_held_drew (S := fun w' => w'.rangeAt w.heap.size 0 (ucells tb) ∧ w'.rangeAt g (j * 33 + 1) (bcells p2)) (by kernel_rfl) hR8 (fun hHeld => ?_)
            refine wpAnyH_take (i := 0) rfl (by kernel_rfl) (by kernel_rfl) (by kernel_rfl) (fun _ _ _ h => h) (yieldsIf_load_mid (by rfl) 26 _ rfl w.heap.size (0) rfl (ucells tb) _ (fun _ h => h.1) Tryd.underlying26 rfl (unhide VTM)) hHeld ?_
            simp only [List.getElem_toArray, List.getElem_cons_zero, Act.put, List.setIfInBounds_toArray, List.set_cons_zero, List.set_cons_succ]
            refine wpAnyH_take (i := 1) (v := .slice (some ⟨g, 0, none⟩) T cp) rfl (by kernel_rfl) (by kernel_rfl) (by kernel_rfl) (fun _ _ _ h => h) (Or.inl ⟨by rfl, fun _ _ => by go_simp⟩) hHeld ?_
            simp only [List.getElem_toArray, List.getElem_cons_zero, List.getElem_cons_succ, Act.put, List.setIfInBounds_toArray, List.set_cons_zero, List.set_cons_succ]
            refine wpAnyH_take (i := 2) (v := .int .i64 j) rfl (by kernel_rfl) (by kernel_rfl) (by kernel_rfl) (fun _ _ _ h => h) (Or.inl ⟨by rfl, fun _ _ => by go_simp⟩) hHeld ?_
            simp only [List.getElem_toArray, List.getElem_cons_zero, List.getElem_cons_succ, Act.put, List.setIfInBounds_toArray, List.set_cons_zero, List.set_cons_succ]
            refine wpAnyH_take (i := 3) (v := .pointer (some ⟨g, j * 33, none⟩)) rfl (by kernel_rfl) (by kernel_rfl) (by kernel_rfl) (fun _ _ _ h => h) (Or.inl ⟨by rfl, fun _ _ => by go_simp⟩) hHeld ?_
            simp only [List.getElem_toArray, List.getElem_cons_zero, List.getElem_cons_succ, Act.put, List.setIfInBounds_toArray, List.set_cons_zero, List.set_cons_succ]
            refine wpAnyH_take (i := 4) (v := .pointer (some ⟨g, j * 33 + 1, none⟩)) rfl (by kernel_rfl) (by kernel_rfl) (by kernel_rfl) (fun _ _ _ h => h) (Or.inl ⟨by rfl, fun _ _ => by go_simp⟩) hHeld ?_
            simp only [List.getElem_toArray, List.getElem_cons_zero, List.getElem_cons_succ, Act.put, List.setIfInBounds_toArray, List.set_cons_zero, List.set_cons_succ]
            refine wpAnyH_take (i := 5) rfl (by kernel_rfl) (by kernel_rfl) (by kernel_rfl) (fun _ _ _ h => h) (yieldsIf_load_mid (by rfl) 31 _ rfl g (j * 33 + 1) rfl (bcells p2) _ (fun _ h => h.2) Tryd.underlying31 rfl (unhide VMp)) hHeld ?_
            simp only [List.getElem_toArray, List.getElem_cons_zero, List.getElem_cons_succ, Act.put, List.setIfInBounds_toArray, List.set_cons_zero, List.set_cons_succ]
            refine wpAnyH_ready (rs := [6]) (by kernel_rfl) (by simp) ?_
            refine AllReadyH.cons rfl (fun K hK => ?_) AllReadyH.nil
            rw [if_pos (by rfl)]
            refine wp_load_mid 31 _ rfl G9 0 rfl (bcells r) _ hR9 Tryd.underlying31 rfl (unhide VMr) ?_
            refine hK.out _ _ hHeld (fun hHeld => ?_)
            clear hK K
            simp only [List.getElem_toArray, List.getElem_cons_zero, List.getElem_cons_succ, Act.put, List.setIfInBounds_toArray, List.set_cons_zero, List.set_cons_succ]
            refine wpAnyH_ready (rs := [7]) (by kernel_rfl) (by simp) ?_
            refine AllReadyH.cons rfl (fun K hK => ?_) AllReadyH.nil
            go_simp
            go_at_call 65
            refine (unhide HNd _).mono ?_
            rintro e w3 ⟨rfl, hb2⟩
            have hb3 : Below wr.heap.size wr w3 := ⟨hb2.os, hb2.tape, hb2.output, hb2.size, hb2.block⟩
            have hh3 := (unhide hKeep _ hb3).1
            dsimp only
            refine hK.out _ _ (unhide hKeep _ hb3).2 (fun hHeld => ?_)
            clear hK K
            refine wpAnyH_ready (rs := [8]) (by kernel_rfl) (by simp) ?_
            refine AllReadyH.cons rfl (fun K hK => ?_) AllReadyH.nil
            rw [if_pos (by rfl)]
            refine wp_store_mid 31 _ _ rfl G9 0 (bcells dN).toArray rfl rfl (by rw [bcells_size, dn]; exact there_of_brow hh3.2.1 hrl) (unhide VN) (bcells_one dN) ?_
            rw [show (bcells dN).toArray.toList = bcells dN from rfl]
            have hh4 := hh3.put dN (by rw [hrl, dn])
            have hS4 : (w3.setCells G9 0 (bcells dN)).rangeAt w.heap.size 0 (ucells tb) ∧ (w3.setCells G9 0 (bcells dN)).rangeAt g (j * 33 + 1) (bcells p2) := by
              refine ⟨range_tab hh4.1.1 htl, ?_⟩
              have hel4 := range_el t' (n, q) (unhide HTL) (by rw [List.length_cons, hT]) hh4.1.2.2.1 hql s hsl
              rw [← unhide HP2, ← unhide HJ] at hel4
              exact hel4
            generalize w3.setCells G9 0 (bcells dN) = w4 at hh4 hS4 ⊢
            refine hK.out _ _ hS4 (fun hHeld => ?_)
            clear hK K
            refine wpAnyH_done (by kernel_rfl) ?_ _
            go_wp2_with fail
            have hj2 := unhide HJ
            exact ⟨⟨s + 1, dN, by omega, val_int (by omega), by rw [unhide HGN, ← unhide HP2, ← unhide HRR]; exact (unhide HND).symm, dn, hh4⟩, by simp [intOf]⟩
          · have hse : s = t'.length := by omega
            have hfin : r = rootL ss := by rw [unhide HRR, hse, List.take_of_length_le (Nat.le_refl _), hgr]
            have HFIN := hide hfin
            have fd0 : decide ((0 : Int) ≤ (T : Int) - 2 - (s : Int)) = false := by simp; omega
            have VR := hide (v_dg r hrl)
            have ZR := hide (v_z32 r hrl)
            have hh := unhide HH
            have HG9 := hide hh.2.1
            have HG4 := hide hh.1.2.1
            have hbf := hh.1.2.2.2.1
            clear hh hse hfin
            go_wp2_with (first | ((with_reducible refine at_load ?_); refine wpList_load_row rfl 31 _ rfl G9 (by rfl) 31 (bcells r).toArray (0, 0) _ (unhide HG9) Tryd.underlying31 rfl (unhide VR) ?_) | ((with_reducible refine at_store ?_); refine wpList_store_row rfl 31 _ _ rfl (w.heap.size + 1) (bcells r).toArray rfl rfl 31 _ (unhide HG4) (unhide VR) (unhide ZR) (bcells_one r) ?_))
            refine bodyPost_ret (v := .agg (bcells r).toArray) ?_ rfl ⟨by rw [unhide HFIN], below_row hbf (by omega) _⟩
            exact results_cell_row Tryd.results45 _ _ (w.heap.size + 1) 31 _ (0, 0) _ rfl (setRow_heap _ _ _ _ _ _ (unhide HG4)) Tryd.underlying31 rfl (unhide VR)
end Go.Proofs.YtanfolfopalbeaaDoor
namespace Go.Proofs.YtanfolfopalbeaaDoor
open Go.RowKit

/-- What lend lays behind a list. -/
def cl : ByteArray := ⟨#[116, 104, 101, 32, 99, 97, 108, 108, 101, 114, 39, 115]⟩
def lentL (ss : List ByteArray) : List ByteArray := ss ++ [cl, cl]

/-- Is the next operation a copy? (to be met by 'with_reducible refine') -/
theorem at_copy {P : Program} {ops : Array Oper} {rest : List Oper} {Q : Exit → Act → World → Prop} {a : Act} {w : World} {ar : Array Operand} {ts : Array TypeId} {d : Option Tmp} {t : TypeId} {pos : String} {af : Array Edge} {g : Option (Nat × Bool)}
    (h : wpList P ops Q ({ dst := d, op := .call { callee := .builtin .copy, args := ar, argTypes := ts }, type := t, pos := pos, after := af, guard := g } :: rest) a w) : wpList P ops Q ({ dst := d, op := .call { callee := .builtin .copy, args := ar, argTypes := ts }, type := t, pos := pos, after := af, guard := g } :: rest) a w := h

set_option maxRecDepth 100000 in
set_option maxHeartbeats 800000 in
theorem lend_some (ao : Option Addr) (cap : Nat) (ss : List ByteArray) (w : World) (hm : ss.length * 16 ≤ 140737488351232)
    (hc : ss = [] ∨ ∃ b off, ao = some ⟨b, off, none⟩ ∧ ∀ i, i < ss.length → w.cell? ⟨b, off + i, none⟩ = some (.string (ss.getD i ByteArray.empty))) :
    Calls Tryd.prog 57 #[.slice ao ss.length cap] w fun e w' => ∃ g, e = .returned (.slice (some ⟨g, 0, none⟩) (ss.length + 2) (ss.length + 2)) ∧
      w'.ownsRow w.heap.size 9 1 (.slice (some ⟨g, 0, none⟩) (ss.length + 2) (ss.length + 2)) (ss.length + 2) ((lentL ss).map Value.string) ∧ Below w.heap.size w w' := by
  obtain ⟨i0, hi, hz0, hz1, hz2⟩ := info_parts info_str
  have HC := hide hc
  clear hc
  go_enter Tryd.func57, Tryd.ntmps57
  go_wp2_with (at_make; go_must (refine wpList_make_full _ rfl _ _ 34 rfl w.heap.size 9 i0 (.string ⟨#[]⟩) 1 Tryd.underlying34 hi hz0 hz1 _ _ _ _ (ss.length + 2) rfl rfl (by omega) (by omega) (by rw [hz2]; omega) (by unfold maxLen; omega) (Nat.le_refl _) ?_))
  intro w1 hown1 hgrow1
  have hbel1 : Below w.heap.size w w1 := (Below.refl _ _).grown hgrow1 (Nat.le_refl _) (fun k h => by cases h)
  obtain ⟨hl1, h1⟩ := hown1
  rcases h1 with ⟨h1, _⟩ | ⟨g, cap1, cur, hv, hg1, hg2, hg3, hg4, hg5, hg6⟩
  · simp at h1
  simp only [Value.slice.injEq, Option.some.injEq, Addr.mk.injEq, and_true, true_and] at hv
  obtain ⟨hgB, hcap1⟩ := hv
  rw [← hcap1, Nat.mul_one] at hg5
  rw [← hgB] at hg2
  have hcl : cur.toList.length = ss.length + 2 := by rw [Array.length_toList]; exact hg5
  have hsrc : 0 < (ss.map Value.string).length → some (⟨w.heap.size, 0, none⟩ : Addr) = some ⟨w.heap.size, 0, none⟩ ∧ ∃ ad, ao = some ad ∧ ∀ j v, (ss.map Value.string)[j]? = some v → w1.cell? (ad.add j) = some v := by
    intro hp
    refine ⟨rfl, ?_⟩
    rcases unhide HC with rfl | ⟨b, off, rfl, hcc⟩
    · simp at hp
    · refine ⟨_, rfl, fun j v hj => ?_⟩
      have hjl : j < ss.length := by
        have := (List.getElem?_eq_some_iff.1 hj).1
        simpa using this
      rw [Addr.add_lit, hbel1.cell (p := ⟨b, off + j, none⟩) (cell_lt (hcc j hjl)), hcc j hjl]
      rw [List.getElem?_map, List.getElem?_eq_getElem hjl] at hj
      simpa [List.getD, List.getElem?_eq_getElem hjl] using hj
  have HG : Hid (w1.heap[w.heap.size]? = some (.cells cur.toList.toArray 9 (0, 0))) := hide (by rw [Array.toArray_toList]; exact hg2)
  have HSRC := hide hsrc
  have HCL := hide hcl
  have hinf : (Tryd.prog.info? 9).map (·.size) = some 1 := by rw [hi]; simp [hz1]
  have HINF := hide hinf
  clear hsrc hcl hg1 hg2 hg3 hg4 hg5 hg6 hl1 hgB hcap1 hinf hgrow1
  go_wp2_with ((with_reducible refine at_copy ?_); go_must (refine wpList_copy_splice rfl (.tmp 9) (.tmp 10) 34 34 rfl 9 Tryd.underlying34 (unhide HINF) _ _ _ _ _ _ rfl rfl w.heap.size 0 cur.toList 9 (unhide HG) (ss.map Value.string) ?c1 (unhide HSRC) ?c2 ?c3 w.heap.size w hbel1 (Nat.le_refl _) ?_))
  case c2 => have := unhide HCL; rw [Array.length_toList] at this; omega
  case c3 => first | (intro v hv; simp only [List.mem_map] at hv; obtain ⟨x, _, rfl⟩ := hv; rfl) | (intro x _; rfl)
  intro w2 HG2 hbel2
  have hsp : splice cur.toList 0 (ss.map Value.string) = ss.map Value.string ++ cur.toList.drop ss.length := by simp [splice]
  rw [hsp] at HG2
  have hdl : (cur.toList.drop ss.length).length = 2 := by rw [List.length_drop, unhide HCL]; omega
  obtain ⟨y0, y1, hy⟩ : ∃ y0 y1, cur.toList.drop ss.length = [y0, y1] := by
    match hd : cur.toList.drop ss.length, hdl with
    | [y0, y1], _ => exact ⟨y0, y1, rfl⟩
  rw [hy] at HG2
  clear hsp hdl hy HSRC HG
  have hrow : ∀ t : Nat, t = ss.length ∨ t = ss.length + 1 → t ≤ ss.length + 2 := by omega
  go_wp2
  go_loopw [4] (fun i wr => ∃ (k : Nat) (l2 : List Value), ss.length ≤ k ∧ k ≤ ss.length + 2 ∧ i = .int .i64 k ∧ l2.length = ss.length + 2 ∧ l2.take k = ((lentL ss).map Value.string).take k ∧ wr.heap[w.heap.size]? = some (.cells l2.toArray 9 (0, 0)) ∧ Below w.heap.size w wr) (fun i _ => ss.length + 2 - (intOf i).toNat)
  case atStart =>
    refine ⟨ss.length, ss.map Value.string ++ [y0, y1], Nat.le_refl _, by omega, rfl, by simp, ?_, unhide HG2, hbel2⟩
    rw [List.take_left' (by simp)]
    simp [lentL]
  case round =>
    obtain ⟨k, l2, hk0, hk2, rfl, hl2, htk, hg, hbel⟩ := hrel
    by_cases hlt : k < ss.length + 2
    · have hcl : (l2.toArray)[k]? = some (l2[k]'(by omega)) := by simp [List.getElem?_eq_getElem (show k < l2.length by omega)]
      have hck := cell_of_row wr w.heap.size k _ _ _ hg
      rw [hcl] at hck
      have hfk := frozen_of_row wr w.heap.size k _ _ hg
      go_wp2
      go_roundw
      case rel =>
        refine ⟨k + 1, l2.set k (.string cl), by omega, by omega, by go_num, by rw [List.length_set]; exact hl2, ?_, ?_, hbel.setCell (Nat.le_refl _) _⟩
        · rw [List.take_succ_eq_append_getElem (by rw [List.length_set]; omega), List.take_set_of_le (Nat.le_refl _), List.getElem_set_self, htk,
            List.take_succ_eq_append_getElem (by simp [lentL]; omega)]
          congr 2
          rw [List.getElem_map]
          congr 1
          unfold lentL
          rw [List.getElem_append_right hk0]
          have : k - ss.length = 0 ∨ k - ss.length = 1 := by omega
          rcases this with h | h <;> simp [h]
        · rw [heap_setCell_same wr w.heap.size k _ _ _ hg]
          congr 2
          apply Array.ext'
          rw [Array.toList_setIfInBounds]
          rfl
      case measure => simp [intOf]; omega
    · have hke : k = ss.length + 2 := by omega
      have hll : ((lentL ss).map Value.string).length = ss.length + 2 := by simp [lentL]
      have hle : l2 = (lentL ss).map Value.string := by
        rw [List.take_of_length_le (by omega), List.take_of_length_le (by omega)] at htk
        exact htk
      have hd1 : decide ((k : Int) < (ss.length : Int) + 2) = false := by simp; omega
      have HO := hide (show wr.ownsRow w.heap.size 9 1 (.slice (some ⟨w.heap.size, 0, none⟩) (ss.length + 2) (ss.length + 2)) (ss.length + 2) ((lentL ss).map Value.string) from
        ⟨by rw [hll]; omega, .inr ⟨w.heap.size, ss.length + 2, _, rfl, Nat.le_refl _, hg, Nat.le_refl _, by unfold maxLen; omega, by simp [hl2], by rw [hle, List.take_of_length_le (by simp [lentL])]⟩⟩)
      clear hke hle hll htk hg
      go_wp2
      go_ret
      exact ⟨w.heap.size, rfl, unhide HO, hbel⟩

theorem lend_any (v : Value) (ss : List ByteArray) (w : World) (h : Strs w v ss) (hm : ss.length * 16 ≤ 140737488351232) :
    Calls Tryd.prog 57 #[v] w fun e w' => ∃ g, e = .returned (.slice (some ⟨g, 0, none⟩) (ss.length + 2) (ss.length + 2)) ∧
      w'.ownsRow w.heap.size 9 1 (.slice (some ⟨g, 0, none⟩) (ss.length + 2) (ss.length + 2)) (ss.length + 2) ((lentL ss).map Value.string) ∧ Below w.heap.size w w' := by
  obtain ⟨ao, cap, rfl, h1, h2, h3⟩ := h
  exact lend_some ao cap ss w hm h3
end Go.Proofs.YtanfolfopalbeaaDoor
namespace Go.Proofs.YtanfolfopalbeaaDoor
open Go.RowKit

set_option maxRecDepth 100000 in
set_option maxHeartbeats 400000 in
theorem sameT_empty (ao ao' : Option Addr) (cap cap' : Nat) (w : World) :
    Calls Tryd.prog 72 #[.slice ao 0 cap, .slice ao' 0 cap'] w fun e w' => e = .returned (.bool true) ∧ Below w.heap.size w w' := by
  go_enter Tryd.func72, Tryd.ntmps72
  go_wp2
  refine wp_loop_rounds 1 ?_
  rw [rounds_succ]
  go_wp2
  go_ret
  exact ⟨rfl, Below.refl _ _⟩

set_option maxRecDepth 100000 in
set_option maxHeartbeats 400000 in
theorem sameT_some (b off cap b' off' cap' : Nat) (ss : List ByteArray) (w : World) (hm : ss.length ≤ maxLen)
    (hc : ∀ i, i < ss.length → w.cell? ⟨b, off + i, none⟩ = some (.string (ss.getD i ByteArray.empty))) (hc' : ∀ i, i < ss.length → w.cell? ⟨b', off' + i, none⟩ = some (.string (ss.getD i ByteArray.empty))) :
    Calls Tryd.prog 72 #[.slice (some ⟨b, off, none⟩) ss.length cap, .slice (some ⟨b', off', none⟩) ss.length cap'] w fun e w' => e = .returned (.bool true) ∧ Below w.heap.size w w' := by
  unfold maxLen at hm
  have HC := hide hc
  have HC' := hide hc'
  clear hc hc'
  have hne : ((ss.length : Int) != (ss.length : Int)) = false := by simp
  go_enter Tryd.func72, Tryd.ntmps72
  go_wp2
  go_loopw [5] (fun i wr => ∃ k : Nat, k ≤ ss.length ∧ i = .int .i64 k ∧ Below w.heap.size w wr) (fun i _ => ss.length - (intOf i).toNat)
  case atStart => exact ⟨0, Nat.zero_le _, rfl, Below.refl _ _⟩
  case round =>
    obtain ⟨k, hk, rfl, hbel⟩ := hrel
    by_cases hlt : k < ss.length
    · obtain ⟨s, hs⟩ : ∃ s, s = ss.getD k ByteArray.empty := ⟨_, rfl⟩
      have h1 := unhide HC k hlt
      have h2 := unhide HC' k hlt
      rw [← hs] at h1 h2
      clear hs
      have g1 : wr.cell? ⟨b, off + k, none⟩ = some (.string s) := by rw [hbel.cell (p := ⟨b, off + k, none⟩) (cell_lt h1)]; exact h1
      have g2 : wr.cell? ⟨b', off' + k, none⟩ = some (.string s) := by rw [hbel.cell (p := ⟨b', off' + k, none⟩) (cell_lt h2)]; exact h2
      have hlti : (k : Int) < (ss.length : Int) := by omega
      have hk0 : (0 : Int) ≤ (k : Int) := by omega
      clear h1 h2
      go_wp2
      go_quiet (fail)
      go_wp2
      go_roundw
      case rel => exact ⟨k + 1, by omega, by go_num, below_drewN hbel _⟩
      case measure => simp [intOf]; omega
    · go_wp2
      go_ret
      exact ⟨rfl, hbel⟩
theorem sameT_any (v v' : Value) (ss : List ByteArray) (w : World) (h : Strs w v ss) (h' : Strs w v' ss) :
    Calls Tryd.prog 72 #[v, v'] w fun e w' => e = .returned (.bool true) ∧ Below w.heap.size w w' := by
  obtain ⟨ao, cap, rfl, h1, h2, h3⟩ := h
  obtain ⟨ao', cap', rfl, h1', h2', h3'⟩ := h'
  rcases h3 with rfl | ⟨b, off, rfl, hc⟩
  · exact sameT_empty ao ao' cap cap' w
  · rcases h3' with rfl | ⟨b', off', rfl, hc'⟩
    · exact sameT_empty _ _ cap cap' w
    · exact sameT_some b off cap b' off' cap' ss w (Nat.le_trans h1 h2) hc hc'

set_option maxRecDepth 100000 in
set_option maxHeartbeats 400000 in
theorem num_any (n : Int) (w : World) : Calls Tryd.prog 44 #[.int .i64 n] w fun e w' => e = .returned (.int .i64 n) ∧ w' = w := by
  go_enter Tryd.func44, Tryd.ntmps44
  go_wp2
  go_ret
  exact ⟨rfl, rfl⟩

set_option maxRecDepth 100000 in
set_option maxHeartbeats 400000 in
theorem lent_any (x v : Value) (ss : List ByteArray) (w : World) (hx : Strs w x (lentL ss)) (h : Strs w v ss) (hm : ss.length * 16 ≤ 140737488351232) :
    Calls Tryd.prog 60 #[x, v] w fun e w' => e = .returned (.bool true) ∧ Below w.heap.size w w' := by
  have HX := hide hx
  have HS := hide h
  clear hx h
  go_enter Tryd.func60, Tryd.ntmps60
  go_wp2_with fail
  refine (lend_any v ss _ (unhide HS) hm).mono ?_
  rintro e w1 ⟨g, rfl, hown, hb⟩
  have R := hide (strs_of_own hown)
  have S := hide ((unhide HX).below hb (Nat.le_refl _))
  clear hown
  go_wp2_with fail
  refine (sameT_any _ _ (lentL ss) _ (unhide S) (unhide R)).mono ?_
  rintro e w2 ⟨rfl, hb2⟩
  go_wp2
  go_ret
  exact ⟨rfl, hb.trans (hb2.mono hb.size)⟩
end Go.Proofs.YtanfolfopalbeaaDoor
namespace Go.Proofs.YtanfolfopalbeaaDoor
open Go.RowKit

theorem brow_kept {w w' : World} {g : Nat} {t : TypeId} {d : List UInt8} (h : BRow w g t d) (hb : Below w.heap.size w w') : BRow w' g t d := (hb.block _ (lt_of_block h)).trans h
theorem urow_kept {w w' : World} {g : Nat} {t : TypeId} {d : List Nat} (h : URow w g t d) (hb : Below w.heap.size w w') : URow w' g t d := (hb.block _ (lt_of_block h)).trans h
theorem lentD_take (ds : List (List UInt8)) : (lentD ds).take ds.length = ds := by unfold lentD; rw [List.take_left' rfl]
theorem below_putq (w : World) (c d : Array Value) (t : TypeId) : Below w.heap.size w ((w.alloc (.cells c t)).setRow w.heap.size d) := below_row ((Below.refl _ _).alloc (Nat.le_refl _) _) (Nat.le_refl _) _
theorem fmt9_dEnt : dEnt (fmt 9) = ([], 0) := by unfold dEnt; rw [(fmt_std 9 (by omega) (by omega)).ok]
theorem fmt9_root : staRoot (fmt 9) = rootL [] := by unfold staRoot; rw [fmt9_dEnt, if_pos rfl]; rfl

set_option maxRecDepth 100000 in
set_option maxHeartbeats 1600000 in
theorem fresh_any (tb : List Nat) (ht : TabOk tb) (w : World) (hT : Tabs w) :
    Calls Tryd.prog 38 #[.agg (ucells tb).toArray, .int .i64 9] w fun e w' => e = .returned (.bool true) ∧ Below w.heap.size w w' := by
  have htl := ht.1
  have VT := hide (v_tab tb htl)
  have HTT := hide (fun wq hb => hT.below (w' := wq) (B := w.heap.size) hb (Nat.le_refl _))
  have hST := fun wq vq hd ht => Status_any vq (fmt 9) wq hd ht
  have hEN := fun wq vq hd => Entries_any vq (fmt 9) wq hd
  rw [fmt9_dEnt, fmt9_root] at hST
  rw [fmt9_dEnt] at hEN
  have hRT := fun wq hs => rtree_any tb ht (.slice none 0 0) [] wq hs (by simp) (by simp)
  have dr : (rootL []).length = 32 := rootL_length []
  generalize rootL [] = r at hST hRT dr
  have V2 := hide (v_dg r dr)
  have V3 := hide (v_z32 r dr)
  have hE := fun wq => digest_same r dr wq
  have HST := hide hST
  have HEN := hide hEN
  have HRT := hide hRT
  have hbel0 : Below w.heap.size w (w.alloc (.cells (ucells tb).toArray 26)) := (Below.refl _ _).alloc (Nat.le_refl _) _
  have K0 := hide hbel0
  have G0 := hide (show URow (w.alloc (.cells (ucells tb).toArray 26)) w.heap.size 26 tb from heap_alloc_new w _)
  have hnu := fun wq => num_any 0 wq
  clear hST hEN hRT hbel0 hT ht
  go_enter Tryd.func38, Tryd.ntmps38
  go_upto_region 1 with fail
  generalize (w.alloc (.cells (ucells tb).toArray 26)) = W0 at K0 G0 ⊢
  go_wp2_with fail
  refine (Format_in 9 _ (by omega) (by omega)).mono ?_
  rintro e w1 ⟨rfl, hown1, hb1⟩
  have hbel1 := (unhide K0).trans (hb1.mono (unhide K0).size)
  have G1 := hide (urow_kept (unhide G0) hb1)
  have D1 := hide (digs_of_own (fmt_elem 9) hown1 (by rw [fmt_length 9 (by omega)]))
  generalize W0.heap.size = g0 at D1 ⊢
  clear hown1 hb1 K0 G0
  go_wp2_with fail
  refine (unhide HST _ _ (unhide D1) (unhide HTT _ hbel1)).mono ?_
  rintro e w2 ⟨rfl, hb2⟩
  have hbel2 := hbel1.trans (hb2.mono hbel1.size)
  go_upto_region 3 with ((with_reducible refine at_store ?_); go_must (refine wpList_store_row rfl 31 _ _ rfl w2.heap.size (bcells r).toArray rfl rfl 31 _ (heap_alloc_new w2 _) (unhide V2) (unhide V3) (bcells_one r) ?_))
  rw [← z32_cells]
  have hbp := below_putq w2 (bcells z32).toArray (bcells r).toArray 31
  have hbel3 := hbel2.trans (hbp.mono hbel2.size)
  have G3 := hide (urow_kept (urow_kept (unhide G1) hb2) hbp)
  have D3 := hide (((unhide D1).below hb2 (Nat.le_refl _)).below hbp (Nat.le_refl _))
  have R3 : Hid (BRow ((w2.alloc (.cells (bcells z32).toArray 31)).setRow w2.heap.size (bcells r).toArray) w2.heap.size 31 r) := hide (heap_put_new _ _ _ _)
  clear G1 D1 hbp hb2 hbel1 hbel2
  generalize ((w2.alloc (.cells (bcells z32).toArray 31)).setRow w2.heap.size (bcells r).toArray) = W3 at G3 D3 R3 hbel3 ⊢
  generalize w2.heap.size = g8 at R3 ⊢
  go_wp2_with fail
  refine (unhide HEN _ _ (unhide D3)).mono ?_
  rintro e w4 ⟨v4, rfl, hown4, hb4⟩
  obtain ⟨a4, c4, hv4⟩ := own_shape hown4
  subst hv4
  have hbel4 := hbel3.trans (hb4.mono hbel3.size)
  have G4 := hide (urow_kept (unhide G3) hb4)
  have R4 := hide (brow_kept (unhide R3) hb4)
  clear hown4 hb4 G3 D3 R3 hbel3
  go_wp2_with ((with_reducible refine at_load ?_); go_must (refine wpList_load_row rfl 26 _ rfl w.heap.size (by rfl) 26 (ucells tb).toArray (0, 0) _ (unhide G4) Tryd.underlying26 rfl (unhide VT) ?_))
  refine (unhide HRT _ ⟨none, 0, rfl, Nat.le_refl _, Nat.zero_le _, .inl rfl⟩).mono ?_
  rintro e w5 ⟨rfl, hb5⟩
  have hbel5 := hbel4.trans (hb5.mono hbel4.size)
  have hl5 := lt_of_block (brow_kept (unhide R4) hb5)
  go_upto_region 5 with ((with_reducible refine at_store ?_); go_must (refine wpList_store_row rfl 31 _ _ rfl w5.heap.size (bcells r).toArray rfl rfl 31 _ (heap_alloc_new w5 _) (unhide V2) (unhide V3) (bcells_one r) ?_))
  rw [← z32_cells]
  have hbp := below_putq w5 (bcells z32).toArray (bcells r).toArray 31
  have hbel6 := hbel5.trans (hbp.mono hbel5.size)
  have R6 := hide (brow_kept (brow_kept (unhide R4) hb5) hbp)
  have F6 : Hid (BRow ((w5.alloc (.cells (bcells z32).toArray 31)).setRow w5.heap.size (bcells r).toArray) w5.heap.size 31 r) := hide (heap_put_new _ _ _ _)
  clear G4 R4 hbp hb5 hbel4 hbel5
  generalize ((w5.alloc (.cells (bcells z32).toArray 31)).setRow w5.heap.size (bcells r).toArray) = W6 at R6 F6 hbel6 ⊢
  generalize w5.heap.size = g12 at F6 hl5 ⊢
  go_wp2_with (first | ((with_reducible refine at_load2 ?_); first | refine wpList_load_row_w (by rfl) 31 _ rfl g8 (by rfl) 31 (bcells r).toArray (0, 0) _ (unhide R6) Tryd.underlying31 rfl (unhide V2) ?_ | refine wpList_load_row_w (by rfl) 31 _ rfl g12 (by rfl) 31 (bcells r).toArray (0, 0) _ (unhide F6) Tryd.underlying31 rfl (unhide V2) ?_) | (go_at_call 44; refine (hnu _).mono ?_; rintro e w7 ⟨rfl, he⟩; cases he))
  go_ret
  exact ⟨rfl, hbel6⟩

theorem digest_zero (w : World) : Sem.run Tryd.prog (Op.equalIn 10000 31 (.agg (bcells z32).toArray) (.agg #[.int .u8 0, .int .u8 0, .int .u8 0, .int .u8 0, .int .u8 0, .int .u8 0, .int .u8 0, .int .u8 0, .int .u8 0, .int .u8 0, .int .u8 0, .int .u8 0, .int .u8 0, .int .u8 0, .int .u8 0, .int .u8 0, .int .u8 0, .int .u8 0, .int .u8 0, .int .u8 0, .int .u8 0, .int .u8 0, .int .u8 0, .int .u8 0, .int .u8 0, .int .u8 0, .int .u8 0, .int .u8 0, .int .u8 0, .int .u8 0, .int .u8 0, .int .u8 0])) w = .ok true w := by
  rw [← z32_cells]
  exact digest_same z32 rfl w
theorem stepOf_facts (L : List UInt8) (ds es : List (List UInt8)) (b : Nat) (h : Std ds es) : (stepOf (rdOld L) ds es b).1.length ≤ 1000 ∧ (∀ x ∈ (stepOf (rdOld L) ds es b).1, x.data.length = 32 ∧ x.at_ < ds.length) ∧ ((stepOf (rdOld L) ds es b).1 = [] ∨ (stepOf (rdOld L) ds es b).2.1 = 0) ∧ (stepOf (rdOld L) ds es b).2.1 ≠ 6 := by
  have hr := rdOld_facts L
  unfold stepOf
  split
  · exact ⟨by simp, (fun x hx => nomatch hx), .inl rfl, show (rdOld L).2.1 ≠ 6 by omega⟩
  · split
    · exact ⟨by simp, (fun x hx => nomatch hx), .inl rfl, by simp⟩
    · split
      · exact ⟨by simp, (fun x hx => nomatch hx), .inl rfl, by simp⟩
      · rename_i hf
        have hn := h.n300
        refine ⟨?_, plan_items ds _ _ _ h.elem h.n2 (by rw [List.length_append]; omega), .inr rfl, by simp⟩
        show (planL ds _ _ _).length ≤ 1000
        rw [planL_length, List.length_append]
        unfold nW
        omega
theorem stepR_facts (L : List UInt8) (ds : List (List UInt8)) (b : Int) (h : Std ds (dEnt ds).1) (h0 : (dEnt ds).2 = 0) : (stepR L ds b).1.length ≤ 1000 ∧ (∀ x ∈ (stepR L ds b).1, x.data.length = 32 ∧ x.at_ < ds.length) ∧ ((stepR L ds b).1 = [] ∨ (stepR L ds b).2.1 = 0) ∧ (stepR L ds b).2.1 ≠ 6 := by
  unfold stepR
  rw [if_neg (by omega)]
  split
  · exact ⟨by simp, (fun x hx => nomatch hx), .inl rfl, by simp⟩
  · exact stepOf_facts L ds _ _ h

set_option maxRecDepth 100000 in
set_option maxHeartbeats 3200000 in
theorem junk_any (v : Value) (ds : List (List UInt8)) (s : ByteArray) (bt : Int) (w : World) (hD : Digs w v ds) (hs : s.size ≤ maxLen) (hm : ds.length * 32 ≤ 140737488351232) (hT : Tabs w) :
    Calls Tryd.prog 10 #[v, .string s, .int .i64 bt] w fun e w' => e = .returned (.bool true) ∧ Below w.heap.size w w' := by
  have hzt := zero_tab
  have hzl := z72_length
  have hns := newsums_any
  have hok := tabOk
  unfold tabV at hns
  generalize z72 = z7 at hzt hzl
  generalize Hl ++ Kl = tb at hns hok
  have htl := hok.1
  have VT := hide (v_tab tb htl)
  have ZT := hide (show (ucells z7).toArray.size = (ucells tb).toArray.size by rw [ucells_size, ucells_size, htl, hzl])
  have HD := hide (fun wq hb => hD.below (w' := wq) (B := w.heap.size) hb (Nat.le_refl _))
  have HTT := hide (fun wq hb => hT.below (w' := wq) (B := w.heap.size) hb (Nat.le_refl _))
  have HFR := hide (fun wq ht => fresh_any tb hok wq ht)
  have HLD := hide (fun wq hd => lendK_any v ds wq hd hm)
  have HLT := hide (fun x wq hx hd => lentK_any x v ds wq hx hd hm)
  have hST := fun wq vq hd ht => Status_any vq ds wq hd ht
  have hEN := fun wq vq hd => Entries_any vq ds wq hd
  have hSP := fun wq vq hd => Step_any s vq ds bt wq hs hd
  have HLE := hide (lentD_elem ds hD.1)
  have HSPEC := hide (dEnt_spec hD.1)
  have HSF := hide (fun h h0 => stepR_facts s.data.toList ds bt h h0)
  have HS6 := hide (show (dEnt ds).2 ≠ 0 → stepR s.data.toList ds bt = ([], 6, 0) from fun h => by unfold stepR; rw [if_pos h])
  have dr := staRoot_length ds
  have HSR := hide (show ((dEnt ds).2 = 0 → staRoot ds = rootL ((dEnt ds).1.map mk)) ∧ ((dEnt ds).2 ≠ 0 → staRoot ds = z32) from ⟨fun h => by unfold staRoot; rw [if_pos h], fun h => by unfold staRoot; rw [if_neg h]⟩)
  have HRT := hide (fun vq es wq hs h1 h2 => rtree_any tb hok vq es wq hs h1 h2)
  obtain ⟨_, ao, cap, hv, hl1, hl2, _⟩ := hD
  subst hv
  unfold maxLen at hl2
  generalize staRoot ds = r at hST dr HSR
  generalize dEnt ds = de at hST hEN HSPEC HSF HS6 HSR
  generalize stepR s.data.toList ds bt = sr at hSP HSF HS6
  obtain ⟨es, ec⟩ := de
  obtain ⟨pl, pe, pn⟩ := sr
  simp only at hST hEN hSP HSPEC HSF HS6 HSR
  have V2 := hide (v_dg r dr)
  have V3 := hide (v_z32 r dr)
  have HST := hide hST
  have HEN := hide hEN
  have HSP := hide hSP
  clear hST hEN hSP hT hok
  go_enter Tryd.func10, Tryd.ntmps10
  go_upto_region 2 with (first | (go_at_call 13; (with_reducible refine (hns _).mono ?_); rintro e w1 ⟨rfl, hb1⟩) | ((with_reducible refine at_store ?_); refine wpList_store_row rfl 26 _ _ rfl w1.heap.size (ucells tb).toArray rfl rfl 26 _ (heap_alloc_new w1 _) (unhide VT) (unhide ZT) (ucells_one tb) ?_))
  have hbp := below_putq w1 (ucells z7).toArray (ucells tb).toArray 26
  have hbel2 := hb1.trans (hbp.mono hb1.size)
  have G2 : Hid (URow ((w1.alloc (.cells (ucells z7).toArray 26)).setRow w1.heap.size (ucells tb).toArray) w1.heap.size 26 tb) := hide (heap_put_new _ _ _ _)
  clear hbp hb1
  generalize ((w1.alloc (.cells (ucells z7).toArray 26)).setRow w1.heap.size (ucells tb).toArray) = W2 at G2 hbel2 ⊢
  generalize w1.heap.size = gt at G2 ⊢
  clear hns hzt hzl ZT
  go_wp2_with ((with_reducible refine at_load ?_); go_must (refine wpList_load_row rfl 26 _ rfl gt (by rfl) 26 (ucells tb).toArray (0, 0) _ (unhide G2) Tryd.underlying26 rfl (unhide VT) ?_))
  refine (unhide HFR _ (unhide HTT _ hbel2)).mono ?_
  rintro e w3 ⟨rfl, hb3⟩
  have hbel3 := hbel2.trans (hb3.mono hbel2.size)
  have G3 := hide (urow_kept (unhide G2) hb3)
  clear hb3 G2 hbel2 HFR
  go_wp2_with fail
  refine (unhide HLD _ (unhide HD _ hbel3)).mono ?_
  rintro e w4 ⟨rfl, hown4, hb4⟩
  have hbel4 := hbel3.trans (hb4.mono hbel3.size)
  have G4 := hide (urow_kept (unhide G3) hb4)
  have hX4 := digs_of_own (unhide HLE) hown4 (by rw [lentD_length])
  have hF4 := hX4.front ds.length (by omega)
  rw [lentD_take] at hF4
  have X4 := hide hX4
  have F4 := hide hF4
  generalize w3.heap.size = gx at X4 F4 ⊢
  have f0 : (0 : Int) ≤ (ds.length : Int) := by omega
  have f1 : (ds.length : Int) ≤ (ds.length : Int) + 2 := by omega
  clear hown4 hb4 G3 hbel3 HLD hX4 hF4 HLE
  go_wp2_with fail
  refine (unhide HST _ _ (unhide F4) (unhide HTT _ hbel4)).mono ?_
  rintro e w5 ⟨rfl, hb5⟩
  have hbel5 := hbel4.trans (hb5.mono hbel4.size)
  go_upto_region 8 with ((with_reducible refine at_store ?_); go_must (refine wpList_store_row rfl 31 _ _ rfl w5.heap.size (bcells r).toArray rfl rfl 31 _ (heap_alloc_new w5 _) (unhide V2) (unhide V3) (bcells_one r) ?_))
  rw [← z32_cells]
  have hbp := below_putq w5 (bcells z32).toArray (bcells r).toArray 31
  have hbel6 := hbel5.trans (hbp.mono hbel5.size)
  have G6 := hide (urow_kept (urow_kept (unhide G4) hb5) hbp)
  have X6 := hide (((unhide X4).below hb5 (Nat.le_refl _)).below hbp (Nat.le_refl _))
  have F6 := hide (((unhide F4).below hb5 (Nat.le_refl _)).below hbp (Nat.le_refl _))
  have R6 : Hid (BRow ((w5.alloc (.cells (bcells z32).toArray 31)).setRow w5.heap.size (bcells r).toArray) w5.heap.size 31 r) := hide (heap_put_new _ _ _ _)
  clear G4 X4 F4 hb5 hbp hbel4 hbel5 HST
  generalize ((w5.alloc (.cells (bcells z32).toArray 31)).setRow w5.heap.size (bcells r).toArray) = W6 at G6 X6 F6 R6 hbel6 ⊢
  generalize w5.heap.size = g12 at R6 ⊢
  go_wp2_with fail
  refine (unhide HEN _ _ (unhide F6)).mono ?_
  rintro e w7 ⟨v7, rfl, hown7, hb7⟩
  obtain ⟨a7, c7, hv7⟩ := own_shape hown7
  subst hv7
  have hbel7 := hbel6.trans (hb7.mono hbel6.size)
  have G7 := hide (urow_kept (unhide G6) hb7)
  have R7 := hide (brow_kept (unhide R6) hb7)
  have X7 := hide ((unhide X6).below hb7 (Nat.le_refl _))
  have F7 := hide ((unhide F6).below hb7 (Nat.le_refl _))
  have L7 := hide (strs_of_own (ss := es.map mk) (by simpa using hown7))
  clear G6 R6 X6 F6 hb7 hown7 hbel6 HEN
  go_wp2_with fail
  refine (unhide HSP _ _ (unhide F7)).mono ?_
  rintro e w8 ⟨v8, rfl, hown8, hb8⟩
  obtain ⟨a8, c8, hv8⟩ := own_shape hown8
  subst hv8
  have hbel8 := hbel7.trans (hb8.mono hbel7.size)
  have G8 := hide (urow_kept (unhide G7) hb8)
  have R8 := hide (brow_kept (unhide R7) hb8)
  have X8 := hide ((unhide X7).below hb8 (Nat.le_refl _))
  have L8 := hide ((unhide L7).below hb8 (Nat.le_refl _))
  have P8 := hide hown8
  clear G7 R7 X7 F7 L7 hb8 hown8 hbel7 HSP
  go_wp2_with fail
  refine (unhide HLT _ _ (unhide X8) (unhide HD _ hbel8)).mono ?_
  rintro e w9 ⟨rfl, hb9⟩
  have hbel9 := hbel8.trans (hb9.mono hbel8.size)
  have G9 := hide (urow_kept (unhide G8) hb9)
  have R9 := hide (brow_kept (unhide R8) hb9)
  have L9 := hide ((unhide L8).below hb9 (Nat.le_refl _))
  have P9 := hide (own_keep (unhide P8) hb9)
  clear G8 R8 X8 L8 P8 hb9 hbel8 HLT HD
  rcases unhide HSPEC with ⟨h6, hes, _⟩ | ⟨h0, hstd, _⟩
  · subst h6
    subst hes
    have hz := (unhide HSR).2 (by decide)
    have hp := unhide HS6 (by decide)
    simp only [Prod.mk.injEq] at hp
    obtain ⟨rfl, rfl, rfl⟩ := hp
    subst hz
    have hsame := digest_zero
    have hnu := fun wq => num_any 6 wq
    clear HSPEC HSF HS6 HSR HRT L9 P9 G9
    go_wp2_with (first | ((with_reducible refine at_load ?_); go_must (refine wpList_load_row rfl 31 _ rfl g12 (by rfl) 31 (bcells z32).toArray (0, 0) _ (unhide R9) Tryd.underlying31 rfl (unhide V2) ?_)) | (go_at_call 44; refine (hnu _).mono ?_; rintro e w10 ⟨rfl, he⟩; cases he))
    go_ret
    exact ⟨rfl, hbel9⟩
  · subst h0
    have hz := (unhide HSR).1 rfl
    obtain ⟨hf1, hf2, hf3, hf4⟩ := unhide HSF hstd rfl
    have hn2 := hstd.n2
    have hn3 := hstd.n300
    have hfew := hstd.few
    have hE := fun wq => digest_same r dr wq
    have hRT := fun wq hs => unhide HRT (.slice a7 es.length c7) (es.map mk) wq hs (by simpa using hfew) (mk_small hstd.small)
    rw [← hz] at hRT
    have HRT2 := hide hRT
    have hnu0 := fun wq => num_any 0 wq
    have hnuP := fun wq => num_any (pe : Int) wq
    have hd1 : decide ((ds.length : Int) < 2) = false := by simp; omega
    have hd2 : decide ((300 : Int) < (ds.length : Int)) = false := by simp; omega
    have hd3 : ((pe : Int) == 6) = false := by rw [beq_eq_false_iff_ne]; omega
    have hd4 : ((es.length : Int) == (es.length : Int)) = true := by simp
    have HF2 := hide hf2
    clear HSPEC HSF HS6 HSR HRT hRT hstd hz hf2
    go_wp2_with (first | ((with_reducible refine at_load ?_); go_must (refine wpList_load_row rfl 26 _ rfl gt (by rfl) 26 (ucells tb).toArray (0, 0) _ (unhide G9) Tryd.underlying26 rfl (unhide VT) ?_)) | (go_at_call 44; first | ((with_reducible refine (hnu0 _).mono ?_); rintro e w10 ⟨rfl, he⟩; cases he) | ((with_reducible refine (hnuP _).mono ?_); rintro e w10 ⟨rfl, he⟩; cases he)))
    refine (unhide HRT2 _ (unhide L9)).mono ?_
    rintro e w10 ⟨rfl, hb10⟩
    have hbel10 := hbel9.trans (hb10.mono hbel9.size)
    have hl10 := lt_of_block (brow_kept (unhide R9) hb10)
    go_upto_region 19 with ((with_reducible refine at_store ?_); go_must (refine wpList_store_row rfl 31 _ _ rfl w10.heap.size (bcells r).toArray rfl rfl 31 _ (heap_alloc_new w10 _) (unhide V2) (unhide V3) (bcells_one r) ?_))
    rw [← z32_cells]
    have hbp := below_putq w10 (bcells z32).toArray (bcells r).toArray 31
    have hbel11 := hbel10.trans (hbp.mono hbel10.size)
    have R11 := hide (brow_kept (brow_kept (unhide R9) hb10) hbp)
    have P11 := hide (own_keep (own_keep (unhide P9) hb10) hbp)
    have F11 : Hid (BRow ((w10.alloc (.cells (bcells z32).toArray 31)).setRow w10.heap.size (bcells r).toArray) w10.heap.size 31 r) := hide (heap_put_new _ _ _ _)
    clear G9 R9 L9 P9 hb10 hbp hbel9 hbel10 HRT2
    generalize hW11 : ((w10.alloc (.cells (bcells z32).toArray 31)).setRow w10.heap.size (bcells r).toArray) = w11 at R11 P11 F11 hbel11 ⊢
    generalize w10.heap.size = g21 at F11 hl10 ⊢
    clear hW11
    by_cases hp0 : pl.length = 0
    · have hpl := List.eq_nil_of_length_eq_zero hp0
      subst hpl
      have hf2 := unhide HF2
      simp only [List.length_nil] at P11
      have HPL := hide (planned_any _ _ [] ds.length w11 (unhide P11) hf1 hf2)
      go_wp2_with fail
      refine (unhide HPL).mono ?_
      rintro e w12 ⟨rfl, rfl⟩
      go_wp2_with (first | ((with_reducible refine at_load2 ?_); first | refine wpList_load_row_w (by rfl) 31 _ rfl g12 (by rfl) 31 (bcells r).toArray (0, 0) _ (unhide R11) Tryd.underlying31 rfl (unhide V2) ?_ | refine wpList_load_row_w (by rfl) 31 _ rfl g21 (by rfl) 31 (bcells r).toArray (0, 0) _ (unhide F11) Tryd.underlying31 rfl (unhide V2) ?_) | (go_at_call 44; refine (hnuP _).mono ?_; rintro e w13 ⟨rfl, he⟩; cases he))
      go_ret
      exact ⟨rfl, hbel11⟩
    · have hx1 : ((pl.length : Int) == 0) = false := by rw [beq_eq_false_iff_ne]; omega
      have hpe : pe = 0 := by
        rcases hf3 with h | h
        · rw [h] at hp0; simp at hp0
        · exact h
      subst hpe
      have hf2 := unhide HF2
      have HPL := hide (planned_any _ _ pl ds.length w11 (unhide P11) hf1 hf2)
      go_wp2_with fail
      refine (unhide HPL).mono ?_
      rintro e w12 ⟨rfl, rfl⟩
      go_wp2_with (first | ((with_reducible refine at_load2 ?_); first | refine wpList_load_row_w (by rfl) 31 _ rfl g12 (by rfl) 31 (bcells r).toArray (0, 0) _ (unhide R11) Tryd.underlying31 rfl (unhide V2) ?_ | refine wpList_load_row_w (by rfl) 31 _ rfl g21 (by rfl) 31 (bcells r).toArray (0, 0) _ (unhide F11) Tryd.underlying31 rfl (unhide V2) ?_) | (go_at_call 44; refine (hnuP _).mono ?_; rintro e w13 ⟨rfl, he⟩; cases he))
      go_ret
      exact ⟨rfl, hbel11⟩
end Go.Proofs.YtanfolfopalbeaaDoor
namespace Go.Proofs.YtanfolfopalbeaaDoor
open Go.RowKit

set_option maxRecDepth 100000 in
set_option maxHeartbeats 800000 in
theorem wformat_bad (G : Nat) (n : Int) (w : World) (hn : -9223372036854775808 ≤ n ∧ n ≤ 9223372036854775807) (h : n < 2 ∨ 300 < n) :
    Calls Tryd.prog 35 #[.pointer (some ⟨G, 0, none⟩), .int .i64 n] w fun e w' => e = .returned (.bool true) ∧ Below w.heap.size w w' := by
  have HF := hide (Format_bad n w hn h)
  have hnu := fun wq => num_any 6 wq
  by_cases h2 : n < 2
  · have hd : decide (n < 2) = true := by simp [h2]
    go_enter Tryd.func35, Tryd.ntmps35
    go_wp2_with fail
    refine (unhide HF).mono ?_
    rintro e w1 ⟨rfl, rfl⟩
    go_wp2_with (go_at_call 44; refine (hnu _).mono ?_; rintro e w2 ⟨rfl, rfl⟩)
    go_ret
    exact ⟨rfl, Below.refl _ _⟩
  · have h3 : n > 300 := by omega
    have hd : decide (n < 2) = false := by simp; omega
    have hd2 : decide (n > 300) = true := by simp; omega
    go_enter Tryd.func35, Tryd.ntmps35
    go_wp2_with fail
    refine (unhide HF).mono ?_
    rintro e w1 ⟨rfl, rfl⟩
    go_wp2_with (go_at_call 44; refine (hnu _).mono ?_; rintro e w2 ⟨rfl, rfl⟩)
    go_ret
    exact ⟨rfl, Below.refl _ _⟩
theorem Bk3E.write {ty : TypeId} {o B : Nat} {w : World} {G : Nat} {cs : Array Value} {n m : Nat} {Q : Nat → Prop} (h : Bk3E ty o B w G cs n m Q) {w' : World} (hk : ∀ k, k < w.heap.size → ¬ Q k → w'.heap[k]? = w.heap[k]?) (hsz : w.heap.size ≤ w'.heap.size) : Bk3E ty o B w' G cs n m Q := by
  obtain ⟨tT, xT, tS, xS, tP, xP, rT, rS, rP, H, hT, hS, hP, hq⟩ := h
  have hi : ∀ k, InK tT xT tS xS tP xP rT rS rP k → w'.heap[k]? = w.heap[k]? := fun k h => hk k (H.inK_lt h).1 (fun h2 => (hq k h2).2.2 h)
  have hG : w'.heap[G]? = w.heap[G]? := hk G H.T.bk.lt (fun h2 => (hq G h2).2.1 rfl)
  refine ⟨tT, xT, tS, xS, tP, xP, rT, rS, rP, ⟨H.T.other (H.T.bk.same hG) (fun k h => hi k (.inl h)) hsz, H.S.other (H.S.bk.same hG) (fun k h => hi k (.inr (.inl h))) hsz, H.P.other (H.P.bk.same hG) (fun k h => hi k (.inr (.inr h))) hsz, H.num, H.d3, H.st, H.pt, H.ps⟩, hT, hS, hP, fun k hk2 => ?_⟩
  exact ⟨Nat.lt_of_lt_of_le (hq k hk2).1 hsz, (hq k hk2).2⟩
theorem Bk3E.block {ty : TypeId} {o B : Nat} {w : World} {G : Nat} {cs : Array Value} {n m : Nat} {Q : Nat → Prop} (h : Bk3E ty o B w G cs n m Q) : w.heap[G]? = some (.cells cs ty (0, 0)) := by
  obtain ⟨tT, xT, tS, xS, tP, xP, rT, rS, rP, H, _⟩ := h
  exact H.T.bk.1
end Go.Proofs.YtanfolfopalbeaaDoor
namespace Go.Proofs.YtanfolfopalbeaaDoor
open Go.RowKit

set_option maxRecDepth 100000 in
set_option maxHeartbeats 1600000 in
theorem wformat_in (G B : Nat) (cs : Array Value) (nn m : Nat) (Q : Nat → Prop) (n : Nat) (w : World) (h2 : 2 ≤ n) (h3 : n ≤ 300) (h : Bk3E 72 76 B w G cs nn m Q) (dv0 : Value) (hd0 : cs[74]? = some dv0) (hB : B ≤ w.heap.size) (hnn : nn ≤ 1099511627776) (hm : m ≤ 1099511627776) :
    Calls Tryd.prog 35 #[.pointer (some ⟨G, 0, none⟩), .int .i64 n] w fun e w' => ∃ cs' dv, Bk3E 72 76 B w' G cs' (nn + 1) (m + 4) (fun k => Q k ∨ dv.ownBlock = some k) ∧ cs'[74]? = some dv ∧ w'.ownsRow w.heap.size 126 32 dv n (dcells (fmt n)) ∧ (∀ j, j < 76 → j ≠ 74 → cs'[j]? = cs[j]?) ∧ (∀ k, Q k → w'.heap[k]? = w.heap[k]?) ∧ Below B w w' ∧ e = .returned (.bool true) := by
  have HF := hide (Format_in n w h2 h3)
  have hnu := fun wq => num_any 0 wq
  have hd : decide ((n : Int) < 2) = false := by simp; omega
  have hd2 : decide ((n : Int) > 300) = false := by simp; omega
  have H := hide h
  have hGl := lt_of_block h.block
  clear h
  obtain ⟨i0, hi, hz0, hz1, hz2⟩ := info_parts info_sec
  go_enter Tryd.func35, Tryd.ntmps35
  go_wp2_with fail
  refine (unhide HF).mono ?_
  rintro e w1 ⟨rfl, hown1, hb1⟩
  have HO1 := hide hown1
  have hlt1 : w.heap.size < w1.heap.size := (hown1.lt _ rfl).2
  have HB1 := hide hb1
  have H1 := hide ((unhide H).later hb1 (Q' := fun k => Q k ∨ (w.heap.size ≤ k ∧ k < w1.heap.size)) (fun k hk => by
    rcases hk with hk | hk
    · obtain ⟨_, _, _, _, _, _, _, _, _, _, _, _, _, hq⟩ := unhide H
      exact ⟨Nat.lt_of_lt_of_le (hq k hk).1 hb1.size, .inl hk⟩
    · exact ⟨hk.2, .inr hk.1⟩))
  clear hown1 hb1 HF
  go_wp2_with (first | (go_at_call 44; refine (hnu _).mono ?_; rintro e w2 ⟨rfl, he⟩; have he2 := he.symm; clear he; subst he2) | (at_make; go_must (refine wpList_make_full _ rfl _ _ 52 rfl w1.heap.size 126 i0 (.agg (bcells z32).toArray) 32 Tryd.underlying52 hi hz0 hz1 _ _ _ _ n rfl rfl (by omega) (by omega) (by rw [hz2]; omega) (by unfold maxLen; omega) (Nat.le_refl _) ?_)))
  intro w2 hown2 hgrow2
  have hb2 : Below w1.heap.size w1 w2 := (Below.refl _ _).grown hgrow2 (Nat.le_refl _) (fun k h => by cases h)
  have hGB := (unhide H1).block
  have hG2 : w2.heap[G]? = some (.cells cs 72 (0, 0)) := (hb2.block G (lt_of_block hGB)).trans hGB
  have c74 : w2.cell? ⟨G, 74, none⟩ = some dv0 := by rw [cell_of_row w2 G _ _ _ _ hG2]; exact hd0
  have f74 : w2.frozen? ⟨G, 74, none⟩ = false := frozen_of_row w2 G 74 _ _ hG2
  have HO2 := hide hown2
  have hlt2 : w1.heap.size < w2.heap.size := (hown2.lt _ rfl).2
  have HB2 := hide hb2
  clear hown2 hgrow2 hb2 hGB
  go_upto_region 7 with fail
  have hsz1 := (unhide HB1).size
  have hsz2 := (unhide HB2).size
  have H2 := (unhide H1).later (unhide HB2) (Q' := fun k => Q k ∨ (w.heap.size ≤ k ∧ k < w2.heap.size)) (fun k hk => by
    obtain ⟨_, _, _, _, _, _, _, _, _, _, _, _, _, hq⟩ := unhide H1
    rcases hk with hk | hk
    · exact ⟨Nat.lt_of_lt_of_le (hq k (.inl hk)).1 hsz2, .inl (.inl hk)⟩
    · by_cases hk1 : k < w1.heap.size
      · exact ⟨hk.2, .inl (.inr ⟨hk.1, hk1⟩)⟩
      · exact ⟨hk.2, .inr (by omega)⟩)
  have H3 := hide (H2.set 74 (.slice (some ⟨w1.heap.size, 0, none⟩) n n) (by omega))
  have hfar := fun k hk hne => heap_setCell_far w2 G 74 k (.slice (some ⟨w1.heap.size, 0, none⟩) n n) hk hne
  have O1 := hide (own_sameB (own_keep (unhide HO1) (unhide HB2)) (w' := w2.setCell ⟨G, 74, none⟩ (.slice (some ⟨w1.heap.size, 0, none⟩) n n)) (fun k hk => by
    have e : w.heap.size = k := by injection hk
    exact hfar k (by have := ((unhide HO1).lt k hk).2; omega) (by omega)))
  have O2 := hide (own_sameB (unhide HO2) (w' := w2.setCell ⟨G, 74, none⟩ (.slice (some ⟨w1.heap.size, 0, none⟩) n n)) (fun k hk => by
    have e : w1.heap.size = k := by injection hk
    exact hfar k ((unhide HO2).lt k hk).2 (by omega)))
  have c75 : (w2.setCell ⟨G, 74, none⟩ (.slice (some ⟨w1.heap.size, 0, none⟩) n n)).cell? ⟨G, 74, none⟩ = some (.slice (some ⟨w1.heap.size, 0, none⟩) n n) := by
    rw [cell_of_row _ G _ _ _ _ (unhide H3).block, Array.getElem?_setIfInBounds, if_pos rfl, if_pos (Array.getElem?_eq_some_iff.1 hd0).1]
  have HFAR := hide hfar
  have hBG : B ≤ G := by
    obtain ⟨_, _, _, _, _, _, _, _, _, hx, _⟩ := unhide H
    exact hx.T.base
  have HB3 := hide (show Below B w2 (w2.setCell ⟨G, 74, none⟩ (.slice (some ⟨w1.heap.size, 0, none⟩) n n)) from (Below.refl B w2).grown (grown_setCell (grown_refl w2 (some G)) ⟨G, 74, none⟩ _ (.inl rfl)) (by omega) (fun k h => by injection h with h; rw [← h]; exact hBG))
  have hsz3 : (w2.setCell ⟨G, 74, none⟩ (.slice (some ⟨w1.heap.size, 0, none⟩) n n)).heap.size = w2.heap.size := by simp [World.setCell]
  clear hfar H2 c74 f74 hG2 HO1 HO2
  generalize hw3 : w2.setCell ⟨G, 74, none⟩ (.slice (some ⟨w1.heap.size, 0, none⟩) n n) = w3 at H3 O1 O2 c75 HFAR HB3 hsz3 ⊢
  clear hw3
  have hFe := fmt_elem n
  have hFl := fmt_length n (by omega)
  generalize hFF : fmt n = F at O1 hFe hFl
  have HFF := hide hFF
  clear hFF
  have hDL := dcells_length F hFe
  obtain ⟨_, o2⟩ := unhide O2
  rcases o2 with ⟨o2, _⟩ | ⟨g, cap1, cur, hv, hg1, hg2, hg3, hg4, hg5, hg6⟩
  · cases o2
  simp only [Value.slice.injEq, Option.some.injEq, Addr.mk.injEq, and_true, true_and] at hv
  obtain ⟨hgB, hcap1⟩ := hv
  rw [← hcap1] at hg5
  rw [← hgB] at hg2
  have hcl : cur.toList.length = n * 32 := by rw [Array.length_toList]; exact hg5
  have HG : Hid (w3.heap[w1.heap.size]? = some (.cells cur.toList.toArray 126 (0, 0))) := hide (by rw [Array.toArray_toList]; exact hg2)
  have HSRC := hide (show 0 < n → ∃ ad, some (⟨w.heap.size, 0, none⟩ : Addr) = some ad ∧ ∀ j v, (dcells F)[j]? = some v → w3.cell? (ad.add j) = some v from fun _ => ⟨_, rfl, fun j v hj => (unhide O1).cells (g := w.heap.size) rfl j v hj⟩)
  clear hg1 hg2 hg3 hg4 hg5 hg6 hgB hcap1 O2
  go_wp2_with (first | ((with_reducible refine at_copyD ?_); go_must (refine wpList_copy_big rfl (.tmp 43) (.tmp 44) 52 52 rfl 126 Tryd.underlying52 32 info_sc _ _ _ _ _ w1.heap.size rfl rfl cur.toList 126 (unhide HG) (dcells F) (Nat.le_refl _) ?c1 (unhide HSRC) ?c2 (dcells_one2 F) w1.heap.size w3 (Below.refl _ _) (Nat.le_refl _) ?_)) | fail)
  case c1 => omega
  case c2 => omega
  intro w4 HG4 hb4
  have hsz4 := hb4.size
  have hdr : List.drop (32 * n) cur.toList = [] := List.drop_of_length_le (by omega)
  have OD := hide (show w4.ownsRow w.heap.size 126 32 (.slice (some ⟨w1.heap.size, 0, none⟩) n n) n (dcells F) from
    ⟨by omega, .inr ⟨w1.heap.size, n, _, rfl, hsz1, unhide HG4, Nat.le_refl _, by unfold maxLen; omega, by rw [hdr]; simp; omega, by rw [hdr]; simp [List.take_of_length_le (show (dcells F).length ≤ n * 32 by omega)]⟩⟩)
  have O4 := own_sameB (unhide O1) (w' := w4) (fun k hk => by
    have e : w.heap.size = k := by injection hk
    exact hb4.block k (by omega))
  have hsize3 : w3.heap.size = w2.heap.size := hsz3
  have hq0 : ∀ k, Q k → k < w.heap.size := fun k hk => by
    obtain ⟨_, _, _, _, _, _, _, _, _, _, _, _, _, hq⟩ := unhide H
    exact (hq k hk).1
  have hqG : ∀ k, Q k → k ≠ G := fun k hk => by
    obtain ⟨_, _, _, _, _, _, _, _, _, _, _, _, _, hq⟩ := unhide H
    exact (hq k hk).2.1
  have H4 := (unhide H3).write (w' := w4) (fun k hk hn => by
    by_cases hkw : k < w1.heap.size
    · exact hb4.block k hkw
    · exact absurd (.inr ⟨by omega, by omega⟩) hn) hsz4
  have hB4 : B ≤ w.heap.size := hB
  have hfl : fl (F.map bcells) = dcells F := by simp [fl, dcells, List.flatMap]
  have HD := disk3 72 76 B w4 G _ nn m _ (fun k => Q k ∨ (Value.slice (some ⟨w1.heap.size, 0, none⟩) n n).ownBlock = some k) H4 (.slice (some ⟨w.heap.size, 0, none⟩) n n) n (F.map bcells) (by rw [hfl]; exact own_base O4 hB) (fun k hk => .inr (by
      have e : w.heap.size = k := by injection hk
      omega)) (by omega) (by rw [List.length_map]; exact hFl) (fun d hd => by
      obtain ⟨x, hx, rfl⟩ := List.mem_map.1 hd
      rw [bcells_length]; exact hFe x hx) (fun k hk => by
      rcases hk with hk | hk
      · exact ⟨.inl hk, fun h => by
          have e : w.heap.size = k := by injection h
          have := hq0 k hk
          omega⟩
      · have e : w1.heap.size = k := by injection hk
        exact ⟨.inr ⟨by omega, by omega⟩, fun h => by
          have e2 : w.heap.size = k := by injection h
          omega⟩) hnn hm
  have HH := hide HD
  have HQ0 := hide hq0
  have HQG := hide hqG
  have HB4 := hide hb4
  clear HD H4 O4 hq0 hqG hb4 hfl
  go_wp2_with fail
  refine (unhide HH).mono ?_
  rintro e w5 ⟨cs5, hE5, hc5, hk5, hb5, rfl⟩
  go_wp2
  go_ret
  refine ⟨cs5, _, hE5, ?_, ?_, ?_, ?_, ?_, rfl⟩
  · rw [hc5 74 (by omega), Array.getElem?_setIfInBounds, if_pos rfl, if_pos (Array.getElem?_eq_some_iff.1 hd0).1]
  · rw [unhide HFF]
    exact own_sameB (unhide OD) (fun k hk => hk5 k (.inr hk))
  · intro j hj hne
    rw [hc5 j hj, Array.getElem?_setIfInBounds, if_neg (fun e => hne e.symm)]
  · intro k hk
    have h0 := unhide HQ0 k hk
    exact (hk5 k (.inl hk)).trans (((unhide HB4).block k (by omega)).trans ((unhide HFAR k (by omega) (unhide HQG k hk)).trans (((unhide HB2).block k (by omega)).trans ((unhide HB1).block k h0))))
  · exact ((((unhide HB1).mono hB).trans ((unhide HB2).mono (by omega))).trans (unhide HB3)).trans (((unhide HB4).mono (by omega)).trans hb5)
end Go.Proofs.YtanfolfopalbeaaDoor
namespace Go.Proofs.YtanfolfopalbeaaDoor
open Go.RowKit

set_option maxRecDepth 100000 in
set_option maxHeartbeats 400000 in
theorem may_empty (ao : Option Addr) (cap : Nat) (w : World) :
    Calls Tryd.prog 97 #[.slice ao 0 cap] w fun e w' => e = .returned (.int .i64 0) ∧ w' = w := by
  go_enter Tryd.func97, Tryd.ntmps97
  go_wp2
  refine wp_loop_rounds 1 ?_
  rw [rounds_succ]
  go_wp2
  go_ret
  exact ⟨rfl, rfl⟩

set_option maxRecDepth 100000 in
set_option maxHeartbeats 400000 in
theorem may_some (b off cap : Nat) (ss : List ByteArray) (w : World) (hm : ss.length ≤ maxLen)
    (hc : ∀ i, i < ss.length → w.cell? ⟨b, off + i, none⟩ = some (.string (ss.getD i ByteArray.empty))) :
    Calls Tryd.prog 97 #[.slice (some ⟨b, off, none⟩) ss.length cap] w fun e w' => e = .returned (.int .i64 (chk ss)) ∧ w' = w := by
  unfold maxLen at hm
  have HC := hide hc
  clear hc
  by_cases hmany : 100 < ss.length
  · have H : Hid (chk ss = 2) := chk_many ss hmany
    have hd : decide ((100 : Int) < (ss.length : Int)) = true := by simp; omega
    go_enter Tryd.func97, Tryd.ntmps97
    go_wp2
    go_ret
    exact ⟨ret_int (by rw [H.out]; rfl), rfl⟩
  have hd : decide ((100 : Int) < (ss.length : Int)) = false := by simp; omega
  go_enter Tryd.func97, Tryd.ntmps97
  go_wp2
  go_loop [3] (fun i => ∃ k : Nat, k ≤ ss.length ∧ i = .int .i64 k ∧ (ss.take k).any (fun s => decide (20 < s.size)) = false) (fun i => ss.length - (intOf i).toNat)
  case atStart => exact ⟨0, Nat.zero_le _, rfl, rfl⟩
  case round =>
    obtain ⟨k, hk, rfl, ha⟩ := hrel
    have HA := hide ha
    clear ha
    by_cases hlt : k < ss.length
    · obtain ⟨s, hs⟩ : ∃ s, s = ss.getD k ByteArray.empty := ⟨_, rfl⟩
      have hck := unhide HC k hlt
      rw [← hs] at hck
      have HS := hide hs
      clear hs
      by_cases hl : 20 < s.size
      · have hd2 : decide ((20 : Int) < (s.size : Int)) = true := by simp; omega
        go_wp2
        go_ret
        exact ⟨ret_int (by rw [chk_long ss k hmany hlt (by rw [← unhide HS]; exact hl)]; rfl), rfl⟩
      · have hd2 : decide ((20 : Int) < (s.size : Int)) = false := by simp; omega
        go_wp2
        go_round
        case rel => exact ⟨k + 1, by omega, by go_num, by rw [any_take_succ ss k hlt (unhide HA), ← unhide HS]; simp; omega⟩
        case measure => simp [intOf]; omega
    · have hkl : ss.length = k := by omega
      have H : chk ss = 0 := chk_ok ss hmany (by rw [hkl]; exact unhide HA)
      have HH := hide H
      clear H hkl
      go_wp2
      go_ret
      exact ⟨ret_int (by rw [unhide HH]; rfl), rfl⟩
theorem may_any (v : Value) (ss : List ByteArray) (w : World) (h : Strs w v ss) :
    Calls Tryd.prog 97 #[v] w fun e w' => e = .returned (.int .i64 (chk ss)) ∧ w' = w := by
  obtain ⟨ao, cap, rfl, h1, h2, h3⟩ := h
  rcases h3 with rfl | ⟨b, off, rfl, hc⟩
  · exact may_empty ao cap w
  · exact may_some b off cap ss w (by omega) hc
end Go.Proofs.YtanfolfopalbeaaDoor
namespace Go.Proofs.YtanfolfopalbeaaDoor

theorem two_inj (a b : Nat) (ha : a < 65536) (hb : b < 65536) (h : two a = two b) : a = b := by
  unfold two at h
  simp only [List.cons.injEq, and_true] at h
  have h1 := congrArg UInt8.toNat h.1
  have h2 := congrArg UInt8.toNat h.2
  rw [UInt8.toNat_ofNat', UInt8.toNat_ofNat'] at h1 h2
  omega
theorem two_ne (a b : Nat) (ha : a < 65536) (hb : b < 65536) (h : a ≠ b) (p q : List UInt8) : two a ++ p ≠ two b ++ q := by
  intro he
  have h2 := congrArg (List.take 2) he
  rw [List.take_left' (two_length a), List.take_left' (two_length b)] at h2
  exact h (two_inj a b ha hb h2)

/-- Over what the links of entries are summed. -/
def txts : Nat → List (List UInt8) → List (List UInt8)
  | _, [] => []
  | v, e :: r => (two v ++ e) :: txts (lnk v e) r
theorem txts_snoc (l : List (List UInt8)) (e : List UInt8) : ∀ v, txts v (l ++ [e]) = txts v l ++ [two (last v l) ++ e] := by
  induction l with
  | nil => intro v; rfl
  | cons a r ih => intro v; simp only [List.cons_append, txts, last, ih]
theorem txts_length (l : List (List UInt8)) : ∀ v, (txts v l).length = l.length := by
  induction l with
  | nil => intro v; rfl
  | cons a r ih => intro v; simp only [txts, List.length_cons, ih]
theorem txts_append (a b : List (List UInt8)) : ∀ v, txts v (a ++ b) = txts v a ++ txts (last v a) b := by
  induction a with
  | nil => intro v; rfl
  | cons x r ih => intro v; simp only [List.cons_append, txts, last, ih]
theorem last_append (a b : List (List UInt8)) : ∀ v, last v (a ++ b) = last (last v a) b := by
  induction a with
  | nil => intro v; rfl
  | cons x r ih => intro v; exact ih _
theorem last_cut (es : List (List UInt8)) (i v : Nat) (hi : i < es.length) : last v es = last (lnk (last v (es.take i)) (es.getD i [])) (es.drop (i + 1)) := by
  have h1 : es = es.take i ++ (es.getD i [] :: es.drop (i + 1)) := by
    rw [List.getD_eq_getElem?_getD, List.getElem?_eq_getElem hi, Option.getD_some, ← List.drop_eq_getElem_cons hi, List.take_append_drop]
  have h2 := congrArg (last v) h1
  rw [last_append] at h2
  exact h2
theorem txts_cut (es : List (List UInt8)) (i v : Nat) (hi : i < es.length) : (txts v es).drop i = (two (last v (es.take i)) ++ es.getD i []) :: txts (lnk (last v (es.take i)) (es.getD i [])) (es.drop (i + 1)) := by
  have h1 : es = es.take i ++ (es.getD i [] :: es.drop (i + 1)) := by
    rw [List.getD_eq_getElem?_getD, List.getElem?_eq_getElem hi, Option.getD_some, ← List.drop_eq_getElem_cons hi, List.take_append_drop]
  have h2 := congrArg (txts v) h1
  rw [txts_append] at h2
  rw [h2, List.drop_left' (by rw [txts_length, List.length_take]; omega)]
  rfl

/-- Where two chains meet: by their sums alone. -/
def coll : List (List UInt8) → List (List UInt8) → List UInt8 → List UInt8 → List UInt8 × List UInt8
  | p :: ps, q :: qs, l, r => if wk l = wk r then (l, r) else coll ps qs (two (wk l) ++ p) (two (wk r) ++ q)
  | _, _, l, r => (l, r)
/-- The first place where two texts are different, and have the same sum. -/
def meet : List (List UInt8) → List (List UInt8) → Option (List UInt8 × List UInt8)
  | x :: xs, y :: ys => if x ≠ y ∧ wk x = wk y then some (x, y) else meet xs ys
  | _, _ => none
theorem coll_nil (qs : List (List UInt8)) (l r : List UInt8) : coll [] qs l r = (l, r) := by simp [coll]
theorem coll_same (ps qs : List (List UInt8)) (l r : List UInt8) (h : wk l = wk r) : coll ps qs l r = (l, r) := by
  cases ps with
  | nil => exact coll_nil _ _ _
  | cons p ps =>
    cases qs with
    | nil => simp [coll]
    | cons q qs => simp [coll, h]
theorem coll_next (p q : List UInt8) (ps qs : List (List UInt8)) (l r : List UInt8) (h : wk l ≠ wk r) : coll (p :: ps) (q :: qs) l r = coll ps qs (two (wk l) ++ p) (two (wk r) ++ q) := by
  simp only [coll]
  rw [if_neg h]

/-- Two chains that begin with different texts and end alike meet. -/
theorem coll_meets : ∀ (ps qs : List (List UInt8)) (l r : List UInt8), ps.length = qs.length → l ≠ r → last (wk l) ps = last (wk r) qs →
    (coll ps qs l r).1 ≠ (coll ps qs l r).2 ∧ wk (coll ps qs l r).1 = wk (coll ps qs l r).2 ∧ meet (l :: txts (wk l) ps) (r :: txts (wk r) qs) = some (coll ps qs l r) := by
  intro ps
  induction ps with
  | nil =>
    intro qs l r hl hne he
    have hq : qs = [] := List.eq_nil_of_length_eq_zero hl.symm
    subst hq
    rw [coll_nil]
    have hw : wk l = wk r := he
    exact ⟨hne, hw, by simp only [meet]; rw [if_pos ⟨hne, hw⟩]⟩
  | cons p ps ih =>
    intro qs l r hl hne he
    cases qs with
    | nil => cases hl
    | cons q qs =>
      by_cases hw : wk l = wk r
      · rw [coll_same _ _ _ _ hw]
        exact ⟨hne, hw, by simp only [meet]; rw [if_pos ⟨hne, hw⟩]⟩
      · rw [coll_next _ _ _ _ _ _ hw]
        have h1 := ih qs (two (wk l) ++ p) (two (wk r) ++ q) (by simpa using hl) (two_ne _ _ (wk_lt _) (wk_lt _) hw _ _) he
        refine ⟨h1.1, h1.2.1, ?_⟩
        have h2 := h1.2.2
        rw [meet, if_neg (fun h => hw h.2)]
        exact h2
end Go.Proofs.YtanfolfopalbeaaDoor
namespace Go.Proofs.YtanfolfopalbeaaDoor
open Go.RowKit

set_option maxRecDepth 100000 in
set_option maxHeartbeats 400000 in
theorem pair_any (v : Nat) (w : World) (hv : v < 65536) :
    Calls Tryd.prog 107 #[.int .u16 v] w fun e w' => e = .returned (.string ⟨(two v).toArray⟩) ∧ Below w.heap.size w w' := by
  have hk := str_of_two Tryd.prog w 45 9 5 5 v hv Tryd.underlying45 Tryd.underlying5 Tryd.underlying9
  go_enter Tryd.func107, Tryd.ntmps107
  go_wp2
  go_ret
  exact ⟨rfl, (Below.refl _ _).alloc (Nat.le_refl _) _⟩

set_option maxRecDepth 100000 in
set_option maxHeartbeats 400000 in
theorem texts_empty (v : Nat) (ao : Option Addr) (cap : Nat) (w : World) :
    Calls Tryd.prog 122 #[.int .u16 v, .slice ao 0 cap] w fun e w' => e = .returned (.tuple #[.slice none 0 0, .int .u16 v]) ∧ w' = w := by
  go_enter Tryd.func122, Tryd.ntmps122
  go_wp2
  refine wp_loop_rounds 1 ?_
  rw [rounds_succ]
  go_wp2
  go_ret2
  exact ⟨rfl, rfl⟩

set_option maxRecDepth 100000 in
set_option maxHeartbeats 800000 in
theorem texts_some (v0 b off cap : Nat) (ss : List ByteArray) (w : World) (hv0 : v0 < 65536) (hm : ss.length * 16 ≤ 140737488351232) (hz : ∀ i, i < ss.length → (ss.getD i ByteArray.empty).size ≤ 140737488351232)
    (hc : ∀ i, i < ss.length → w.cell? ⟨b, off + i, none⟩ = some (.string (ss.getD i ByteArray.empty))) :
    Calls Tryd.prog 122 #[.int .u16 v0, .slice (some ⟨b, off, none⟩) ss.length cap] w fun e w' => ∃ v, e = .returned (.tuple #[v, .int .u16 (last v0 (bs ss))]) ∧
      w'.ownsRow w.heap.size 9 1 v ss.length (((txts v0 (bs ss)).map mk).map Value.string) ∧ Below w.heap.size w w' := by
  have HC := hide hc
  have HZ := hide hz
  clear hc hz
  obtain ⟨i0, hi, hz0, hz1, hz2⟩ := info_parts info_str
  go_enter Tryd.func122, Tryd.ntmps122
  go_wp2
  go_loopw [0, 6, 7] (fun f v i wr => ∃ k : Nat, k ≤ ss.length ∧ i = .int .i64 k ∧ f = .int .u16 (last v0 (bs (ss.take k))) ∧ wr.ownsRow w.heap.size 9 1 v k (((txts v0 (bs (ss.take k))).map mk).map Value.string) ∧ Below w.heap.size w wr) (fun _ _ i _ => ss.length - (intOf i).toNat)
  case atStart => exact ⟨0, Nat.zero_le _, rfl, rfl, World.ownsRow_nil _ _ _ _, Below.refl _ _⟩
  case round =>
    obtain ⟨k, hk, rfl, rfl, hown, hbel⟩ := hrel
    by_cases hlt : k < ss.length
    · obtain ⟨s, hs⟩ : ∃ s, s = ss.getD k ByteArray.empty := ⟨_, rfl⟩
      have hck0 := unhide HC k hlt
      have hss := unhide HZ k hlt
      rw [← hs] at hck0 hss
      have HB := hide (bs_take_succ ss k hlt)
      have HL := hide (last_snoc (bs (ss.take k)) s.data.toList v0)
      have HX := hide (txts_snoc (bs (ss.take k)) s.data.toList v0)
      have HS := hide hs
      clear hs
      have hcc : ∀ wq, Below wr.heap.size wr wq → wq.cell? ⟨b, off + k, none⟩ = some (.string s) := fun wq hq => by
        have h1 : b < w.heap.size := cell_lt hck0
        rw [hq.cell (p := ⟨b, off + k, none⟩) (Nat.lt_of_lt_of_le h1 hbel.size), hbel.cell (p := ⟨b, off + k, none⟩) h1]; exact hck0
      have hv := last_lt (bs (ss.take k)) v0 hv0
      generalize last v0 (bs (ss.take k)) = v at *
      generalize txts v0 (bs (ss.take k)) = tx at *
      have hck := hcc wr (Below.refl _ _)
      have HCC := hide hcc
      have f1 : (k : Int) < (ss.length : Int) := by omega
      have f2 : (0 : Int) ≤ (k : Int) := by omega
      have hd1 : decide ((k : Int) < (ss.length : Int)) = true := by simp; omega
      have hz2 : (two v).length = 2 := rfl
      clear hcc hck0
      go_wp2_with fail
      go_region_with (go_at_call 107; refine (pair_any v _ hv).mono ?_; rintro e w2 ⟨rfl, hb2⟩; have hck2 := unhide HCC w2 ⟨hb2.os, hb2.tape, hb2.output, hb2.size, hb2.block⟩)
      all_goals
        have hb2' : Below wr.heap.size wr w2 := ⟨hb2.os, hb2.tape, hb2.output, hb2.size, hb2.block⟩
        have hown2 := own_below hown hb2' (Nat.le_refl _)
        have hbel2 := hbel.trans (hb2'.mono hbel.size)
        have hsz2 := hbel2.size
        have hts : (ByteArray.mk (two v).toArray ++ s).size = 2 + s.size := by simp; rfl
        have htd : (ByteArray.mk (two v).toArray ++ s).data.toList = two v ++ s.data.toList := by simp
        generalize ByteArray.mk (two v).toArray ++ s = T at hts htd ⊢
        have HTD := hide htd
        clear hck hck2 hown hbel hb2 hb2' htd HCC
        go_wp2_with (at_builtin; go_must (refine wpList_append_own _ rfl (.tmp 22) (.tmp 24) 34 rfl w.heap.size 9 i0 (.string ⟨#[]⟩) 1 16 Tryd.underlying34 hi hz0 hz1 (by assumption) rfl (by decide) _ _ _ rfl (hown2.alloc _) ⟨w2.heap.size, 0, none⟩ 1 1 [.string T] rfl rfl (cell_one_new _ _ _) (by intro u hu; simp at hu; subst hu; rfl) (by unfold maxLen; omega) (by omega) (by simp; omega) ?_))
        intro v3 w3 hown3 hgrow3 _
        have hbel3 : Below w.heap.size w w3 := (hbel2.alloc hsz2 _).grown hgrow3 (by simp; omega) (own_row_ge hown2)
        clear hgrow3 hown2 hbel2
        go_wp2_with fail
        refine (rOld_any T _ (by unfold maxLen; omega)).mono ?_
        rw [unhide HTD]
        rintro e w4 ⟨rfl, rfl⟩
        go_wp2
        go_roundw
      any_goals (simp only [intOf]; omega)
      all_goals
        have hmk : [two v ++ s.data.toList].map mk = [T] := by rw [List.map_cons, List.map_nil, ← unhide HTD]; exact congrArg (fun x => [x]) (mk_self T)
        refine ⟨k + 1, by omega, by go_num, ?_, ?_, hbel3⟩
        · rw [unhide HB, ← unhide HS, unhide HL]
          rfl
        · rw [unhide HB, ← unhide HS, unhide HX, List.map_append, List.map_append, hmk, List.map_map]
          exact hown3
    · have hke : ss.take k = ss := List.take_of_length_le (by omega)
      have hkl : k = ss.length := by omega
      rw [hke] at hown ⊢
      have hd1 : decide ((k : Int) < (ss.length : Int)) = false := by simp; omega
      have HK := hide hkl
      clear hke hkl
      go_wp2
      go_ret2
      exact ⟨_, rfl, by rw [← unhide HK]; exact hown, hbel⟩

theorem texts_any (v0 : Nat) (v : Value) (ss : List ByteArray) (w : World) (h : Strs w v ss) (hv0 : v0 < 65536) (hm : ss.length * 16 ≤ 140737488351232) (hz : ∀ i, i < ss.length → (ss.getD i ByteArray.empty).size ≤ 140737488351232) :
    Calls Tryd.prog 122 #[.int .u16 v0, v] w fun e w' => ∃ v', e = .returned (.tuple #[v', .int .u16 (last v0 (bs ss))]) ∧
      w'.ownsRow w.heap.size 9 1 v' ss.length (((txts v0 (bs ss)).map mk).map Value.string) ∧ Below w.heap.size w w' := by
  obtain ⟨ao, cap, rfl, h1, h2, h3⟩ := h
  rcases h3 with rfl | ⟨b, off, rfl, hc⟩
  · refine (texts_empty v0 ao cap w).mono ?_
    rintro e w' ⟨rfl, rfl⟩
    exact ⟨_, rfl, World.ownsRow_nil _ _ _ _, Below.refl _ _⟩
  · exact texts_some v0 b off cap ss w hv0 hm hz hc

set_option maxRecDepth 100000 in
set_option maxHeartbeats 400000 in
theorem head_any (v : Value) (ss : List ByteArray) (w : World) (h : Strs w v ss) (hm : ss.length * 16 ≤ 140737488351232) (hz : ∀ i, i < ss.length → (ss.getD i ByteArray.empty).size ≤ 140737488351232) :
    Calls Tryd.prog 106 #[v] w fun e w' => e = .returned (.int .u16 (last 0 (bs ss))) ∧ Below w.heap.size w w' := by
  have HS := hide h
  have HZ := hide hz
  clear h hz
  go_enter Tryd.func106, Tryd.ntmps106
  go_wp2_with fail
  refine (texts_any 0 v ss _ (unhide HS) (by decide) hm (unhide HZ)).mono ?_
  rintro e w1 ⟨v1, rfl, hown, hb⟩
  go_wp2
  go_ret
  exact ⟨rfl, hb⟩

theorem conv_at (wq : World) (g : Nat) (y : Int) (h : wq.cell? ⟨g, 0, none⟩ = some (.int .u8 y)) : (convert 45 9 (.slice (some ⟨g, 0, none⟩) 1 1)).run Tryd.prog wq = .ok (.string (strOfNums [y])) wq :=
  run_convert_bytes_arg (P := Tryd.prog) _ 45 5 Tryd.underlying45 Tryd.underlying5 g 0 1 1 [y] rfl (fun i hi => by
    have hi0 : i = 0 := by omega
    subst hi0
    exact h) 9 Tryd.underlying9
theorem conv_new (wq : World) (y : Int) : (convert 45 9 (.slice (some ⟨wq.heap.size, 0, none⟩) 1 1)).run Tryd.prog (wq.alloc (.cells #[.int .u8 y] 5)) = .ok (.string (strOfNums [y])) (wq.alloc (.cells #[.int .u8 y] 5)) :=
  conv_at _ _ _ (World.cell?_alloc_mark wq _ _ _ _)
theorem conv_drew (wq : World) (y : Int) : (convert 45 9 (.slice (some ⟨wq.heap.size, 0, none⟩) 1 1)).run Tryd.prog (wq.alloc (.cells #[.int .u8 y] 5)).drew = .ok (.string (strOfNums [y])) (wq.alloc (.cells #[.int .u8 y] 5)).drew :=
  conv_at _ _ _ (World.cell?_alloc_mark wq _ _ _ _)
theorem conv_later {wq w4 : World} {y : Int} (hb : Below (wq.alloc (.cells #[.int .u8 y] 5)).drew.heap.size (wq.alloc (.cells #[.int .u8 y] 5)).drew w4) :
    (convert 45 9 (.slice (some ⟨wq.heap.size, 0, none⟩) 1 1)).run Tryd.prog w4 = .ok (.string (strOfNums [y])) w4 :=
  conv_at _ _ _ (by
    rw [hb.cell (p := ⟨wq.heap.size, 0, none⟩) (by show wq.heap.size < (wq.alloc _).heap.size; simp)]
    exact World.cell?_alloc_mark wq _ _ _ _)

theorem frame_text (l l2 : Nat) (s : ByteArray) (h : lnk l s.data.toList = l2) : strOfNums [(s.size : Int)] ++ s ++ ByteArray.mk (two l2).toArray = mk (frm l s.data.toList) := by
  have e : (strOfNums [(s.size : Int)] ++ s ++ ByteArray.mk (two l2).toArray).data = (mk (frm l s.data.toList)).data := by
    apply Array.ext'
    rw [ByteArray.data_append, ByteArray.data_append, Array.toList_append, Array.toList_append]
    subst h
    have e1 : (strOfNums [(s.size : Int)]).data.toList = [UInt8.ofNat s.data.toList.length] := rfl
    rw [e1, mk_data, frm]
    simp
  exact congrArg ByteArray.mk e

set_option maxRecDepth 100000 in
set_option maxHeartbeats 1600000 in
theorem frame_ref (v : Value) (ss : List ByteArray) (s : ByteArray) (w : World) (h : Strs w v ss) (hm : ss.length ≤ 100) (hz : ∀ i, i < ss.length → (ss.getD i ByteArray.empty).size ≤ 20) (hs : s.size ≤ 20) :
    Calls Tryd.prog 69 #[v, .string s] w fun e w' => e = .returned (.string (mk (frm (last 0 (bs ss)) s.data.toList))) ∧ Below w.heap.size w w' := by
  have HS := hide h
  have HZ := hide hz
  clear h hz
  go_enter Tryd.func69, Tryd.ntmps69
  go_wp2_with fail
  refine (head_any v ss _ (unhide HS) (by omega) (fun i hi => Nat.le_trans (unhide HZ i hi) (by omega))).mono ?_
  rintro e w1 ⟨rfl, hb1⟩
  have hv := last_lt (bs ss) 0 (by omega)
  generalize hve : last 0 (bs ss) = l at hv ⊢
  have HVE := hide hve
  clear hve
  go_wp2_with fail
  refine (pair_any l _ hv).mono ?_
  rintro e w2 ⟨rfl, hb2⟩
  have hbel2 := hb1.trans (hb2.mono hb1.size)
  have hz2 : (two l).length = 2 := rfl
  clear hb1 hb2
  go_wp2_with fail
  refine (rOld_any _ _ (by unfold maxLen; rw [ByteArray.size_append, two_size]; omega)).mono ?_
  rw [show (ByteArray.mk (two l).toArray ++ s).data.toList = two l ++ s.data.toList by simp]
  rintro e w3 ⟨rfl, rfl⟩
  have hv2 := lnk_lt l s.data.toList
  have HLN := hide (show lnk l s.data.toList = wk (two l ++ s.data.toList) from by unfold lnk; exact Eq.refl _)
  rw [← unhide HLN]
  generalize hle : lnk l s.data.toList = l2 at hv2 ⊢
  have HLE := hide hle
  clear hle HLN
  have hcv := conv_new
  have hcd := conv_drew
  have hsn : ∀ y : Int, (strOfNums [y]).size = 1 := fun y => rfl
  have hz3 : (two l2).length = 2 := rfl
  go_wp2_with fail
  go_region_with (go_at_call 107; refine (pair_any l2 _ hv2).mono ?_; rintro e w4 ⟨rfl, hb4⟩; first | (have hcq := conv_later hb4) | skip)
  all_goals
    go_wp2
    go_ret
    refine ⟨?_, ?_⟩
    · exact congrArg (fun x => Ending.returned (Value.string x)) ((frame_text l l2 s (unhide HLE)).trans (by rw [unhide HVE]))
    · first
        | exact hbel2.drew.trans (hb4.mono hbel2.size)
        | exact (hbel2.drew.trans (hb4.mono hbel2.size)).alloc (Nat.le_trans hbel2.size hb4.size) _
        | exact (hbel2.alloc hbel2.size _).drew.trans (hb4.mono (by show w.heap.size ≤ (w3.alloc _).heap.size; have := hbel2.size; simp; omega))
end Go.Proofs.YtanfolfopalbeaaDoor
namespace Go.Proofs.YtanfolfopalbeaaDoor
open Go.RowKit

set_option maxRecDepth 100000 in
set_option maxHeartbeats 400000 in
theorem rRead_long (s : ByteArray) (w : World) (hs : 2300 < s.size) (hm : s.size ≤ maxLen) :
    Calls Tryd.prog 34 #[.string s] w fun e w' => e = .returned (.tuple #[.slice none 0 0, .int .i64 1, .int .i64 0]) ∧ w' = w := by
  unfold maxLen at hm
  go_enter Tryd.func34, Tryd.ntmps34
  go_wp2
  go_ret3
  exact ⟨rfl, rfl⟩

theorem frame_eq (x : ByteArray) (v n : Nat) (h0 : 0 < x.size) (hn : (x[0]'h0).toNat = n) (hl : n ≤ 20) (hc : n + 3 ≤ x.size) :
    ((x.extract 0 (n + 3)).data.toList = frm v (x.extract 1 (n + 1)).data.toList ↔ rfErr x.data.toList v = 0) ∧ (rfErr x.data.toList v = 0 ∨ rfErr x.data.toList v = 4) ∧ (x.extract 1 (n + 1)).size = n ∧
    (rfErr x.data.toList v = 0 → rfEnt x.data.toList v = (x.extract 1 (n + 1)).data.toList ∧ rfLnk x.data.toList v = lnk v (x.extract 1 (n + 1)).data.toList) := by
  obtain ⟨r, e, hr⟩ := ba_getElem x h0
  obtain ⟨g1, g2, g3⟩ := rf_facts x v (by omega) n hn hl (by omega)
  have e2 : (x.extract 1 (n + 1)).data.toList = r.take n := by
    rw [extract_data, e, show n + 1 - 1 = n by omega]
    rfl
  have e2' : (x.extract 1 (1 + n)).data.toList = r.take n := by rw [Nat.add_comm 1 n]; exact e2
  have e3 : (x.extract (1 + n) (3 + n)).data.toList = (r.drop n).take 2 := by
    rw [extract_data, e, show 1 + n = n + 1 by omega, show 3 + n - (n + 1) = 2 by omega, List.drop_succ_cons]
  have e4 : (x.extract 0 (n + 3)).data.toList = x[0] :: (r.take n ++ (r.drop n).take 2) := by
    rw [extract_data, e, List.drop_zero, Nat.sub_zero, List.take_succ_cons, show n + 2 = n + 2 from rfl, List.take_add]
  have hrl : (r.take n).length = n := by rw [List.length_take]; omega
  have e5 : x[0] = UInt8.ofNat n := by
    rw [← hn]
    exact (UInt8.ofNat_toNat).symm
  rw [e3, e2'] at g1
  rw [e2'] at g2
  refine ⟨?_, ?_, ?_, by rw [e2]; exact g2⟩
  · rw [e4, e2, frm, hrl, e5, g1]
    constructor
    · intro h
      have h1 := (List.cons.inj h).2
      rw [if_pos (List.append_cancel_left h1)]
    · intro h
      by_cases hq : (r.drop n).take 2 = two (lnk v (r.take n))
      · rw [hq]
      · rw [if_neg hq] at h
        exact absurd h (by decide)
  · rw [g1]
    by_cases hq : (r.drop n).take 2 = two (lnk v (r.take n))
    · rw [if_pos hq]; exact .inl rfl
    · rw [if_neg hq]; exact .inr rfl
  · have : (x.extract 1 (n + 1)).data.toList.length = (x.extract 1 (n + 1)).size := rfl
    rw [e2, hrl] at this
    exact this.symm
theorem rfErr_three (x : ByteArray) (v : Nat) (h0 : 0 < x.size) (hf : 20 < (x[0]'h0).toNat ∨ x.size < (x[0]'h0).toNat + 3) : rfErr x.data.toList v = 3 := by
  obtain ⟨r, e, hr⟩ := ba_getElem x h0
  rw [e]
  simp only [rfErr]
  rw [if_pos (by rcases hf with hf | hf; exact .inl hf; exact .inr (by omega))]
/-- The last link of the entries read so far is carried along. -/
def RdL (L : List UInt8) (acc : List (List UInt8)) (t : List UInt8) : Prop := RdAt L acc (last 0 acc) t ∧ ∀ e ∈ acc, e.length ≤ 20

set_option maxRecDepth 100000 in
set_option maxHeartbeats 1600000 in
theorem rRead_short (s : ByteArray) (w : World) (hs : s.size ≤ 2300) :
    Calls Tryd.prog 34 #[.string s] w fun e w' => ∃ v, e = .returned (.tuple #[v, .int .i64 (rd s.size 0 0 s.data.toList).2.1, .int .i64 (rd s.size 0 0 s.data.toList).2.2]) ∧
      w'.ownsRow w.heap.size 9 1 v (rd s.size 0 0 s.data.toList).1.length (((rd s.size 0 0 s.data.toList).1.map mk).map Value.string) ∧ Below w.heap.size w w' := by
  obtain ⟨i0, hi, hz0, hz1, hz2⟩ := info_parts info_str
  go_enter Tryd.func34, Tryd.ntmps34
  go_wp2
  go_loopw [0, 5] (fun t o wr => ∃ (acc : List (List UInt8)) (x : ByteArray), acc.length ≤ 100 ∧ x.size ≤ 2300 ∧ RdL s.data.toList acc x.data.toList ∧ t = .string x ∧
      wr.ownsRow w.heap.size 9 1 o acc.length ((acc.map mk).map Value.string) ∧ Below w.heap.size w wr) (fun t _ _ => (match t with | .string x => x.size | _ => 0))
  case atStart => exact ⟨[], s, by simp, hs, ⟨⟨_, Nat.le_refl _, by simp [last]⟩, fun e he => by cases he⟩, rfl, World.ownsRow_nil _ _ _ _, Below.refl _ _⟩
  case round =>
    obtain ⟨acc, x, hacc, hx, hR, rfl, hown, hbel⟩ := hrel
    obtain ⟨hR, hA⟩ := hR
    have HR := hide hR
    have HA := hide hA
    have hv := last_lt acc 0 (by omega)
    clear hR hA
    obtain ⟨ao, cap, rfl⟩ := own_shape hown
    by_cases hx0 : 0 < x.size
    · have ht : x.data.toList ≠ [] := by
        intro h
        have : x.data.toList.length = x.size := rfl
        rw [h] at this
        simp at this
        omega
      have HT := hide ht
      have hne : x.toList.isEmpty = false := by rw [ByteArray.toList_eq]; simpa using ht
      have hbx := (x[0]'hx0).toNat_lt
      clear ht
      by_cases ha : acc.length = 100
      · have HF := hide ((unhide HR).full (unhide HT) ha)
        have hd : ((acc.length : Int) == 100) = true := by rw [beq_iff_eq]; omega
        go_wp2
        go_ret3
        have hF := unhide HF
        rw [show s.data.toList.length = s.size from rfl] at hF
        rw [hF]
        exact ⟨_, by rw [ha]; rfl, by rw [← ha]; exact hown, hbel⟩
      · have hd : ((acc.length : Int) == 100) = false := by rw [beq_eq_false_iff_ne]; omega
        by_cases hbad : 20 < (x[0]'hx0).toNat ∨ x.size < (x[0]'hx0).toNat + 3
        · have he3 := rfErr_three x (last 0 acc) hx0 hbad
          have hbd := (unhide HR).bad (unhide HT) ha (by rw [he3]; decide)
          rw [he3] at hbd
          have HF := hide hbd
          clear hbd he3
          generalize hne0 : (x[0]'hx0).toNat = n at hbad hbx
          by_cases hl : 20 < n
          · have hd2 : decide ((20 : Int) < (n : Int)) = true := by simp; omega
            clear hbad
            go_wp2
            go_ret3
            have hF := unhide HF
            rw [show s.data.toList.length = s.size from rfl] at hF
            rw [hF]
            exact ⟨_, rfl, hown, hbel⟩
          · have hd2 : decide ((20 : Int) < (n : Int)) = false := by simp; omega
            have hd3 : decide ((x.size : Int) < (n : Int) + 3) = true := by simp; omega
            clear hbad
            go_wp2
            go_ret3
            have hF := unhide HF
            rw [show s.data.toList.length = s.size from rfl] at hF
            rw [hF]
            exact ⟨_, rfl, hown, hbel⟩
        · generalize hne0 : (x[0]'hx0).toNat = n at hbad hbx
          obtain ⟨q1, q2, q3, q4⟩ := frame_eq x (last 0 acc) n hx0 hne0 (by omega) (by omega)
          have HQ1 := hide q1
          have HQ4 := hide q4
          have hd2 : decide ((20 : Int) < (n : Int)) = false := by simp; omega
          have hd3 : decide ((x.size : Int) < (n : Int) + 3) = false := by simp; omega
          have hn20 : n ≤ 20 := by omega
          have hn3 : n + 3 ≤ x.size := by omega
          have HQ2 := hide q2
          have HAC := hide (strs_of_own hown)
          clear q1 q2 q4 hbad
          go_wp2_with fail
          refine (frame_ref _ (acc.map mk) (x.extract 1 (n + 1)) _ (unhide HAC) (by rw [List.length_map]; omega) (fun i hi => by
            rw [List.length_map] at hi
            rw [List.getD, List.getElem?_map, List.getElem?_eq_getElem hi]
            exact unhide HA _ (List.getElem_mem hi)) (by omega)).mono ?_
          rw [bs_mk]
          rintro e w1 ⟨rfl, hb1⟩
          have hown1 := own_below hown hb1 (Nat.le_refl _)
          have hbel1 := hbel.trans (hb1.mono hbel.size)
          have hsz1 := hbel1.size
          have hfd : (mk (frm (last 0 acc) (x.extract 1 (n + 1)).data.toList)).toList = frm (last 0 acc) (x.extract 1 (n + 1)).data.toList := by rw [ByteArray.toList_eq, mk_data]
          have HFD := hide hfd
          generalize mk (frm (last 0 acc) (x.extract 1 (n + 1)).data.toList) = FR at hfd HFD ⊢
          clear hown hbel hb1 HAC hfd
          rcases unhide HQ2 with he | he
          · have hq : ((x.extract 0 (n + 3)).toList == FR.toList) = true := by
              rw [unhide HFD, ByteArray.toList_eq, beq_iff_eq]
              exact (unhide HQ1).2 he
            have hN := (unhide HR).next (unhide HT) ha he
            obtain ⟨hE, hL⟩ := unhide HQ4 he
            have hxd : (x.extract 1 (n + 1)).data.toList.length = n := q3
            rw [hE, hL, hxd, ← last_snoc] at hN
            have HN := hide hN
            have HMS := hide (mk_self (x.extract 1 (n + 1)))
            have HXL := hide hxd
            clear hN hE hL hxd he
            go_wp2_with (at_builtin; go_must (refine wpList_append_own _ rfl (.tmp 48) (.tmp 53) 34 rfl w.heap.size 9 i0 (.string ⟨#[]⟩) 1 16 Tryd.underlying34 hi hz0 hz1 hz2 rfl (by decide) _ _ _ rfl (hown1.alloc _) ⟨w1.heap.size, 0, none⟩ 1 1 [.string (x.extract 1 (n + 1))] rfl rfl ?c1 ?c2 ?c3 ?c4 ?c5 ?_))
            case c1 => exact cell_one_new _ _ _
            case c2 => intro u hu; simp at hu; subst hu; rfl
            case c3 => unfold maxLen; omega
            case c4 => omega
            case c5 => simp; omega
            intro v3 w3 hown3 hgrow3 _
            have hbel3 : Below w.heap.size w w3 := (hbel1.alloc hsz1 _).grown hgrow3 (by simp; omega) (own_row_ge hown1)
            clear hgrow3 hown1 hbel1
            go_wp2
            go_roundw
            case rel =>
              refine ⟨acc ++ [(x.extract 1 (n + 1)).data.toList], x.extract (n + 3) x.size, by simp; omega, by simp; omega, ⟨?_, ?_⟩, rfl, ?_, hbel3⟩
              · have := unhide HN
                rw [Nat.add_comm 3 n, ← extract_mk_drop] at this
                exact this
              · intro e he
                rw [List.mem_append, List.mem_singleton] at he
                rcases he with he | rfl
                · exact unhide HA e he
                · rw [unhide HXL]; omega
              · rw [List.length_append, List.length_singleton, List.map_append, List.map_append, List.map_map, List.map_cons, List.map_nil, unhide HMS]
                exact hown3
            case measure => simp; omega
          · have hq : ((x.extract 0 (n + 3)).toList == FR.toList) = false := by
              rw [unhide HFD, ByteArray.toList_eq, beq_eq_false_iff_ne]
              intro h
              have := (unhide HQ1).1 h
              omega
            have hbd := (unhide HR).bad (unhide HT) ha (by rw [he]; decide)
            rw [he] at hbd
            have HF := hide hbd
            clear hbd he
            go_wp2
            go_ret3
            have hF := unhide HF
            rw [show s.data.toList.length = s.size from rfl] at hF
            rw [hF]
            exact ⟨_, rfl, hown1, hbel1⟩
    · have hx1 : x.data.toList = [] := List.eq_nil_of_length_eq_zero (by have : x.data.toList.length = x.size := rfl; omega)
      have hne : x.toList.isEmpty = true := by rw [ByteArray.toList_eq, hx1]; rfl
      have hR := unhide HR
      rw [hx1] at hR
      have HD := hide hR.done
      clear hR hx1
      go_wp2
      go_ret3
      have hF := unhide HD
      rw [show s.data.toList.length = s.size from rfl] at hF
      rw [hF]
      exact ⟨_, rfl, hown, hbel⟩

theorem rRead_any (s : ByteArray) (w : World) (hm : s.size ≤ maxLen) :
    Calls Tryd.prog 34 #[.string s] w fun e w' => ∃ v, e = .returned (.tuple #[v, .int .i64 (rdOld s.data.toList).2.1, .int .i64 (rdOld s.data.toList).2.2]) ∧
      w'.ownsRow w.heap.size 9 1 v (rdOld s.data.toList).1.length (((rdOld s.data.toList).1.map mk).map Value.string) ∧ Below w.heap.size w w' := by
  unfold rdOld
  by_cases h : 2300 < s.data.toList.length
  · rw [if_pos h]
    refine (rRead_long s w h hm).mono ?_
    rintro e w' ⟨rfl, rfl⟩
    exact ⟨_, rfl, World.ownsRow_nil _ _ _ _, Below.refl _ _⟩
  · rw [if_neg h]
    exact rRead_short s w (by have : s.data.toList.length = s.size := rfl; omega)
end Go.Proofs.YtanfolfopalbeaaDoor
namespace Go.Proofs.YtanfolfopalbeaaDoor
open Go.RowKit

set_option maxRecDepth 100000 in
set_option maxHeartbeats 400000 in
theorem round_any (c : Int) (n : Nat) (w : World) (hc : -9223372036854775808 ≤ c ∧ c ≤ 9223372036854775807) (h0 : 0 < n) (hn : n ≤ 2000) :
    Calls Tryd.prog 76 #[.int .i64 c, .int .i64 n] w fun e w' => ∃ k : Nat, k < n ∧ e = .returned (.int .i64 k) ∧ w' = w := by
  obtain ⟨hc0, hc1⟩ := hc
  by_cases hneg : c < 0
  · go_enter Tryd.func76, Tryd.ntmps76
    go_wp2
    go_ret
    refine ⟨((-(c + 1)) % n).toNat, ?_, ret_int ?_, rfl⟩
    · have := Int.emod_nonneg (-(c + 1)) (show (n : Int) ≠ 0 by omega)
      have := Int.emod_lt_of_pos (-(c + 1)) (show (0 : Int) < n by omega)
      omega
    · rw [← Int.neg_tmod, Int.tmod_eq_emod_of_nonneg (by omega)]
      have := Int.emod_nonneg (-(c + 1)) (show (n : Int) ≠ 0 by omega)
      omega
  · go_enter Tryd.func76, Tryd.ntmps76
    go_wp2
    go_ret
    refine ⟨(c % n).toNat, ?_, ret_int ?_, rfl⟩
    · have := Int.emod_nonneg c (show (n : Int) ≠ 0 by omega)
      have := Int.emod_lt_of_pos c (show (0 : Int) < n by omega)
      omega
    · have := Int.emod_nonneg c (show (n : Int) ≠ 0 by omega)
      omega

theorem wb_succ_len (ss : List ByteArray) (k : Nat) (hk : k < ss.length) : (wb (bs (ss.take (k + 1)))).length = (wb (bs (ss.take k))).length + ((ss.getD k ByteArray.empty).size + 1) := by
  rw [wb_take_succ ss k hk, List.length_append, List.length_cons]
  rfl
set_option maxRecDepth 100000 in
set_option maxHeartbeats 400000 in
theorem rsize_empty (ao : Option Addr) (cap : Nat) (w : World) :
    Calls Tryd.prog 109 #[.slice ao 0 cap] w fun e w' => e = .returned (.int .i64 0) ∧ w' = w := by
  go_enter Tryd.func109, Tryd.ntmps109
  go_wp2
  refine wp_loop_rounds 1 ?_
  rw [rounds_succ]
  go_wp2
  go_ret
  exact ⟨rfl, rfl⟩
set_option maxRecDepth 100000 in
set_option maxHeartbeats 400000 in
theorem rsize_some (b off cap : Nat) (ss : List ByteArray) (w : World) (hm : ss.length ≤ 100) (hz : ∀ s ∈ ss, s.size ≤ 20)
    (hc : ∀ i, i < ss.length → w.cell? ⟨b, off + i, none⟩ = some (.string (ss.getD i ByteArray.empty))) :
    Calls Tryd.prog 109 #[.slice (some ⟨b, off, none⟩) ss.length cap] w fun e w' => e = .returned (.int .i64 (wb (bs ss)).length) ∧ w' = w := by
  have HC := hide hc
  have HZ := hide hz
  clear hc hz
  go_enter Tryd.func109, Tryd.ntmps109
  go_wp2
  go_loop [3, 4] (fun n i => ∃ k : Nat, k ≤ ss.length ∧ i = .int .i64 k ∧ n = .int .i64 (wb (bs (ss.take k))).length) (fun _ i => ss.length - (intOf i).toNat)
  case atStart => exact ⟨0, Nat.zero_le _, rfl, rfl⟩
  case round =>
    obtain ⟨k, hk, rfl, rfl⟩ := hrel
    have hle := wb_length_le (bs (ss.take k)) (bs_small' _ (fun s hs => unhide HZ s (List.mem_of_mem_take hs)))
    rw [bs_length, List.length_take] at hle
    by_cases hlt : k < ss.length
    · have HS := hide (wb_succ_len ss k hlt)
      obtain ⟨s, hs⟩ : ∃ s, s = ss.getD k ByteArray.empty := ⟨_, rfl⟩
      have hck := unhide HC k hlt
      have hss : (ss.getD k ByteArray.empty).size ≤ 20 := by
        rw [List.getD, List.getElem?_eq_getElem hlt]
        exact unhide HZ _ (List.getElem_mem hlt)
      rw [← hs] at hck hss
      have HE := hide hs
      clear hs
      generalize (wb (bs (ss.take k))).length = z at *
      go_wp2
      go_round
      case rel => exact ⟨k + 1, by omega, by go_num, val_int (by rw [unhide HS, ← unhide HE]; omega)⟩
      case measure => simp [intOf]; omega
    · have hke : ss.take k = ss := List.take_of_length_le (by omega)
      rw [hke]
      clear hke
      go_wp2
      go_ret
      exact ⟨rfl, rfl⟩
theorem rsize_any (v : Value) (ss : List ByteArray) (w : World) (h : Strs w v ss) (hm : ss.length ≤ 100) (hz : ∀ s ∈ ss, s.size ≤ 20) :
    Calls Tryd.prog 109 #[v] w fun e w' => e = .returned (.int .i64 (wb (bs ss)).length) ∧ w' = w := by
  obtain ⟨ao, cap, rfl, h1, h2, h3⟩ := h
  rcases h3 with rfl | ⟨b, off, rfl, hc⟩
  · exact rsize_empty ao cap w
  · exact rsize_some b off cap ss w hm hz hc

theorem results_tmp4 {fn : Func} {t u v x : Tmp} (h : fn.results = #[.tmp t, .tmp u, .tmp v, .tmp x]) (tmps : Array Value) (P : Program) (w : World) :
    (results fn tmps).run P w = .ok (.tuple #[tmps.getD t undef, tmps.getD u undef, tmps.getD v undef, tmps.getD x undef]) w := by
  simp [results, h]
/-- What Wanted answers of an old log that reads as r. -/
def wantOf (r : List (List UInt8) × Nat × Nat) (n k b : Nat) : Nat × Nat × Nat × Bool :=
  if r.2.1 = 1 ∨ (r.2.1 ≠ 0 ∧ r.2.2 < k + b) then (r.2.1, r.2.2, 0, false)
  else if r.1.length ≤ k then (8, 0, 0, false)
  else (0, 0, goesTo k b r.1.length, decide (8 * n < 32 + (wb (r.1.take (goesTo k b r.1.length))).length))
def wantR (l : List UInt8) (n k : Nat) (b : Int) : Nat × Nat × Nat × Bool := if b < 1 ∨ 100 < b then (7, 0, 0, false) else wantOf (rdOld l) n k b.toNat

set_option maxRecDepth 100000 in
set_option maxHeartbeats 400000 in
theorem wanted_batch (s : ByteArray) (n k bt : Int) (w : World) (hb : bt < 1 ∨ 100 < bt) :
    Calls Tryd.prog 74 #[.string s, .int .i64 n, .int .i64 k, .int .i64 bt] w fun e w' => e = .returned (.tuple #[.int .i64 7, .int .i64 0, .int .i64 0, .bool false]) ∧ w' = w := by
  by_cases h1 : bt < 1
  · have hd1 : decide (bt < 1) = true := by simp; omega
    go_enter Tryd.func74, Tryd.ntmps74
    go_wp2
    (try simp only [Exit.inBlock, Exit.then])
    refine bodyPost_ret (results_tmp4 rfl _ _ _) rfl ?_
    exact ⟨rfl, rfl⟩
  · have hd1 : decide (bt < 1) = false := by simp; omega
    have hd2 : decide (100 < bt) = true := by simp; omega
    go_enter Tryd.func74, Tryd.ntmps74
    go_wp2
    (try simp only [Exit.inBlock, Exit.then])
    refine bodyPost_ret (results_tmp4 rfl _ _ _) rfl ?_
    exact ⟨rfl, rfl⟩

theorem strs_cut' {w : World} {ao : Option Addr} {n cap : Nat} {ss : List ByteArray} (h : Strs w (.slice ao n cap) ss) (k : Nat) (hk : k ≤ n) : Strs w (.slice ao k cap) (ss.take k) := by
  obtain ⟨ao', cap', he, h1, h2, h3⟩ := h
  simp only [Value.slice.injEq] at he
  obtain ⟨rfl, rfl, rfl⟩ := he
  have hl : (ss.take k).length = k := by rw [List.length_take]; omega
  refine ⟨ao, cap, by rw [hl], by omega, h2, ?_⟩
  rcases h3 with rfl | ⟨b, off, rfl, hc⟩
  · simp
  · refine .inr ⟨b, off, rfl, fun i hi => ?_⟩
    rw [hc i (by omega)]
    simp only [List.getD]
    rw [List.getElem?_take_of_lt (by omega)]

set_option maxRecDepth 100000 in
set_option maxHeartbeats 3200000 in
theorem wanted_in (s : ByteArray) (n k bt : Nat) (w : World) (hm : s.size ≤ maxLen) (hn : n ≤ 300) (hk : k ≤ 100) (hb1 : 1 ≤ bt) (hb2 : bt ≤ 100) :
    Calls Tryd.prog 74 #[.string s, .int .i64 n, .int .i64 k, .int .i64 bt] w fun e w' => e = .returned (.tuple #[.int .i64 (wantOf (rdOld s.data.toList) n k bt).1, .int .i64 (wantOf (rdOld s.data.toList) n k bt).2.1, .int .i64 (wantOf (rdOld s.data.toList) n k bt).2.2.1, .bool (wantOf (rdOld s.data.toList) n k bt).2.2.2]) ∧ Below w.heap.size w w' := by
  have HRD := hide (fun wq => rRead_any s wq hm)
  obtain ⟨hr1, hr2, hr3, hr4⟩ := rdOld_facts s.data.toList
  generalize rdOld s.data.toList = R at HRD hr1 hr2 hr3 hr4 ⊢
  obtain ⟨rs, er, nu⟩ := R
  simp only at hr1 hr2 hr3 hr4 HRD ⊢
  have HRS := hide hr2
  have HSM := hide (mk_small hr2)
  have hd1 : decide ((bt : Int) < 1) = false := by simp; omega
  have hd2 : decide ((100 : Int) < (bt : Int)) = false := by simp; omega
  clear hr2
  go_enter Tryd.func74, Tryd.ntmps74
  go_wp2_with fail
  refine (unhide HRD _).mono ?_
  rintro e w1 ⟨v2, rfl, hown2, hbel1⟩
  obtain ⟨ao2, cap2, hv2⟩ := own_shape hown2
  subst hv2
  have hR2 := strs_of_own (ss := rs.map mk) (by simpa using hown2)
  have hcp : rs.length ≤ cap2 := by
    obtain ⟨ao', cap', he, h1, _⟩ := hR2
    simp only [Value.slice.injEq, List.length_map] at he h1
    omega
  clear HRD hown2
  by_cases hbad : er = 1 ∨ (er ≠ 0 ∧ nu < k + bt)
  · have HWT := hide (show wantOf (rs, er, nu) n k bt = (er, nu, 0, false) by unfold wantOf; rw [if_pos hbad])
    by_cases he1 : er = 1
    · have hx1 : ((er : Int) == 1) = true := by rw [beq_iff_eq]; omega
      clear hbad he1
      go_wp2
      (try simp only [Exit.inBlock, Exit.then])
      refine bodyPost_ret (results_tmp4 rfl _ _ _) rfl ?_
      rw [unhide HWT]
      exact ⟨rfl, hbel1⟩
    · have hx1 : ((er : Int) == 1) = false := by rw [beq_eq_false_iff_ne]; omega
      have hx2 : ((er : Int) != 0) = true := by rw [bne_iff_ne]; omega
      have hx3 : decide ((nu : Int) < (k : Int) + (bt : Int)) = true := by simp; omega
      clear hbad he1
      go_wp2
      (try simp only [Exit.inBlock, Exit.then])
      refine bodyPost_ret (results_tmp4 rfl _ _ _) rfl ?_
      rw [unhide HWT]
      exact ⟨rfl, hbel1⟩
  · have hx1 : ((er : Int) == 1) = false := by rw [beq_eq_false_iff_ne]; omega
    by_cases hdone : rs.length ≤ k
    · have HWT := hide (show wantOf (rs, er, nu) n k bt = (8, 0, 0, false) by unfold wantOf; rw [if_neg hbad, if_pos hdone])
      have hx4 : decide ((rs.length : Int) ≤ (k : Int)) = true := by simp; omega
      by_cases he0 : er = 0
      · have hx2 : ((er : Int) != 0) = false := by rw [bne_eq_false_iff_eq]; omega
        clear hbad he0
        go_wp2
        (try simp only [Exit.inBlock, Exit.then])
        refine bodyPost_ret (results_tmp4 rfl _ _ _) rfl ?_
        rw [unhide HWT]
        exact ⟨rfl, hbel1⟩
      · have hx2 : ((er : Int) != 0) = true := by rw [bne_iff_ne]; omega
        have hx3 : decide ((nu : Int) < (k : Int) + (bt : Int)) = false := by simp; omega
        clear hbad he0
        go_wp2
        (try simp only [Exit.inBlock, Exit.then])
        refine bodyPost_ret (results_tmp4 rfl _ _ _) rfl ?_
        rw [unhide HWT]
        exact ⟨rfl, hbel1⟩
    · have hx4 : decide ((rs.length : Int) ≤ (k : Int)) = false := by simp; omega
      by_cases he0 : er = 0
      · have hx2 : ((er : Int) != 0) = false := by rw [bne_eq_false_iff_eq]; omega
        by_cases hend : rs.length < k + bt
        · have hx5 : decide ((rs.length : Int) < (k : Int) + (bt : Int)) = true := by simp; omega
          have g2 : (rs.length : Int) ≤ (cap2 : Int) := by omega
          have hcutS := strs_cut' hR2 rs.length (by omega)
          go_wp2_with fail
          refine (rsize_any _ ((rs.map mk).take rs.length) _ (hcutS) (by rw [List.length_take, List.length_map]; omega) (fun s hs => unhide HSM s (List.mem_of_mem_take hs))).mono ?_
          rintro e w2 ⟨rfl, rfl⟩
          have HLE := hide (show (wb (bs ((rs.map mk).take rs.length))).length = (wb (rs.take rs.length)).length by rw [← List.map_take, bs_mk])
          have hwl : (wb (bs ((rs.map mk).take rs.length))).length ≤ 2100 := by
            rw [unhide HLE]
            have := wb_length_le (rs.take rs.length) (fun e he => unhide HRS e (List.mem_of_mem_take he))
            rw [List.length_take] at this
            omega
          have HWT := hide (show wantOf (rs, er, nu) n k bt = (0, 0, rs.length, decide (8 * n < 32 + (wb (bs ((rs.map mk).take rs.length))).length)) by
            unfold wantOf
            rw [if_neg hbad, if_neg hdone]
            simp only [show goesTo k bt rs.length = rs.length from by unfold goesTo; omega]
            rw [unhide HLE])
          generalize (wb (bs ((rs.map mk).take rs.length))).length = z at hwl HWT
          by_cases hfull : 8 * n < 32 + z
          · have hx6 : decide (8 * (n : Int) < 32 + (z : Int)) = true := by simp; omega
            rw [decide_eq_true hfull] at HWT
            clear hbad hdone hfull
            go_wp2
            (try simp only [Exit.inBlock, Exit.then])
            refine bodyPost_ret (results_tmp4 rfl _ _ _) rfl ?_
            rw [unhide HWT]
            exact ⟨rfl, hbel1⟩
          · have hx6 : decide (8 * (n : Int) < 32 + (z : Int)) = false := by simp; omega
            rw [decide_eq_false hfull] at HWT
            clear hbad hdone hfull
            go_wp2
            (try simp only [Exit.inBlock, Exit.then])
            refine bodyPost_ret (results_tmp4 rfl _ _ _) rfl ?_
            rw [unhide HWT]
            exact ⟨rfl, hbel1⟩
        · have hx5 : decide ((rs.length : Int) < (k : Int) + (bt : Int)) = false := by simp; omega
          have g2 : (k : Int) + (bt : Int) ≤ (cap2 : Int) := by omega
          have g4 : (0 : Int) ≤ (k : Int) + (bt : Int) := by omega
          have g5 : ((k : Int) + (bt : Int)).toNat = k + bt := by omega
          have hcutS := strs_cut' hR2 (k + bt) (by omega)
          go_wp2_with fail
          refine (rsize_any _ ((rs.map mk).take (k + bt)) _ (hcutS) (by rw [List.length_take, List.length_map]; omega) (fun s hs => unhide HSM s (List.mem_of_mem_take hs))).mono ?_
          rintro e w2 ⟨rfl, rfl⟩
          have HLE := hide (show (wb (bs ((rs.map mk).take (k + bt)))).length = (wb (rs.take (k + bt))).length by rw [← List.map_take, bs_mk])
          have hwl : (wb (bs ((rs.map mk).take (k + bt)))).length ≤ 2100 := by
            rw [unhide HLE]
            have := wb_length_le (rs.take (k + bt)) (fun e he => unhide HRS e (List.mem_of_mem_take he))
            rw [List.length_take] at this
            omega
          have HWT := hide (show wantOf (rs, er, nu) n k bt = (0, 0, (k + bt), decide (8 * n < 32 + (wb (bs ((rs.map mk).take (k + bt)))).length)) by
            unfold wantOf
            rw [if_neg hbad, if_neg hdone]
            simp only [show goesTo k bt rs.length = (k + bt) from by unfold goesTo; omega]
            rw [unhide HLE])
          generalize (wb (bs ((rs.map mk).take (k + bt)))).length = z at hwl HWT
          by_cases hfull : 8 * n < 32 + z
          · have hx6 : decide (8 * (n : Int) < 32 + (z : Int)) = true := by simp; omega
            rw [decide_eq_true hfull] at HWT
            clear hbad hdone hfull
            go_wp2
            (try simp only [Exit.inBlock, Exit.then])
            refine bodyPost_ret (results_tmp4 rfl _ _ _) rfl ?_
            rw [unhide HWT]
            exact ⟨rfl, hbel1⟩
          · have hx6 : decide (8 * (n : Int) < 32 + (z : Int)) = false := by simp; omega
            rw [decide_eq_false hfull] at HWT
            clear hbad hdone hfull
            go_wp2
            (try simp only [Exit.inBlock, Exit.then])
            refine bodyPost_ret (results_tmp4 rfl _ _ _) rfl ?_
            rw [unhide HWT]
            exact ⟨rfl, hbel1⟩
      · have hx2 : ((er : Int) != 0) = true := by rw [bne_iff_ne]; omega
        have hx3 : decide ((nu : Int) < (k : Int) + (bt : Int)) = false := by simp; omega
        by_cases hend : rs.length < k + bt
        · have hx5 : decide ((rs.length : Int) < (k : Int) + (bt : Int)) = true := by simp; omega
          have g2 : (rs.length : Int) ≤ (cap2 : Int) := by omega
          have hcutS := strs_cut' hR2 rs.length (by omega)
          go_wp2_with fail
          refine (rsize_any _ ((rs.map mk).take rs.length) _ (hcutS) (by rw [List.length_take, List.length_map]; omega) (fun s hs => unhide HSM s (List.mem_of_mem_take hs))).mono ?_
          rintro e w2 ⟨rfl, rfl⟩
          have HLE := hide (show (wb (bs ((rs.map mk).take rs.length))).length = (wb (rs.take rs.length)).length by rw [← List.map_take, bs_mk])
          have hwl : (wb (bs ((rs.map mk).take rs.length))).length ≤ 2100 := by
            rw [unhide HLE]
            have := wb_length_le (rs.take rs.length) (fun e he => unhide HRS e (List.mem_of_mem_take he))
            rw [List.length_take] at this
            omega
          have HWT := hide (show wantOf (rs, er, nu) n k bt = (0, 0, rs.length, decide (8 * n < 32 + (wb (bs ((rs.map mk).take rs.length))).length)) by
            unfold wantOf
            rw [if_neg hbad, if_neg hdone]
            simp only [show goesTo k bt rs.length = rs.length from by unfold goesTo; omega]
            rw [unhide HLE])
          generalize (wb (bs ((rs.map mk).take rs.length))).length = z at hwl HWT
          by_cases hfull : 8 * n < 32 + z
          · have hx6 : decide (8 * (n : Int) < 32 + (z : Int)) = true := by simp; omega
            rw [decide_eq_true hfull] at HWT
            clear hbad hdone hfull
            go_wp2
            (try simp only [Exit.inBlock, Exit.then])
            refine bodyPost_ret (results_tmp4 rfl _ _ _) rfl ?_
            rw [unhide HWT]
            exact ⟨rfl, hbel1⟩
          · have hx6 : decide (8 * (n : Int) < 32 + (z : Int)) = false := by simp; omega
            rw [decide_eq_false hfull] at HWT
            clear hbad hdone hfull
            go_wp2
            (try simp only [Exit.inBlock, Exit.then])
            refine bodyPost_ret (results_tmp4 rfl _ _ _) rfl ?_
            rw [unhide HWT]
            exact ⟨rfl, hbel1⟩
        · have hx5 : decide ((rs.length : Int) < (k : Int) + (bt : Int)) = false := by simp; omega
          have g2 : (k : Int) + (bt : Int) ≤ (cap2 : Int) := by omega
          have g4 : (0 : Int) ≤ (k : Int) + (bt : Int) := by omega
          have g5 : ((k : Int) + (bt : Int)).toNat = k + bt := by omega
          have hcutS := strs_cut' hR2 (k + bt) (by omega)
          go_wp2_with fail
          refine (rsize_any _ ((rs.map mk).take (k + bt)) _ (hcutS) (by rw [List.length_take, List.length_map]; omega) (fun s hs => unhide HSM s (List.mem_of_mem_take hs))).mono ?_
          rintro e w2 ⟨rfl, rfl⟩
          have HLE := hide (show (wb (bs ((rs.map mk).take (k + bt)))).length = (wb (rs.take (k + bt))).length by rw [← List.map_take, bs_mk])
          have hwl : (wb (bs ((rs.map mk).take (k + bt)))).length ≤ 2100 := by
            rw [unhide HLE]
            have := wb_length_le (rs.take (k + bt)) (fun e he => unhide HRS e (List.mem_of_mem_take he))
            rw [List.length_take] at this
            omega
          have HWT := hide (show wantOf (rs, er, nu) n k bt = (0, 0, (k + bt), decide (8 * n < 32 + (wb (bs ((rs.map mk).take (k + bt)))).length)) by
            unfold wantOf
            rw [if_neg hbad, if_neg hdone]
            simp only [show goesTo k bt rs.length = (k + bt) from by unfold goesTo; omega]
            rw [unhide HLE])
          generalize (wb (bs ((rs.map mk).take (k + bt)))).length = z at hwl HWT
          by_cases hfull : 8 * n < 32 + z
          · have hx6 : decide (8 * (n : Int) < 32 + (z : Int)) = true := by simp; omega
            rw [decide_eq_true hfull] at HWT
            clear hbad hdone hfull
            go_wp2
            (try simp only [Exit.inBlock, Exit.then])
            refine bodyPost_ret (results_tmp4 rfl _ _ _) rfl ?_
            rw [unhide HWT]
            exact ⟨rfl, hbel1⟩
          · have hx6 : decide (8 * (n : Int) < 32 + (z : Int)) = false := by simp; omega
            rw [decide_eq_false hfull] at HWT
            clear hbad hdone hfull
            go_wp2
            (try simp only [Exit.inBlock, Exit.then])
            refine bodyPost_ret (results_tmp4 rfl _ _ _) rfl ?_
            rw [unhide HWT]
            exact ⟨rfl, hbel1⟩

theorem wanted_any (s : ByteArray) (n k : Nat) (bt : Int) (w : World) (hm : s.size ≤ maxLen) (hn : n ≤ 300) (hk : k ≤ 100) :
    Calls Tryd.prog 74 #[.string s, .int .i64 n, .int .i64 k, .int .i64 bt] w fun e w' => e = .returned (.tuple #[.int .i64 (wantR s.data.toList n k bt).1, .int .i64 (wantR s.data.toList n k bt).2.1, .int .i64 (wantR s.data.toList n k bt).2.2.1, .bool (wantR s.data.toList n k bt).2.2.2]) ∧ Below w.heap.size w w' := by
  by_cases hb : bt < 1 ∨ 100 < bt
  · rw [show wantR s.data.toList n k bt = (7, 0, 0, false) by unfold wantR; rw [if_pos hb]]
    refine (wanted_batch s n k bt w hb).mono ?_
    rintro e w' ⟨rfl, rfl⟩
    exact ⟨rfl, Below.refl _ _⟩
  · rw [show wantR s.data.toList n k bt = wantOf (rdOld s.data.toList) n k bt.toNat by unfold wantR; rw [if_neg hb]]
    obtain ⟨b, rfl⟩ : ∃ b : Nat, bt = (b : Int) := ⟨bt.toNat, by omega⟩
    exact wanted_in s n k b w hm hn hk (by omega) (by omega)
end Go.Proofs.YtanfolfopalbeaaDoor
