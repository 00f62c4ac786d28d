/- The book inside an object, for lists of any kind (Kd): what stands while a list of them is put in, and between the calls. -/
import Derived.Test.YtanfolfopalbeaaDoorBook
import Derived.Test.YtanfolfopalbeaaDoorAppend
namespace Go.Proofs.YtanfolfopalbeaaDoor
open Go.RowKit

/-- A kind of lists in the book: the object's type, the types of a list and of its elements, how many cells an element has, where the object holds the lists and their marks. -/
structure Kd where
  ty : TypeId
  eT : TypeId
  eL : TypeId
  sz : Nat
  i1 : Nat
  i2 : Nat
def lenG : Value → Nat
  | .slice _ m _ => m
  | _ => 0
def fl (l : List (List Value)) : List Value := l.flatten
theorem fl_snoc (p : List (List Value)) (d : List Value) : fl (p ++ [d]) = fl p ++ d := by simp [fl]
theorem fl_length {sz : Nat} (ps : List (List Value)) (h : ∀ d ∈ ps, d.length = sz) : (fl ps).length = ps.length * sz := by
  induction ps with
  | nil => simp [fl]
  | cons a r ih =>
    show (a ++ fl r).length = _
    rw [List.length_append, h a (by simp), ih (fun d hd => h d (by simp [hd])), List.length_cons, Nat.succ_mul, Nat.add_comm]
theorem fl_split (ps : List (List Value)) (k : Nat) : fl ps = fl (ps.take k) ++ fl (ps.drop k) := by
  unfold fl
  rw [← List.flatten_append, List.take_append_drop]
theorem fl_set (ls : List (List Value)) (i : Nat) (x : List Value) (hi : i < ls.length) : fl (ls.set i x) = fl (ls.take i) ++ (x ++ fl (ls.drop (i + 1))) := by
  rw [List.set_eq_take_append_cons_drop, if_pos hi]
  simp [fl]
theorem mul_at {i n j s : Nat} (hi : i < n) (hj : j < s) : i * s + j < n * s := by
  have h : (i + 1) * s ≤ n * s := Nat.mul_le_mul_right _ hi
  rw [Nat.succ_mul] at h
  omega
theorem fl_rep_get (n : Nat) (t : List Value) (i j : Nat) (hi : i < n) (hj : j < t.length) : (fl (List.replicate n t))[i * t.length + j]? = t[j]? := by
  have e : List.replicate n t = List.replicate i t ++ (t :: List.replicate (n - i - 1) t) := by
    rw [← List.replicate_succ, List.replicate_append_replicate]
    congr 1
    omega
  have hl : (fl (List.replicate i t)).length = i * t.length := by
    rw [fl_length (sz := t.length) _ (fun d hd => by rw [(List.mem_replicate.1 hd).2]), List.length_replicate]
  have e2 : fl (List.replicate n t) = fl (List.replicate i t) ++ (t ++ fl (List.replicate (n - i - 1) t)) := by
    rw [e]
    simp [fl]
  rw [e2, List.getElem?_append_right (by omega), hl, show i * t.length + j - i * t.length = j by omega, List.getElem?_append_left hj]
/-- A list that reads as its mark all over. -/
def FullG (sz : Nat) (w : World) (v : Value) (m : List Value) : Prop :=
  m.length = sz ∧ ∃ ao n cap, v = .slice ao n cap ∧ n ≤ cap ∧ cap ≤ maxLen ∧ (0 < n → ∃ g, ao = some ⟨g, 0, none⟩ ∧ ∀ i, i < n → w.rangeAt g (i * sz) m)
theorem FullG.keep {sz : Nat} {w w' : World} {v : Value} {m : List Value} (h : FullG sz w v m) (hk : ∀ g j, v.ownBlock = some g → j < lenG v * sz → w'.cell? ⟨g, j, none⟩ = w.cell? ⟨g, j, none⟩) : FullG sz w' v m := by
  obtain ⟨h0, ao, n, cap, rfl, h1, h2, h3⟩ := h
  refine ⟨h0, ao, n, cap, rfl, h1, h2, fun hn => ?_⟩
  obtain ⟨g, rfl, hc⟩ := h3 hn
  refine ⟨g, rfl, fun i hi j u hu => ?_⟩
  have hj : j < sz := by
    have := (List.getElem?_eq_some_iff.1 hu).1
    omega
  rw [hk g (i * sz + j) rfl (mul_at hi hj)]
  exact hc i hi j u hu
theorem FullG.of_own {sz : Nat} {w : World} {B : Nat} {e : TypeId} {v : Value} {n : Nat} {t : List Value} (ht : t.length = sz) (h : w.ownsRow B e sz v n (fl (List.replicate n t))) : FullG sz w v t := by
  subst ht
  have h' := h
  rcases h.2 with ⟨rfl, rfl⟩ | ⟨g, cap, cur, rfl, _, _, h1, h2, _⟩
  · exact ⟨rfl, none, 0, 0, rfl, Nat.le_refl _, by unfold maxLen; omega, fun h => absurd h (Nat.lt_irrefl 0)⟩
  · refine ⟨rfl, some ⟨g, 0, none⟩, n, cap, rfl, h1, h2, fun _ => ⟨g, rfl, fun i hi j u hu => ?_⟩⟩
    have hj := (List.getElem?_eq_some_iff.1 hu).1
    have := h'.cells (g := g) rfl (i * t.length + j) u (by rw [fl_rep_get n t i j hi hj]; exact hu)
    rwa [Addr.add_lit, Nat.zero_add] at this
theorem lenG_own {w : World} {B : Nat} {e : TypeId} {s : Nat} {v : Value} {n : Nat} {xs : List Value} (h : w.ownsRow B e s v n xs) : lenG v = n := by
  rcases h.2 with ⟨rfl, rfl⟩ | ⟨g, cap, cur, rfl, _⟩ <;> rfl
/-- The object's cells, and where the lists and their marks are. -/
def ObK (K : Kd) (w : World) (G : Nat) (cs : Array Value) (tv xv : Value) : Prop := w.heap[G]? = some (.cells cs K.ty (0, 0)) ∧ cs[K.i1]? = some tv ∧ cs[K.i2]? = some xv ∧ K.i1 ≠ K.i2
theorem ObK.lt {K : Kd} {w : World} {G : Nat} {cs : Array Value} {tv xv : Value} (h : ObK K w G cs tv xv) : G < w.heap.size := lt_of_block h.1
theorem ObK.same {K : Kd} {w w' : World} {G : Nat} {cs : Array Value} {tv xv : Value} (h : ObK K w G cs tv xv) (hs : w'.heap[G]? = w.heap[G]?) : ObK K w' G cs tv xv := ⟨hs.trans h.1, h.2⟩
theorem ObK.cell1 {K : Kd} {w : World} {G : Nat} {cs : Array Value} {tv xv : Value} (h : ObK K w G cs tv xv) : w.cell? ⟨G, K.i1, none⟩ = some tv := by rw [cell_of_row w G _ _ _ _ h.1]; exact h.2.1
theorem ObK.cell2 {K : Kd} {w : World} {G : Nat} {cs : Array Value} {tv xv : Value} (h : ObK K w G cs tv xv) : w.cell? ⟨G, K.i2, none⟩ = some xv := by rw [cell_of_row w G _ _ _ _ h.1]; exact h.2.2.1
theorem ObK.free {K : Kd} {w : World} {G : Nat} {cs : Array Value} {tv xv : Value} (h : ObK K w G cs tv xv) (j : Nat) : w.frozen? ⟨G, j, none⟩ = false := frozen_of_row w G j _ _ h.1
theorem ObK.set1 {K : Kd} {w : World} {G : Nat} {cs : Array Value} {tv xv : Value} (h : ObK K w G cs tv xv) (x : Value) : ObK K (w.setCell ⟨G, K.i1, none⟩ x) G (cs.setIfInBounds K.i1 x) x xv := by
  have hl := (Array.getElem?_eq_some_iff.1 h.2.1).1
  refine ⟨heap_setCell_same w G _ _ _ _ h.1, ?_, ?_, h.2.2.2⟩
  · rw [Array.getElem?_setIfInBounds, if_pos rfl, if_pos hl]
  · rw [Array.getElem?_setIfInBounds, if_neg h.2.2.2]
    exact h.2.2.1
theorem ObK.set2 {K : Kd} {w : World} {G : Nat} {cs : Array Value} {tv xv : Value} (h : ObK K w G cs tv xv) (x : Value) : ObK K (w.setCell ⟨G, K.i2, none⟩ x) G (cs.setIfInBounds K.i2 x) tv x := by
  have hl := (Array.getElem?_eq_some_iff.1 h.2.2.1).1
  refine ⟨heap_setCell_same w G _ _ _ _ h.1, ?_, ?_, h.2.2.2⟩
  · rw [Array.getElem?_setIfInBounds, if_neg (fun e => h.2.2.2 e.symm)]
    exact h.2.1
  · rw [Array.getElem?_setIfInBounds, if_pos rfl, if_pos hl]

/-- What stands while a list is put into the book. -/
structure StG (K : Kd) (P : Nat → Prop) (B : Nat) (w0 w : World) (G : Nat) (cs : Array Value) (tv xv : Value) (tl : List Value) (xl : List (List Value)) (recs : List (Value × List Value)) (lv : Value) (nl : Nat) (ls : List (List Value)) : Prop where
  bk : ObK K w G cs tv xv
  base : B ≤ G
  ht : w.ownsRow B K.eT 1 tv tl.length tl
  hx : w.ownsRow B K.eL K.sz xv xl.length (fl xl)
  hl : w.ownsRow B K.eL K.sz lv nl (fl ls)
  hf : ∀ r ∈ recs, FullG K.sz w r.1 r.2
  hs : ∀ r ∈ recs, ∀ g, r.1.ownBlock = some g → g < w.heap.size ∧ g ≠ G ∧ tv.ownBlock ≠ some g ∧ xv.ownBlock ≠ some g ∧ (lv.ownBlock = some g → lenG r.1 ≤ nl)
  tG : tv.ownBlock ≠ some G
  xG : xv.ownBlock ≠ some G
  lG : lv.ownBlock ≠ some G
  tx : ∀ g, tv.ownBlock = some g → xv.ownBlock ≠ some g
  tlv : ∀ g, tv.ownBlock = some g → lv.ownBlock ≠ some g
  xlv : ∀ g, xv.ownBlock = some g → lv.ownBlock ≠ some g
  bel : Below B w0 w
  pr : ∀ k, P k → k < w.heap.size ∧ w.heap[k]? = w0.heap[k]? ∧ k ≠ G ∧ tv.ownBlock ≠ some k ∧ xv.ownBlock ≠ some k ∧ lv.ownBlock ≠ some k
theorem StG.sz {K : Kd} {P : Nat → Prop} {B : Nat} {w0 w : World} {G : Nat} {cs : Array Value} {tv xv : Value} {tl : List Value} {xl : List (List Value)} {recs : List (Value × List Value)} {lv : Value} {nl : Nat} {ls : List (List Value)} (S : StG K P B w0 w G cs tv xv tl xl recs lv nl ls) : B ≤ w.heap.size := Nat.le_of_lt (Nat.lt_of_le_of_lt S.base S.bk.lt)
theorem ne_of_imp {a c : Option Nat} (h : ∀ g, a = some g → c ≠ some g) : c = none ∨ c ≠ a := by
  cases c with
  | none => exact .inl rfl
  | some k => exact .inr fun e => h k e.symm rfl
theorem ne_of_imp' {a c : Option Nat} (h : ∀ g, a = some g → c ≠ some g) : a = none ∨ a ≠ c := by
  cases a with
  | none => exact .inl rfl
  | some k => exact .inr fun e => h k rfl e.symm
theorem own_setG {w : World} {B : Nat} {e : TypeId} {s : Nat} {v : Value} {n : Nat} {xs : List Value} (h : w.ownsRow B e s v n xs) {G i : Nat} {x : Value} (hv : v.ownBlock ≠ some G) : (w.setCell ⟨G, i, none⟩ x).ownsRow B e s v n xs :=
  h.kept (grown_setCell (grown_refl w (some G)) _ _ (.inl rfl)) (.inr hv)
/-- The book's list of lists has one more. -/
theorem StG.texts {K : Kd} {P : Nat → Prop} {B : Nat} {w0 w : World} {G : Nat} {cs : Array Value} {tv xv : Value} {tl : List Value} {xl : List (List Value)} {recs : List (Value × List Value)} {lv : Value} {nl : Nat} {ls : List (List Value)} (S : StG K P B w0 w G cs tv xv tl xl recs lv nl ls) {g cap : Nat} {w' : World} {o : Obj} {y : Value} (hown : w'.ownsRow B K.eT 1 (.slice (some ⟨g, 0, none⟩) (tl.length + 1) cap) (tl.length + 1) (tl ++ [y]))
    (hgrow : (w.alloc o).grownBy w' tv.ownBlock) (hat : tv.ownBlock = some g ∨ g = (w.alloc o).heap.size) :
    StG K P B w0 (w'.setCell ⟨G, K.i1, none⟩ (.slice (some ⟨g, 0, none⟩) (tl.length + 1) cap)) G (cs.setIfInBounds K.i1 (.slice (some ⟨g, 0, none⟩) (tl.length + 1) cap)) (.slice (some ⟨g, 0, none⟩) (tl.length + 1) cap) xv (tl ++ [y]) xl recs lv nl ls := by
  have hgr : w.grownBy w' tv.ownBlock := grown_trans (World.grownBy_alloc w o _) hgrow
  have hGl := S.bk.lt
  have has : (w.alloc o).heap.size = w.heap.size + 1 := by simp
  have hgG : g ≠ G := by
    rcases hat with h | h
    · intro e; rw [e] at h; exact S.tG h
    · omega
  have hfar : ∀ k, k < w.heap.size → tv.ownBlock ≠ some k → g ≠ k := by
    intro k hk hn e
    rcases hat with h | h
    · rw [e] at h; exact hn h
    · omega
  have hoB : (Value.slice (some ⟨g, 0, none⟩) (tl.length + 1) cap).ownBlock = some g := rfl
  have lv_lt : ∀ k, lv.ownBlock = some k → k < w.heap.size := fun k h => (S.hl.lt k h).2
  have xv_lt : ∀ k, xv.ownBlock = some k → k < w.heap.size := fun k h => (S.hx.lt k h).2
  refine ⟨?_, S.base, ?_, ?_, ?_, ?_, ?_, ?_, S.xG, S.lG, ?_, ?_, S.xlv, ?_, ?_⟩
  · exact (S.bk.same (hgr.block G hGl (fun e => S.tG e.symm))).set1 _
  · rw [List.length_append]
    exact own_setG hown (by rw [hoB]; intro e; injection e with e; exact hgG e)
  · exact own_setG (S.hx.kept hgr (ne_of_imp S.tx)) S.xG
  · exact own_setG (S.hl.kept hgr (ne_of_imp S.tlv)) S.lG
  · intro r hr
    refine (S.hf r hr).keep fun k j hk _ => ?_
    have h := S.hs r hr k hk
    rw [World.cell?_of_block (heap_setCell_other _ _ _ _ (by exact h.2.1)), World.cell?_of_block (hgr.block k h.1 (fun e => h.2.2.1 e.symm))]
  · intro r hr k hk
    have h := S.hs r hr k hk
    refine ⟨?_, h.2.1, ?_, h.2.2.2.1, h.2.2.2.2⟩
    · have := hgr.size
      simp only [World.setCell, Array.size_modify]
      omega
    · show (Value.slice (some ⟨g, 0, none⟩) (tl.length + 1) cap).ownBlock ≠ some k
      rw [hoB]; intro e; injection e with e; exact hfar k h.1 h.2.2.1 e
  · show (Value.slice (some ⟨g, 0, none⟩) (tl.length + 1) cap).ownBlock ≠ some G
    rw [hoB]; intro e; injection e with e; exact hgG e
  · intro k hk hx
    have e : g = k := by injection hk
    exact hfar k (xv_lt k hx) (fun h => S.tx k h hx) e
  · intro k hk hx
    have e : g = k := by injection hk
    exact hfar k (lv_lt k hx) (fun h => S.tlv k h hx) e
  · exact (S.bel.grown hgr S.sz (own_row_ge S.ht)).setCell (by exact S.base) _
  · intro k hk
    obtain ⟨h1, h2, h3, h4, h5, h6⟩ := S.pr k hk
    refine ⟨?_, ?_, h3, ?_, h5, h6⟩
    · have := hgr.size
      simp only [World.setCell, Array.size_modify]
      omega
    · rw [heap_setCell_other _ _ _ _ (by exact h3), hgr.block k h1 (fun e => h4 e.symm)]
      exact h2
    · show (Value.slice (some ⟨g, 0, none⟩) (tl.length + 1) cap).ownBlock ≠ some k
      rw [hoB]; intro e; injection e with e; exact hfar k h1 h4 e
/-- The book's list of marks has one more; the list is then in the book. -/
theorem StG.text {K : Kd} {P : Nat → Prop} {B : Nat} {w0 w : World} {G : Nat} {cs : Array Value} {tv xv : Value} {tl : List Value} {xl : List (List Value)} {recs : List (Value × List Value)} {lv : Value} {nl : Nat} {ls : List (List Value)} (S : StG K P B w0 w G cs tv xv tl xl recs lv nl ls) {g cap : Nat} {w' : World} {o : Obj} {t : List Value} (hls : ls = List.replicate nl t) (ht32 : t.length = K.sz) (hown : w'.ownsRow B K.eL K.sz (.slice (some ⟨g, 0, none⟩) (xl.length + 1) cap) (xl.length + 1) (fl xl ++ t))
    (hgrow : (w.alloc o).grownBy w' xv.ownBlock) (hat : xv.ownBlock = some g ∨ g = (w.alloc o).heap.size) :
    StG K P B w0 (w'.setCell ⟨G, K.i2, none⟩ (.slice (some ⟨g, 0, none⟩) (xl.length + 1) cap)) G (cs.setIfInBounds K.i2 (.slice (some ⟨g, 0, none⟩) (xl.length + 1) cap)) tv (.slice (some ⟨g, 0, none⟩) (xl.length + 1) cap) tl (xl ++ [t]) (recs ++ [(lv, t)]) lv nl ls := by
  have hgr : w.grownBy w' xv.ownBlock := grown_trans (World.grownBy_alloc w o _) hgrow
  have hGl := S.bk.lt
  have has : (w.alloc o).heap.size = w.heap.size + 1 := by simp
  have hgG : g ≠ G := by
    rcases hat with h | h
    · intro e; rw [e] at h; exact S.xG h
    · omega
  have hfar : ∀ k, k < w.heap.size → xv.ownBlock ≠ some k → g ≠ k := by
    intro k hk hn e
    rcases hat with h | h
    · rw [e] at h; exact hn h
    · omega
  have hoB : (Value.slice (some ⟨g, 0, none⟩) (xl.length + 1) cap).ownBlock = some g := rfl
  have lv_lt : ∀ k, lv.ownBlock = some k → k < w.heap.size := fun k h => (S.hl.lt k h).2
  have tv_lt : ∀ k, tv.ownBlock = some k → k < w.heap.size := fun k h => (S.ht.lt k h).2
  have tx' : ∀ k, xv.ownBlock = some k → tv.ownBlock ≠ some k := fun k h h2 => S.tx k h2 h
  have hl2 : (w'.setCell ⟨G, K.i2, none⟩ (.slice (some ⟨g, 0, none⟩) (xl.length + 1) cap)).ownsRow B K.eL K.sz lv nl (fl ls) := own_setG (S.hl.kept hgr (ne_of_imp S.xlv)) S.lG
  have hszz : w.heap.size ≤ (w'.setCell ⟨G, K.i2, none⟩ (.slice (some ⟨g, 0, none⟩) (xl.length + 1) cap)).heap.size := by
    have := hgr.size
    simp only [World.setCell, Array.size_modify]
    omega
  refine ⟨?_, S.base, ?_, ?_, hl2, ?_, ?_, S.tG, ?_, S.lG, ?_, S.tlv, ?_, ?_, ?_⟩
  · exact (S.bk.same (hgr.block G hGl (fun e => S.xG e.symm))).set2 _
  · exact own_setG (S.ht.kept hgr (ne_of_imp tx')) S.tG
  · rw [List.length_append, fl_snoc]
    exact own_setG hown (by rw [hoB]; intro e; injection e with e; exact hgG e)
  · intro r hr
    rcases List.mem_append.1 hr with hr | hr
    · refine (S.hf r hr).keep fun k j hk _ => ?_
      have h := S.hs r hr k hk
      rw [World.cell?_of_block (heap_setCell_other _ _ _ _ (by exact h.2.1)), World.cell?_of_block (hgr.block k h.1 (fun e => h.2.2.2.1 e.symm))]
    · rw [List.mem_singleton.1 hr]
      rw [hls] at hl2
      exact FullG.of_own ht32 hl2
  · intro r hr k hk
    rcases List.mem_append.1 hr with hr | hr
    · have h := S.hs r hr k hk
      refine ⟨Nat.lt_of_lt_of_le h.1 hszz, h.2.1, h.2.2.1, ?_, h.2.2.2.2⟩
      show (Value.slice (some ⟨g, 0, none⟩) (xl.length + 1) cap).ownBlock ≠ some k
      rw [hoB]; intro e; injection e with e; exact hfar k h.1 h.2.2.2.1 e
    · rw [List.mem_singleton.1 hr] at hk ⊢
      have hk' : lv.ownBlock = some k := hk
      have hkl := lv_lt k hk'
      refine ⟨Nat.lt_of_lt_of_le hkl hszz, fun e => S.lG (by rw [hk', e]), fun h => S.tlv k h hk', ?_, fun _ => Nat.le_of_eq (lenG_own hl2)⟩
      show (Value.slice (some ⟨g, 0, none⟩) (xl.length + 1) cap).ownBlock ≠ some k
      rw [hoB]; intro e; injection e with e; exact hfar k hkl (fun h => S.xlv k h hk') e
  · show (Value.slice (some ⟨g, 0, none⟩) (xl.length + 1) cap).ownBlock ≠ some G
    rw [hoB]; intro e; injection e with e; exact hgG e
  · intro k hk hx
    have e : g = k := by injection hx
    exact hfar k (tv_lt k hk) (fun h => S.tx k hk h) e
  · intro k hk hx
    have e : g = k := by injection hk
    exact hfar k (lv_lt k hx) (fun h => S.xlv k h hx) e
  · exact (S.bel.grown hgr S.sz (own_row_ge S.hx)).setCell (by exact S.base) _
  · intro k hk
    obtain ⟨h1, h2, h3, h4, h5, h6⟩ := S.pr k hk
    refine ⟨Nat.lt_of_lt_of_le h1 hszz, ?_, h3, h4, ?_, h6⟩
    · rw [heap_setCell_other _ _ _ _ (by exact h3), hgr.block k h1 (fun e => h5 e.symm)]
      exact h2
    · show (Value.slice (some ⟨g, 0, none⟩) (xl.length + 1) cap).ownBlock ≠ some k
      rw [hoB]; intro e; injection e with e; exact hfar k h1 h5 e
/-- The list itself has one more. -/
theorem StG.grow {K : Kd} {P : Nat → Prop} {B : Nat} {w0 w : World} {G : Nat} {cs : Array Value} {tv xv : Value} {tl : List Value} {xl : List (List Value)} {recs : List (Value × List Value)} {lv : Value} {nl : Nat} {ls : List (List Value)} (S : StG K P B w0 w G cs tv xv tl xl recs lv nl ls) {g cap : Nat} {w' : World} {o : Obj} {ls' : List (List Value)} (hown : w'.ownsRow B K.eL K.sz (.slice (some ⟨g, 0, none⟩) (nl + 1) cap) (nl + 1) (fl ls'))
    (hgrow : (w.alloc o).grownBy w' lv.ownBlock) (hat : lv.ownBlock = some g ∨ g = (w.alloc o).heap.size)
    (hkeep : ∀ k j, k < (w.alloc o).heap.size → (lv.ownBlock = some k → j < nl * K.sz) → w'.cell? ⟨k, j, none⟩ = (w.alloc o).cell? ⟨k, j, none⟩) :
    StG K P B w0 w' G cs tv xv tl xl recs (.slice (some ⟨g, 0, none⟩) (nl + 1) cap) (nl + 1) ls' := by
  have hgr : w.grownBy w' lv.ownBlock := grown_trans (World.grownBy_alloc w o _) hgrow
  have hGl := S.bk.lt
  have has : (w.alloc o).heap.size = w.heap.size + 1 := by simp
  have hgG : g ≠ G := by
    rcases hat with h | h
    · intro e; rw [e] at h; exact S.lG h
    · omega
  have hfar : ∀ k, k < w.heap.size → lv.ownBlock ≠ some k → g ≠ k := by
    intro k hk hn e
    rcases hat with h | h
    · rw [e] at h; exact hn h
    · omega
  have hoB : (Value.slice (some ⟨g, 0, none⟩) (nl + 1) cap).ownBlock = some g := rfl
  have xv_lt : ∀ k, xv.ownBlock = some k → k < w.heap.size := fun k h => (S.hx.lt k h).2
  have tv_lt : ∀ k, tv.ownBlock = some k → k < w.heap.size := fun k h => (S.ht.lt k h).2
  refine ⟨S.bk.same (hgr.block G hGl (fun e => S.lG e.symm)), S.base, S.ht.kept hgr (ne_of_imp' S.tlv), S.hx.kept hgr (ne_of_imp' S.xlv), hown, ?_, ?_, S.tG, S.xG, ?_, S.tx, ?_, ?_, S.bel.grown hgr S.sz (own_row_ge S.hl), ?_⟩
  · intro r hr
    refine (S.hf r hr).keep fun k j hk hj => ?_
    have h := S.hs r hr k hk
    rw [hkeep k j (by omega) (fun e => Nat.lt_of_lt_of_le hj (Nat.mul_le_mul_right _ (h.2.2.2.2 e)))]
    exact World.cell?_of_block (Below.heap_alloc w o k h.1)
  · intro r hr k hk
    have h := S.hs r hr k hk
    refine ⟨Nat.lt_of_lt_of_le h.1 hgr.size, h.2.1, h.2.2.1, h.2.2.2.1, fun e => ?_⟩
    by_cases hv : lv.ownBlock = some k
    · have := h.2.2.2.2 hv; omega
    · exfalso
      have e' : g = k := by injection e
      exact hfar k h.1 hv e'
  · rw [hoB]; intro e; injection e with e; exact hgG e
  · intro k hk hx
    have e : g = k := by injection hx
    exact hfar k (tv_lt k hk) (S.tlv k hk) e
  · intro k hk hx
    have e : g = k := by injection hx
    exact hfar k (xv_lt k hk) (S.xlv k hk) e
  · intro k hk
    obtain ⟨h1, h2, h3, h4, h5, h6⟩ := S.pr k hk
    refine ⟨Nat.lt_of_lt_of_le h1 hgr.size, (hgr.block k h1 (fun e => h6 e.symm)).trans h2, h3, h4, h5, ?_⟩
    rw [hoB]; intro e; injection e with e; exact hfar k h1 h6 e
/-- An element is written into the list (whose block no book has yet). -/
theorem StG.put {K : Kd} {P : Nat → Prop} {B : Nat} {w0 w : World} {G : Nat} {cs : Array Value} {tv xv : Value} {tl : List Value} {xl : List (List Value)} {recs : List (Value × List Value)} {lv : Value} {nl : Nat} {ls : List (List Value)} (S : StG K P B w0 w G cs tv xv tl xl recs lv nl ls) {g cap i : Nat} {x : List Value} (hx32 : x.length = K.sz) (hl32 : ∀ d ∈ ls, d.length = K.sz) (hn : ls.length = nl) (hi : i < ls.length) (hlv : lv = .slice (some ⟨g, 0, none⟩) nl cap) (hnew : ∀ r ∈ recs, r.1.ownBlock ≠ some g) :
    StG K P B w0 (w.setCells g (i * K.sz) x) G cs tv xv tl xl recs lv nl (ls.set i x) := by
  have hlb : lv.ownBlock = some g := by rw [hlv]; rfl
  have hgG : g ≠ G := fun e => S.lG (by rw [hlb, e])
  have hgr : w.grownBy (w.setCells g (i * K.sz) x) (some g) := setCells_grown g (.inl rfl) _ _ (grown_refl w _)
  have hll := S.hl.1
  have hprod : i * K.sz + K.sz ≤ nl * K.sz := by
    have : (i + 1) * K.sz ≤ nl * K.sz := Nat.mul_le_mul_right _ (by omega)
    rw [Nat.succ_mul] at this
    exact this
  refine ⟨S.bk.same (setCells_other2 _ _ (fun e => hgG e.symm) _ _ _), S.base, S.ht.kept hgr (.inr fun e => S.tlv g e hlb), S.hx.kept hgr (.inr fun e => S.xlv g e hlb), ?_, ?_, ?_, S.tG, S.xG, S.lG, S.tx, S.tlv, S.xlv, S.bel.grown hgr S.sz (fun k h => by injection h with h; rw [← h]; exact (S.hl.lt g hlb).1), fun k hk => by
    obtain ⟨h1, h2, h3, h4, h5, h6⟩ := S.pr k hk
    exact ⟨Nat.lt_of_lt_of_le h1 hgr.size, (setCells_other2 _ _ (fun e => h6 (by rw [hlb, e])) _ _ _).trans h2, h3, h4, h5, h6⟩⟩
  · refine ⟨by rw [fl_length (sz := K.sz) _ (fun d hd => (List.mem_or_eq_of_mem_set hd).elim (hl32 d) (fun e => by rw [e]; exact hx32)), List.length_set, hn], .inr ?_⟩
    rcases S.hl.2 with ⟨h, _⟩ | ⟨g', cap', cur, h, h1, h2, h3, h4, h5, h6⟩
    · rw [hlv] at h; cases h
    · rw [hlv] at h
      injection h with e1 _ e3
      injection e1 with e1
      injection e1 with e1
      subst e1 e3
      have hcapm : nl * K.sz ≤ cap * K.sz := Nat.mul_le_mul_right _ h3
      have hcs : cur.toList.length = cap * K.sz := by rw [Array.length_toList]; exact h5
      have htl : (fl (ls.take i)).length = i * K.sz := by rw [fl_length (sz := K.sz) _ (fun d hd => hl32 d (List.mem_of_mem_take hd)), List.length_take, Nat.min_eq_left (by omega)]
      have htl1 : (fl (ls.take (i + 1))).length = i * K.sz + K.sz := by rw [fl_length (sz := K.sz) _ (fun d hd => hl32 d (List.mem_of_mem_take hd)), List.length_take, Nat.min_eq_left (by omega), Nat.succ_mul]
      refine ⟨g, cap, _, hlv, h1, setCells_row2 g _ x (i * K.sz) w cur h2 (by rw [hx32, h5]; omega), h3, h4, ?_, ?_⟩
      · simp only [List.size_toArray, List.length_append, List.length_take, List.length_drop, hx32]
        omega
      · have e2 : cur.toList.take (i * K.sz) = fl (ls.take i) := by
          have e4 : (cur.toList.take (nl * K.sz)).take (i * K.sz) = (fl ls).take (i * K.sz) := by rw [h6]
          rw [List.take_take, Nat.min_eq_left (by omega)] at e4
          rw [e4, fl_split ls i, List.take_left' htl]
        have e5 : (cur.toList.drop (i * K.sz + K.sz)).take (nl * K.sz - (i * K.sz + K.sz)) = fl (ls.drop (i + 1)) := by
          have e4 : (cur.toList.take (nl * K.sz)).drop (i * K.sz + K.sz) = (fl ls).drop (i * K.sz + K.sz) := by rw [h6]
          rw [List.drop_take] at e4
          rw [e4, fl_split ls (i + 1), List.drop_left' htl1]
        rw [hx32, fl_set ls i x hi, ← e2, ← e5]
        have hA : (cur.toList.take (i * K.sz)).length = i * K.sz := by rw [List.length_take, Nat.min_eq_left (by omega)]
        rw [List.append_assoc, List.take_append, List.take_of_length_le (show (cur.toList.take (i * K.sz)).length ≤ nl * K.sz by omega), hA, List.take_append, List.take_of_length_le (show x.length ≤ nl * K.sz - i * K.sz by omega), hx32, show nl * K.sz - i * K.sz - K.sz = nl * K.sz - (i * K.sz + K.sz) by omega]
  · intro r hr
    refine (S.hf r hr).keep fun k j hk _ => ?_
    exact World.cell?_of_block (setCells_other2 _ _ (by intro e; exact hnew r hr (by rw [hk]; exact congrArg some e)) _ _ _)
  · intro r hr k hk
    have h := S.hs r hr k hk
    exact ⟨Nat.lt_of_lt_of_le h.1 hgr.size, h.2⟩
/-- Behind new blocks. -/
theorem StG.later {K : Kd} {P : Nat → Prop} {B : Nat} {w0 w : World} {G : Nat} {cs : Array Value} {tv xv : Value} {tl : List Value} {xl : List (List Value)} {recs : List (Value × List Value)} {lv : Value} {nl : Nat} {ls : List (List Value)} (S : StG K P B w0 w G cs tv xv tl xl recs lv nl ls) {w' : World} (hg : w.grownBy w' none) : StG K P B w0 w' G cs tv xv tl xl recs lv nl ls := by
  have hne : ∀ k : Nat, some k ≠ (none : Option Nat) := fun k h => by cases h
  have kept : ∀ v : Value, v.ownBlock = none ∨ v.ownBlock ≠ none := fun v => by cases v.ownBlock <;> simp
  refine ⟨S.bk.same (hg.block G S.bk.lt (hne G)), S.base, S.ht.kept hg (kept _), S.hx.kept hg (kept _), S.hl.kept hg (kept _), ?_, ?_, S.tG, S.xG, S.lG, S.tx, S.tlv, S.xlv, S.bel.grown hg S.sz (fun k h => by cases h), fun k hk => by
    obtain ⟨h1, h2, h3⟩ := S.pr k hk
    exact ⟨Nat.lt_of_lt_of_le h1 hg.size, (hg.block k h1 (hne k)).trans h2, h3⟩⟩
  · intro r hr
    exact (S.hf r hr).keep fun k j hk _ => World.cell?_of_block (hg.block k (S.hs r hr k hk).1 (hne k))
  · intro r hr k hk
    have h := S.hs r hr k hk
    exact ⟨Nat.lt_of_lt_of_le h.1 hg.size, h.2⟩
/-- Behind a change of the book's own block. -/
theorem StG.count {K : Kd} {P : Nat → Prop} {B : Nat} {w0 w : World} {G : Nat} {cs : Array Value} {tv xv : Value} {tl : List Value} {xl : List (List Value)} {recs : List (Value × List Value)} {lv : Value} {nl : Nat} {ls : List (List Value)} (S : StG K P B w0 w G cs tv xv tl xl recs lv nl ls) {w' : World} (hg : w.grownBy w' (some G)) {cs' : Array Value} (hB : ObK K w' G cs' tv xv) : StG K P B w0 w' G cs' tv xv tl xl recs lv nl ls := by
  refine ⟨hB, S.base, S.ht.kept hg (.inr S.tG), S.hx.kept hg (.inr S.xG), S.hl.kept hg (.inr S.lG), ?_, ?_, S.tG, S.xG, S.lG, S.tx, S.tlv, S.xlv, S.bel.grown hg S.sz (fun k h => by injection h with h; rw [← h]; exact S.base), fun k hk => by
    obtain ⟨h1, h2, h3⟩ := S.pr k hk
    exact ⟨Nat.lt_of_lt_of_le h1 hg.size, (hg.block k h1 (fun e => h3.1 (by injection e))).trans h2, h3⟩⟩
  · intro r hr
    exact (S.hf r hr).keep fun k j hk _ => World.cell?_of_block (hg.block k (S.hs r hr k hk).1 (fun e => (S.hs r hr k hk).2.1 (by injection e)))
  · intro r hr k hk
    have h := S.hs r hr k hk
    exact ⟨Nat.lt_of_lt_of_le h.1 hg.size, h.2⟩
/-- The list is let go. -/
theorem StG.drop {K : Kd} {P : Nat → Prop} {B : Nat} {w0 w : World} {G : Nat} {cs : Array Value} {tv xv : Value} {tl : List Value} {xl : List (List Value)} {recs : List (Value × List Value)} {lv : Value} {nl : Nat} {ls : List (List Value)} (S : StG K P B w0 w G cs tv xv tl xl recs lv nl ls) : StG K P B w0 w G cs tv xv tl xl recs (.slice none 0 0) 0 [] := by
  refine ⟨S.bk, S.base, S.ht, S.hx, World.ownsRow_nil _ _ _ _, S.hf, ?_, S.tG, S.xG, (fun h => nomatch h), S.tx, (fun _ _ h => nomatch h), (fun _ _ h => nomatch h), S.bel, fun k hk => by
    obtain ⟨h1, h2, h3, h4, h5, _⟩ := S.pr k hk
    exact ⟨h1, h2, h3, h4, h5, fun h => nomatch h⟩⟩
  intro r hr k hk
  have h := S.hs r hr k hk
  exact ⟨h.1, h.2.1, h.2.2.1, h.2.2.2.1, fun h => nomatch h⟩
/-- A list is taken up whose block is not in the book. -/
theorem StG.take {K : Kd} {P : Nat → Prop} {B : Nat} {w0 w : World} {G : Nat} {cs : Array Value} {tv xv : Value} {tl : List Value} {xl : List (List Value)} {recs : List (Value × List Value)} (S : StG K P B w0 w G cs tv xv tl xl recs (.slice none 0 0) 0 []) {v : Value} {n : Nat} {xs : List (List Value)} {N : Nat} (hN : B ≤ N) (hown : w.ownsRow N K.eL K.sz v n (fl xs))
    (hG : G < N) (ht : ∀ g, tv.ownBlock = some g → g < N) (hx : ∀ g, xv.ownBlock = some g → g < N) (hr : ∀ r ∈ recs, ∀ g, r.1.ownBlock = some g → g < N) (hp : ∀ k, P k → k < N) : StG K P B w0 w G cs tv xv tl xl recs v n xs := by
  have hge := own_row_ge hown
  refine ⟨S.bk, S.base, S.ht, S.hx, ?_, S.hf, ?_, S.tG, S.xG, fun h => by have := hge G h; omega, S.tx, fun k h h2 => by have := ht k h; have := hge k h2; omega, fun k h h2 => by have := hx k h; have := hge k h2; omega, S.bel, fun k hk => by
    obtain ⟨h1, h2, h3, h4, h5, _⟩ := S.pr k hk
    exact ⟨h1, h2, h3, h4, h5, fun h => by have := hge k h; have := hp k hk; omega⟩⟩
  · refine ⟨hown.1, ?_⟩
    rcases hown.2 with h | ⟨g, cap, cur, h1, h2, h3⟩
    · exact .inl h
    · exact .inr ⟨g, cap, cur, h1, Nat.le_trans hN h2, h3⟩
  · intro r hrr k hk
    have h := S.hs r hrr k hk
    exact ⟨h.1, h.2.1, h.2.2.1, h.2.2.2.1, fun h2 => by have := hr r hrr k hk; have := hge k h2; omega⟩
end Go.Proofs.YtanfolfopalbeaaDoor
