import Derived.Test.YtanfolfopalbeaaBook
namespace Go.Proofs.Ytanfolfopalbeaa
open Go.RowKit

def lenS : Value → Nat
  | .slice _ m _ => m
  | _ => 0
/-- A list that reads as its mark all over. -/
def Full (w : World) (v : Value) (m : ByteArray) : Prop :=
  ∃ ao n cap, v = .slice ao n cap ∧ n ≤ cap ∧ cap ≤ maxLen ∧ (0 < n → ∃ g, ao = some ⟨g, 0, none⟩ ∧ ∀ j, j < n → w.cell? ⟨g, j, none⟩ = some (.string m))
theorem Full.keep {w w' : World} {v : Value} {m : ByteArray} (h : Full w v m) (hk : ∀ g j, v.ownBlock = some g → j < lenS v → w'.cell? ⟨g, j, none⟩ = w.cell? ⟨g, j, none⟩) : Full w' v m := by
  obtain ⟨ao, n, cap, rfl, h1, h2, h3⟩ := h
  refine ⟨ao, n, cap, rfl, h1, h2, fun hn => ?_⟩
  obtain ⟨g, rfl, hc⟩ := h3 hn
  exact ⟨g, rfl, fun j hj => by rw [hk g j rfl hj]; exact hc j hj⟩
theorem Full.of_own {w : World} {B : Nat} {e : TypeId} {v : Value} {n : Nat} {t : ByteArray} (h : w.ownsRow B e 1 v n (List.replicate n (.string t))) : Full w v t := by
  have hc := h
  rcases h.2 with ⟨rfl, rfl⟩ | ⟨g, cap, cur, rfl, _, _, h1, h2, _⟩
  · exact ⟨none, 0, 0, rfl, Nat.le_refl _, by unfold maxLen; omega, fun h => absurd h (Nat.lt_irrefl 0)⟩
  · refine ⟨some ⟨g, 0, none⟩, n, cap, rfl, h1, h2, fun _ => ⟨g, rfl, fun j hj => ?_⟩⟩
    have := hc.cells (g := g) rfl j (.string t) (by rw [List.getElem?_replicate, if_pos hj])
    rwa [Addr.add_lit, Nat.zero_add] at this
theorem lenS_own {w : World} {B : Nat} {e : TypeId} {v : Value} {n : Nat} {xs : List Value} (h : w.ownsRow B e 1 v n xs) : lenS v = n := by
  rcases h.2 with ⟨rfl, rfl⟩ | ⟨g, cap, cur, rfl, _⟩ <;> rfl

/-- What stands while a list is put into the book. -/
structure StI (B : Nat) (w0 w : World) (G : Nat) (b : Bk) (tl : List Value) (xl : List ByteArray) (recs : List (Value × ByteArray)) (lv : Value) (nl : Nat) (ls : List Value) : Prop where
  bk : BkAt w G b
  base : B ≤ G
  ht : w.ownsRow B 22 1 b.tv tl.length tl
  hx : w.ownsRow B 9 1 b.xv xl.length (xl.map Value.string)
  hl : w.ownsRow B 9 1 lv nl ls
  hf : ∀ r ∈ recs, Full w r.1 r.2
  hs : ∀ r ∈ recs, ∀ g, r.1.ownBlock = some g → g < w.heap.size ∧ g ≠ G ∧ b.tv.ownBlock ≠ some g ∧ b.xv.ownBlock ≠ some g ∧ (lv.ownBlock = some g → lenS r.1 ≤ nl)
  tG : b.tv.ownBlock ≠ some G
  xG : b.xv.ownBlock ≠ some G
  lG : lv.ownBlock ≠ some G
  tx : ∀ g, b.tv.ownBlock = some g → b.xv.ownBlock ≠ some g
  tlv : ∀ g, b.tv.ownBlock = some g → lv.ownBlock ≠ some g
  xlv : ∀ g, b.xv.ownBlock = some g → lv.ownBlock ≠ some g
  bel : Below B w0 w
theorem StI.sz {B : Nat} {w0 w : World} {G : Nat} {b : Bk} {tl : List Value} {xl : List ByteArray} {recs : List (Value × ByteArray)} {lv : Value} {nl : Nat} {ls : List Value} (S : StI B w0 w G b tl xl recs lv nl ls) : B ≤ w.heap.size := Nat.le_of_lt (Nat.lt_of_le_of_lt S.base S.bk.lt)
theorem ne_of_imp {a c : Option Nat} (h : ∀ g, a = some g → c ≠ some g) : c = none ∨ c ≠ a := by
  cases c with
  | none => exact .inl rfl
  | some k => exact .inr fun e => h k e.symm rfl
theorem ne_of_imp' {a c : Option Nat} (h : ∀ g, a = some g → c ≠ some g) : a = none ∨ a ≠ c := by
  cases a with
  | none => exact .inl rfl
  | some k => exact .inr fun e => h k rfl e.symm
theorem own_setG {w : World} {B : Nat} {e : TypeId} {v : Value} {n : Nat} {xs : List Value} (h : w.ownsRow B e 1 v n xs) {G i : Nat} {x : Value} (hv : v.ownBlock ≠ some G) : (w.setCell ⟨G, i, none⟩ x).ownsRow B e 1 v n xs :=
  h.kept (grown_setCell (grown_refl w (some G)) _ _ (.inl rfl)) (.inr hv)
/-- The book's list of lists has one more. -/
theorem StI.texts {B : Nat} {w0 w : World} {G : Nat} {b : Bk} {tl : List Value} {xl : List ByteArray} {recs : List (Value × ByteArray)} {lv : Value} {nl : Nat} {ls : List Value} (S : StI B w0 w G b tl xl recs lv nl ls) {g cap : Nat} {w' : World} {o : Obj} {y : Value} (hown : w'.ownsRow B 22 1 (.slice (some ⟨g, 0, none⟩) (tl.length + 1) cap) (tl.length + 1) (tl ++ [y]))
    (hgrow : (w.alloc o).grownBy w' b.tv.ownBlock) (hat : b.tv.ownBlock = some g ∨ g = (w.alloc o).heap.size) :
    StI B w0 (w'.setCell ⟨G, 1, none⟩ (.slice (some ⟨g, 0, none⟩) (tl.length + 1) cap)) G { b with tv := .slice (some ⟨g, 0, none⟩) (tl.length + 1) cap } (tl ++ [y]) xl recs lv nl ls := by
  have hgr : w.grownBy w' b.tv.ownBlock := grown_trans (World.grownBy_alloc w o _) hgrow
  have hGl := S.bk.lt
  have has : (w.alloc o).heap.size = w.heap.size + 1 := by simp
  have hgG : g ≠ G := by
    rcases hat with h | h
    · intro e; rw [e] at h; exact S.tG h
    · omega
  have hfar : ∀ k, k < w.heap.size → b.tv.ownBlock ≠ some k → g ≠ k := by
    intro k hk hn e
    rcases hat with h | h
    · rw [e] at h; exact hn h
    · omega
  have hoB : (Value.slice (some ⟨g, 0, none⟩) (tl.length + 1) cap).ownBlock = some g := rfl
  have lv_lt : ∀ k, lv.ownBlock = some k → k < w.heap.size := fun k h => (S.hl.lt k h).2
  have xv_lt : ∀ k, b.xv.ownBlock = some k → k < w.heap.size := fun k h => (S.hx.lt k h).2
  refine ⟨?_, S.base, ?_, ?_, ?_, ?_, ?_, ?_, S.xG, S.lG, ?_, ?_, S.xlv, ?_⟩
  · exact (S.bk.same (hgr.block G hGl (fun e => S.tG e.symm))).set1 _
  · rw [List.length_append]
    exact own_setG hown (by rw [hoB]; intro e; injection e with e; exact hgG e)
  · exact own_setG (S.hx.kept hgr (ne_of_imp S.tx)) S.xG
  · exact own_setG (S.hl.kept hgr (ne_of_imp S.tlv)) S.lG
  · intro r hr
    refine (S.hf r hr).keep fun k j hk _ => ?_
    have h := S.hs r hr k hk
    rw [World.cell?_of_block (heap_setCell_other _ _ _ _ (by exact h.2.1)), World.cell?_of_block (hgr.block k h.1 (fun e => h.2.2.1 e.symm))]
  · intro r hr k hk
    have h := S.hs r hr k hk
    refine ⟨?_, h.2.1, ?_, h.2.2.2.1, h.2.2.2.2⟩
    · have := hgr.size
      simp only [World.setCell, Array.size_modify]
      omega
    · show (Value.slice (some ⟨g, 0, none⟩) (tl.length + 1) cap).ownBlock ≠ some k
      rw [hoB]; intro e; injection e with e; exact hfar k h.1 h.2.2.1 e
  · show (Value.slice (some ⟨g, 0, none⟩) (tl.length + 1) cap).ownBlock ≠ some G
    rw [hoB]; intro e; injection e with e; exact hgG e
  · intro k hk hx
    have e : g = k := by injection hk
    exact hfar k (xv_lt k hx) (fun h => S.tx k h hx) e
  · intro k hk hx
    have e : g = k := by injection hk
    exact hfar k (lv_lt k hx) (fun h => S.tlv k h hx) e
  · exact (S.bel.grown hgr S.sz (own_row_ge S.ht)).setCell (by exact S.base) _
/-- The book's list of marks has one more; the list is then in the book. -/
theorem StI.text {B : Nat} {w0 w : World} {G : Nat} {b : Bk} {tl : List Value} {xl : List ByteArray} {recs : List (Value × ByteArray)} {lv : Value} {nl : Nat} {ls : List Value} (S : StI B w0 w G b tl xl recs lv nl ls) {g cap : Nat} {w' : World} {o : Obj} {t : ByteArray} (hls : ls = List.replicate nl (.string t)) (hown : w'.ownsRow B 9 1 (.slice (some ⟨g, 0, none⟩) (xl.length + 1) cap) (xl.length + 1) (xl.map Value.string ++ [.string t]))
    (hgrow : (w.alloc o).grownBy w' b.xv.ownBlock) (hat : b.xv.ownBlock = some g ∨ g = (w.alloc o).heap.size) :
    StI B w0 (w'.setCell ⟨G, 2, none⟩ (.slice (some ⟨g, 0, none⟩) (xl.length + 1) cap)) G { b with xv := .slice (some ⟨g, 0, none⟩) (xl.length + 1) cap } tl (xl ++ [t]) (recs ++ [(lv, t)]) lv nl ls := by
  have hgr : w.grownBy w' b.xv.ownBlock := grown_trans (World.grownBy_alloc w o _) hgrow
  have hGl := S.bk.lt
  have has : (w.alloc o).heap.size = w.heap.size + 1 := by simp
  have hgG : g ≠ G := by
    rcases hat with h | h
    · intro e; rw [e] at h; exact S.xG h
    · omega
  have hfar : ∀ k, k < w.heap.size → b.xv.ownBlock ≠ some k → g ≠ k := by
    intro k hk hn e
    rcases hat with h | h
    · rw [e] at h; exact hn h
    · omega
  have hoB : (Value.slice (some ⟨g, 0, none⟩) (xl.length + 1) cap).ownBlock = some g := rfl
  have lv_lt : ∀ k, lv.ownBlock = some k → k < w.heap.size := fun k h => (S.hl.lt k h).2
  have tv_lt : ∀ k, b.tv.ownBlock = some k → k < w.heap.size := fun k h => (S.ht.lt k h).2
  have tx' : ∀ k, b.xv.ownBlock = some k → b.tv.ownBlock ≠ some k := fun k h h2 => S.tx k h2 h
  have hl2 : (w'.setCell ⟨G, 2, none⟩ (.slice (some ⟨g, 0, none⟩) (xl.length + 1) cap)).ownsRow B 9 1 lv nl ls := own_setG (S.hl.kept hgr (ne_of_imp S.xlv)) S.lG
  have hszz : w.heap.size ≤ (w'.setCell ⟨G, 2, none⟩ (.slice (some ⟨g, 0, none⟩) (xl.length + 1) cap)).heap.size := by
    have := hgr.size
    simp only [World.setCell, Array.size_modify]
    omega
  refine ⟨?_, S.base, ?_, ?_, hl2, ?_, ?_, S.tG, ?_, S.lG, ?_, S.tlv, ?_, ?_⟩
  · exact (S.bk.same (hgr.block G hGl (fun e => S.xG e.symm))).set2 _
  · exact own_setG (S.ht.kept hgr (ne_of_imp tx')) S.tG
  · rw [List.length_append, List.map_append]
    exact own_setG hown (by rw [hoB]; intro e; injection e with e; exact hgG e)
  · intro r hr
    rcases List.mem_append.1 hr with hr | hr
    · refine (S.hf r hr).keep fun k j hk _ => ?_
      have h := S.hs r hr k hk
      rw [World.cell?_of_block (heap_setCell_other _ _ _ _ (by exact h.2.1)), World.cell?_of_block (hgr.block k h.1 (fun e => h.2.2.2.1 e.symm))]
    · rw [List.mem_singleton.1 hr]
      rw [hls] at hl2
      exact Full.of_own hl2
  · intro r hr k hk
    rcases List.mem_append.1 hr with hr | hr
    · have h := S.hs r hr k hk
      refine ⟨Nat.lt_of_lt_of_le h.1 hszz, h.2.1, h.2.2.1, ?_, h.2.2.2.2⟩
      show (Value.slice (some ⟨g, 0, none⟩) (xl.length + 1) cap).ownBlock ≠ some k
      rw [hoB]; intro e; injection e with e; exact hfar k h.1 h.2.2.2.1 e
    · rw [List.mem_singleton.1 hr] at hk ⊢
      have hk' : lv.ownBlock = some k := hk
      have hkl := lv_lt k hk'
      refine ⟨Nat.lt_of_lt_of_le hkl hszz, fun e => S.lG (by rw [hk', e]), fun h => S.tlv k h hk', ?_, fun _ => Nat.le_of_eq (lenS_own hl2)⟩
      show (Value.slice (some ⟨g, 0, none⟩) (xl.length + 1) cap).ownBlock ≠ some k
      rw [hoB]; intro e; injection e with e; exact hfar k hkl (fun h => S.xlv k h hk') e
  · show (Value.slice (some ⟨g, 0, none⟩) (xl.length + 1) cap).ownBlock ≠ some G
    rw [hoB]; intro e; injection e with e; exact hgG e
  · intro k hk hx
    have e : g = k := by injection hx
    exact hfar k (tv_lt k hk) (fun h => S.tx k hk h) e
  · intro k hk hx
    have e : g = k := by injection hk
    exact hfar k (lv_lt k hx) (fun h => S.xlv k h hx) e
  · exact (S.bel.grown hgr S.sz (own_row_ge S.hx)).setCell (by exact S.base) _
/-- The list itself has one more. -/
theorem StI.grow {B : Nat} {w0 w : World} {G : Nat} {b : Bk} {tl : List Value} {xl : List ByteArray} {recs : List (Value × ByteArray)} {lv : Value} {nl : Nat} {ls : List Value} (S : StI B w0 w G b tl xl recs lv nl ls) {g cap : Nat} {w' : World} {o : Obj} {ls' : List Value} (hown : w'.ownsRow B 9 1 (.slice (some ⟨g, 0, none⟩) (nl + 1) cap) (nl + 1) ls')
    (hgrow : (w.alloc o).grownBy w' lv.ownBlock) (hat : lv.ownBlock = some g ∨ g = (w.alloc o).heap.size)
    (hkeep : ∀ k j, k < (w.alloc o).heap.size → (lv.ownBlock = some k → j < nl * 1) → w'.cell? ⟨k, j, none⟩ = (w.alloc o).cell? ⟨k, j, none⟩) :
    StI B w0 w' G b tl xl recs (.slice (some ⟨g, 0, none⟩) (nl + 1) cap) (nl + 1) ls' := by
  have hgr : w.grownBy w' lv.ownBlock := grown_trans (World.grownBy_alloc w o _) hgrow
  have hGl := S.bk.lt
  have has : (w.alloc o).heap.size = w.heap.size + 1 := by simp
  have hgG : g ≠ G := by
    rcases hat with h | h
    · intro e; rw [e] at h; exact S.lG h
    · omega
  have hfar : ∀ k, k < w.heap.size → lv.ownBlock ≠ some k → g ≠ k := by
    intro k hk hn e
    rcases hat with h | h
    · rw [e] at h; exact hn h
    · omega
  have hoB : (Value.slice (some ⟨g, 0, none⟩) (nl + 1) cap).ownBlock = some g := rfl
  have xv_lt : ∀ k, b.xv.ownBlock = some k → k < w.heap.size := fun k h => (S.hx.lt k h).2
  have tv_lt : ∀ k, b.tv.ownBlock = some k → k < w.heap.size := fun k h => (S.ht.lt k h).2
  refine ⟨S.bk.same (hgr.block G hGl (fun e => S.lG e.symm)), S.base, S.ht.kept hgr (ne_of_imp' S.tlv), S.hx.kept hgr (ne_of_imp' S.xlv), hown, ?_, ?_, S.tG, S.xG, ?_, S.tx, ?_, ?_, S.bel.grown hgr S.sz (own_row_ge S.hl)⟩
  · intro r hr
    refine (S.hf r hr).keep fun k j hk hj => ?_
    have h := S.hs r hr k hk
    rw [hkeep k j (by omega) (fun e => by have := h.2.2.2.2 e; omega)]
    exact World.cell?_of_block (Below.heap_alloc w o k h.1)
  · intro r hr k hk
    have h := S.hs r hr k hk
    refine ⟨Nat.lt_of_lt_of_le h.1 hgr.size, h.2.1, h.2.2.1, h.2.2.2.1, fun e => ?_⟩
    by_cases hv : lv.ownBlock = some k
    · have := h.2.2.2.2 hv; omega
    · exfalso
      have e' : g = k := by injection e
      exact hfar k h.1 hv e'
  · rw [hoB]; intro e; injection e with e; exact hgG e
  · intro k hk hx
    have e : g = k := by injection hx
    exact hfar k (tv_lt k hk) (S.tlv k hk) e
  · intro k hk hx
    have e : g = k := by injection hx
    exact hfar k (xv_lt k hk) (S.xlv k hk) e
/-- A text is written into the list (whose block no book has yet). -/
theorem StI.put {B : Nat} {w0 w : World} {G : Nat} {b : Bk} {tl : List Value} {xl : List ByteArray} {recs : List (Value × ByteArray)} {lv : Value} {nl : Nat} {ls : List Value} (S : StI B w0 w G b tl xl recs lv nl ls) {g cap i : Nat} {x : Value} (hlv : lv = .slice (some ⟨g, 0, none⟩) nl cap) (hnew : ∀ r ∈ recs, r.1.ownBlock ≠ some g) :
    StI B w0 (w.setCell ⟨g, i, none⟩ x) G b tl xl recs lv nl (ls.set i x) := by
  have hlb : lv.ownBlock = some g := by rw [hlv]; rfl
  have hgG : g ≠ G := fun e => S.lG (by rw [hlb, e])
  have hgr : w.grownBy (w.setCell ⟨g, i, none⟩ x) (some g) := grown_setCell (grown_refl w _) _ _ (.inl rfl)
  refine ⟨S.bk.same (heap_setCell_other _ _ _ _ (by exact fun e => hgG e.symm)), S.base, S.ht.kept hgr (.inr fun e => S.tlv g e hlb), S.hx.kept hgr (.inr fun e => S.xlv g e hlb), ?_, ?_, ?_, S.tG, S.xG, S.lG, S.tx, S.tlv, S.xlv, S.bel.setCell (by exact (S.hl.lt g hlb).1) _⟩
  · refine ⟨by rw [List.length_set]; exact S.hl.1, .inr ?_⟩
    rcases S.hl.2 with ⟨h, _⟩ | ⟨g', cap', cur, h, h1, h2, h3, h4, h5, h6⟩
    · rw [hlv] at h; cases h
    · rw [hlv] at h
      injection h with e1 _ e3
      injection e1 with e1
      injection e1 with e1
      subst e1 e3
      refine ⟨g, cap, cur.setIfInBounds i x, hlv, h1, heap_setCell_same w g i _ _ _ h2, h3, h4, by simpa using h5, ?_⟩
      rw [Array.toList_setIfInBounds, ← h6, List.take_set]
  · intro r hr
    refine (S.hf r hr).keep fun k j hk _ => ?_
    exact World.cell?_of_block (heap_setCell_other _ _ _ _ (by intro e; exact hnew r hr (by rw [hk]; exact congrArg some e)))
  · intro r hr k hk
    have h := S.hs r hr k hk
    exact ⟨by simpa [World.setCell] using h.1, h.2⟩
/-- Behind new blocks. -/
theorem StI.later {B : Nat} {w0 w : World} {G : Nat} {b : Bk} {tl : List Value} {xl : List ByteArray} {recs : List (Value × ByteArray)} {lv : Value} {nl : Nat} {ls : List Value} (S : StI B w0 w G b tl xl recs lv nl ls) {w' : World} (hg : w.grownBy w' none) : StI B w0 w' G b tl xl recs lv nl ls := by
  have hne : ∀ k : Nat, some k ≠ (none : Option Nat) := fun k h => by cases h
  have kept : ∀ v : Value, v.ownBlock = none ∨ v.ownBlock ≠ none := fun v => by cases v.ownBlock <;> simp
  refine ⟨S.bk.same (hg.block G S.bk.lt (hne G)), S.base, S.ht.kept hg (kept _), S.hx.kept hg (kept _), S.hl.kept hg (kept _), ?_, ?_, S.tG, S.xG, S.lG, S.tx, S.tlv, S.xlv, S.bel.grown hg S.sz (fun k h => by cases h)⟩
  · intro r hr
    exact (S.hf r hr).keep fun k j hk _ => World.cell?_of_block (hg.block k (S.hs r hr k hk).1 (hne k))
  · intro r hr k hk
    have h := S.hs r hr k hk
    exact ⟨Nat.lt_of_lt_of_le h.1 hg.size, h.2⟩
/-- Behind a change of the book's own block. -/
theorem StI.count {B : Nat} {w0 w : World} {G : Nat} {b : Bk} {tl : List Value} {xl : List ByteArray} {recs : List (Value × ByteArray)} {lv : Value} {nl : Nat} {ls : List Value} (S : StI B w0 w G b tl xl recs lv nl ls) {w' : World} (hg : w.grownBy w' (some G)) {n : Nat} (hB : BkAt w' G { b with n := n }) : StI B w0 w' G { b with n := n } tl xl recs lv nl ls := by
  refine ⟨hB, S.base, S.ht.kept hg (.inr S.tG), S.hx.kept hg (.inr S.xG), S.hl.kept hg (.inr S.lG), ?_, ?_, S.tG, S.xG, S.lG, S.tx, S.tlv, S.xlv, S.bel.grown hg S.sz (fun k h => by injection h with h; rw [← h]; exact S.base)⟩
  · intro r hr
    exact (S.hf r hr).keep fun k j hk _ => World.cell?_of_block (hg.block k (S.hs r hr k hk).1 (fun e => (S.hs r hr k hk).2.1 (by injection e)))
  · intro r hr k hk
    have h := S.hs r hr k hk
    exact ⟨Nat.lt_of_lt_of_le h.1 hg.size, h.2⟩
/-- The list is let go. -/
theorem StI.drop {B : Nat} {w0 w : World} {G : Nat} {b : Bk} {tl : List Value} {xl : List ByteArray} {recs : List (Value × ByteArray)} {lv : Value} {nl : Nat} {ls : List Value} (S : StI B w0 w G b tl xl recs lv nl ls) : StI B w0 w G b tl xl recs (.slice none 0 0) 0 [] := by
  refine ⟨S.bk, S.base, S.ht, S.hx, World.ownsRow_nil _ _ _ _, S.hf, ?_, S.tG, S.xG, (fun h => nomatch h), S.tx, (fun _ _ h => nomatch h), (fun _ _ h => nomatch h), S.bel⟩
  intro r hr k hk
  have h := S.hs r hr k hk
  exact ⟨h.1, h.2.1, h.2.2.1, h.2.2.2.1, fun h => nomatch h⟩
/-- A list is taken up whose block is not in the book. -/
theorem StI.take {B : Nat} {w0 w : World} {G : Nat} {b : Bk} {tl : List Value} {xl : List ByteArray} {recs : List (Value × ByteArray)} (S : StI B w0 w G b tl xl recs (.slice none 0 0) 0 []) {v : Value} {n : Nat} {xs : List Value} {N : Nat} (hN : B ≤ N) (hown : w.ownsRow N 9 1 v n xs)
    (hG : G < N) (ht : ∀ g, b.tv.ownBlock = some g → g < N) (hx : ∀ g, b.xv.ownBlock = some g → g < N) (hr : ∀ r ∈ recs, ∀ g, r.1.ownBlock = some g → g < N) : StI B w0 w G b tl xl recs v n xs := by
  have hge := own_row_ge hown
  refine ⟨S.bk, S.base, S.ht, S.hx, ?_, S.hf, ?_, S.tG, S.xG, fun h => by have := hge G h; omega, S.tx, fun k h h2 => by have := ht k h; have := hge k h2; omega, fun k h h2 => by have := hx k h; have := hge k h2; omega, S.bel⟩
  · refine ⟨hown.1, ?_⟩
    rcases hown.2 with h | ⟨g, cap, cur, h1, h2, h3⟩
    · exact .inl h
    · exact .inr ⟨g, cap, cur, h1, Nat.le_trans hN h2, h3⟩
  · intro r hrr k hk
    have h := S.hs r hrr k hk
    exact ⟨h.1, h.2.1, h.2.2.1, h.2.2.2.1, fun h2 => by have := hr r hrr k hk; have := hge k h2; omega⟩
/-- The book as it stands between the calls. -/
def BkI (B : Nat) (w0 w : World) (G : Nat) (b : Bk) (recs : List (Value × ByteArray)) : Prop := StI B w0 w G b (recs.map (·.1)) (recs.map (·.2)) recs (.slice none 0 0) 0 []
end Go.Proofs.Ytanfolfopalbeaa
