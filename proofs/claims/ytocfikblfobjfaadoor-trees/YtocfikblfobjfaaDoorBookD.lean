/- The book, as far as it holds digests: what stands while a list of them is put in, and between the calls. -/
import Derived.Test.YtocfikblfobjfaaDoorBook
import Derived.Test.YtocfikblfobjfaaDoorTreeClimb
namespace Go.Proofs.YtocfikblfobjfaaDoor
open Go.RowKit

def lenS : Value → Nat
  | .slice _ m _ => m
  | _ => 0
theorem dcells_set (ls : List (List UInt8)) (i : Nat) (x : List UInt8) (hi : i < ls.length) : dcells (ls.set i x) = dcells (ls.take i) ++ (bcells x ++ dcells (ls.drop (i + 1))) := by
  rw [List.set_eq_take_append_cons_drop, if_pos hi]
  simp [dcells]
/-- A list that reads as its mark all over. -/
def FullD (w : World) (v : Value) (m : List UInt8) : Prop :=
  m.length = 32 ∧ ∃ ao n cap, v = .slice ao n cap ∧ n ≤ cap ∧ cap ≤ maxLen ∧ (0 < n → ∃ g, ao = some ⟨g, 0, none⟩ ∧ ∀ i, i < n → w.rangeAt g (i * 32) (bcells m))
theorem FullD.keep {w w' : World} {v : Value} {m : List UInt8} (h : FullD w v m) (hk : ∀ g j, v.ownBlock = some g → j < lenS v * 32 → w'.cell? ⟨g, j, none⟩ = w.cell? ⟨g, j, none⟩) : FullD w' v m := by
  obtain ⟨h0, ao, n, cap, rfl, h1, h2, h3⟩ := h
  refine ⟨h0, ao, n, cap, rfl, h1, h2, fun hn => ?_⟩
  obtain ⟨g, rfl, hc⟩ := h3 hn
  refine ⟨g, rfl, fun i hi j u hu => ?_⟩
  have hj : j < 32 := by
    have := (List.getElem?_eq_some_iff.1 hu).1
    simpa [bcells, h0] using this
  rw [hk g (i * 32 + j) rfl (by simp only [lenS]; omega)]
  exact hc i hi j u hu
theorem FullD.of_own {w : World} {B : Nat} {e : TypeId} {v : Value} {n : Nat} {t : List UInt8} (ht : t.length = 32) (h : w.ownsRow B e 32 v n (dcells (List.replicate n t))) : FullD w v t := by
  have hD := digs_of_own (ps := List.replicate n t) (fun d hd => by rw [(List.mem_replicate.1 hd).2]; exact ht) h (by simp)
  rcases h.2 with ⟨rfl, rfl⟩ | ⟨g, cap, cur, rfl, _, _, h1, h2, _⟩
  · exact ⟨ht, none, 0, 0, rfl, Nat.le_refl _, by unfold maxLen; omega, fun h => absurd h (Nat.lt_irrefl 0)⟩
  · refine ⟨ht, some ⟨g, 0, none⟩, n, cap, rfl, h1, h2, fun _ => ⟨g, rfl, fun i hi => ?_⟩⟩
    have := digs_at hD i (by simpa using hi)
    rw [Nat.zero_add] at this
    simpa [List.getD, hi] using this
theorem lenS_own {w : World} {B : Nat} {e : TypeId} {s : Nat} {v : Value} {n : Nat} {xs : List Value} (h : w.ownsRow B e s v n xs) : lenS v = n := by
  rcases h.2 with ⟨rfl, rfl⟩ | ⟨g, cap, cur, rfl, _⟩ <;> rfl

/-- What stands while a list is put into the book. -/
structure StD (P : Nat → Prop) (B : Nat) (w0 w : World) (G : Nat) (b : Bk) (tl : List Value) (xl : List (List UInt8)) (recs : List (Value × List UInt8)) (lv : Value) (nl : Nat) (ls : List (List UInt8)) : Prop where
  bk : BkAt w G b
  base : B ≤ G
  ht : w.ownsRow B 50 1 b.dv tl.length tl
  hx : w.ownsRow B 31 32 b.ev xl.length (dcells xl)
  hl : w.ownsRow B 31 32 lv nl (dcells ls)
  hf : ∀ r ∈ recs, FullD w r.1 r.2
  hs : ∀ r ∈ recs, ∀ g, r.1.ownBlock = some g → g < w.heap.size ∧ g ≠ G ∧ b.dv.ownBlock ≠ some g ∧ b.ev.ownBlock ≠ some g ∧ (lv.ownBlock = some g → lenS r.1 ≤ nl)
  tG : b.dv.ownBlock ≠ some G
  xG : b.ev.ownBlock ≠ some G
  lG : lv.ownBlock ≠ some G
  tx : ∀ g, b.dv.ownBlock = some g → b.ev.ownBlock ≠ some g
  tlv : ∀ g, b.dv.ownBlock = some g → lv.ownBlock ≠ some g
  xlv : ∀ g, b.ev.ownBlock = some g → lv.ownBlock ≠ some g
  bel : Below B w0 w
  pr : ∀ k, P k → k < w.heap.size ∧ w.heap[k]? = w0.heap[k]? ∧ k ≠ G ∧ b.dv.ownBlock ≠ some k ∧ b.ev.ownBlock ≠ some k ∧ lv.ownBlock ≠ some k
theorem StD.sz {P : Nat → Prop} {B : Nat} {w0 w : World} {G : Nat} {b : Bk} {tl : List Value} {xl : List (List UInt8)} {recs : List (Value × List UInt8)} {lv : Value} {nl : Nat} {ls : List (List UInt8)} (S : StD P B w0 w G b tl xl recs lv nl ls) : B ≤ w.heap.size := Nat.le_of_lt (Nat.lt_of_le_of_lt S.base S.bk.lt)
theorem ne_of_imp {a c : Option Nat} (h : ∀ g, a = some g → c ≠ some g) : c = none ∨ c ≠ a := by
  cases c with
  | none => exact .inl rfl
  | some k => exact .inr fun e => h k e.symm rfl
theorem ne_of_imp' {a c : Option Nat} (h : ∀ g, a = some g → c ≠ some g) : a = none ∨ a ≠ c := by
  cases a with
  | none => exact .inl rfl
  | some k => exact .inr fun e => h k rfl e.symm
theorem own_setG {w : World} {B : Nat} {e : TypeId} {s : Nat} {v : Value} {n : Nat} {xs : List Value} (h : w.ownsRow B e s v n xs) {G i : Nat} {x : Value} (hv : v.ownBlock ≠ some G) : (w.setCell ⟨G, i, none⟩ x).ownsRow B e s v n xs :=
  h.kept (grown_setCell (grown_refl w (some G)) _ _ (.inl rfl)) (.inr hv)
/-- The book's list of lists has one more. -/
theorem StD.texts {P : Nat → Prop} {B : Nat} {w0 w : World} {G : Nat} {b : Bk} {tl : List Value} {xl : List (List UInt8)} {recs : List (Value × List UInt8)} {lv : Value} {nl : Nat} {ls : List (List UInt8)} (S : StD P B w0 w G b tl xl recs lv nl ls) {g cap : Nat} {w' : World} {o : Obj} {y : Value} (hown : w'.ownsRow B 50 1 (.slice (some ⟨g, 0, none⟩) (tl.length + 1) cap) (tl.length + 1) (tl ++ [y]))
    (hgrow : (w.alloc o).grownBy w' b.dv.ownBlock) (hat : b.dv.ownBlock = some g ∨ g = (w.alloc o).heap.size) :
    StD P B w0 (w'.setCell ⟨G, 3, none⟩ (.slice (some ⟨g, 0, none⟩) (tl.length + 1) cap)) G { b with dv := .slice (some ⟨g, 0, none⟩) (tl.length + 1) cap } (tl ++ [y]) xl recs lv nl ls := by
  have hgr : w.grownBy w' b.dv.ownBlock := grown_trans (World.grownBy_alloc w o _) hgrow
  have hGl := S.bk.lt
  have has : (w.alloc o).heap.size = w.heap.size + 1 := by simp
  have hgG : g ≠ G := by
    rcases hat with h | h
    · intro e; rw [e] at h; exact S.tG h
    · omega
  have hfar : ∀ k, k < w.heap.size → b.dv.ownBlock ≠ some k → g ≠ k := by
    intro k hk hn e
    rcases hat with h | h
    · rw [e] at h; exact hn h
    · omega
  have hoB : (Value.slice (some ⟨g, 0, none⟩) (tl.length + 1) cap).ownBlock = some g := rfl
  have lv_lt : ∀ k, lv.ownBlock = some k → k < w.heap.size := fun k h => (S.hl.lt k h).2
  have xv_lt : ∀ k, b.ev.ownBlock = some k → k < w.heap.size := fun k h => (S.hx.lt k h).2
  refine ⟨?_, S.base, ?_, ?_, ?_, ?_, ?_, ?_, S.xG, S.lG, ?_, ?_, S.xlv, ?_, ?_⟩
  · exact (S.bk.same (hgr.block G hGl (fun e => S.tG e.symm))).set3 _
  · rw [List.length_append]
    exact own_setG hown (by rw [hoB]; intro e; injection e with e; exact hgG e)
  · exact own_setG (S.hx.kept hgr (ne_of_imp S.tx)) S.xG
  · exact own_setG (S.hl.kept hgr (ne_of_imp S.tlv)) S.lG
  · intro r hr
    refine (S.hf r hr).keep fun k j hk _ => ?_
    have h := S.hs r hr k hk
    rw [World.cell?_of_block (heap_setCell_other _ _ _ _ (by exact h.2.1)), World.cell?_of_block (hgr.block k h.1 (fun e => h.2.2.1 e.symm))]
  · intro r hr k hk
    have h := S.hs r hr k hk
    refine ⟨?_, h.2.1, ?_, h.2.2.2.1, h.2.2.2.2⟩
    · have := hgr.size
      simp only [World.setCell, Array.size_modify]
      omega
    · show (Value.slice (some ⟨g, 0, none⟩) (tl.length + 1) cap).ownBlock ≠ some k
      rw [hoB]; intro e; injection e with e; exact hfar k h.1 h.2.2.1 e
  · show (Value.slice (some ⟨g, 0, none⟩) (tl.length + 1) cap).ownBlock ≠ some G
    rw [hoB]; intro e; injection e with e; exact hgG e
  · intro k hk hx
    have e : g = k := by injection hk
    exact hfar k (xv_lt k hx) (fun h => S.tx k h hx) e
  · intro k hk hx
    have e : g = k := by injection hk
    exact hfar k (lv_lt k hx) (fun h => S.tlv k h hx) e
  · exact (S.bel.grown hgr S.sz (own_row_ge S.ht)).setCell (by exact S.base) _
  · intro k hk
    obtain ⟨h1, h2, h3, h4, h5, h6⟩ := S.pr k hk
    refine ⟨?_, ?_, h3, ?_, h5, h6⟩
    · have := hgr.size
      simp only [World.setCell, Array.size_modify]
      omega
    · rw [heap_setCell_other _ _ _ _ (by exact h3), hgr.block k h1 (fun e => h4 e.symm)]
      exact h2
    · show (Value.slice (some ⟨g, 0, none⟩) (tl.length + 1) cap).ownBlock ≠ some k
      rw [hoB]; intro e; injection e with e; exact hfar k h1 h4 e
/-- The book's list of marks has one more; the list is then in the book. -/
theorem StD.text {P : Nat → Prop} {B : Nat} {w0 w : World} {G : Nat} {b : Bk} {tl : List Value} {xl : List (List UInt8)} {recs : List (Value × List UInt8)} {lv : Value} {nl : Nat} {ls : List (List UInt8)} (S : StD P B w0 w G b tl xl recs lv nl ls) {g cap : Nat} {w' : World} {o : Obj} {t : List UInt8} (hls : ls = List.replicate nl t) (ht32 : t.length = 32) (hown : w'.ownsRow B 31 32 (.slice (some ⟨g, 0, none⟩) (xl.length + 1) cap) (xl.length + 1) (dcells xl ++ bcells t))
    (hgrow : (w.alloc o).grownBy w' b.ev.ownBlock) (hat : b.ev.ownBlock = some g ∨ g = (w.alloc o).heap.size) :
    StD P B w0 (w'.setCell ⟨G, 4, none⟩ (.slice (some ⟨g, 0, none⟩) (xl.length + 1) cap)) G { b with ev := .slice (some ⟨g, 0, none⟩) (xl.length + 1) cap } tl (xl ++ [t]) (recs ++ [(lv, t)]) lv nl ls := by
  have hgr : w.grownBy w' b.ev.ownBlock := grown_trans (World.grownBy_alloc w o _) hgrow
  have hGl := S.bk.lt
  have has : (w.alloc o).heap.size = w.heap.size + 1 := by simp
  have hgG : g ≠ G := by
    rcases hat with h | h
    · intro e; rw [e] at h; exact S.xG h
    · omega
  have hfar : ∀ k, k < w.heap.size → b.ev.ownBlock ≠ some k → g ≠ k := by
    intro k hk hn e
    rcases hat with h | h
    · rw [e] at h; exact hn h
    · omega
  have hoB : (Value.slice (some ⟨g, 0, none⟩) (xl.length + 1) cap).ownBlock = some g := rfl
  have lv_lt : ∀ k, lv.ownBlock = some k → k < w.heap.size := fun k h => (S.hl.lt k h).2
  have tv_lt : ∀ k, b.dv.ownBlock = some k → k < w.heap.size := fun k h => (S.ht.lt k h).2
  have tx' : ∀ k, b.ev.ownBlock = some k → b.dv.ownBlock ≠ some k := fun k h h2 => S.tx k h2 h
  have hl2 : (w'.setCell ⟨G, 4, none⟩ (.slice (some ⟨g, 0, none⟩) (xl.length + 1) cap)).ownsRow B 31 32 lv nl (dcells ls) := own_setG (S.hl.kept hgr (ne_of_imp S.xlv)) S.lG
  have hszz : w.heap.size ≤ (w'.setCell ⟨G, 4, none⟩ (.slice (some ⟨g, 0, none⟩) (xl.length + 1) cap)).heap.size := by
    have := hgr.size
    simp only [World.setCell, Array.size_modify]
    omega
  refine ⟨?_, S.base, ?_, ?_, hl2, ?_, ?_, S.tG, ?_, S.lG, ?_, S.tlv, ?_, ?_, ?_⟩
  · exact (S.bk.same (hgr.block G hGl (fun e => S.xG e.symm))).set4 _
  · exact own_setG (S.ht.kept hgr (ne_of_imp tx')) S.tG
  · rw [List.length_append, dcells_snoc]
    exact own_setG hown (by rw [hoB]; intro e; injection e with e; exact hgG e)
  · intro r hr
    rcases List.mem_append.1 hr with hr | hr
    · refine (S.hf r hr).keep fun k j hk _ => ?_
      have h := S.hs r hr k hk
      rw [World.cell?_of_block (heap_setCell_other _ _ _ _ (by exact h.2.1)), World.cell?_of_block (hgr.block k h.1 (fun e => h.2.2.2.1 e.symm))]
    · rw [List.mem_singleton.1 hr]
      rw [hls] at hl2
      exact FullD.of_own ht32 hl2
  · intro r hr k hk
    rcases List.mem_append.1 hr with hr | hr
    · have h := S.hs r hr k hk
      refine ⟨Nat.lt_of_lt_of_le h.1 hszz, h.2.1, h.2.2.1, ?_, h.2.2.2.2⟩
      show (Value.slice (some ⟨g, 0, none⟩) (xl.length + 1) cap).ownBlock ≠ some k
      rw [hoB]; intro e; injection e with e; exact hfar k h.1 h.2.2.2.1 e
    · rw [List.mem_singleton.1 hr] at hk ⊢
      have hk' : lv.ownBlock = some k := hk
      have hkl := lv_lt k hk'
      refine ⟨Nat.lt_of_lt_of_le hkl hszz, fun e => S.lG (by rw [hk', e]), fun h => S.tlv k h hk', ?_, fun _ => Nat.le_of_eq (lenS_own hl2)⟩
      show (Value.slice (some ⟨g, 0, none⟩) (xl.length + 1) cap).ownBlock ≠ some k
      rw [hoB]; intro e; injection e with e; exact hfar k hkl (fun h => S.xlv k h hk') e
  · show (Value.slice (some ⟨g, 0, none⟩) (xl.length + 1) cap).ownBlock ≠ some G
    rw [hoB]; intro e; injection e with e; exact hgG e
  · intro k hk hx
    have e : g = k := by injection hx
    exact hfar k (tv_lt k hk) (fun h => S.tx k hk h) e
  · intro k hk hx
    have e : g = k := by injection hk
    exact hfar k (lv_lt k hx) (fun h => S.xlv k h hx) e
  · exact (S.bel.grown hgr S.sz (own_row_ge S.hx)).setCell (by exact S.base) _
  · intro k hk
    obtain ⟨h1, h2, h3, h4, h5, h6⟩ := S.pr k hk
    refine ⟨Nat.lt_of_lt_of_le h1 hszz, ?_, h3, h4, ?_, h6⟩
    · rw [heap_setCell_other _ _ _ _ (by exact h3), hgr.block k h1 (fun e => h5 e.symm)]
      exact h2
    · show (Value.slice (some ⟨g, 0, none⟩) (xl.length + 1) cap).ownBlock ≠ some k
      rw [hoB]; intro e; injection e with e; exact hfar k h1 h5 e
/-- The list itself has one more. -/
theorem StD.grow {P : Nat → Prop} {B : Nat} {w0 w : World} {G : Nat} {b : Bk} {tl : List Value} {xl : List (List UInt8)} {recs : List (Value × List UInt8)} {lv : Value} {nl : Nat} {ls : List (List UInt8)} (S : StD P B w0 w G b tl xl recs lv nl ls) {g cap : Nat} {w' : World} {o : Obj} {ls' : List (List UInt8)} (hown : w'.ownsRow B 31 32 (.slice (some ⟨g, 0, none⟩) (nl + 1) cap) (nl + 1) (dcells ls'))
    (hgrow : (w.alloc o).grownBy w' lv.ownBlock) (hat : lv.ownBlock = some g ∨ g = (w.alloc o).heap.size)
    (hkeep : ∀ k j, k < (w.alloc o).heap.size → (lv.ownBlock = some k → j < nl * 32) → w'.cell? ⟨k, j, none⟩ = (w.alloc o).cell? ⟨k, j, none⟩) :
    StD P B w0 w' G b tl xl recs (.slice (some ⟨g, 0, none⟩) (nl + 1) cap) (nl + 1) ls' := by
  have hgr : w.grownBy w' lv.ownBlock := grown_trans (World.grownBy_alloc w o _) hgrow
  have hGl := S.bk.lt
  have has : (w.alloc o).heap.size = w.heap.size + 1 := by simp
  have hgG : g ≠ G := by
    rcases hat with h | h
    · intro e; rw [e] at h; exact S.lG h
    · omega
  have hfar : ∀ k, k < w.heap.size → lv.ownBlock ≠ some k → g ≠ k := by
    intro k hk hn e
    rcases hat with h | h
    · rw [e] at h; exact hn h
    · omega
  have hoB : (Value.slice (some ⟨g, 0, none⟩) (nl + 1) cap).ownBlock = some g := rfl
  have xv_lt : ∀ k, b.ev.ownBlock = some k → k < w.heap.size := fun k h => (S.hx.lt k h).2
  have tv_lt : ∀ k, b.dv.ownBlock = some k → k < w.heap.size := fun k h => (S.ht.lt k h).2
  refine ⟨S.bk.same (hgr.block G hGl (fun e => S.lG e.symm)), S.base, S.ht.kept hgr (ne_of_imp' S.tlv), S.hx.kept hgr (ne_of_imp' S.xlv), hown, ?_, ?_, S.tG, S.xG, ?_, S.tx, ?_, ?_, S.bel.grown hgr S.sz (own_row_ge S.hl), ?_⟩
  · intro r hr
    refine (S.hf r hr).keep fun k j hk hj => ?_
    have h := S.hs r hr k hk
    rw [hkeep k j (by omega) (fun e => by have := h.2.2.2.2 e; omega)]
    exact World.cell?_of_block (Below.heap_alloc w o k h.1)
  · intro r hr k hk
    have h := S.hs r hr k hk
    refine ⟨Nat.lt_of_lt_of_le h.1 hgr.size, h.2.1, h.2.2.1, h.2.2.2.1, fun e => ?_⟩
    by_cases hv : lv.ownBlock = some k
    · have := h.2.2.2.2 hv; omega
    · exfalso
      have e' : g = k := by injection e
      exact hfar k h.1 hv e'
  · rw [hoB]; intro e; injection e with e; exact hgG e
  · intro k hk hx
    have e : g = k := by injection hx
    exact hfar k (tv_lt k hk) (S.tlv k hk) e
  · intro k hk hx
    have e : g = k := by injection hx
    exact hfar k (xv_lt k hk) (S.xlv k hk) e
  · intro k hk
    obtain ⟨h1, h2, h3, h4, h5, h6⟩ := S.pr k hk
    refine ⟨Nat.lt_of_lt_of_le h1 hgr.size, (hgr.block k h1 (fun e => h6 e.symm)).trans h2, h3, h4, h5, ?_⟩
    rw [hoB]; intro e; injection e with e; exact hfar k h1 h6 e
/-- A digest is written into the list (whose block no book has yet). -/
theorem StD.put {P : Nat → Prop} {B : Nat} {w0 w : World} {G : Nat} {b : Bk} {tl : List Value} {xl : List (List UInt8)} {recs : List (Value × List UInt8)} {lv : Value} {nl : Nat} {ls : List (List UInt8)} (S : StD P B w0 w G b tl xl recs lv nl ls) {g cap i : Nat} {x : List UInt8} (hx32 : x.length = 32) (hl32 : ∀ d ∈ ls, d.length = 32) (hi : i < ls.length) (hlv : lv = .slice (some ⟨g, 0, none⟩) nl cap) (hnew : ∀ r ∈ recs, r.1.ownBlock ≠ some g) :
    StD P B w0 (w.setCells g (i * 32) (bcells x)) G b tl xl recs lv nl (ls.set i x) := by
  have hlb : lv.ownBlock = some g := by rw [hlv]; rfl
  have hgG : g ≠ G := fun e => S.lG (by rw [hlb, e])
  have hgr : w.grownBy (w.setCells g (i * 32) (bcells x)) (some g) := setCells_grown g (.inl rfl) _ _ (grown_refl w _)
  have hbl : (bcells x).length = 32 := by simp [bcells, hx32]
  have hll := S.hl.1
  rw [dcells_length ls hl32] at hll
  refine ⟨S.bk.same (setCells_other2 _ _ (fun e => hgG e.symm) _ _ _), S.base, S.ht.kept hgr (.inr fun e => S.tlv g e hlb), S.hx.kept hgr (.inr fun e => S.xlv g e hlb), ?_, ?_, ?_, S.tG, S.xG, S.lG, S.tx, S.tlv, S.xlv, S.bel.grown hgr S.sz (fun k h => by injection h with h; rw [← h]; exact (S.hl.lt g hlb).1), fun k hk => by
    obtain ⟨h1, h2, h3, h4, h5, h6⟩ := S.pr k hk
    exact ⟨Nat.lt_of_lt_of_le h1 hgr.size, (setCells_other2 _ _ (fun e => h6 (by rw [hlb, e])) _ _ _).trans h2, h3, h4, h5, h6⟩⟩
  · refine ⟨by rw [dcells_length _ (fun d hd => (List.mem_or_eq_of_mem_set hd).elim (hl32 d) (fun e => by rw [e]; exact hx32)), List.length_set]; exact hll, .inr ?_⟩
    rcases S.hl.2 with ⟨h, _⟩ | ⟨g', cap', cur, h, h1, h2, h3, h4, h5, h6⟩
    · rw [hlv] at h; cases h
    · rw [hlv] at h
      injection h with e1 _ e3
      injection e1 with e1
      injection e1 with e1
      subst e1 e3
      have hcs : cur.toList.length = cap * 32 := by rw [Array.length_toList]; exact h5
      refine ⟨g, cap, _, hlv, h1, setCells_row2 g _ (bcells x) (i * 32) w cur h2 (by rw [hbl, h5]; omega), h3, h4, ?_, ?_⟩
      · simp only [List.size_toArray, List.length_append, List.length_take, List.length_drop]
        omega
      · have e2 : cur.toList.take (i * 32) = dcells (ls.take i) := by
          have e4 : (cur.toList.take (nl * 32)).take (i * 32) = (dcells ls).take (i * 32) := by rw [h6]
          rw [List.take_take, Nat.min_eq_left (by omega)] at e4
          rw [e4, dcells_split ls i, List.take_left' (by rw [dcells_length _ (fun d hd => hl32 d (List.mem_of_mem_take hd)), List.length_take]; omega)]
        have e5 : (cur.toList.drop (i * 32 + 32)).take (nl * 32 - (i * 32 + 32)) = dcells (ls.drop (i + 1)) := by
          have e4 : (cur.toList.take (nl * 32)).drop (i * 32 + 32) = (dcells ls).drop (i * 32 + 32) := by rw [h6]
          rw [List.drop_take] at e4
          rw [e4, dcells_split ls (i + 1), List.drop_left' (by rw [dcells_length _ (fun d hd => hl32 d (List.mem_of_mem_take hd)), List.length_take]; omega)]
        rw [hbl, dcells_set ls i x hi, ← e2, ← e5]
        have hA : (cur.toList.take (i * 32)).length = i * 32 := by rw [List.length_take]; omega
        rw [List.append_assoc, List.take_append, List.take_of_length_le (show (cur.toList.take (i * 32)).length ≤ nl * 32 by omega), hA, List.take_append, List.take_of_length_le (show (bcells x).length ≤ nl * 32 - i * 32 by omega), hbl, show nl * 32 - i * 32 - 32 = nl * 32 - (i * 32 + 32) by omega]
  · intro r hr
    refine (S.hf r hr).keep fun k j hk _ => ?_
    exact World.cell?_of_block (setCells_other2 _ _ (by intro e; exact hnew r hr (by rw [hk]; exact congrArg some e)) _ _ _)
  · intro r hr k hk
    have h := S.hs r hr k hk
    exact ⟨Nat.lt_of_lt_of_le h.1 hgr.size, h.2⟩
/-- Behind new blocks. -/
theorem StD.later {P : Nat → Prop} {B : Nat} {w0 w : World} {G : Nat} {b : Bk} {tl : List Value} {xl : List (List UInt8)} {recs : List (Value × List UInt8)} {lv : Value} {nl : Nat} {ls : List (List UInt8)} (S : StD P B w0 w G b tl xl recs lv nl ls) {w' : World} (hg : w.grownBy w' none) : StD P B w0 w' G b tl xl recs lv nl ls := by
  have hne : ∀ k : Nat, some k ≠ (none : Option Nat) := fun k h => by cases h
  have kept : ∀ v : Value, v.ownBlock = none ∨ v.ownBlock ≠ none := fun v => by cases v.ownBlock <;> simp
  refine ⟨S.bk.same (hg.block G S.bk.lt (hne G)), S.base, S.ht.kept hg (kept _), S.hx.kept hg (kept _), S.hl.kept hg (kept _), ?_, ?_, S.tG, S.xG, S.lG, S.tx, S.tlv, S.xlv, S.bel.grown hg S.sz (fun k h => by cases h), fun k hk => by
    obtain ⟨h1, h2, h3⟩ := S.pr k hk
    exact ⟨Nat.lt_of_lt_of_le h1 hg.size, (hg.block k h1 (hne k)).trans h2, h3⟩⟩
  · intro r hr
    exact (S.hf r hr).keep fun k j hk _ => World.cell?_of_block (hg.block k (S.hs r hr k hk).1 (hne k))
  · intro r hr k hk
    have h := S.hs r hr k hk
    exact ⟨Nat.lt_of_lt_of_le h.1 hg.size, h.2⟩
/-- Behind a change of the book's own block. -/
theorem StD.count {P : Nat → Prop} {B : Nat} {w0 w : World} {G : Nat} {b : Bk} {tl : List Value} {xl : List (List UInt8)} {recs : List (Value × List UInt8)} {lv : Value} {nl : Nat} {ls : List (List UInt8)} (S : StD P B w0 w G b tl xl recs lv nl ls) {w' : World} (hg : w.grownBy w' (some G)) {n : Nat} (hB : BkAt w' G { b with n := n }) : StD P B w0 w' G { b with n := n } tl xl recs lv nl ls := by
  refine ⟨hB, S.base, S.ht.kept hg (.inr S.tG), S.hx.kept hg (.inr S.xG), S.hl.kept hg (.inr S.lG), ?_, ?_, S.tG, S.xG, S.lG, S.tx, S.tlv, S.xlv, S.bel.grown hg S.sz (fun k h => by injection h with h; rw [← h]; exact S.base), fun k hk => by
    obtain ⟨h1, h2, h3⟩ := S.pr k hk
    exact ⟨Nat.lt_of_lt_of_le h1 hg.size, (hg.block k h1 (fun e => h3.1 (by injection e))).trans h2, h3⟩⟩
  · intro r hr
    exact (S.hf r hr).keep fun k j hk _ => World.cell?_of_block (hg.block k (S.hs r hr k hk).1 (fun e => (S.hs r hr k hk).2.1 (by injection e)))
  · intro r hr k hk
    have h := S.hs r hr k hk
    exact ⟨Nat.lt_of_lt_of_le h.1 hg.size, h.2⟩
/-- The list is let go. -/
theorem StD.drop {P : Nat → Prop} {B : Nat} {w0 w : World} {G : Nat} {b : Bk} {tl : List Value} {xl : List (List UInt8)} {recs : List (Value × List UInt8)} {lv : Value} {nl : Nat} {ls : List (List UInt8)} (S : StD P B w0 w G b tl xl recs lv nl ls) : StD P B w0 w G b tl xl recs (.slice none 0 0) 0 [] := by
  refine ⟨S.bk, S.base, S.ht, S.hx, World.ownsRow_nil _ _ _ _, S.hf, ?_, S.tG, S.xG, (fun h => nomatch h), S.tx, (fun _ _ h => nomatch h), (fun _ _ h => nomatch h), S.bel, fun k hk => by
    obtain ⟨h1, h2, h3, h4, h5, _⟩ := S.pr k hk
    exact ⟨h1, h2, h3, h4, h5, fun h => nomatch h⟩⟩
  intro r hr k hk
  have h := S.hs r hr k hk
  exact ⟨h.1, h.2.1, h.2.2.1, h.2.2.2.1, fun h => nomatch h⟩
/-- A list is taken up whose block is not in the book. -/
theorem StD.take {P : Nat → Prop} {B : Nat} {w0 w : World} {G : Nat} {b : Bk} {tl : List Value} {xl : List (List UInt8)} {recs : List (Value × List UInt8)} (S : StD P B w0 w G b tl xl recs (.slice none 0 0) 0 []) {v : Value} {n : Nat} {xs : List (List UInt8)} {N : Nat} (hN : B ≤ N) (hown : w.ownsRow N 31 32 v n (dcells xs))
    (hG : G < N) (ht : ∀ g, b.dv.ownBlock = some g → g < N) (hx : ∀ g, b.ev.ownBlock = some g → g < N) (hr : ∀ r ∈ recs, ∀ g, r.1.ownBlock = some g → g < N) (hp : ∀ k, P k → k < N) : StD P B w0 w G b tl xl recs v n xs := by
  have hge := own_row_ge hown
  refine ⟨S.bk, S.base, S.ht, S.hx, ?_, S.hf, ?_, S.tG, S.xG, fun h => by have := hge G h; omega, S.tx, fun k h h2 => by have := ht k h; have := hge k h2; omega, fun k h h2 => by have := hx k h; have := hge k h2; omega, S.bel, fun k hk => by
    obtain ⟨h1, h2, h3, h4, h5, _⟩ := S.pr k hk
    exact ⟨h1, h2, h3, h4, h5, fun h => by have := hge k h; have := hp k hk; omega⟩⟩
  · refine ⟨hown.1, ?_⟩
    rcases hown.2 with h | ⟨g, cap, cur, h1, h2, h3⟩
    · exact .inl h
    · exact .inr ⟨g, cap, cur, h1, Nat.le_trans hN h2, h3⟩
  · intro r hrr k hk
    have h := S.hs r hrr k hk
    exact ⟨h.1, h.2.1, h.2.2.1, h.2.2.2.1, fun h2 => by have := hr r hrr k hk; have := hge k h2; omega⟩
/-- The book as it stands between the calls. -/
def BkD (P : Nat → Prop) (B : Nat) (w0 w : World) (G : Nat) (b : Bk) (recs : List (Value × List UInt8)) : Prop := StD P B w0 w G b (recs.map (·.1)) (recs.map (·.2)) recs (.slice none 0 0) 0 []
end Go.Proofs.YtocfikblfobjfaaDoor
