/- Lists are put into the book, of whatever kind: the mark's own row beside them. -/
import Derived.Test.YtanfolfopalbeaaDoorMarkO
import Derived.Deep.RegionHeld3
namespace Go.Proofs.YtanfolfopalbeaaDoor
open Go.RowKit

theorem put_grown (w : World) (o : Obj) (cs : Array Value) : w.grownBy ((w.alloc o).setRow w.heap.size cs) none :=
  ⟨rfl, rfl, rfl, by rw [setRow_size]; simp, fun k hk _ => by rw [setRow_other _ _ _ _ (by omega)]; exact heap_alloc_old _ _ hk⟩
theorem one_new (w : World) (x : Nat) (v : Value) (t : TypeId) (h : x = w.heap.size) : ∀ j u, [v][j]? = some u → (w.alloc (.cells #[v] t)).cell? ((⟨x, 0, none⟩ : Addr).add j) = some u := by
  subst h
  exact cell_one_new _ _ _
theorem size_set (w : World) (a : Addr) (v : Value) : w.heap.size = (w.setCell a v).heap.size := by simp [World.setCell]
theorem one_slc (a : Option Addr) (n c : Nat) : ∀ u ∈ [Value.slice a n c], u.oneCell' = true := by intro u hu; rw [List.mem_singleton.1 hu]; rfl
theorem at_app (i : Nat) {P : Program} {ops : Array Oper} {rest : List Oper} {Q : Exit → Act → World → Prop} {a : Act} {w : World} {y : Operand} {ts : Array TypeId} {d : Option Tmp} {t : TypeId} {pos : String} {af : Array Edge} {g : Option (Nat × Bool)}
    (h : wpList P ops Q ({ dst := d, op := .call { callee := .builtin .append, args := #[.tmp i, y], argTypes := ts }, type := t, pos := pos, after := af, guard := g } :: rest) a w) : wpList P ops Q ({ dst := d, op := .call { callee := .builtin .append, args := #[.tmp i, y], argTypes := ts }, type := t, pos := pos, after := af, guard := g } :: rest) a w := h
theorem fill_el (x : List Value) (ls : List (List Value)) (i : Nat) (h : i < ls.length) : (List.replicate i x ++ ls.drop i).set i x = List.replicate (i + 1) x ++ ls.drop (i + 1) := by
  rw [List.set_append_right _ _ (by rw [List.length_replicate]; omega), List.length_replicate, Nat.sub_self, List.drop_eq_getElem_cons h, List.set_cons_zero, List.replicate_succ', List.append_assoc]
  rfl
theorem range_grown {w w' : World} {r : Option Nat} {R o : Nat} {cs : List Value} (h : w.rangeAt R o cs) (hg : w.grownBy w' r) (hr : r ≠ some R) : w'.rangeAt R o cs := fun j v hv => by
  have := h j v hv
  rw [World.cell?_of_block (hg.block R (cell_lt this) (fun e => hr e.symm))]
  exact this

/-- A mark's own row stands beside the lists. -/
theorem StG.add {K : Kd} {P : Nat → Prop} {B : Nat} {w0 w : World} {G : Nat} {cs : Array Value} {tv xv : Value} {tl : List Value} {xl : List (List Value)} {recs : List (Value × List Value)} {lv : Value} {nl : Nat} {ls : List (List Value)} (S : StG K P B w0 w G cs tv xv tl xl recs lv nl ls) {R : Nat} {t : List Value} (ht : t.length = K.sz) (hK : 0 < K.sz) (hR : w.rangeAt R 0 t) (hG : R ≠ G) (hd : tv.ownBlock ≠ some R) (he : xv.ownBlock ≠ some R) (hl : lv.ownBlock ≠ some R) :
    StG K P B w0 w G cs tv xv tl xl ((.slice (some ⟨R, 0, none⟩) 1 1, t) :: recs) lv nl ls := by
  refine ⟨S.bk, S.base, S.ht, S.hx, S.hl, ?_, ?_, S.tG, S.xG, S.lG, S.tx, S.tlv, S.xlv, S.bel, S.pr⟩
  · intro r hr
    rcases List.mem_cons.1 hr with rfl | hr
    · refine ⟨ht, _, 1, 1, rfl, Nat.le_refl _, by unfold maxLen; omega, fun _ => ⟨R, rfl, fun i hi => ?_⟩⟩
      obtain rfl : i = 0 := by omega
      rw [Nat.zero_mul]
      exact hR
    · exact S.hf r hr
  · intro r hr g hg
    rcases List.mem_cons.1 hr with rfl | hr
    · have e : R = g := by injection hg
      subst e
      refine ⟨?_, hG, hd, he, fun h => absurd h hl⟩
      have h0 : 0 < t.length := by omega
      exact cell_lt (hR 0 _ (List.getElem?_eq_getElem h0))
    · exact S.hs r hr g hg
theorem StG.sub {K : Kd} {P : Nat → Prop} {B : Nat} {w0 w : World} {G : Nat} {cs : Array Value} {tv xv : Value} {tl : List Value} {xl : List (List Value)} {q : Value × List Value} {recs : List (Value × List Value)} {lv : Value} {nl : Nat} {ls : List (List Value)} (S : StG K P B w0 w G cs tv xv tl xl (q :: recs) lv nl ls) : StG K P B w0 w G cs tv xv tl xl recs lv nl ls :=
  ⟨S.bk, S.base, S.ht, S.hx, S.hl, fun r hr => S.hf r (List.mem_cons_of_mem _ hr), fun r hr => S.hs r (List.mem_cons_of_mem _ hr), S.tG, S.xG, S.lG, S.tx, S.tlv, S.xlv, S.bel, S.pr⟩
theorem StG.mark {K : Kd} {P : Nat → Prop} {B : Nat} {w0 w : World} {G : Nat} {cs : Array Value} {tv xv : Value} {tl : List Value} {xl : List (List Value)} {R : Nat} {t : List Value} {recs : List (Value × List Value)} {lv : Value} {nl : Nat} {ls : List (List Value)} (S : StG K P B w0 w G cs tv xv tl xl ((.slice (some ⟨R, 0, none⟩) 1 1, t) :: recs) lv nl ls) : w.rangeAt R 0 t := by
  obtain ⟨_, ao, n, cap, he, _, _, h3⟩ := S.hf _ (List.mem_cons_self ..)
  injection he with e1 e2 e3
  subst e1 e2 e3
  obtain ⟨g, hg, hc⟩ := h3 (by omega)
  have e : R = g := by injection hg with hg; injection hg
  subst e
  have := hc 0 (by omega)
  rwa [Nat.zero_mul] at this
theorem StG.markE {K : Kd} {P : Nat → Prop} {B : Nat} {w0 w : World} {G : Nat} {cs : Array Value} {tv xv : Value} {tl : List Value} {xl : List (List Value)} {R : Nat} {t : List Value} {recs : List (Value × List Value)} {lv : Value} {nl : Nat} {ls : List (List Value)} (S : StG K P B w0 w G cs tv xv tl xl ((.slice (some ⟨R, 0, none⟩) 1 1, t) :: recs) lv nl ls) : xv.ownBlock ≠ some R :=
  (S.hs _ (List.mem_cons_self ..) R rfl).2.2.2.1
theorem StG.room {K : Kd} {P : Nat → Prop} {B : Nat} {w0 w : World} {G : Nat} {cs : Array Value} {tv xv : Value} {tl : List Value} {xl : List (List Value)} {recs : List (Value × List Value)} {lv : Value} {nl : Nat} {ls : List (List Value)} (S : StG K P B w0 w G cs tv xv tl xl recs lv nl ls) {g cap i : Nat} (hlv : lv = .slice (some ⟨g, 0, none⟩) nl cap) (hi : i < nl) : w.there g (i * K.sz) K.sz := by
  rcases S.hl.2 with ⟨h, _⟩ | ⟨g', cap', cur, h, h1, h2, h3, h4, h5, h6⟩
  · rw [hlv] at h; cases h
  · rw [hlv] at h
    injection h with e1 _ e3
    injection e1 with e1
    injection e1 with e1
    subst e1 e3
    intro j hj
    refine ⟨?_, frozen_of_row w g _ _ _ h2⟩
    have hm := mul_at hi hj
    have hcm : nl * K.sz ≤ cap * K.sz := Nat.mul_le_mul_right _ h3
    rw [cell_of_row w g _ _ _ _ h2, Array.getElem?_eq_getElem (by omega)]
    rfl

theorem bq_lenG (n : Nat) (h : n ≤ 1099511627780) : n + 1 ≤ maxLen ∧ (n + 1) * 24 ≤ 140737488355328 ∧ (n + 1) * 32 ≤ 140737488355328 ∧ (n + 1) * 48 ≤ 140737488355328 ∧ (n + 1) * 16 ≤ 140737488355328 := ⟨by unfold maxLen; omega, by omega, by omega, by omega, by omega⟩
/-- What of the object's cells a call changed. -/
structure CsK (K : Kd) (o : Nat) (cs cs' : Array Value) (n : Nat) : Prop where
  other : ∀ j, j ≠ o → j ≠ K.i1 → j ≠ K.i2 → cs'[j]? = cs[j]?
  num : cs'[o]? = some (.int .i64 (n : Int))
theorem CsK.set1 {K : Kd} {o : Nat} {cs cs' : Array Value} {n : Nat} (h : CsK K o cs cs' n) (ho : o ≠ K.i1) (x : Value) : CsK K o cs (cs'.setIfInBounds K.i1 x) n :=
  ⟨fun j h1 h2 h3 => by rw [Array.getElem?_setIfInBounds, if_neg (fun e => h2 e.symm)]; exact h.other j h1 h2 h3, by rw [Array.getElem?_setIfInBounds, if_neg (fun e => ho e.symm)]; exact h.num⟩
theorem CsK.set2 {K : Kd} {o : Nat} {cs cs' : Array Value} {n : Nat} (h : CsK K o cs cs' n) (ho : o ≠ K.i2) (x : Value) : CsK K o cs (cs'.setIfInBounds K.i2 x) n :=
  ⟨fun j h1 h2 h3 => by rw [Array.getElem?_setIfInBounds, if_neg (fun e => h3 e.symm)]; exact h.other j h1 h2 h3, by rw [Array.getElem?_setIfInBounds, if_neg (fun e => ho e.symm)]; exact h.num⟩
theorem CsK.start {K : Kd} {o : Nat} {cs : Array Value} {n : Nat} {v : Value} (h : cs[o]? = some v) : CsK K o cs (cs.setIfInBounds o (.int .i64 (n : Int))) n :=
  ⟨fun j h1 _ _ => by rw [Array.getElem?_setIfInBounds, if_neg (fun e => h1 e.symm)], by rw [Array.getElem?_setIfInBounds, if_pos rfl, if_pos (Array.getElem?_eq_some_iff.1 h).1]⟩
theorem ObK.num {K : Kd} {w w' : World} {G o n : Nat} {cs : Array Value} {tv xv : Value} (h : ObK K w G cs tv xv) (hw : w'.heap[G]? = some (.cells (cs.setIfInBounds o (.int .i64 (n : Int))) K.ty (0, 0))) (h1 : o ≠ K.i1) (h2 : o ≠ K.i2) : ObK K w' G (cs.setIfInBounds o (.int .i64 (n : Int))) tv xv :=
  ⟨hw, by rw [Array.getElem?_setIfInBounds, if_neg h1]; exact h.2.1, by rw [Array.getElem?_setIfInBounds, if_neg h2]; exact h.2.2.1, h.2.2.2⟩
/-- Every list of the book has a mark of a known form, and lies in no block of P. -/
def Marked (M : List Value → Prop) (P : Nat → Prop) (l : List (Value × List Value)) : Prop := ∀ r ∈ l, M r.2 ∧ ∀ k, P k → r.1.ownBlock ≠ some k
theorem Marked.snoc {M : List Value → Prop} {P : Nat → Prop} {l : List (Value × List Value)} (h : Marked M P l) {v : Value} {t : List Value} (ht : M t) (hv : ∀ k, P k → v.ownBlock ≠ some k) : Marked M P (l ++ [(v, t)]) := by
  intro r hr
  rcases List.mem_append.1 hr with hr | hr
  · exact h r hr
  · rw [List.mem_singleton.1 hr]; exact ⟨ht, hv⟩
end Go.Proofs.YtanfolfopalbeaaDoor
