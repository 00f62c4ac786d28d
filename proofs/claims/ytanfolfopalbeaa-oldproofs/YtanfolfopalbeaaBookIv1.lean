/- The book inside an object, between the calls: one kind's invariant, what begins a call of it, what a call leaves, what another kind's call keeps. -/
import Derived.Test.YtanfolfopalbeaaBookOne
namespace Go.Proofs.Ytanfolfopalbeaa
open Go.RowKit

/-- A block of the lists, of their marks, or of one of them. -/
def InB (tv xv : Value) (recs : List (Value × List Value)) (k : Nat) : Prop := tv.ownBlock = some k ∨ xv.ownBlock = some k ∨ ∃ r ∈ recs, r.1.ownBlock = some k
/-- A block that a call with the list lv leaves as it is. -/
def FreeB (w : World) (G : Nat) (tv xv : Value) (recs : List (Value × List Value)) (lv : Value) (k : Nat) : Prop := k < w.heap.size ∧ k ≠ G ∧ ¬ InB tv xv recs k ∧ lv.ownBlock ≠ some k
/-- What holds of a kind's lists between the calls. -/
structure BkV (K : Kd) (M : List Value → Prop) (B : Nat) (w : World) (G : Nat) (cs : Array Value) (tv xv : Value) (recs : List (Value × List Value)) : Prop where
  bk : ObK K w G cs tv xv
  base : B ≤ G
  ht : w.ownsRow B K.eT 1 tv (recs.map (·.1)).length (recs.map (·.1))
  hx : w.ownsRow B K.eL K.sz xv (recs.map (·.2)).length (fl (recs.map (·.2)))
  hf : ∀ r ∈ recs, FullG K.sz w r.1 r.2
  hs : ∀ r ∈ recs, ∀ g, r.1.ownBlock = some g → g < w.heap.size ∧ g ≠ G ∧ tv.ownBlock ≠ some g ∧ xv.ownBlock ≠ some g
  tG : tv.ownBlock ≠ some G
  xG : xv.ownBlock ≠ some G
  tx : ∀ g, tv.ownBlock = some g → xv.ownBlock ≠ some g
  mrk : ∀ r ∈ recs, M r.2
theorem BkV.start {K : Kd} {M : List Value → Prop} {B : Nat} {w : World} {G : Nat} {cs : Array Value} {tv xv : Value} {recs : List (Value × List Value)} (I : BkV K M B w G cs tv xv recs) {lv : Value} {nl : Nat} {ls : List (List Value)} (hl : w.ownsRow B K.eL K.sz lv nl (fl ls)) (hlG : lv.ownBlock ≠ some G) (hln : ∀ k, lv.ownBlock = some k → ¬ InB tv xv recs k) :
    StG K (FreeB w G tv xv recs lv) B w w G cs tv xv (recs.map (·.1)) (recs.map (·.2)) recs lv nl ls ∧ Marked M (FreeB w G tv xv recs lv) recs := by
  refine ⟨⟨I.bk, I.base, I.ht, I.hx, hl, I.hf, fun r hr g hg => ?_, I.tG, I.xG, hlG, I.tx, fun g h h2 => hln g h2 (.inl h), fun g h h2 => hln g h2 (.inr (.inl h)), Below.refl _ _, fun k hk => ?_⟩, fun r hr => ⟨I.mrk r hr, fun k hk h => hk.2.2.1 (.inr (.inr ⟨r, hr, h⟩))⟩⟩
  · obtain ⟨h1, h2, h3, h4⟩ := I.hs r hr g hg
    exact ⟨h1, h2, h3, h4, fun h => absurd (.inr (.inr ⟨r, hr, hg⟩)) (hln g h)⟩
  · exact ⟨hk.1, rfl, hk.2.1, fun h => hk.2.2.1 (.inl h), fun h => hk.2.2.1 (.inr (.inl h)), hk.2.2.2⟩
theorem StG.stop {K : Kd} {M : List Value → Prop} {P : Nat → Prop} {B : Nat} {w0 w : World} {G : Nat} {cs : Array Value} {tv xv : Value} {recs : List (Value × List Value)} (S : StG K P B w0 w G cs tv xv (recs.map (·.1)) (recs.map (·.2)) recs (.slice none 0 0) 0 []) (hm : Marked M P recs) :
    BkV K M B w G cs tv xv recs ∧ ∀ k, P k → k < w.heap.size ∧ w.heap[k]? = w0.heap[k]? ∧ ¬ InB tv xv recs k := by
  refine ⟨⟨S.bk, S.base, S.ht, S.hx, S.hf, fun r hr g hg => ?_, S.tG, S.xG, S.tx, fun r hr => (hm r hr).1⟩, fun k hk => ?_⟩
  · obtain ⟨h1, h2, h3, h4, _⟩ := S.hs r hr g hg
    exact ⟨h1, h2, h3, h4⟩
  · obtain ⟨h1, h2, _, h4, h5, _⟩ := S.pr k hk
    refine ⟨h1, h2, ?_⟩
    rintro (h | h | ⟨r, hr, h⟩)
    · exact h4 h
    · exact h5 h
    · exact (hm r hr).2 k hk h
theorem own_sameB {w w' : World} {B : Nat} {e : TypeId} {s : Nat} {v : Value} {n : Nat} {xs : List Value} (h : w.ownsRow B e s v n xs) (hk : ∀ k, v.ownBlock = some k → w'.heap[k]? = w.heap[k]?) : w'.ownsRow B e s v n xs := by
  obtain ⟨h1, h2⟩ := h
  refine ⟨h1, ?_⟩
  rcases h2 with h2 | ⟨g, cap, cur, rfl, h3, h4, h5⟩
  · exact .inl h2
  · exact .inr ⟨g, cap, cur, rfl, h3, (hk g rfl).trans h4, h5⟩
theorem cell_sameB {w w' : World} {g j : Nat} (h : w'.heap[g]? = w.heap[g]?) : w'.cell? ⟨g, j, none⟩ = w.cell? ⟨g, j, none⟩ := by
  exact World.cell?_of_block h
theorem BkV.other {K : Kd} {M : List Value → Prop} {B : Nat} {w : World} {G : Nat} {cs : Array Value} {tv xv : Value} {recs : List (Value × List Value)} (I : BkV K M B w G cs tv xv recs) {w' : World} {cs' : Array Value} (hob : ObK K w' G cs' tv xv) (hk : ∀ k, InB tv xv recs k → w'.heap[k]? = w.heap[k]?) (hsz : w.heap.size ≤ w'.heap.size) : BkV K M B w' G cs' tv xv recs := by
  refine ⟨hob, I.base, own_sameB I.ht fun k h => hk k (.inl h), own_sameB I.hx fun k h => hk k (.inr (.inl h)), fun r hr => (I.hf r hr).keep fun g j hg _ => cell_sameB (hk g (.inr (.inr ⟨r, hr, hg⟩))), fun r hr g hg => ?_, I.tG, I.xG, I.tx, I.mrk⟩
  obtain ⟨h1, h2⟩ := I.hs r hr g hg
  exact ⟨Nat.lt_of_lt_of_le h1 hsz, h2⟩
/-- A world that grew, and changed no block. -/
theorem BkV.later {K : Kd} {M : List Value → Prop} {B : Nat} {w : World} {G : Nat} {cs : Array Value} {tv xv : Value} {recs : List (Value × List Value)} (I : BkV K M B w G cs tv xv recs) {w' : World} (hb : Below w.heap.size w w') : BkV K M B w' G cs tv xv recs :=
  I.other (I.bk.same (hb.block G I.bk.lt)) (fun k h => hb.block k (by
    rcases h with h | h | ⟨r, hr, h⟩
    · exact (I.ht.lt k h).2
    · exact (I.hx.lt k h).2
    · exact (I.hs r hr k h).1)) hb.size
theorem BkV.inB_lt {K : Kd} {M : List Value → Prop} {B : Nat} {w : World} {G : Nat} {cs : Array Value} {tv xv : Value} {recs : List (Value × List Value)} (I : BkV K M B w G cs tv xv recs) {k : Nat} (h : InB tv xv recs k) : k < w.heap.size ∧ k ≠ G := by
  rcases h with h | h | ⟨r, hr, h⟩
  · exact ⟨(I.ht.lt k h).2, fun e => I.tG (by rw [← e]; exact h)⟩
  · exact ⟨(I.hx.lt k h).2, fun e => I.xG (by rw [← e]; exact h)⟩
  · exact ⟨(I.hs r hr k h).1, (I.hs r hr k h).2.1⟩
/-- Behind a call of one kind, another kind stands as it was, and apart. -/
theorem BkV.beside {KA KB : Kd} {M : List Value → Prop} {B : Nat} {w : World} {G o n : Nat} {cs : Array Value} {tA xA tB xB : Value} {rA rB : List (Value × List Value)} {lv : Value} (I : BkV KB M B w G cs tB xB rB) (hty : KB.ty = KA.ty) (h1 : KB.i1 ≠ o ∧ KB.i1 ≠ KA.i1 ∧ KB.i1 ≠ KA.i2) (h2 : KB.i2 ≠ o ∧ KB.i2 ≠ KA.i1 ∧ KB.i2 ≠ KA.i2)
    {w' : World} {cs' : Array Value} {tA' xA' : Value} {rA' : List (Value × List Value)} (hob : ObK KA w' G cs' tA' xA') (hc : CsK KA o cs cs' n) (hfree : ∀ k, FreeB w G tA xA rA lv k → k < w'.heap.size ∧ w'.heap[k]? = w.heap[k]? ∧ ¬ InB tA' xA' rA' k) (hdis : ∀ k, InB tB xB rB k → ¬ InB tA xA rA k) (hlv : ∀ k, InB tB xB rB k → lv.ownBlock ≠ some k) (hsz : w.heap.size ≤ w'.heap.size) :
    BkV KB M B w' G cs' tB xB rB ∧ ∀ k, InB tB xB rB k → ¬ InB tA' xA' rA' k := by
  have hF : ∀ k, InB tB xB rB k → FreeB w G tA xA rA lv k := fun k hk => ⟨(I.inB_lt hk).1, (I.inB_lt hk).2, hdis k hk, hlv k hk⟩
  refine ⟨I.other ⟨?_, ?_, ?_, I.bk.2.2.2⟩ (fun k hk => (hfree k (hF k hk)).2.1) hsz, fun k hk => (hfree k (hF k hk)).2.2⟩
  · rw [hty]; exact hob.1
  · rw [hc.other _ h1.1 h1.2.1 h1.2.2]; exact I.bk.2.1
  · rw [hc.other _ h2.1 h2.2.1 h2.2.2]; exact I.bk.2.2.1
end Go.Proofs.Ytanfolfopalbeaa
