/- Plain mathematics of proofs by links: two chains that end alike, and part. -/
import Derived.Test.YtanfolfopalbeabDoorMath
namespace Go.Proofs.YtanfolfopalbeabDoor

theorem two_inj (a b : Nat) (ha : a < 65536) (hb : b < 65536) (h : two a = two b) : a = b := by
  unfold two at h
  simp only [List.cons.injEq, and_true] at h
  have h1 := congrArg UInt8.toNat h.1
  have h2 := congrArg UInt8.toNat h.2
  rw [UInt8.toNat_ofNat', UInt8.toNat_ofNat'] at h1 h2
  omega
theorem two_ne (a b : Nat) (ha : a < 65536) (hb : b < 65536) (h : a ≠ b) (p q : List UInt8) : two a ++ p ≠ two b ++ q := by
  intro he
  have h2 := congrArg (List.take 2) he
  rw [List.take_left' (two_length a), List.take_left' (two_length b)] at h2
  exact h (two_inj a b ha hb h2)

/-- Over what the links of entries are summed. -/
def txts : Nat → List (List UInt8) → List (List UInt8)
  | _, [] => []
  | v, e :: r => (two v ++ e) :: txts (lnk v e) r
theorem txts_snoc (l : List (List UInt8)) (e : List UInt8) : ∀ v, txts v (l ++ [e]) = txts v l ++ [two (last v l) ++ e] := by
  induction l with
  | nil => intro v; rfl
  | cons a r ih => intro v; simp only [List.cons_append, txts, last, ih]
theorem txts_length (l : List (List UInt8)) : ∀ v, (txts v l).length = l.length := by
  induction l with
  | nil => intro v; rfl
  | cons a r ih => intro v; simp only [txts, List.length_cons, ih]
theorem txts_append (a b : List (List UInt8)) : ∀ v, txts v (a ++ b) = txts v a ++ txts (last v a) b := by
  induction a with
  | nil => intro v; rfl
  | cons x r ih => intro v; simp only [List.cons_append, txts, last, ih]
theorem last_append (a b : List (List UInt8)) : ∀ v, last v (a ++ b) = last (last v a) b := by
  induction a with
  | nil => intro v; rfl
  | cons x r ih => intro v; exact ih _
theorem last_cut (es : List (List UInt8)) (i v : Nat) (hi : i < es.length) : last v es = last (lnk (last v (es.take i)) (es.getD i [])) (es.drop (i + 1)) := by
  have h1 : es = es.take i ++ (es.getD i [] :: es.drop (i + 1)) := by
    rw [List.getD_eq_getElem?_getD, List.getElem?_eq_getElem hi, Option.getD_some, ← List.drop_eq_getElem_cons hi, List.take_append_drop]
  have h2 := congrArg (last v) h1
  rw [last_append] at h2
  exact h2
theorem txts_cut (es : List (List UInt8)) (i v : Nat) (hi : i < es.length) : (txts v es).drop i = (two (last v (es.take i)) ++ es.getD i []) :: txts (lnk (last v (es.take i)) (es.getD i [])) (es.drop (i + 1)) := by
  have h1 : es = es.take i ++ (es.getD i [] :: es.drop (i + 1)) := by
    rw [List.getD_eq_getElem?_getD, List.getElem?_eq_getElem hi, Option.getD_some, ← List.drop_eq_getElem_cons hi, List.take_append_drop]
  have h2 := congrArg (txts v) h1
  rw [txts_append] at h2
  rw [h2, List.drop_left' (by rw [txts_length, List.length_take]; omega)]
  rfl

/-- Where two chains meet: by their sums alone. -/
def coll : List (List UInt8) → List (List UInt8) → List UInt8 → List UInt8 → List UInt8 × List UInt8
  | p :: ps, q :: qs, l, r => if wk l = wk r then (l, r) else coll ps qs (two (wk l) ++ p) (two (wk r) ++ q)
  | _, _, l, r => (l, r)
/-- The first place where two texts are different, and have the same sum. -/
def meet : List (List UInt8) → List (List UInt8) → Option (List UInt8 × List UInt8)
  | x :: xs, y :: ys => if x ≠ y ∧ wk x = wk y then some (x, y) else meet xs ys
  | _, _ => none
theorem coll_nil (qs : List (List UInt8)) (l r : List UInt8) : coll [] qs l r = (l, r) := by simp [coll]
theorem coll_same (ps qs : List (List UInt8)) (l r : List UInt8) (h : wk l = wk r) : coll ps qs l r = (l, r) := by
  cases ps with
  | nil => exact coll_nil _ _ _
  | cons p ps =>
    cases qs with
    | nil => simp [coll]
    | cons q qs => simp [coll, h]
theorem coll_next (p q : List UInt8) (ps qs : List (List UInt8)) (l r : List UInt8) (h : wk l ≠ wk r) : coll (p :: ps) (q :: qs) l r = coll ps qs (two (wk l) ++ p) (two (wk r) ++ q) := by
  simp only [coll]
  rw [if_neg h]

/-- Two chains that begin with different texts and end alike meet. -/
theorem coll_meets : ∀ (ps qs : List (List UInt8)) (l r : List UInt8), ps.length = qs.length → l ≠ r → last (wk l) ps = last (wk r) qs →
    (coll ps qs l r).1 ≠ (coll ps qs l r).2 ∧ wk (coll ps qs l r).1 = wk (coll ps qs l r).2 ∧ meet (l :: txts (wk l) ps) (r :: txts (wk r) qs) = some (coll ps qs l r) := by
  intro ps
  induction ps with
  | nil =>
    intro qs l r hl hne he
    have hq : qs = [] := List.eq_nil_of_length_eq_zero hl.symm
    subst hq
    rw [coll_nil]
    have hw : wk l = wk r := he
    exact ⟨hne, hw, by simp only [meet]; rw [if_pos ⟨hne, hw⟩]⟩
  | cons p ps ih =>
    intro qs l r hl hne he
    cases qs with
    | nil => cases hl
    | cons q qs =>
      by_cases hw : wk l = wk r
      · rw [coll_same _ _ _ _ hw]
        exact ⟨hne, hw, by simp only [meet]; rw [if_pos ⟨hne, hw⟩]⟩
      · rw [coll_next _ _ _ _ _ _ hw]
        have h1 := ih qs (two (wk l) ++ p) (two (wk r) ++ q) (by simpa using hl) (two_ne _ _ (wk_lt _) (wk_lt _) hw _ _) he
        refine ⟨h1.1, h1.2.1, ?_⟩
        have h2 := h1.2.2
        rw [meet, if_neg (fun h => hw h.2)]
        exact h2
end Go.Proofs.YtanfolfopalbeabDoor
