import Derived.Test.YtanfolfopalbeaaDoorKeep2
namespace Go.Proofs.YtanfolfopalbeaaDoor
open Go.RowKit

/-- A frame but for its last byte. -/
def fb (v : Nat) (e : List UInt8) : List UInt8 := UInt8.ofNat e.length :: (e ++ [UInt8.ofNat (lnk v e / 256)])
def lo (v : Nat) (e : List UInt8) : UInt8 := UInt8.ofNat (lnk v e % 256)
theorem frm_split (v : Nat) (e : List UInt8) : frm v e = fb v e ++ [lo v e] := by simp [frm, fb, lo, two]
theorem fb_length (v : Nat) (e : List UInt8) : (fb v e).length = e.length + 2 := by simp [fb]
theorem ofNat_toNat (n : Nat) (h : n ≤ 20) : (UInt8.ofNat n).toNat = n := by rw [UInt8.toNat_ofNat']; omega

theorem rf_ok (v : Nat) (e r : List UInt8) (h : e.length ≤ 20) : rfErr (frm v e ++ r) v = 0 ∧ rfEnt (frm v e ++ r) v = e ∧ rfLnk (frm v e ++ r) v = lnk v e := by
  have hn := ofNat_toNat e.length h
  have e1 : frm v e ++ r = UInt8.ofNat e.length :: (e ++ (two (lnk v e) ++ r)) := by simp [frm]
  have he : rfErr (frm v e ++ r) v = 0 := by
    rw [e1]
    simp only [rfErr]
    rw [hn, if_neg (by rw [List.length_append, List.length_append, two_length]; omega), if_pos]
    rw [List.drop_left, List.take_left, List.take_left' (two_length _)]
  have hE : rfEnt (frm v e ++ r) v = e := by
    unfold rfEnt
    rw [if_pos he, e1]
    simp only [List.drop_succ_cons, List.drop_zero, List.headD_cons]
    rw [hn, List.take_left]
  refine ⟨he, hE, ?_⟩
  unfold rfLnk
  rw [if_pos he, hE]
theorem rf_badlink (v : Nat) (e r : List UInt8) (b : UInt8) (h : e.length ≤ 20) (hb : b ≠ lo v e) : rfErr (fb v e ++ [b] ++ r) v = 4 := by
  have hn := ofNat_toNat e.length h
  have e1 : fb v e ++ [b] ++ r = UInt8.ofNat e.length :: (e ++ ([UInt8.ofNat (lnk v e / 256), b] ++ r)) := by simp [fb]
  rw [e1]
  simp only [rfErr]
  rw [hn, if_neg (by rw [List.length_append, List.length_append]; simp; omega), if_neg]
  rw [List.drop_left, List.take_left, List.take_left' (by rfl)]
  intro hh
  simp only [two, List.cons.injEq, and_true, true_and] at hh
  exact hb hh
theorem rf_cutoff (v : Nat) (e : List UInt8) (h : e.length ≤ 20) : rfErr (fb v e) v = 3 := by
  have hn := ofNat_toNat e.length h
  unfold fb
  simp only [rfErr]
  rw [hn, if_pos (Or.inr (by simp))]

/-- Good frames are read, whatever stands behind them. -/
theorem rd_good (es : List (List UInt8)) (rest : List UInt8) (hes : ∀ e ∈ es, e.length ≤ 20) :
    ∀ (f k v : Nat), (olog v es ++ rest).length ≤ f → k + es.length ≤ 100 → ∃ f', rest.length ≤ f' ∧ rd f k v (olog v es ++ rest) = (es ++ (rd f' (k + es.length) (last v es) rest).1, (rd f' (k + es.length) (last v es) rest).2) := by
  induction es with
  | nil => intro f k v hf _; exact ⟨f, by simpa [olog] using hf, by simp [olog, last]⟩
  | cons e r ih =>
    intro f k v hf hk
    have he := hes e (by simp)
    obtain ⟨h1, h2, h3⟩ := rf_ok v e (olog (lnk v e) r ++ rest) he
    have e0 : olog v (e :: r) ++ rest = frm v e ++ (olog (lnk v e) r ++ rest) := by simp [olog]
    rw [e0] at hf ⊢
    rw [List.length_append, frm_length] at hf
    simp only [List.length_cons] at hk
    cases f with
    | zero => omega
    | succ f =>
      have hne : frm v e ++ (olog (lnk v e) r ++ rest) ≠ [] := by
        intro h
        have := congrArg List.length h
        rw [List.length_append, frm_length] at this
        simp at this
      rw [rd_step f k v _ hne (by omega) h1, h2, h3]
      have hd : (frm v e ++ (olog (lnk v e) r ++ rest)).drop (3 + e.length) = olog (lnk v e) r ++ rest := List.drop_left' (by rw [frm_length]; omega)
      rw [hd]
      obtain ⟨f', hf', hrd⟩ := ih (fun x hx => hes x (by simp [hx])) f (k + 1) (lnk v e) (by omega) (by omega)
      refine ⟨f', hf', ?_⟩
      rw [hrd, show k + 1 + r.length = k + (e :: r).length by simp; omega]
      rfl

theorem rdOld_short (l : List UInt8) (h : l.length ≤ 2300) : rdOld l = rd l.length 0 0 l := by unfold rdOld; rw [if_neg (by omega)]
theorem read_back (es : List (List UInt8)) (hes : ∀ e ∈ es, e.length ≤ 20) (hn : es.length ≤ 100) : rdOld (olog 0 es) = (es, 0, 0) := by
  have hl := olog_length_le es hes 0
  rw [rdOld_short _ (by omega)]
  obtain ⟨f', _, h⟩ := rd_good es [] hes (olog 0 es).length 0 0 (by simp) (by omega)
  rw [List.append_nil] at h
  rw [h, rd_end, List.append_nil]

/-- The text of a log around one of its frames. -/
theorem olog_at (es : List (List UInt8)) : ∀ (k v : Nat) (hk : k < es.length), ∃ R, olog v es = olog v (es.take k) ++ frm (last v (es.take k)) es[k] ++ R := by
  induction es with
  | nil => intro k v hk; simp at hk
  | cons e r ih =>
    intro k v hk
    cases k with
    | zero => exact ⟨olog (lnk v e) r, by simp [olog, last]⟩
    | succ k =>
      obtain ⟨R, hR⟩ := ih k (lnk v e) (by simpa using hk)
      exact ⟨R, by simp only [olog, List.take_succ_cons, last, List.getElem_cons_succ, hR, List.append_assoc]⟩
theorem read_link (es : List (List UInt8)) (hes : ∀ e ∈ es, e.length ≤ 20) (hn : es.length ≤ 100) (k : Nat) (hk : k < es.length) (R : List UInt8) (b : UInt8)
    (hl : (olog 0 (es.take k) ++ fb (last 0 (es.take k)) es[k] ++ [b] ++ R).length ≤ 2300) (hb : b ≠ lo (last 0 (es.take k)) es[k]) :
    rdOld (olog 0 (es.take k) ++ fb (last 0 (es.take k)) es[k] ++ [b] ++ R) = (es.take k, 4, k) := by
  rw [rdOld_short _ hl]
  have htl : (es.take k).length = k := by rw [List.length_take]; omega
  have ea : olog 0 (es.take k) ++ fb (last 0 (es.take k)) es[k] ++ [b] ++ R = olog 0 (es.take k) ++ (fb (last 0 (es.take k)) es[k] ++ [b] ++ R) := by simp
  rw [ea]
  obtain ⟨f', hf', h⟩ := rd_good (es.take k) (fb (last 0 (es.take k)) es[k] ++ [b] ++ R) (fun e he => hes e (List.mem_of_mem_take he)) _ 0 0 (Nat.le_refl _) (by omega)
  rw [h, htl, Nat.zero_add]
  have hbad := rf_badlink (last 0 (es.take k)) es[k] R b (hes _ (List.getElem_mem hk)) hb
  have hne : fb (last 0 (es.take k)) es[k] ++ [b] ++ R ≠ [] := by simp
  cases f' with
  | zero =>
    rw [List.length_append, List.length_append, fb_length] at hf'
    omega
  | succ f' => rw [rd_bad f' k _ _ hne (by omega) (by rw [hbad]; decide), hbad, List.append_nil]
theorem read_cut (es : List (List UInt8)) (hes : ∀ e ∈ es, e.length ≤ 20) (hn : es.length ≤ 100) (k : Nat) (hk : k < es.length)
    (hl : (olog 0 (es.take k) ++ fb (last 0 (es.take k)) es[k]).length ≤ 2300) :
    rdOld (olog 0 (es.take k) ++ fb (last 0 (es.take k)) es[k]) = (es.take k, 3, k) := by
  rw [rdOld_short _ hl]
  have htl : (es.take k).length = k := by rw [List.length_take]; omega
  obtain ⟨f', hf', h⟩ := rd_good (es.take k) (fb (last 0 (es.take k)) es[k]) (fun e he => hes e (List.mem_of_mem_take he)) _ 0 0 (Nat.le_refl _) (by omega)
  rw [h, htl, Nat.zero_add]
  have hbad := rf_cutoff (last 0 (es.take k)) es[k] (hes _ (List.getElem_mem hk))
  have hne : fb (last 0 (es.take k)) es[k] ≠ [] := by simp [fb]
  cases f' with
  | zero =>
    rw [fb_length] at hf'
    omega
  | succ f' => rw [rd_bad f' k _ _ hne (by omega) (by rw [hbad]; decide), hbad, List.append_nil]
theorem olog_szs (xs : List ByteArray) : ∀ v, (olog v (bs xs)).length = szs xs := by
  induction xs with
  | nil => intro v; rfl
  | cons a r ih =>
    intro v
    have := ih (lnk v a.data.toList)
    simp only [bs, List.map_cons, olog, List.length_append, frm_length, szs, List.sum_cons] at this ⊢
    rw [this]
    have e : a.data.toList.length = a.size := rfl
    omega
end Go.Proofs.YtanfolfopalbeaaDoor
