/- Plain mathematics of disks and plans: what stands on a disk, what a plan leaves of it when it crashes. -/
import Derived.Test.YtanfolfopalbeaaDoorMath
namespace Go.Proofs.YtanfolfopalbeaaDoor

/-- The head of a disk to which so many entries were carried over. -/
def hd (c : Nat) : List UInt8 := UInt8.ofNat c :: ([102, 101, 114, 114, 121] ++ List.replicate 26 0)
theorem hd_length (c : Nat) : (hd c).length = 32 := rfl
theorem hd_tail (c k : Nat) : (hd c).drop 1 = (hd k).drop 1 := rfl
/-- Entries as they stand in a body. -/
def wb (es : List (List UInt8)) : List UInt8 := es.flatMap fun e => UInt8.ofNat e.length :: e
theorem wb_nil : wb [] = [] := rfl
theorem wb_cons (e : List UInt8) (es : List (List UInt8)) : wb (e :: es) = UInt8.ofNat e.length :: (e ++ wb es) := by simp [wb]
theorem wb_append (a b : List (List UInt8)) : wb (a ++ b) = wb a ++ wb b := by simp [wb]
theorem wb_snoc (a : List (List UInt8)) (e : List UInt8) : wb (a ++ [e]) = wb a ++ (UInt8.ofNat e.length :: e) := by simp [wb]
theorem wb_length_le (es : List (List UInt8)) (h : ∀ e ∈ es, e.length ≤ 20) : (wb es).length ≤ 21 * es.length := by
  induction es with
  | nil => simp [wb]
  | cons a r ih =>
    have h1 := h a (by simp)
    have h2 := ih (fun e he => h e (by simp [he]))
    rw [wb_cons]
    simp only [List.length_cons, List.length_append]
    omega
/-- Entries read from the beginning of a body, so many of them; none: they are not there. -/
def rb : Nat → List UInt8 → Option (List (List UInt8))
  | 0, _ => some []
  | _ + 1, [] => none
  | n + 1, c :: r => if 20 < c.toNat ∨ r.length < c.toNat then none else (rb n (r.drop c.toNat)).map (r.take c.toNat :: ·)
theorem rb_zero (t : List UInt8) : rb 0 t = some [] := by cases t <;> rfl
theorem rb_none (n : Nat) : rb (n + 1) [] = none := rfl
theorem rb_bad (n : Nat) (c : UInt8) (r : List UInt8) (h : 20 < c.toNat ∨ r.length < c.toNat) : rb (n + 1) (c :: r) = none := by simp only [rb]; rw [if_pos h]
theorem rb_good (n : Nat) (c : UInt8) (r : List UInt8) (h : ¬ (20 < c.toNat ∨ r.length < c.toNat)) : rb (n + 1) (c :: r) = (rb n (r.drop c.toNat)).map (r.take c.toNat :: ·) := by simp only [rb]; rw [if_neg h]
theorem u8_len (n : Nat) (h : n ≤ 20) : (UInt8.ofNat n).toNat = n := by rw [UInt8.toNat_ofNat']; omega
theorem rb_wb (es : List (List UInt8)) (h : ∀ e ∈ es, e.length ≤ 20) : ∀ t, rb es.length (wb es ++ t) = some es := by
  induction es with
  | nil => intro t; exact rb_zero _
  | cons a r ih =>
    intro t
    have h1 := h a (by simp)
    rw [wb_cons, List.cons_append, List.append_assoc, List.length_cons, rb_good _ _ _ (by rw [u8_len _ h1, List.length_append]; omega), u8_len _ h1, List.drop_left, List.take_left, ih (fun e he => h e (by simp [he]))]
    rfl
theorem rb_inv : ∀ (n : Nat) (t : List UInt8) (es : List (List UInt8)), rb n t = some es → es.length = n ∧ (∀ e ∈ es, e.length ≤ 20) ∧ ∃ u, t = wb es ++ u := by
  intro n
  induction n with
  | zero =>
    intro t es h
    rw [rb_zero] at h
    cases h
    exact ⟨rfl, by simp, t, rfl⟩
  | succ n ih =>
    intro t es h
    match t with
    | [] => cases h
    | c :: r =>
      by_cases hb : 20 < c.toNat ∨ r.length < c.toNat
      · rw [rb_bad n c r hb] at h; cases h
      · rw [rb_good n c r hb] at h
        cases hr : rb n (r.drop c.toNat) with
        | none => rw [hr] at h; cases h
        | some fs =>
          rw [hr] at h
          simp only [Option.map_some, Option.some.injEq] at h
          subst h
          obtain ⟨h1, h2, u, h3⟩ := ih _ _ hr
          have htl : (r.take c.toNat).length = c.toNat := by rw [List.length_take]; omega
          refine ⟨by simp [h1], ?_, u, ?_⟩
          · intro e he
            rcases List.mem_cons.1 he with rfl | he
            · omega
            · exact h2 e he
          · rw [wb_cons, htl, List.cons_append, List.append_assoc, ← h3, List.take_append_drop]
            congr 1
            apply UInt8.toNat_inj.1
            rw [u8_len _ (by omega)]

/-- What Entries tells of a disk; none: ErrDisk. -/
def dCnt (d : List (List UInt8)) : Nat := ((d.getD 0 []).headD 0).toNat
def dOk (d : List (List UInt8)) : Option (List (List UInt8)) :=
  if d.length < 2 ∨ 300 < d.length then none
  else if 100 < dCnt d ∨ d.getD 0 [] ≠ hd (dCnt d) then none
  else rb (dCnt d) (d.drop 1).flatten

/-- What stands on a disk. -/
structure Std (d es : List (List UInt8)) : Prop where
  n2 : 2 ≤ d.length
  n300 : d.length ≤ 300
  elem : ∀ s ∈ d, s.length = 32
  head : d.getD 0 [] = hd es.length
  few : es.length ≤ 100
  small : ∀ e ∈ es, e.length ≤ 20
  room : (wb es).length ≤ 32 * (d.length - 1)
  body : ∀ j, j < (wb es).length → (d.getD (1 + j / 32) []).getD (j % 32) 0 = (wb es).getD j 0

theorem getD_cons (a : List UInt8) (l : List (List UInt8)) (k : Nat) : (a :: l).getD (1 + k) [] = l.getD k [] := by
  rw [Nat.add_comm, List.getD_cons_succ]
theorem flat_length (l : List (List UInt8)) (h : ∀ s ∈ l, s.length = 32) : l.flatten.length = 32 * l.length := by
  induction l with
  | nil => rfl
  | cons a r ih =>
    rw [List.flatten_cons, List.length_append, ih (fun s hs => h s (by simp [hs])), h a (by simp), List.length_cons]
    omega
theorem flat_getD (l : List (List UInt8)) (h : ∀ s ∈ l, s.length = 32) : ∀ j, l.flatten.getD j 0 = (l.getD (j / 32) []).getD (j % 32) 0 := by
  induction l with
  | nil => intro j; simp
  | cons a r ih =>
    intro j
    have ha := h a (by simp)
    rw [List.flatten_cons]
    by_cases hj : j < 32
    · rw [Nat.div_eq_of_lt hj, Nat.mod_eq_of_lt hj, List.getD_cons_zero, List.getD, List.getD, List.getElem?_append_left (by omega)]
    · rw [List.getD, List.getElem?_append_right (by omega), ha, ← List.getD, ih (fun s hs => h s (by simp [hs])) (j - 32)]
      have e1 : j / 32 = (j - 32) / 32 + 1 := by omega
      have e2 : j % 32 = (j - 32) % 32 := by omega
      rw [e1, e2, List.getD_cons_succ]
theorem drop_getD (d : List (List UInt8)) (k : Nat) : (d.drop 1).getD k [] = d.getD (1 + k) [] := by
  rw [List.getD, List.getElem?_drop, ← List.getD]
theorem getD_ext {a b : List UInt8} (hl : a.length = b.length) (h : ∀ j, j < a.length → a.getD j 0 = b.getD j 0) : a = b := by
  apply List.ext_getElem hl
  intro i h1 h2
  have := h i h1
  rw [List.getD, List.getD, List.getElem?_eq_getElem h1, List.getElem?_eq_getElem h2] at this
  simpa using this
theorem getD_take (a : List UInt8) (n j : Nat) (h : j < n) : (a.take n).getD j 0 = a.getD j 0 := by
  rw [List.getD, List.getD, List.getElem?_take_of_lt h]
theorem getD_left (a b : List UInt8) (j : Nat) (h : j < a.length) : (a ++ b).getD j 0 = a.getD j 0 := by
  rw [List.getD, List.getD, List.getElem?_append_left h]
theorem getD_right (a b : List UInt8) (j : Nat) (h : a.length ≤ j) : (a ++ b).getD j 0 = b.getD (j - a.length) 0 := by
  rw [List.getD, List.getD, List.getElem?_append_right h]
theorem getD_drop (a : List UInt8) (n j : Nat) : (a.drop n).getD j 0 = a.getD (n + j) 0 := by
  rw [List.getD, List.getD, List.getElem?_drop]

theorem Std.flat {d es : List (List UInt8)} (h : Std d es) : ∃ u, (d.drop 1).flatten = wb es ++ u := by
  have he : ∀ s ∈ d.drop 1, s.length = 32 := fun s hs => h.elem s (List.mem_of_mem_drop hs)
  have hl := flat_length _ he
  rw [List.length_drop] at hl
  have hr := h.room
  refine ⟨(d.drop 1).flatten.drop (wb es).length, ?_⟩
  have : wb es = (d.drop 1).flatten.take (wb es).length := by
    apply getD_ext
    · rw [List.length_take]; omega
    · intro j hj
      rw [getD_take _ _ _ hj, flat_getD _ he, drop_getD, h.body j hj]
  conv => rhs; arg 1; rw [this]
  rw [List.take_append_drop]
theorem Std.cnt {d es : List (List UInt8)} (h : Std d es) : dCnt d = es.length := by
  unfold dCnt
  rw [h.head]
  have := h.few
  show (UInt8.ofNat es.length).toNat = _
  rw [UInt8.toNat_ofNat']
  omega
theorem Std.ok {d es : List (List UInt8)} (h : Std d es) : dOk d = some es := by
  have h1 := h.n2
  have h2 := h.n300
  have h3 := h.few
  unfold dOk
  rw [if_neg (by omega), if_neg (by rw [h.cnt, h.head]; simp; omega), h.cnt]
  obtain ⟨u, hu⟩ := h.flat
  rw [hu, rb_wb es h.small]
theorem std_of_ok {d es : List (List UInt8)} (he : ∀ s ∈ d, s.length = 32) (h : dOk d = some es) : Std d es := by
  unfold dOk at h
  split at h
  · cases h
  · rename_i h1
    split at h
    · cases h
    · rename_i h2
      obtain ⟨h3, h4, u, h5⟩ := rb_inv _ _ _ h
      have he' : ∀ s ∈ d.drop 1, s.length = 32 := fun s hs => he s (List.mem_of_mem_drop hs)
      have hl := flat_length _ he'
      rw [List.length_drop, h5, List.length_append] at hl
      refine ⟨by omega, by omega, he, ?_, by omega, h4, by omega, fun j hj => ?_⟩
      · rw [h3]
        exact Classical.byContradiction fun hn => h2 (.inr hn)
      · rw [← drop_getD, ← flat_getD _ he', h5, getD_left _ _ _ hj]
theorem Std.uniq {d a b : List (List UInt8)} (h : Std d a) (h' : Std d b) : a = b := by
  have := h.ok
  rw [h'.ok] at this
  exact (Option.some.inj this).symm

/-- An item of a plan: a flush, or a write. -/
structure It where
  fl : Bool
  at_ : Nat
  data : List UInt8
/-- The first n bytes of a sector become those of some data. -/
def put1 (d : List (List UInt8)) (k : Nat) (data : List UInt8) (n : Nat) : List (List UInt8) := d.set k (data.take n ++ (d.getD k []).drop n)
def app1 (d : List (List UInt8)) (x : It) (n : Nat) : List (List UInt8) := if x.fl then d else put1 d x.at_ x.data n
/-- The disk when the items of a plan were done on it, number i by f i bytes. -/
def app (f : Nat → Nat) : Nat → List It → List (List UInt8) → List (List UInt8)
  | _, [], d => d
  | i, x :: r, d => app f (i + 1) r (app1 d x (f i))
theorem app_append (f : Nat → Nat) (a b : List It) : ∀ i d, app f i (a ++ b) d = app f (i + a.length) b (app f i a d) := by
  induction a with
  | nil => intro i d; rfl
  | cons x r ih =>
    intro i d
    simp only [List.cons_append, app, ih, List.length_cons]
    congr 1
    omega
theorem app_snoc (f : Nat → Nat) (a : List It) (x : It) (d : List (List UInt8)) : app f 0 (a ++ [x]) d = app1 (app f 0 a d) x (f a.length) := by
  rw [app_append, Nat.zero_add]
  rfl
theorem app_congr (f g : Nat → Nat) (a : List It) : ∀ i d, (∀ k, i ≤ k → k < i + a.length → f k = g k) → app f i a d = app g i a d := by
  induction a with
  | nil => intro i d _; rfl
  | cons x r ih =>
    intro i d h
    simp only [app]
    rw [h i (Nat.le_refl _) (by simp), ih (i + 1) _ (fun k h1 h2 => h k (by omega) (by simp; omega))]

theorem put1_length (d : List (List UInt8)) (k : Nat) (data : List UInt8) (n : Nat) : (put1 d k data n).length = d.length := by simp [put1]
theorem app1_length (d : List (List UInt8)) (x : It) (n : Nat) : (app1 d x n).length = d.length := by unfold app1; split; rfl; exact put1_length _ _ _ _
theorem app_length (f : Nat → Nat) (a : List It) : ∀ i d, (app f i a d).length = d.length := by
  induction a with
  | nil => intro i d; rfl
  | cons x r ih => intro i d; simp only [app]; rw [ih, app1_length]
theorem getD_mem (d : List (List UInt8)) (k : Nat) (h : k < d.length) : d.getD k [] ∈ d := by
  rw [List.getD, List.getElem?_eq_getElem h]
  exact List.getElem_mem h
theorem put1_elem (d : List (List UInt8)) (k : Nat) (data : List UInt8) (n : Nat) (h : ∀ s ∈ d, s.length = 32) (hd : data.length = 32) : ∀ s ∈ put1 d k data n, s.length = 32 := by
  intro s hs
  unfold put1 at hs
  by_cases hk : k < d.length
  · rcases List.mem_or_eq_of_mem_set hs with hs | rfl
    · exact h s hs
    · have := h _ (getD_mem d k hk)
      simp only [List.length_append, List.length_take, List.length_drop]
      omega
  · rw [List.set_eq_of_length_le (by omega)] at hs
    exact h s hs
theorem app_elem (f : Nat → Nat) (a : List It) (ha : ∀ x ∈ a, x.data.length = 32) : ∀ i d, (∀ s ∈ d, s.length = 32) → ∀ s ∈ app f i a d, s.length = 32 := by
  induction a with
  | nil => intro i d h; exact h
  | cons x r ih =>
    intro i d h
    simp only [app]
    refine ih (fun y hy => ha y (by simp [hy])) _ _ ?_
    unfold app1
    split
    · exact h
    · exact put1_elem d _ _ _ h (ha x (by simp))
theorem put1_same (d : List (List UInt8)) (k : Nat) (data : List UInt8) (n : Nat) (hk : k < d.length) : (put1 d k data n).getD k [] = data.take n ++ (d.getD k []).drop n := by
  unfold put1
  rw [List.getD, List.getElem?_set_self hk]
  rfl
theorem put1_other (d : List (List UInt8)) (k j : Nat) (data : List UInt8) (n : Nat) (h : k ≠ j) : (put1 d k data n).getD j [] = d.getD j [] := by
  unfold put1
  rw [List.getD, List.getElem?_set_ne h, ← List.getD]
theorem put1_byte (d : List (List UInt8)) (k : Nat) (data : List UInt8) (n b : Nat) (hk : k < d.length) (hn : n ≤ data.length) : ((put1 d k data n).getD k []).getD b 0 = if b < n then data.getD b 0 else (d.getD k []).getD b 0 := by
  rw [put1_same d k data n hk]
  have hl : (data.take n).length = n := by rw [List.length_take]; omega
  split
  · rw [getD_left _ _ _ (by omega), getD_take _ _ _ (by assumption)]
  · rw [getD_right _ _ _ (by omega), getD_drop, hl]
    congr 1
    omega

/-- A sector with a text laid over it, as far as that goes. -/
def ov (s t : List UInt8) : List UInt8 := t.take 32 ++ s.drop (t.take 32).length
theorem ov_length (s t : List UInt8) (h : s.length = 32) : (ov s t).length = 32 := by
  simp only [ov, List.length_append, List.length_take, List.length_drop]
  omega
theorem ov_byte (s t : List UInt8) (b : Nat) (hb : b < 32) : (ov s t).getD b 0 = if b < t.length then t.getD b 0 else s.getD b 0 := by
  unfold ov
  have hl : (t.take 32).length = min 32 t.length := List.length_take
  split
  · rw [getD_left _ _ _ (by omega), getD_take _ _ _ hb]
  · rw [getD_right _ _ _ (by omega), getD_drop]
    congr 1
    omega
/-- The write of a sector of the body. -/
def wIt (d : List (List UInt8)) (text : List UInt8) (k : Nat) : It := ⟨false, k, ov (d.getD k []) (text.drop ((k - 1) * 32))⟩
def z32' : List UInt8 := List.replicate 32 0
def fIt : It := ⟨true, 0, z32'⟩
def hIt (c : Nat) : It := ⟨false, 0, hd c⟩
/-- How many sectors of the body a plan writes: those from the one that holds the first new byte on. -/
def nW (a t : Nat) : Nat := (t + 31) / 32 - a / 32
def bodyW (d : List (List UInt8)) (text : List UInt8) (a : Nat) : List It := (List.range' (1 + a / 32) (nW a text.length)).map (wIt d text)
/-- The plan. -/
def planL (d : List (List UInt8)) (ahead more : List UInt8) (c : Nat) : List It := bodyW d (ahead ++ more) ahead.length ++ [fIt, hIt c, fIt]
theorem bodyW_length (d : List (List UInt8)) (text : List UInt8) (a : Nat) : (bodyW d text a).length = nW a text.length := by simp [bodyW]
theorem planL_length (d : List (List UInt8)) (ahead more : List UInt8) (c : Nat) : (planL d ahead more c).length = nW ahead.length (ahead ++ more).length + 3 := by simp [planL, bodyW_length]

/-- A disk on which a text stands at the body's beginning. -/
def Pre (d : List (List UInt8)) (n : Nat) (t : List UInt8) : Prop := ∀ j, j < n → (d.getD (1 + j / 32) []).getD (j % 32) 0 = t.getD j 0

/-- One write of the body: the bytes of the text stay, or come. -/
theorem pre_write (d0 d : List (List UInt8)) (text : List UInt8) (n q k m : Nat) (hk : k + 1 < d.length) (hm : m ≤ 32) (h0 : (d0.getD (k + 1) []).length = 32) (hq : q ≤ text.length)
    (h : Pre d q text) (hn : n ≤ q ∨ (m = 32 ∧ 32 * k ≤ q ∧ n ≤ text.length ∧ n ≤ 32 * (k + 1))) : Pre (app1 d (wIt d0 text (k + 1)) m) n text := by
  intro j hj
  show ((put1 d (k + 1) (ov (d0.getD (k + 1) []) (text.drop ((k + 1 - 1) * 32))) m).getD (1 + j / 32) []).getD (j % 32) 0 = _
  by_cases hjk : j / 32 = k
  · subst hjk
    rw [show 1 + j / 32 = j / 32 + 1 by omega, put1_byte _ _ _ _ _ hk (by rw [ov_length _ _ h0]; exact hm), ov_byte _ _ _ (by omega), List.length_drop, getD_drop]
    have e : (j / 32 + 1 - 1) * 32 + j % 32 = j := by omega
    split
    · rw [if_pos (by omega), e]
    · rcases hn with hn | ⟨h1, h2, h3, h4⟩
      · have := h j (by omega)
        rw [show 1 + j / 32 = j / 32 + 1 by omega] at this
        exact this
      · omega
  · rw [put1_other _ _ _ _ _ (by omega)]
    exact h j (by rcases hn with hn | ⟨h1, h2, h3, h4⟩ <;> omega)
theorem range_map_take (f : Nat → It) (s n k : Nat) (hk : k ≤ n) : ((List.range' s n).map f).take k = (List.range' s k).map f := by
  rw [← List.map_take]
  congr 1
  apply List.ext_getElem
  · simp; omega
  · intro i h1 h2; simp
/-- The writes of the body, some of them begun: what stood there stays; done whole: the text comes. -/
theorem body_writes (d0 : List (List UInt8)) (text : List UInt8) (a : Nat) (f : Nat → Nat) (hf : ∀ i, f i ≤ 32) (he : ∀ s ∈ d0, s.length = 32) (ha : a ≤ text.length) (hr : text.length ≤ 32 * (d0.length - 1)) (h : Pre d0 a text) :
    ∀ k, k ≤ nW a text.length → Pre (app f 0 ((bodyW d0 text a).take k) d0) a text ∧ (app f 0 ((bodyW d0 text a).take k) d0).getD 0 [] = d0.getD 0 [] ∧
      ((∀ i, i < k → f i = 32) → Pre (app f 0 ((bodyW d0 text a).take k) d0) (min text.length (max a (32 * (a / 32 + k)))) text) := by
  intro k
  induction k with
  | zero =>
    intro _
    refine ⟨h, rfl, fun _ j hj => h j (by omega)⟩
  | succ k ih =>
    intro hk
    obtain ⟨h1, h2, h3⟩ := ih (by omega)
    have hW : nW a text.length = (text.length + 31) / 32 - a / 32 := rfl
    have hs : (bodyW d0 text a).take (k + 1) = (bodyW d0 text a).take k ++ [wIt d0 text (a / 32 + k + 1)] := by
      unfold bodyW
      rw [range_map_take _ _ _ _ hk, range_map_take _ _ _ _ (by omega), List.range'_1_concat, List.map_append, show 1 + a / 32 + k = a / 32 + k + 1 by omega]
      rfl
    have hlt : ((bodyW d0 text a).take k).length = k := by rw [List.length_take, bodyW_length]; omega
    rw [hs, app_snoc, hlt]
    have hkl : a / 32 + k + 1 < d0.length := by omega
    have h0 := he _ (getD_mem d0 _ hkl)
    generalize hde : app f 0 ((bodyW d0 text a).take k) d0 = d at h1 h2 h3
    have hdl : d.length = d0.length := by rw [← hde, app_length]
    refine ⟨pre_write d0 d text a a _ _ (by omega) (hf k) h0 ha h1 (.inl (Nat.le_refl _)), ?_, fun hfull => ?_⟩
    · show (put1 d (a / 32 + k + 1) _ _).getD 0 [] = _
      rw [put1_other _ _ _ _ _ (by omega)]
      exact h2
    · exact pre_write d0 d text _ _ _ _ (by omega) (hf k) h0 (by omega) (h3 (fun i hi => hfull i (by omega))) (.inr ⟨hfull k (by omega), by omega, by omega, by omega⟩)

theorem pre_of_std {d es : List (List UInt8)} (h : Std d es) (m : List UInt8) : Pre d (wb es).length (wb es ++ m) := fun j hj => by rw [h.body j hj, getD_left _ _ _ hj]
theorem head_torn (a b n : Nat) (hn : n ≤ 32) : (hd b).take n ++ (hd a).drop n = hd (if n = 0 then a else b) := by
  cases n with
  | zero => rfl
  | succ n =>
    rw [if_neg (by omega)]
    have e : (hd a).drop (n + 1) = (hd b).drop (n + 1) := by
      unfold hd
      rw [List.drop_succ_cons, List.drop_succ_cons]
    rw [e, List.take_append_drop]
theorem range_items (d : List (List UInt8)) (text : List UInt8) (a : Nat) (he : ∀ s ∈ d, s.length = 32) (hr : text.length ≤ 32 * (d.length - 1)) : ∀ x ∈ bodyW d text a, x.data.length = 32 ∧ x.at_ < d.length ∧ x.fl = false := by
  intro x hx
  simp only [bodyW, List.mem_map, List.mem_range'_1] at hx
  obtain ⟨k, ⟨h1, h2⟩, rfl⟩ := hx
  have : nW a text.length = (text.length + 31) / 32 - a / 32 := rfl
  exact ⟨ov_length _ _ (he _ (getD_mem d k (by omega))), show k < d.length by omega, rfl⟩
theorem plan_items (d : List (List UInt8)) (ahead more : List UInt8) (c : Nat) (he : ∀ s ∈ d, s.length = 32) (h2 : 2 ≤ d.length) (hr : (ahead ++ more).length ≤ 32 * (d.length - 1)) : ∀ x ∈ planL d ahead more c, x.data.length = 32 ∧ x.at_ < d.length := by
  intro x hx
  simp only [planL, List.mem_append, List.mem_cons, List.not_mem_nil, or_false] at hx
  rcases hx with hx | rfl | rfl | rfl
  · exact ⟨(range_items d _ _ he hr x hx).1, (range_items d _ _ he hr x hx).2.1⟩
  · exact ⟨rfl, show 0 < d.length by omega⟩
  · exact ⟨rfl, show 0 < d.length by omega⟩
  · exact ⟨rfl, show 0 < d.length by omega⟩

/-- Plans that crash, or not: the entries that stood there, or those and the next ones, stand on the disk. -/
theorem plan_crash (d es mo : List (List UInt8)) (h : Std d es) (hf : es.length + mo.length ≤ 100) (hs : ∀ e ∈ mo, e.length ≤ 20) (hr : (wb es ++ wb mo).length ≤ 32 * (d.length - 1))
    (f : Nat → Nat) (hb : ∀ i, f i ≤ 32) (k : Nat) (hk : k ≤ (planL d (wb es) (wb mo) (es.length + mo.length)).length)
    (hfl : (bodyW d (wb es ++ wb mo) (wb es).length).length + 1 < k → ∀ i, i < (bodyW d (wb es ++ wb mo) (wb es).length).length → f i = 32) :
    let d' := app f 0 ((planL d (wb es) (wb mo) (es.length + mo.length)).take k) d
    (Std d' es ∨ Std d' (es ++ mo)) ∧ ((bodyW d (wb es ++ wb mo) (wb es).length).length + 1 < k → f ((bodyW d (wb es ++ wb mo) (wb es).length).length + 1) = 32 → Std d' (es ++ mo)) := by
  intro d'
  have hel : ∀ s ∈ d', s.length = 32 := app_elem f _ (fun x hx => (plan_items d _ _ _ h.elem h.n2 hr x (List.mem_of_mem_take hx)).1) 0 d h.elem
  have hln : d'.length = d.length := app_length _ _ _ _
  have hW := body_writes d (wb es ++ wb mo) (wb es).length f hb h.elem (by simp) hr (pre_of_std h _)
  have old : ∀ d2 : List (List UInt8), (∀ s ∈ d2, s.length = 32) → d2.length = d.length → d2.getD 0 [] = hd es.length → Pre d2 (wb es).length (wb es ++ wb mo) → Std d2 es := fun d2 a1 a2 a3 a4 =>
    ⟨by rw [a2]; exact h.n2, by rw [a2]; exact h.n300, a1, a3, h.few, h.small, by rw [a2]; exact h.room, fun j hj => by rw [a4 j hj, getD_left _ _ _ hj]⟩
  have new : ∀ d2 : List (List UInt8), (∀ s ∈ d2, s.length = 32) → d2.length = d.length → d2.getD 0 [] = hd (es.length + mo.length) → Pre d2 (wb es ++ wb mo).length (wb es ++ wb mo) → Std d2 (es ++ mo) := fun d2 a1 a2 a3 a4 =>
    ⟨by rw [a2]; exact h.n2, by rw [a2]; exact h.n300, a1, by rw [List.length_append]; exact a3, by rw [List.length_append]; exact hf, fun e he => by
      rcases List.mem_append.1 he with he | he
      · exact h.small e he
      · exact hs e he, by rw [a2, wb_append]; exact hr, fun j hj => by rw [wb_append] at hj ⊢; exact a4 j hj⟩
  have hB := bodyW_length d (wb es ++ wb mo) (wb es).length
  have hN : nW (wb es).length (wb es ++ wb mo).length = ((wb es ++ wb mo).length + 31) / 32 - (wb es).length / 32 := rfl
  have hla : (wb es).length ≤ (wb es ++ wb mo).length := by simp
  rw [planL_length] at hk
  rw [hB] at hfl ⊢
  generalize hbw : bodyW d (wb es ++ wb mo) (wb es).length = B at hW hB
  have hpl : planL d (wb es) (wb mo) (es.length + mo.length) = B ++ [fIt, hIt (es.length + mo.length), fIt] := by rw [← hbw]; rfl
  have hd' : d' = app f 0 ((B ++ [fIt, hIt (es.length + mo.length), fIt]).take k) d := by rw [← hpl]
  by_cases hk1 : k ≤ B.length + 1
  · have e : d' = app f 0 (B.take k) d := by
      rw [hd', List.take_append, app_append]
      by_cases hk2 : k ≤ B.length
      · rw [show k - B.length = 0 by omega]
        rfl
      · rw [show k - B.length = 1 by omega]
        rfl
    have hmin : B.take k = B.take (min k B.length) := by
      by_cases hk2 : k ≤ B.length
      · rw [Nat.min_eq_left hk2]
      · rw [Nat.min_eq_right (by omega), List.take_of_length_le (by omega), List.take_of_length_le (Nat.le_refl _)]
    obtain ⟨h1, h2, _⟩ := hW (min k B.length) (by omega)
    rw [← hmin, ← e] at h1 h2
    exact ⟨.inl (old d' hel hln (h2.trans h.head) h1), fun hc => absurd hc (by omega)⟩
  · have hall := hfl (by omega)
    obtain ⟨h1, h2, h3⟩ := hW B.length (by omega)
    have h4 := h3 (fun i hi => hall i (by omega))
    rw [List.take_of_length_le (Nat.le_refl _)] at h1 h2 h4
    rw [show min (wb es ++ wb mo).length (max (wb es).length (32 * ((wb es).length / 32 + B.length))) = (wb es ++ wb mo).length by omega] at h4
    have hdl : (app f 0 B d).length = d.length := app_length _ _ _ _
    generalize hd1 : app f 0 B d = d1 at h1 h2 h4 hdl
    have e : d' = put1 d1 0 (hd (es.length + mo.length)) (f (B.length + 1)) := by
      rw [hd', List.take_append, app_append, List.take_of_length_le (by omega), hd1, Nat.zero_add]
      by_cases hk2 : k = B.length + 2
      · rw [show k - B.length = 2 by omega]
        rfl
      · rw [show k - B.length = 3 by omega]
        rfl
    have hp : ∀ n t, Pre d1 n t → Pre d' n t := fun n t hp j hj => by
      rw [e, put1_other _ _ _ _ _ (by omega)]
      exact hp j hj
    have hh : d'.getD 0 [] = hd (if f (B.length + 1) = 0 then es.length else es.length + mo.length) := by
      rw [e, put1_same _ _ _ _ (by have := h.n2; omega), h2, h.head, head_torn _ _ _ (hb _)]
    refine ⟨?_, fun _ h32 => ?_⟩
    · by_cases h0 : f (B.length + 1) = 0
      · rw [if_pos h0] at hh
        exact .inl (old d' hel hln hh (hp _ _ h1))
      · rw [if_neg h0] at hh
        exact .inr (new d' hel hln hh (hp _ _ h4))
    · rw [show f (B.length + 1) = 32 from by rw [hB]; exact h32] at hh
      exact new d' hel hln hh (hp _ _ h4)
end Go.Proofs.YtanfolfopalbeaaDoor
