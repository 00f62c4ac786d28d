/- Plain mathematics of the weak sum and of old logs (lists of bytes, natural numbers): what the walks over the Go text come to. -/
namespace Go.Proofs.YtanfolfopalbeaaDoor

/-- One round of the weak sum. -/
def wkStep (n : Nat) (c : UInt8) : Nat := 16777619 * (n ^^^ c.toNat) % 4294967296
/-- The weak sum ahead of its folding. -/
def wk32 (l : List UInt8) : Nat := l.foldl wkStep 2166136261
/-- The weak sum. -/
def wk (l : List UInt8) : Nat := wk32 l / 65536 ^^^ wk32 l % 65536

theorem wkStep_lt (n : Nat) (c : UInt8) : wkStep n c < 4294967296 := by unfold wkStep; omega
theorem foldl_snoc {α β : Type} (f : α → β → α) (a : α) (l : List β) (c : β) : (l ++ [c]).foldl f a = f (l.foldl f a) c := by simp
theorem wk32_snoc (l : List UInt8) (c : UInt8) : wk32 (l ++ [c]) = wkStep (wk32 l) c := by unfold wk32; exact foldl_snoc _ _ _ _
theorem wkFold_lt (l : List UInt8) : ∀ n, n < 4294967296 → l.foldl wkStep n < 4294967296 := by
  induction l with
  | nil => intro n h; exact h
  | cons c r ih => intro n _; exact ih _ (wkStep_lt n c)
theorem wk32_lt (l : List UInt8) : wk32 l < 4294967296 := wkFold_lt l _ (by omega)
theorem wk_lt (l : List UInt8) : wk l < 65536 := by
  have h := wk32_lt l
  exact Nat.xor_lt_two_pow (n := 16) (by omega) (by omega)

/-- A link in two bytes, the higher one first. -/
def two (v : Nat) : List UInt8 := [UInt8.ofNat (v / 256), UInt8.ofNat (v % 256)]
/-- The link of an entry behind a link. -/
def lnk (v : Nat) (e : List UInt8) : Nat := wk (two v ++ e)
theorem lnk_lt (v : Nat) (e : List UInt8) : lnk v e < 65536 := wk_lt _

theorem take_snoc (s : ByteArray) (k : Nat) (h : k < s.size) : s.data.toList.take (k + 1) = s.data.toList.take k ++ [s[k]] := by
  rw [List.take_succ_eq_append_getElem (by simpa using h)]; rfl
theorem take_all (s : ByteArray) (k : Nat) (h : ¬ k < s.size) : s.data.toList.take k = s.data.toList := by
  apply List.take_of_length_le
  have : s.data.toList.length = s.size := rfl
  omega
/-- The frame of an entry behind a link. -/
def frm (v : Nat) (e : List UInt8) : List UInt8 := UInt8.ofNat e.length :: (e ++ two (lnk v e))
/-- The text of an old log, from a link on. -/
def olog : Nat → List (List UInt8) → List UInt8
  | _, [] => []
  | v, e :: r => frm v e ++ olog (lnk v e) r
/-- The last link. -/
def last : Nat → List (List UInt8) → Nat
  | v, [] => v
  | v, e :: r => last (lnk v e) r
theorem two_length (v : Nat) : (two v).length = 2 := rfl
theorem frm_length (v : Nat) (e : List UInt8) : (frm v e).length = e.length + 3 := by simp [frm, two_length]
theorem olog_snoc (l : List (List UInt8)) (e : List UInt8) : ∀ v, olog v (l ++ [e]) = olog v l ++ frm (last v l) e := by
  induction l with
  | nil => intro v; simp [olog, last]
  | cons a r ih => intro v; simp [olog, last, ih]
theorem last_snoc (l : List (List UInt8)) (e : List UInt8) : ∀ v, last v (l ++ [e]) = lnk (last v l) e := by
  induction l with
  | nil => intro v; rfl
  | cons a r ih => intro v; exact ih _
theorem last_lt (l : List (List UInt8)) : ∀ v, v < 65536 → last v l < 65536 := by
  induction l with
  | nil => intro v h; exact h
  | cons a r ih => intro v _; exact ih _ (lnk_lt _ _)
theorem olog_length_le (l : List (List UInt8)) (h : ∀ e ∈ l, e.length ≤ 20) : ∀ v, (olog v l).length ≤ 23 * l.length := by
  induction l with
  | nil => intro v; simp [olog]
  | cons a r ih =>
    intro v
    have h1 := h a (by simp)
    have h2 := ih (fun e he => h e (by simp [he])) (lnk v a)
    simp only [olog, List.length_append, frm_length, List.length_cons]
    omega
/-- The bytes of strings. -/
def bs (ss : List ByteArray) : List (List UInt8) := ss.map fun s => s.data.toList
theorem bs_length (ss : List ByteArray) : (bs ss).length = ss.length := by simp [bs]
theorem bs_take_succ (ss : List ByteArray) (k : Nat) (hk : k < ss.length) : bs (ss.take (k + 1)) = bs (ss.take k) ++ [(ss.getD k ByteArray.empty).data.toList] := by
  unfold bs
  rw [List.take_succ_eq_append_getElem hk]
  simp only [List.map_append, List.map_cons, List.map_nil, List.getD, List.getElem?_eq_getElem hk, Option.getD_some]
/-- A text out of bytes. -/
def mk (l : List UInt8) : ByteArray := ⟨l.toArray⟩
theorem mk_data (l : List UInt8) : (mk l).data.toList = l := rfl
theorem mk_self (s : ByteArray) : mk s.data.toList = s := rfl
theorem mk_size (l : List UInt8) : (mk l).size = l.length := rfl
theorem bs_mk (es : List (List UInt8)) : bs (es.map mk) = es := by
  induction es with
  | nil => rfl
  | cons a r ih => simp only [bs, List.map_cons] at ih ⊢; rw [ih, mk_data]
theorem mk_bs (ss : List ByteArray) : (bs ss).map mk = ss := by
  induction ss with
  | nil => rfl
  | cons a r ih => simp only [bs, List.map_cons] at ih ⊢; rw [ih, mk_self]

/-- What is wrong with the frame at the beginning of a text behind a link: 0 nothing, 3 no frame, 4 a wrong link. -/
def rfErr (l : List UInt8) (v : Nat) : Nat :=
  match l with
  | [] => 3
  | c :: r => if 20 < c.toNat ∨ r.length < c.toNat + 2 then 3 else if (r.drop c.toNat).take 2 = two (lnk v (r.take c.toNat)) then 0 else 4
def rfEnt (l : List UInt8) (v : Nat) : List UInt8 := if rfErr l v = 0 then (l.drop 1).take (l.headD 0).toNat else []
def rfLnk (l : List UInt8) (v : Nat) : Nat := if rfErr l v = 0 then lnk v (rfEnt l v) else 0

/-- Frames read one behind the other: the entries, the error, the number of the bad frame. -/
def rd : Nat → Nat → Nat → List UInt8 → List (List UInt8) × Nat × Nat
  | 0, _, _, _ => ([], 0, 0)
  | f + 1, k, v, l =>
    if l = [] then ([], 0, 0)
    else if k = 100 then ([], 3, k)
    else if rfErr l v = 0 then (rfEnt l v :: (rd f (k + 1) (rfLnk l v) (l.drop (3 + (rfEnt l v).length))).1, (rd f (k + 1) (rfLnk l v) (l.drop (3 + (rfEnt l v).length))).2)
    else ([], rfErr l v, k)
def rdOld (l : List UInt8) : List (List UInt8) × Nat × Nat := if 2300 < l.length then ([], 1, 0) else rd l.length 0 0 l
end Go.Proofs.YtanfolfopalbeaaDoor
