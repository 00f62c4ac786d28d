/- Plain mathematics of the weak sum and of old logs (lists of bytes, natural numbers): what the walks over the Go text come to. Slices of strings in memory: 'Strs w v ss': the value v reads, in the world w, as the list of strings ss. -/
import Derived.Test.YtocfikblfobjfaaDoorChecked
import Derived.WalkKit
import Derived.WalkSpells
import Derived.WalkLawsBesides
import Derived.Outline
import Derived.Deep.Slices
import Derived.Lib.AppendStr
import Derived.BigQuiet
import Derived.BigRegion
import Derived.Deep.QuietTactic
import Derived.Deep.RegionWith
namespace Go.Proofs.YtocfikblfobjfaaDoor

/-- One round of the weak sum. -/
def wkStep (n : Nat) (c : UInt8) : Nat := 16777619 * (n ^^^ c.toNat) % 4294967296
/-- The weak sum ahead of its folding. -/
def wk32 (l : List UInt8) : Nat := l.foldl wkStep 2166136261
/-- The weak sum. -/
def wk (l : List UInt8) : Nat := wk32 l / 65536 ^^^ wk32 l % 65536

theorem wkStep_lt (n : Nat) (c : UInt8) : wkStep n c < 4294967296 := by unfold wkStep; omega
theorem foldl_snoc {α β : Type} (f : α → β → α) (a : α) (l : List β) (c : β) : (l ++ [c]).foldl f a = f (l.foldl f a) c := by simp
theorem wk32_snoc (l : List UInt8) (c : UInt8) : wk32 (l ++ [c]) = wkStep (wk32 l) c := by unfold wk32; exact foldl_snoc _ _ _ _
theorem wkFold_lt (l : List UInt8) : ∀ n, n < 4294967296 → l.foldl wkStep n < 4294967296 := by
  induction l with
  | nil => intro n h; exact h
  | cons c r ih => intro n _; exact ih _ (wkStep_lt n c)
theorem wk32_lt (l : List UInt8) : wk32 l < 4294967296 := wkFold_lt l _ (by omega)
theorem wk_lt (l : List UInt8) : wk l < 65536 := by
  have h := wk32_lt l
  exact Nat.xor_lt_two_pow (n := 16) (by omega) (by omega)

/-- A link in two bytes, the higher one first. -/
def two (v : Nat) : List UInt8 := [UInt8.ofNat (v / 256), UInt8.ofNat (v % 256)]
/-- The link of an entry behind a link. -/
def lnk (v : Nat) (e : List UInt8) : Nat := wk (two v ++ e)
theorem lnk_lt (v : Nat) (e : List UInt8) : lnk v e < 65536 := wk_lt _

theorem take_snoc (s : ByteArray) (k : Nat) (h : k < s.size) : s.data.toList.take (k + 1) = s.data.toList.take k ++ [s[k]] := by
  rw [List.take_succ_eq_append_getElem (by simpa using h)]; rfl
theorem take_all (s : ByteArray) (k : Nat) (h : ¬ k < s.size) : s.data.toList.take k = s.data.toList := by
  apply List.take_of_length_le
  have : s.data.toList.length = s.size := rfl
  omega
/-- The frame of an entry behind a link. -/
def frm (v : Nat) (e : List UInt8) : List UInt8 := UInt8.ofNat e.length :: (e ++ two (lnk v e))
/-- The text of an old log, from a link on. -/
def olog : Nat → List (List UInt8) → List UInt8
  | _, [] => []
  | v, e :: r => frm v e ++ olog (lnk v e) r
/-- The last link. -/
def last : Nat → List (List UInt8) → Nat
  | v, [] => v
  | v, e :: r => last (lnk v e) r
theorem two_length (v : Nat) : (two v).length = 2 := rfl
theorem frm_length (v : Nat) (e : List UInt8) : (frm v e).length = e.length + 3 := by simp [frm, two_length]
theorem olog_snoc (l : List (List UInt8)) (e : List UInt8) : ∀ v, olog v (l ++ [e]) = olog v l ++ frm (last v l) e := by
  induction l with
  | nil => intro v; simp [olog, last]
  | cons a r ih => intro v; simp [olog, last, ih]
theorem last_snoc (l : List (List UInt8)) (e : List UInt8) : ∀ v, last v (l ++ [e]) = lnk (last v l) e := by
  induction l with
  | nil => intro v; rfl
  | cons a r ih => intro v; exact ih _
theorem last_lt (l : List (List UInt8)) : ∀ v, v < 65536 → last v l < 65536 := by
  induction l with
  | nil => intro v h; exact h
  | cons a r ih => intro v _; exact ih _ (lnk_lt _ _)
theorem olog_length_le (l : List (List UInt8)) (h : ∀ e ∈ l, e.length ≤ 20) : ∀ v, (olog v l).length ≤ 23 * l.length := by
  induction l with
  | nil => intro v; simp [olog]
  | cons a r ih =>
    intro v
    have h1 := h a (by simp)
    have h2 := ih (fun e he => h e (by simp [he])) (lnk v a)
    simp only [olog, List.length_append, frm_length, List.length_cons]
    omega
/-- The bytes of strings. -/
def bs (ss : List ByteArray) : List (List UInt8) := ss.map fun s => s.data.toList
theorem bs_length (ss : List ByteArray) : (bs ss).length = ss.length := by simp [bs]
theorem bs_take_succ (ss : List ByteArray) (k : Nat) (hk : k < ss.length) : bs (ss.take (k + 1)) = bs (ss.take k) ++ [(ss.getD k ByteArray.empty).data.toList] := by
  unfold bs
  rw [List.take_succ_eq_append_getElem hk]
  simp only [List.map_append, List.map_cons, List.map_nil, List.getD, List.getElem?_eq_getElem hk, Option.getD_some]
/-- A text out of bytes. -/
def mk (l : List UInt8) : ByteArray := ⟨l.toArray⟩
theorem mk_data (l : List UInt8) : (mk l).data.toList = l := rfl
theorem mk_self (s : ByteArray) : mk s.data.toList = s := rfl
theorem mk_size (l : List UInt8) : (mk l).size = l.length := rfl
theorem bs_mk (es : List (List UInt8)) : bs (es.map mk) = es := by
  induction es with
  | nil => rfl
  | cons a r ih => simp only [bs, List.map_cons] at ih ⊢; rw [ih, mk_data]
theorem mk_bs (ss : List ByteArray) : (bs ss).map mk = ss := by
  induction ss with
  | nil => rfl
  | cons a r ih => simp only [bs, List.map_cons] at ih ⊢; rw [ih, mk_self]

/-- What is wrong with the frame at the beginning of a text behind a link: 0 nothing, 3 no frame, 4 a wrong link. -/
def rfErr (l : List UInt8) (v : Nat) : Nat :=
  match l with
  | [] => 3
  | c :: r => if 20 < c.toNat ∨ r.length < c.toNat + 2 then 3 else if (r.drop c.toNat).take 2 = two (lnk v (r.take c.toNat)) then 0 else 4
def rfEnt (l : List UInt8) (v : Nat) : List UInt8 := if rfErr l v = 0 then (l.drop 1).take (l.headD 0).toNat else []
def rfLnk (l : List UInt8) (v : Nat) : Nat := if rfErr l v = 0 then lnk v (rfEnt l v) else 0

/-- Frames read one behind the other: the entries, the error, the number of the bad frame. -/
def rd : Nat → Nat → Nat → List UInt8 → List (List UInt8) × Nat × Nat
  | 0, _, _, _ => ([], 0, 0)
  | f + 1, k, v, l =>
    if l = [] then ([], 0, 0)
    else if k = 100 then ([], 3, k)
    else if rfErr l v = 0 then (rfEnt l v :: (rd f (k + 1) (rfLnk l v) (l.drop (3 + (rfEnt l v).length))).1, (rd f (k + 1) (rfLnk l v) (l.drop (3 + (rfEnt l v).length))).2)
    else ([], rfErr l v, k)
def rdOld (l : List UInt8) : List (List UInt8) × Nat × Nat := if 2300 < l.length then ([], 1, 0) else rd l.length 0 0 l
end Go.Proofs.YtocfikblfobjfaaDoor
namespace Go.Proofs.YtocfikblfobjfaaDoor
open Go.RowKit

theorem ret_int {k : IntKind} {a b : Int} (h : a = b) : Ending.returned (.int k a) = .returned (.int k b) := by rw [h]
theorem val_int {k : IntKind} {a b : Int} (h : a = b) : (Value.int k a) = (.int k b) := by rw [h]

theorem weak_step (x : Nat) (c : UInt8) (hx : x < 4294967296) : bits BinOp.xor IntKind.u32 (x : Int) ((c.toNat : Int) % 4294967296) * 16777619 % 4294967296 = ((wkStep x c : Nat) : Int) := by
  have hc : c.toNat < 256 := c.toNat_lt
  rw [show ((c.toNat : Int) % 4294967296) = (c.toNat : Int) by omega, u32_xor_nat x c.toNat hx (by omega)]
  unfold wkStep
  omega
theorem weak_end (x : Nat) (hx : x < 4294967296) : bits BinOp.xor IntKind.u16 ((x : Int) / 65536) (IntKind.u16.wrap x) = ((x / 65536 ^^^ x % 65536 : Nat) : Int) := by
  rw [IntKind.wrap_u16, show ((x : Int) / 65536) = ((x / 65536 : Nat) : Int) by omega, show ((x : Int) % 65536) = ((x % 65536 : Nat) : Int) by omega]
  exact u16_xor_nat _ _ (by omega) (by omega)

set_option maxHeartbeats 400000 in
theorem weak_any (s : ByteArray) (w : World) (hs : s.size ≤ maxLen) :
    Calls Tryd.prog 32 #[.string s] w fun e w' => e = .returned (.int .u16 (wk s.data.toList)) ∧ w' = w := by
  unfold maxLen at hs
  go_enter Tryd.func32, Tryd.ntmps32
  go_wp2
  go_loop [3, 4] (fun n i => ∃ (k : Nat), k ≤ s.size ∧ i = .int .i64 k ∧ n = .int .u32 (wk32 (s.data.toList.take k))) (fun _ i => s.size - (intOf i).toNat)
  case atStart => exact ⟨0, Nat.zero_le _, rfl, rfl⟩
  case round =>
    obtain ⟨k, hk, rfl, rfl⟩ := hrel
    have hx := wk32_lt (s.data.toList.take k)
    by_cases hlt : k < s.size
    · have HS : Hid (wk32 (s.data.toList.take (k + 1)) = wkStep (wk32 (s.data.toList.take k)) s[k]) := by rw [take_snoc s k hlt, wk32_snoc]; exact rfl
      go_wp2
      go_round
      case rel => exact ⟨k + 1, by omega, by go_num, val_int (by rw [HS.out]; exact weak_step _ _ hx)⟩
      case measure => simp [intOf]; omega
    · go_wp2
      go_ret
      exact ⟨ret_int (by rw [weak_end _ hx, take_all s k hlt]; rfl), rfl⟩
end Go.Proofs.YtocfikblfobjfaaDoor
namespace Go.Proofs.YtocfikblfobjfaaDoor
open Go.RowKit

theorem two0 (v : Nat) (hv : v < 65536) : (v : Int) / 256 = ((UInt8.ofNat (v / 256)).toNat : Int) := by
  rw [UInt8.toNat_ofNat']; omega
theorem two1 (v : Nat) : (v : Int) % 256 = ((UInt8.ofNat (v % 256)).toNat : Int) := by
  rw [UInt8.toNat_ofNat']; omega
theorem str_of_two (P : Program) (w : World) (src dst e ty : TypeId) (v : Nat) (hv : v < 65536) (hs : P.underlying src = some (.slice e)) (he : P.underlying e = some (.int .u8)) (hd : P.underlying dst = some .string) :
    (convert src dst (.slice (some ⟨w.heap.size, 0, none⟩) 2 2)).run P (w.alloc (.cells #[.int .u8 (v / 256), .int .u8 (v % 256)] ty)) = .ok (.string ⟨(two v).toArray⟩) (w.alloc (.cells #[.int .u8 (v / 256), .int .u8 (v % 256)] ty)) := by
  have h := run_convert_bytes_back (P := P) (w.alloc (.cells #[.int .u8 ((v : Int) / 256), .int .u8 ((v : Int) % 256)] ty)) src dst e ⟨w.heap.size, 0, none⟩ 2 (two v) hs he hd
  apply h
  intro j hj
  rw [two0 v hv, two1 v]
  match j, hj with
  | 0, _ => simp [Addr.add, two]
  | 1, _ => simp [Addr.add, two]

set_option maxHeartbeats 400000 in
theorem two_any (v : Nat) (w : World) (hv : v < 65536) :
    Calls Tryd.prog 61 #[.int .u16 v] w fun e w' => e = .returned (.string ⟨(two v).toArray⟩) ∧ Below w.heap.size w w' := by
  have hk := str_of_two Tryd.prog w 45 9 5 5 v hv Tryd.underlying45 Tryd.underlying5 Tryd.underlying9
  go_enter Tryd.func61, Tryd.ntmps61
  go_wp2
  go_ret
  exact ⟨rfl, (Below.refl _ _).alloc (Nat.le_refl _) _⟩

theorem two_size (v : Nat) : (ByteArray.mk (two v).toArray).size = 2 := rfl

set_option maxHeartbeats 400000 in
theorem link_any (v : Nat) (s : ByteArray) (w : World) (hv : v < 65536) (hs : s.size ≤ 140737488351232) :
    Calls Tryd.prog 60 #[.int .u16 v, .string s] w fun e w' => e = .returned (.int .u16 (lnk v s.data.toList)) ∧ Below w.heap.size w w' := by
  go_enter Tryd.func60, Tryd.ntmps60
  go_wp2_with fail
  refine (two_any v _ hv).mono ?_
  rintro e w1 ⟨rfl, hb⟩
  have hz : (ByteArray.mk (two v).toArray).size = 2 := rfl
  have hz2 : (two v).length = 2 := rfl
  go_wp2_with fail
  refine (weak_any _ _ (by unfold maxLen; simp; omega)).mono ?_
  rintro e w2 ⟨rfl, rfl⟩
  go_wp2
  go_ret
  exact ⟨rfl, hb⟩
end Go.Proofs.YtocfikblfobjfaaDoor
namespace Go.Proofs.YtocfikblfobjfaaDoor
open Go.RowKit

theorem hide {p : Prop} (h : p) : Hid p := h
/-- Is the next operation a load, a store of a value of type ty? (to be met by 'with_reducible refine': it fails at once elsewhere) -/
theorem at_load {P : Program} {ops : Array Oper} {rest : List Oper} {Q : Exit → Act → World → Prop} {a : Act} {w : World} {ty : TypeId} {x : Operand} {d : Option Tmp} {t : TypeId} {pos : String} {af : Array Edge} {g : Option (Nat × Bool)}
    (h : wpList P ops Q ({ dst := d, op := .load ty x, type := t, pos := pos, after := af, guard := g } :: rest) a w) : wpList P ops Q ({ dst := d, op := .load ty x, type := t, pos := pos, after := af, guard := g } :: rest) a w := h
theorem at_store {P : Program} {ops : Array Oper} {rest : List Oper} {Q : Exit → Act → World → Prop} {a : Act} {w : World} {ty : TypeId} {x y : Operand} {d : Option Tmp} {t : TypeId} {pos : String} {af : Array Edge} {g : Option (Nat × Bool)}
    (h : wpList P ops Q ({ dst := d, op := .store ty x y, type := t, pos := pos, after := af, guard := g } :: rest) a w) : wpList P ops Q ({ dst := d, op := .store ty x y, type := t, pos := pos, after := af, guard := g } :: rest) a w := h
theorem ev_same (a : Act) (d : Nat) (v : Value) (h : d < a.tmps.size) : (a.put (some d) v).eval (.tmp d) = v := by
  simp [Act.put, Act.eval, Array.getD, h]
theorem ev_other (a : Act) (d j : Nat) (v : Value) (h : d ≠ j) : (a.put (some d) v).eval (.tmp j) = a.eval (.tmp j) := by
  simp [Act.put, Act.eval, h]
theorem tmp_other (a : Act) (d j : Nat) (v u : Value) (h : d ≠ j) : ((a.put (some d) v).put none u).tmps.getD j undef = a.tmps.getD j undef := by
  simp [Act.put, h]
/-- A number that int holds is not wrapped. -/
theorem i64w (x : Int) (h : -9223372036854775808 ≤ x ∧ x ≤ 9223372036854775807) : IntKind.i64.wrap x = x := by rw [IntWalk.i64_left]; exact IntWalk.wrap64_in x h
theorem unhide {p : Prop} (h : Hid p) : p := h.out

theorem extract_data (s : ByteArray) (a b : Nat) : (s.extract a b).data.toList = (s.data.toList.drop a).take (b - a) := by
  have h := ByteArray.extract_mk s.data.toList a b
  have e : (ByteArray.mk s.data.toList.toArray) = s := rfl
  rw [e] at h
  rw [h]
theorem extract_mk_drop (x : ByteArray) (n : Nat) : (x.extract n x.size).data.toList = x.data.toList.drop n := by
  rw [extract_data, List.take_of_length_le]
  rw [List.length_drop]
  exact Nat.le_refl _
/-- v is a slice of strings that reads as ss in w. -/
def Strs (w : World) (v : Value) (ss : List ByteArray) : Prop :=
  ∃ ao cap, v = .slice ao ss.length cap ∧ ss.length ≤ cap ∧ cap ≤ maxLen ∧
    (ss = [] ∨ ∃ b off, ao = some ⟨b, off, none⟩ ∧ ∀ i, i < ss.length → w.cell? ⟨b, off + i, none⟩ = some (.string (ss.getD i ByteArray.empty)))

theorem cell_lt {w : World} {b o : Nat} {v : Value} (h : w.cell? ⟨b, o, none⟩ = some v) : b < w.heap.size := by
  by_cases hb : b < w.heap.size
  · exact hb
  · unfold World.cell? at h
    simp [Array.getElem?_eq_none (by omega : w.heap.size ≤ b)] at h

theorem Strs.below {w w' : World} {v : Value} {ss : List ByteArray} {B : Nat} (h : Strs w v ss) (hb : Below B w w') (hB : w.heap.size ≤ B) : Strs w' v ss := by
  obtain ⟨ao, cap, rfl, h1, h2, h3⟩ := h
  refine ⟨ao, cap, rfl, h1, h2, ?_⟩
  rcases h3 with h3 | ⟨b, off, rfl, hc⟩
  · exact .inl h3
  · refine .inr ⟨b, off, rfl, fun i hi => ?_⟩
    rw [hb.cell (p := ⟨b, off + i, none⟩) (Nat.lt_of_lt_of_le (cell_lt (hc i hi)) hB)]
    exact hc i hi

theorem Strs.same {w w' : World} {v : Value} {ss : List ByteArray} (h : Strs w v ss) (he : ∀ p : Addr, p.block < w.heap.size → w'.cell? p = w.cell? p) : Strs w' v ss := by
  obtain ⟨ao, cap, rfl, h1, h2, h3⟩ := h
  refine ⟨ao, cap, rfl, h1, h2, ?_⟩
  rcases h3 with h3 | ⟨b, off, rfl, hc⟩
  · exact .inl h3
  · refine .inr ⟨b, off, rfl, fun i hi => ?_⟩
    rw [he ⟨b, off + i, none⟩ (cell_lt (hc i hi))]
    exact hc i hi

/-- A row of strings that the call owns reads as those strings. -/
theorem strs_of_own {w : World} {base : Nat} {e : TypeId} {v : Value} {n : Nat} {ss : List ByteArray} (h : w.ownsRow base e 1 v n (ss.map Value.string)) : Strs w v ss := by
  obtain ⟨hl, h⟩ := h
  have hn : n = ss.length := by simpa using hl.symm
  subst hn
  rcases h with ⟨rfl, hn⟩ | ⟨g, cap, cur, rfl, hb, hg, h1, h2, h3, h4⟩
  · have : ss = [] := List.eq_nil_of_length_eq_zero hn
    subst this
    exact ⟨none, 0, rfl, Nat.le_refl _, Nat.zero_le _, .inl rfl⟩
  · refine ⟨_, cap, rfl, h1, h2, .inr ⟨g, 0, rfl, fun i hi => ?_⟩⟩
    have hc : cur[i]? = some (.string (ss.getD i ByteArray.empty)) := by
      have e1 : (cur.toList.take (ss.length * 1))[i]? = (ss.map Value.string)[i]? := by rw [h4]
      rw [List.getElem?_take_of_lt (by omega)] at e1
      rw [List.getElem?_map, List.getElem?_eq_getElem hi] at e1
      simpa [List.getD, List.getElem?_eq_getElem hi] using e1
    unfold World.cell?
    rw [hg]
    simpa using hc

/-- What chain.Check says of a list. -/
def chk (ss : List ByteArray) : Nat := if 100 < ss.length then 2 else if ss.any (fun s => decide (20 < s.size)) then 1 else 0
theorem any_take_succ (ss : List ByteArray) (k : Nat) (hk : k < ss.length) (h0 : (ss.take k).any (fun s => decide (20 < s.size)) = false) :
    (ss.take (k + 1)).any (fun s => decide (20 < s.size)) = decide (20 < (ss.getD k ByteArray.empty).size) := by
  rw [List.take_succ_eq_append_getElem hk, List.any_append, h0]
  simp [List.getD, List.getElem?_eq_getElem hk]
theorem any_of_take (ss : List ByteArray) (k : Nat) (h : (ss.take k).any (fun s => decide (20 < s.size)) = true) : ss.any (fun s => decide (20 < s.size)) = true := by
  rw [List.any_eq_true] at h ⊢
  obtain ⟨x, hx, h⟩ := h
  exact ⟨x, List.mem_of_mem_take hx, h⟩
end Go.Proofs.YtocfikblfobjfaaDoor
namespace Go.Proofs.YtocfikblfobjfaaDoor
open Go.RowKit

theorem chk_many (ss : List ByteArray) (h : 100 < ss.length) : chk ss = 2 := by unfold chk; rw [if_pos h]
theorem chk_long (ss : List ByteArray) (k : Nat) (h : ¬ 100 < ss.length) (hk : k < ss.length) (hl : 20 < (ss.getD k ByteArray.empty).size) : chk ss = 1 := by
  unfold chk
  rw [if_neg h, if_pos]
  rw [List.any_eq_true]
  refine ⟨ss[k], List.getElem_mem hk, ?_⟩
  simpa [List.getD, List.getElem?_eq_getElem hk] using hl
theorem chk_ok (ss : List ByteArray) (h : ¬ 100 < ss.length) (ha : (ss.take ss.length).any (fun s => decide (20 < s.size)) = false) : chk ss = 0 := by
  unfold chk
  rw [if_neg h, if_neg]
  rw [List.take_of_length_le (Nat.le_refl _)] at ha
  rw [ha]
  decide

set_option maxHeartbeats 400000 in
theorem check_empty (ao : Option Addr) (cap : Nat) (w : World) :
    Calls Tryd.prog 59 #[.slice ao 0 cap] w fun e w' => e = .returned (.int .i64 0) ∧ w' = w := by
  go_enter Tryd.func59, Tryd.ntmps59
  go_wp2
  refine wp_loop_rounds 1 ?_
  rw [rounds_succ]
  go_wp2
  go_ret
  exact ⟨rfl, rfl⟩

set_option maxHeartbeats 400000 in
theorem check_some (b off cap : Nat) (ss : List ByteArray) (w : World) (hm : ss.length ≤ maxLen)
    (hc : ∀ i, i < ss.length → w.cell? ⟨b, off + i, none⟩ = some (.string (ss.getD i ByteArray.empty))) :
    Calls Tryd.prog 59 #[.slice (some ⟨b, off, none⟩) ss.length cap] w fun e w' => e = .returned (.int .i64 (chk ss)) ∧ w' = w := by
  unfold maxLen at hm
  have HC := hide hc
  clear hc
  by_cases hmany : 100 < ss.length
  · have H : Hid (chk ss = 2) := chk_many ss hmany
    have hd : decide ((100 : Int) < (ss.length : Int)) = true := by simp; omega
    go_enter Tryd.func59, Tryd.ntmps59
    go_wp2
    go_ret
    exact ⟨ret_int (by rw [H.out]; rfl), rfl⟩
  have hd : decide ((100 : Int) < (ss.length : Int)) = false := by simp; omega
  go_enter Tryd.func59, Tryd.ntmps59
  go_wp2
  go_loop [10] (fun i => ∃ k : Nat, k ≤ ss.length ∧ i = .int .i64 k ∧ (ss.take k).any (fun s => decide (20 < s.size)) = false) (fun i => ss.length - (intOf i).toNat)
  case atStart => exact ⟨0, Nat.zero_le _, rfl, rfl⟩
  case round =>
    obtain ⟨k, hk, rfl, ha⟩ := hrel
    have HA := hide ha
    clear ha
    by_cases hlt : k < ss.length
    · obtain ⟨s, hs⟩ : ∃ s, s = ss.getD k ByteArray.empty := ⟨_, rfl⟩
      have hck := unhide HC k hlt
      rw [← hs] at hck
      have HS := hide hs
      clear hs
      by_cases hl : 20 < s.size
      · have hd2 : decide ((20 : Int) < (s.size : Int)) = true := by simp; omega
        go_wp2
        go_ret
        exact ⟨ret_int (by rw [chk_long ss k hmany hlt (by rw [← unhide HS]; exact hl)]; rfl), rfl⟩
      · have hd2 : decide ((20 : Int) < (s.size : Int)) = false := by simp; omega
        go_wp2
        go_round
        case rel => exact ⟨k + 1, by omega, by go_num, by rw [any_take_succ ss k hlt (unhide HA), ← unhide HS]; simp; omega⟩
        case measure => simp [intOf]; omega
    · have hkl : ss.length = k := by omega
      have H : chk ss = 0 := chk_ok ss hmany (by rw [hkl]; exact unhide HA)
      have HH := hide H
      clear H hkl
      go_wp2
      go_ret
      exact ⟨ret_int (by rw [unhide HH]; rfl), rfl⟩

theorem check_any (v : Value) (ss : List ByteArray) (w : World) (h : Strs w v ss) :
    Calls Tryd.prog 59 #[v] w fun e w' => e = .returned (.int .i64 (chk ss)) ∧ w' = w := by
  obtain ⟨ao, cap, rfl, h1, h2, h3⟩ := h
  rcases h3 with rfl | ⟨b, off, rfl, hc⟩
  · exact check_empty ao cap w
  · exact check_some b off cap ss w (by omega) hc
end Go.Proofs.YtocfikblfobjfaaDoor
namespace Go.Proofs.YtocfikblfobjfaaDoor
open Go.RowKit

theorem info_u8 : (Tryd.prog.info? 5).map (fun i => (i.zero, i.size, i.bytes)) = some (some (.int .u8 0), 1, 1) := by kernel_rfl

/-- Bytes as cells. -/
def bcells (l : List UInt8) : List Value := l.map fun b => Value.int .u8 (b.toNat : Int)
theorem bcells_append (a b : List UInt8) : bcells (a ++ b) = bcells a ++ bcells b := by simp [bcells]
theorem bcells_length (a : List UInt8) : (bcells a).length = a.length := by simp [bcells]

theorem own_below {w w' : World} {base : Nat} {e : TypeId} {size : Nat} {v : Value} {n : Nat} {xs : List Value} {B : Nat} (h : w.ownsRow base e size v n xs) (hb : Below B w w') (hB : w.heap.size ≤ B) : w'.ownsRow base e size v n xs := by
  obtain ⟨h1, h2⟩ := h
  refine ⟨h1, ?_⟩
  rcases h2 with h2 | ⟨g, cap, cur, rfl, h3, h4, h5⟩
  · exact .inl h2
  · refine .inr ⟨g, cap, cur, rfl, h3, ?_, h5⟩
    rw [hb.block g (Nat.lt_of_lt_of_le (lt_of_block h4) hB)]
    exact h4
theorem own_row_ge {w : World} {base : Nat} {e : TypeId} {size : Nat} {v : Value} {n : Nat} {xs : List Value} (h : w.ownsRow base e size v n xs) : ∀ k, v.ownBlock = some k → base ≤ k := fun k hk => (h.lt k hk).1
theorem strCells_eq (s : ByteArray) : Lib.strCells s = bcells s.data.toList := rfl
theorem byte_len (s : ByteArray) (h : s.size ≤ 20) : (s.size : Int) = ((UInt8.ofNat s.data.toList.length).toNat : Int) := by
  rw [UInt8.toNat_ofNat']
  have : s.data.toList.length = s.size := rfl
  omega
theorem frm_cells (v : Nat) (s : ByteArray) : bcells (frm v s.data.toList) = [Value.int .u8 ((UInt8.ofNat s.data.toList.length).toNat : Int)] ++ Lib.strCells s ++ Lib.strCells ⟨(two (lnk v s.data.toList)).toArray⟩ := by
  simp [bcells, frm, Lib.strCells]

set_option maxHeartbeats 800000 in
theorem write_ok (b off cap : Nat) (ss : List ByteArray) (w : World) (hm : ss.length ≤ 100) (hsz : ∀ i, i < ss.length → (ss.getD i ByteArray.empty).size ≤ 20)
    (hc : ∀ i, i < ss.length → w.cell? ⟨b, off + i, none⟩ = some (.string (ss.getD i ByteArray.empty))) (hchk : chk ss = 0) (hS : Strs w (.slice (some ⟨b, off, none⟩) ss.length cap) ss) :
    Calls Tryd.prog 36 #[.slice (some ⟨b, off, none⟩) ss.length cap] w fun e w' => e = .returned (.tuple #[.string ⟨(olog 0 (bs ss)).toArray⟩, .int .i64 0]) ∧ Below w.heap.size w w' := by
  have HC := hide hc
  have HZ := hide hsz
  have HK := hide hchk
  have HS := hide hS
  clear hc hsz hchk hS
  obtain ⟨i0, hi, hz0, hz1, hz2⟩ := info_parts info_u8
  go_enter Tryd.func36, Tryd.ntmps36
  go_wp2_with fail
  refine (check_any _ ss _ (unhide HS)).mono ?_
  rw [unhide HK]
  rintro e w1 ⟨rfl, rfl⟩
  go_wp2
  go_loopw [5, 6, 16] (fun v l i wr => ∃ k : Nat, k ≤ ss.length ∧ i = .int .i64 k ∧ l = .int .u16 (last 0 (bs (ss.take k))) ∧
      wr.ownsRow w1.heap.size 5 1 v (olog 0 (bs (ss.take k))).length (bcells (olog 0 (bs (ss.take k)))) ∧ Below w1.heap.size w1 wr) (fun _ _ i _ => ss.length - (intOf i).toNat)
  case atStart => exact ⟨0, Nat.zero_le _, rfl, rfl, World.ownsRow_nil _ _ _ _, Below.refl _ _⟩
  case round =>
    obtain ⟨k, hk, rfl, rfl, hown, hbel⟩ := hrel
    by_cases hlt : k < ss.length
    · obtain ⟨s, hs⟩ : ∃ s, s = ss.getD k ByteArray.empty := ⟨_, rfl⟩
      have hck0 := unhide HC k hlt
      have hss := unhide HZ k hlt
      rw [← hs] at hck0 hss
      have HS2 := hide hs
      clear hs
      have hck : wr.cell? ⟨b, off + k, none⟩ = some (.string s) := by rw [hbel.cell (p := ⟨b, off + k, none⟩) (cell_lt hck0)]; exact hck0
      have hv := last_lt (bs (ss.take k)) 0 (by omega)
      have HO := hide (olog_snoc (bs (ss.take k)) s.data.toList 0)
      have HL := hide (last_snoc (bs (ss.take k)) s.data.toList 0)
      have HB := hide (bs_take_succ ss k hlt)
      have hlen : (olog 0 (bs (ss.take k))).length ≤ 2300 := by
        have := olog_length_le (bs (ss.take k)) (by
          intro e he
          simp only [bs, List.mem_map] at he
          obtain ⟨x, hx, rfl⟩ := he
          obtain ⟨j, hj, rfl⟩ := List.getElem_of_mem hx
          have hjl : j < ss.length := by simp at hj; omega
          have := unhide HZ j hjl
          simpa [List.getD, List.getElem?_eq_getElem hjl] using this) 0
        simp only [bs_length, List.length_take] at this
        omega
      generalize olog 0 (bs (ss.take k)) = o at *
      generalize last 0 (bs (ss.take k)) = v at *
      go_wp2_with fail
      refine (link_any v s _ hv (by omega)).mono ?_
      rintro e w2 ⟨rfl, hb2⟩
      have hv2 := lnk_lt v s.data.toList
      have hown2 := own_below hown hb2 (Nat.le_refl _)
      have hbel2 := hbel.trans (hb2.mono hbel.size)
      have HBL := hide (byte_len s hss)
      generalize hv2e : lnk v s.data.toList = v2 at hv2 HL ⊢
      have HV := hide hv2e
      clear hv2e
      clear hown hbel hck hck0
      go_wp2_with (at_builtin; refine wpList_append_own _ rfl (.tmp 23) (.tmp 27) 45 rfl w1.heap.size 5 i0 (.int .u8 0) 1 1 Tryd.underlying45 hi hz0 hz1 hz2 rfl (by decide) _ _ _ rfl (hown2.alloc _) ⟨w2.heap.size, 0, none⟩ 1 1 [.int .u8 (s.size : Int)] rfl rfl ?c1 ?c2 ?c3 ?c4 ?c5 ?_)
      case c1 => exact cell_one_new _ _ _
      case c2 => intro u hu; simp at hu; subst hu; rfl
      case c3 => unfold maxLen; omega
      case c4 => omega
      case c5 => have := hbel2.size; simp; omega
      intro v3 w3 hown3 hgrow3 _
      have hsz2 : w1.heap.size ≤ w2.heap.size := hbel2.size
      have hbel3 : Below w1.heap.size w1 w3 := (hbel2.alloc hsz2 _).grown hgrow3 (by simp; omega) (own_row_ge hown2)
      have hsz3 : w1.heap.size ≤ w3.heap.size := hbel3.size
      clear hgrow3 hbel2 hown2 hb2
      go_wp2_with (at_builtin; refine Lib.wpList_append_own_string _ rfl (.tmp 29) (.tmp 30) 45 9 rfl w1.heap.size 5 i0 Tryd.underlying45 Tryd.underlying9 hi hz0 hz1 hz2 _ _ _ rfl hown3 s rfl ?d1 ?d2 hsz3 ?_)
      case d1 => unfold maxLen; omega
      case d2 => omega
      intro v4 w4 hown4 hgrow4 _
      have hbel4 : Below w1.heap.size w1 w4 := hbel3.grown hgrow4 hsz3 (own_row_ge hown3)
      have hsz4 : w1.heap.size ≤ w4.heap.size := hbel4.size
      clear hgrow4 hbel3 hown3
      go_wp2_with fail
      refine (two_any v2 _ hv2).mono ?_
      rintro e w5 ⟨rfl, hb5⟩
      have hown5 := own_below hown4 hb5 (Nat.le_refl _)
      have hbel5 := hbel4.trans (hb5.mono hsz4)
      have hsz5 : w1.heap.size ≤ w5.heap.size := hbel5.size
      clear hown4 hbel4 hb5
      have htz : (ByteArray.mk (two v2).toArray).size = 2 := rfl
      go_wp2_with (at_builtin; refine Lib.wpList_append_own_string _ rfl (.tmp 32) (.tmp 34) 45 9 rfl w1.heap.size 5 i0 Tryd.underlying45 Tryd.underlying9 hi hz0 hz1 hz2 _ _ _ rfl hown5 ⟨(two v2).toArray⟩ rfl ?e1 ?e2 hsz5 ?_)
      case e1 => unfold maxLen; omega
      case e2 => omega
      intro v6 w6 hown6 hgrow6 _
      have hbel6 : Below w1.heap.size w1 w6 := hbel5.grown hgrow6 hsz5 (own_row_ge hown5)
      clear hgrow6 hbel5 hown5
      go_wp2
      go_roundw
      case rel =>
        refine ⟨k + 1, by omega, by go_num, ?_, ?_, hbel6⟩
        · rw [unhide HB, ← unhide HS2, unhide HL]
        · rw [unhide HB, ← unhide HS2, unhide HO, bcells_append, frm_cells, unhide HV, ← unhide HBL]
          have e1 : (o ++ frm v s.data.toList).length = o.length + 1 + s.size + (ByteArray.mk (two v2).toArray).size := by
            have : s.data.toList.length = s.size := rfl
            rw [List.length_append, frm_length, htz]; omega
          rw [e1, htz]
          simpa [List.append_assoc] using hown6
      case measure => simp [intOf]; omega
    · have hkl : ss.take k = ss := List.take_of_length_le (by omega)
      rw [hkl] at hown
      generalize hoe : olog 0 (bs ss) = o at hown
      have HF := hide hoe
      clear hoe
      rcases hown with ⟨hl, ⟨rfl, h0⟩ | ⟨g, cap2, cur, rfl, hg1, hg2, hg3, hg4, hg5, hg6⟩⟩
      · have ho : o = [] := List.eq_nil_of_length_eq_zero h0
        subst ho
        have hcv := fun (w : World) => run_convert_bytes_nil (P := Tryd.prog) w 45 5 Tryd.underlying45 Tryd.underlying5 0 0 9 Tryd.underlying9
        go_wp2
        go_ret2
        exact ⟨by rw [unhide HF]; rfl, hbel⟩
      · have hcv := run_convert_bytes_back (P := Tryd.prog) wr 45 9 5 ⟨g, 0, none⟩ cap2 o Tryd.underlying45 Tryd.underlying5 Tryd.underlying9 (by
          intro j hj
          have hc1 : (cur.toList.take (o.length * 1))[j]? = (bcells o)[j]? := by rw [hg6]
          rw [List.getElem?_take_of_lt (by omega)] at hc1
          rw [Addr.add_lit]
          unfold World.cell?
          rw [hg2]
          simpa [bcells, List.getElem?_eq_getElem hj] using hc1)
        clear hl hg1 hg2 hg3 hg4 hg5 hg6
        go_wp2
        go_ret2
        exact ⟨by rw [unhide HF]; rfl, hbel⟩

theorem chk_zero (ss : List ByteArray) (h : chk ss = 0) : ss.length ≤ 100 ∧ ∀ i, i < ss.length → (ss.getD i ByteArray.empty).size ≤ 20 := by
  have h1 : ¬ 100 < ss.length := by
    intro h1
    rw [chk_many ss h1] at h
    exact absurd h (by decide)
  refine ⟨by omega, fun i hi => ?_⟩
  by_cases hl : 20 < (ss.getD i ByteArray.empty).size
  · rw [chk_long ss i h1 hi hl] at h
    exact absurd h (by decide)
  · omega
theorem chk_cases (ss : List ByteArray) : chk ss = 0 ∨ chk ss = 1 ∨ chk ss = 2 := by
  unfold chk
  split
  · exact .inr (.inr rfl)
  · split
    · exact .inr (.inl rfl)
    · exact .inl rfl

set_option maxHeartbeats 400000 in
theorem write_bad (v : Value) (ss : List ByteArray) (w : World) (h : Strs w v ss) (c : Nat) (hc : chk ss = c) (h0 : 0 < c) (h2 : c ≤ 2) :
    Calls Tryd.prog 36 #[v] w fun e w' => e = .returned (.tuple #[.string ⟨#[]⟩, .int .i64 c]) ∧ Below w.heap.size w w' := by
  have HC := hide hc
  have HS := hide h
  clear hc h
  have hn : ((c : Int) != 0) = true := by simp; omega
  go_enter Tryd.func36, Tryd.ntmps36
  go_wp2_with fail
  refine (check_any _ ss _ (unhide HS)).mono ?_
  rw [unhide HC]
  rintro e w1 ⟨rfl, rfl⟩
  go_wp2
  go_ret2
  exact ⟨rfl, Below.refl _ _⟩

set_option maxHeartbeats 400000 in
theorem write_empty (ao : Option Addr) (cap : Nat) (w : World) (hS : Strs w (.slice ao 0 cap) []) :
    Calls Tryd.prog 36 #[.slice ao 0 cap] w fun e w' => e = .returned (.tuple #[.string ⟨(olog 0 (bs [])).toArray⟩, .int .i64 0]) ∧ Below w.heap.size w w' := by
  have HS := hide hS
  clear hS
  have hcv := fun (w : World) => run_convert_bytes_nil (P := Tryd.prog) w 45 5 Tryd.underlying45 Tryd.underlying5 0 0 9 Tryd.underlying9
  go_enter Tryd.func36, Tryd.ntmps36
  go_wp2_with fail
  refine (check_any _ [] _ (unhide HS)).mono ?_
  rw [show chk [] = 0 from rfl]
  rintro e w1 ⟨rfl, rfl⟩
  go_wp2
  refine wp_loop_rounds 1 ?_
  rw [rounds_succ]
  go_wp2
  go_ret2
  exact ⟨rfl, Below.refl _ _⟩

/-- What WriteOld answers. -/
def wrText (ss : List ByteArray) : ByteArray := if chk ss = 0 then ⟨(olog 0 (bs ss)).toArray⟩ else ⟨#[]⟩
theorem write_any (v : Value) (ss : List ByteArray) (w : World) (h : Strs w v ss) :
    Calls Tryd.prog 36 #[v] w fun e w' => e = .returned (.tuple #[.string (wrText ss), .int .i64 (chk ss)]) ∧ Below w.heap.size w w' := by
  by_cases h0 : chk ss = 0
  · have hz := chk_zero ss h0
    unfold wrText
    rw [if_pos h0, h0]
    have hS := h
    obtain ⟨ao, cap, rfl, h1, h2, h3⟩ := h
    rcases h3 with rfl | ⟨b, off, rfl, hc⟩
    · exact write_empty ao cap w hS
    · exact write_ok b off cap ss w hz.1 hz.2 hc h0 hS
  · have hc := chk_cases ss
    unfold wrText
    rw [if_neg h0]
    exact write_bad v ss w h (chk ss) rfl (by omega) (by omega)
end Go.Proofs.YtocfikblfobjfaaDoor
namespace Go.Proofs.YtocfikblfobjfaaDoor
open Go.RowKit

theorem rfErr_short (l : List UInt8) (v : Nat) (h : l.length < 3) : rfErr l v = 3 := by
  match l, h with
  | [], _ => rfl
  | c :: r, h => simp only [rfErr]; rw [if_pos (Or.inr (by simp at h; omega))]
theorem ba_getElem (s : ByteArray) (h : 0 < s.size) : ∃ r, s.data.toList = s[0] :: r ∧ r.length + 1 = s.size := by
  have hl : s.data.toList.length = s.size := rfl
  match e : s.data.toList with
  | [] => rw [e] at hl; simp at hl; omega
  | c :: r =>
    refine ⟨r, ?_, by rw [e] at hl; simpa using hl⟩
    have : s.data.toList[0]? = some s[0] := by
      rw [List.getElem?_eq_getElem (by rw [hl]; exact h)]
      rfl
    rw [e] at this
    simp at this
    rw [← this]
theorem rfErr_frame (s : ByteArray) (v : Nat) (h : 3 ≤ s.size) (hf : 20 < (s[0]'(by omega)).toNat ∨ s.size < 3 + (s[0]'(by omega)).toNat) : rfErr s.data.toList v = 3 := by
  obtain ⟨r, e, hr⟩ := ba_getElem s (by omega)
  rw [e]
  simp only [rfErr]
  rw [if_pos (by rcases hf with hf | hf; exact .inl hf; exact .inr (by omega))]

set_option maxHeartbeats 400000 in
theorem rf_short (s : ByteArray) (v : Nat) (w : World) (hs : s.size < 3) :
    Calls Tryd.prog 62 #[.string s, .int .u16 v] w fun e w' => e = .returned (.tuple #[.string ⟨#[]⟩, .int .u16 0, .int .i64 3]) ∧ Below w.heap.size w w' := by
  go_enter Tryd.func62, Tryd.ntmps62
  go_wp2
  go_ret3
  exact ⟨rfl, Below.refl _ _⟩
set_option maxHeartbeats 400000 in
theorem rf_long (s : ByteArray) (v : Nat) (w : World) (hm : s.size ≤ maxLen) (hs : 3 ≤ s.size) (hl : 20 < (s[0]'(by omega)).toNat) :
    Calls Tryd.prog 62 #[.string s, .int .u16 v] w fun e w' => e = .returned (.tuple #[.string ⟨#[]⟩, .int .u16 0, .int .i64 3]) ∧ Below w.heap.size w w' := by
  unfold maxLen at hm
  have hb := (s[0]'(by omega)).toNat_lt
  go_enter Tryd.func62, Tryd.ntmps62
  go_wp2
  go_ret3
  exact ⟨rfl, Below.refl _ _⟩
set_option maxHeartbeats 400000 in
theorem rf_cut (s : ByteArray) (v : Nat) (w : World) (hm : s.size ≤ maxLen) (hs : 3 ≤ s.size) (hl : ¬ 20 < (s[0]'(by omega)).toNat) (hc : s.size < 3 + (s[0]'(by omega)).toNat) :
    Calls Tryd.prog 62 #[.string s, .int .u16 v] w fun e w' => e = .returned (.tuple #[.string ⟨#[]⟩, .int .u16 0, .int .i64 3]) ∧ Below w.heap.size w w' := by
  unfold maxLen at hm
  have hb := (s[0]'(by omega)).toNat_lt
  go_enter Tryd.func62, Tryd.ntmps62
  go_wp2
  go_ret3
  exact ⟨rfl, Below.refl _ _⟩
theorem rf_facts (s : ByteArray) (v : Nat) (hs : 3 ≤ s.size) (n : Nat) (hn : (s[0]'(by omega)).toNat = n) (hl : n ≤ 20) (hc : 3 + n ≤ s.size) :
    rfErr s.data.toList v = (if (s.extract (1 + n) (3 + n)).data.toList = two (lnk v (s.extract 1 (1 + n)).data.toList) then 0 else 4) ∧
    (rfErr s.data.toList v = 0 → rfEnt s.data.toList v = (s.extract 1 (1 + n)).data.toList ∧ rfLnk s.data.toList v = lnk v (s.extract 1 (1 + n)).data.toList) ∧
    (rfErr s.data.toList v ≠ 0 → rfEnt s.data.toList v = [] ∧ rfLnk s.data.toList v = 0) := by
  obtain ⟨r, e, hr⟩ := ba_getElem s (by omega)
  have e1 : (s.extract (1 + n) (3 + n)).data.toList = (r.drop n).take 2 := by
    rw [extract_data, e, show 1 + n = n + 1 by omega, show 3 + n - (n + 1) = 2 by omega, List.drop_succ_cons]
  have e2 : (s.extract 1 (1 + n)).data.toList = r.take n := by
    rw [extract_data, e, show 1 + n - 1 = n by omega]
    rfl
  have he : rfErr s.data.toList v = (if (r.drop n).take 2 = two (lnk v (r.take n)) then 0 else 4) := by
    rw [e]
    simp only [rfErr]
    rw [if_neg (by omega), hn]
  have hE : rfErr s.data.toList v = 0 → rfEnt s.data.toList v = r.take n := by
    intro h
    unfold rfEnt
    rw [if_pos h, e]
    simp only [List.drop_succ_cons, List.drop_zero, List.headD_cons]
    rw [hn]
  rw [e1, e2]
  refine ⟨he, fun h => ⟨hE h, ?_⟩, fun h => ⟨?_, ?_⟩⟩
  · unfold rfLnk
    rw [if_pos h, hE h]
  · unfold rfEnt
    rw [if_neg h]
  · unfold rfLnk
    rw [if_neg h]
set_option maxHeartbeats 400000 in
theorem rf_whole (s : ByteArray) (v : Nat) (w : World) (hv : v < 65536) (hm : s.size ≤ 140737488351232) (hs : 3 ≤ s.size) (n : Nat) (hn : (s[0]'(by omega)).toNat = n) (hl : n ≤ 20) (hc : 3 + n ≤ s.size) :
    Calls Tryd.prog 62 #[.string s, .int .u16 v] w fun e w' => e = .returned (.tuple #[.string (mk (rfEnt s.data.toList v)), .int .u16 (rfLnk s.data.toList v), .int .i64 (rfErr s.data.toList v)]) ∧ Below w.heap.size w w' := by
  have hb := (s[0]'(by omega)).toNat_lt
  go_enter Tryd.func62, Tryd.ntmps62
  go_wp2_with fail
  refine (link_any v _ _ hv ?_).mono ?_
  · simp; omega
  rintro e w1 ⟨rfl, hb1⟩
  have hv2 := lnk_lt v (s.extract 1 (1 + n)).data.toList
  have hsl : ∀ wx, (Instr.slice 9 (.string s) (some (.int .i64 (1 + (n : Int)))) (some (.int .i64 (3 + (n : Int)))) none).run Tryd.prog wx = .ok (.string (s.extract (1 + n) (3 + n))) wx := fun wx => by
    have := run_slice_string (P := Tryd.prog) wx 9 s .i64 .i64 (1 + (n : Int)) (3 + (n : Int)) Tryd.underlying9 (by omega) (by omega) (by omega)
    rw [this, show (1 + (n : Int)).toNat = 1 + n by omega, show (3 + (n : Int)).toNat = 3 + n by omega]
  have fA : (0 : Int) ≤ 3 + (n : Int) := by omega
  have fB : 3 + (n : Int) ≤ (s.size : Int) := by omega
  have fC : (0 : Int) ≤ 1 + (n : Int) := by omega
  have fD : 1 + (n : Int) ≤ 3 + (n : Int) := by omega
  have fE : IntKind.i64.wrap (1 + (n : Int)) = 1 + (n : Int) := i64w _ (by omega)
  have fF : IntKind.i64.wrap (3 + (n : Int)) = 3 + (n : Int) := i64w _ (by omega)
  have fG : (3 + (n : Int)).toNat = 3 + n := by omega
  have fH : (1 + (n : Int)).toNat = 1 + n := by omega
  have HE := hide (rf_facts s v hs n hn hl hc)
  generalize hle : lnk v (s.extract 1 (1 + n)).data.toList = l at hv2 ⊢
  have HL := hide hle
  clear hle
  cases hq : ((s.extract (1 + n) (3 + n)).toList == two l)
  · have H2 : rfErr s.data.toList v = 4 ∧ rfEnt s.data.toList v = [] ∧ rfLnk s.data.toList v = 0 := by
      have h1 := (unhide HE).1
      rw [unhide HL, if_neg (by rw [ByteArray.toList_eq] at hq; simpa using hq)] at h1
      exact ⟨h1, (unhide HE).2.2 (by rw [h1]; decide)⟩
    have HH := hide H2
    clear H2
    go_wp2_with fail
    go_region_with (go_at_call 61; refine (two_any l _ hv2).mono ?_; rintro e w2 ⟨rfl, hb2⟩)
    have hb3 : Below w.heap.size w w2 := hb1.drew.trans (hb2.mono hb1.size)
    go_wp2
    go_ret3
    exact ⟨by rw [(unhide HH).1, (unhide HH).2.1, (unhide HH).2.2]; rfl, hb3⟩
  · have H2 : rfErr s.data.toList v = 0 ∧ rfEnt s.data.toList v = (s.extract 1 (1 + n)).data.toList ∧ rfLnk s.data.toList v = l := by
      have h1 := (unhide HE).1
      rw [unhide HL, if_pos (by rw [ByteArray.toList_eq] at hq; simpa using hq)] at h1
      have h2 := (unhide HE).2.1 h1
      rw [unhide HL] at h2
      exact ⟨h1, h2⟩
    have HH := hide H2
    clear H2
    go_wp2_with fail
    go_region_with (go_at_call 61; refine (two_any l _ hv2).mono ?_; rintro e w2 ⟨rfl, hb2⟩)
    have hb3 : Below w.heap.size w w2 := hb1.drew.trans (hb2.mono hb1.size)
    go_wp2
    go_ret3
    exact ⟨by rw [(unhide HH).1, (unhide HH).2.1, (unhide HH).2.2]; rfl, hb3⟩

theorem frame_any (s : ByteArray) (v : Nat) (w : World) (hv : v < 65536) (hm : s.size ≤ 140737488351232) :
    Calls Tryd.prog 62 #[.string s, .int .u16 v] w fun e w' => e = .returned (.tuple #[.string (mk (rfEnt s.data.toList v)), .int .u16 (rfLnk s.data.toList v), .int .i64 (rfErr s.data.toList v)]) ∧ Below w.heap.size w w' := by
  have bad : rfErr s.data.toList v = 3 → rfEnt s.data.toList v = [] ∧ rfLnk s.data.toList v = 0 := by
    intro h; unfold rfLnk rfEnt; rw [h]; exact ⟨rfl, rfl⟩
  by_cases h3 : s.size < 3
  · have h := rfErr_short s.data.toList v h3
    rw [h, (bad h).1, (bad h).2]
    exact rf_short s v w h3
  · by_cases hl : 20 < (s[0]'(by omega)).toNat
    · have h := rfErr_frame s v (by omega) (.inl hl)
      rw [h, (bad h).1, (bad h).2]
      exact rf_long s v w (by unfold maxLen; omega) (by omega) hl
    · by_cases hc : s.size < 3 + (s[0]'(by omega)).toNat
      · have h := rfErr_frame s v (by omega) (.inr hc)
        rw [h, (bad h).1, (bad h).2]
        exact rf_cut s v w (by unfold maxLen; omega) (by omega) hl hc
      · exact rf_whole s v w hv hm (by omega) _ rfl (by omega) (by omega)
end Go.Proofs.YtocfikblfobjfaaDoor
namespace Go.Proofs.YtocfikblfobjfaaDoor
open Go.RowKit

theorem info_str : (Tryd.prog.info? 9).map (fun i => (i.zero, i.size, i.bytes)) = some (some (.string ⟨#[]⟩), 1, 16) := by kernel_rfl

/-- What rd says of a text that is not empty, and a number below 100. -/
theorem rd_step (f k v : Nat) (l : List UInt8) (hl : l ≠ []) (hk : k ≠ 100) (he : rfErr l v = 0) :
    rd (f + 1) k v l = (rfEnt l v :: (rd f (k + 1) (rfLnk l v) (l.drop (3 + (rfEnt l v).length))).1, (rd f (k + 1) (rfLnk l v) (l.drop (3 + (rfEnt l v).length))).2) := by
  simp only [rd]
  rw [if_neg hl, if_neg hk, if_pos he]
theorem rd_bad (f k v : Nat) (l : List UInt8) (hl : l ≠ []) (hk : k ≠ 100) (he : rfErr l v ≠ 0) : rd (f + 1) k v l = ([], rfErr l v, k) := by
  simp only [rd]
  rw [if_neg hl, if_neg hk, if_neg he]
theorem rd_full (f v : Nat) (l : List UInt8) (hl : l ≠ []) : rd (f + 1) 100 v l = ([], 3, 100) := by
  simp only [rd]
  rw [if_neg hl, if_pos trivial]
theorem rd_end (f k v : Nat) : rd f k v [] = ([], 0, 0) := by
  cases f with
  | zero => rfl
  | succ f => simp only [rd]; rw [if_pos trivial]
theorem rfErr_le (l : List UInt8) (v : Nat) : rfErr l v ≤ 4 := by
  unfold rfErr
  split
  · decide
  · split
    · decide
    · split <;> decide
theorem rfLnk_lt (l : List UInt8) (v : Nat) : rfLnk l v < 65536 := by
  unfold rfLnk
  split
  · exact lnk_lt _ _
  · decide
theorem rfEnt_le (l : List UInt8) (v : Nat) : (rfEnt l v).length ≤ 20 ∧ (rfErr l v = 0 → 3 + (rfEnt l v).length ≤ l.length) := by
  unfold rfEnt
  split
  · rename_i h
    match l, h with
    | [], h => simp [rfErr] at h
    | c :: r, h =>
      simp only [rfErr] at h
      split at h
      · simp at h
      · rename_i h1
        simp only [List.drop_succ_cons, List.drop_zero, List.headD_cons, List.length_take, List.length_cons]
        omega
  · rename_i h
    exact ⟨by simp, fun h' => absurd h' h⟩

set_option maxRecDepth 100000 in
set_option maxHeartbeats 400000 in
theorem read_long (s : ByteArray) (w : World) (hs : 2300 < s.size) (hm : s.size ≤ maxLen) :
    Calls Tryd.prog 37 #[.string s] w fun e w' => e = .returned (.tuple #[.slice none 0 0, .int .i64 1, .int .i64 0]) ∧ w' = w := by
  unfold maxLen at hm
  go_enter Tryd.func37, Tryd.ntmps37
  go_wp2
  go_ret3
  exact ⟨rfl, rfl⟩

/-- What is left to be read when some entries have been. -/
def RdAt (L : List UInt8) (acc : List (List UInt8)) (v : Nat) (t : List UInt8) : Prop :=
  ∃ f, t.length ≤ f ∧ rd L.length 0 0 L = (acc ++ (rd f acc.length v t).1, (rd f acc.length v t).2)

theorem own_shape {w : World} {base : Nat} {e : TypeId} {size : Nat} {v : Value} {n : Nat} {xs : List Value} (h : w.ownsRow base e size v n xs) : ∃ ao cap, v = .slice ao n cap := by
  rcases h.2 with ⟨rfl, rfl⟩ | ⟨g, cap, cur, rfl, _⟩
  · exact ⟨_, _, rfl⟩
  · exact ⟨_, _, rfl⟩
theorem RdAt.full {L t : List UInt8} {acc : List (List UInt8)} {v : Nat} (h : RdAt L acc v t) (ht : t ≠ []) (ha : acc.length = 100) : rd L.length 0 0 L = (acc, 3, 100) := by
  obtain ⟨f, hf, h⟩ := h
  cases f with
  | zero => exact absurd (List.eq_nil_of_length_eq_zero (by omega)) ht
  | succ f => rw [h, ha, rd_full f v t ht, List.append_nil]
theorem RdAt.bad {L t : List UInt8} {acc : List (List UInt8)} {v : Nat} (h : RdAt L acc v t) (ht : t ≠ []) (ha : acc.length ≠ 100) (he : rfErr t v ≠ 0) : rd L.length 0 0 L = (acc, rfErr t v, acc.length) := by
  obtain ⟨f, hf, h⟩ := h
  cases f with
  | zero => exact absurd (List.eq_nil_of_length_eq_zero (by omega)) ht
  | succ f => rw [h, rd_bad f _ v t ht ha he, List.append_nil]
theorem RdAt.next {L t : List UInt8} {acc : List (List UInt8)} {v : Nat} (h : RdAt L acc v t) (ht : t ≠ []) (ha : acc.length ≠ 100) (he : rfErr t v = 0) : RdAt L (acc ++ [rfEnt t v]) (rfLnk t v) (t.drop (3 + (rfEnt t v).length)) := by
  obtain ⟨f, hf, h⟩ := h
  cases f with
  | zero => exact absurd (List.eq_nil_of_length_eq_zero (by omega)) ht
  | succ f =>
    refine ⟨f, ?_, ?_⟩
    · rw [List.length_drop]; omega
    · rw [h, rd_step f _ v t ht ha he]
      simp
theorem RdAt.done {L : List UInt8} {acc : List (List UInt8)} {v : Nat} (h : RdAt L acc v []) : rd L.length 0 0 L = (acc, 0, 0) := by
  obtain ⟨f, hf, h⟩ := h
  rw [h, rd_end, List.append_nil]

set_option maxRecDepth 100000 in
set_option maxHeartbeats 800000 in
theorem read_short (s : ByteArray) (w : World) (hs : s.size ≤ 2300) :
    Calls Tryd.prog 37 #[.string s] w fun e w' => ∃ v, e = .returned (.tuple #[v, .int .i64 (rd s.size 0 0 s.data.toList).2.1, .int .i64 (rd s.size 0 0 s.data.toList).2.2]) ∧
      w'.ownsRow w.heap.size 9 1 v (rd s.size 0 0 s.data.toList).1.length (((rd s.size 0 0 s.data.toList).1.map mk).map Value.string) ∧ Below w.heap.size w w' := by
  obtain ⟨i0, hi, hz0, hz1, hz2⟩ := info_parts info_str
  go_enter Tryd.func37, Tryd.ntmps37
  go_wp2
  go_loopw [0, 5, 6] (fun t o l wr => ∃ (acc : List (List UInt8)) (v : Nat) (x : ByteArray), acc.length ≤ 100 ∧ v < 65536 ∧ x.size ≤ 2300 ∧ RdAt s.data.toList acc v x.data.toList ∧ t = .string x ∧ l = .int .u16 v ∧
      wr.ownsRow w.heap.size 9 1 o acc.length ((acc.map mk).map Value.string) ∧ Below w.heap.size w wr) (fun t _ _ _ => (match t with | .string x => x.size | _ => 0))
  case atStart => exact ⟨[], 0, s, by simp, by omega, hs, ⟨_, Nat.le_refl _, by simp⟩, rfl, rfl, World.ownsRow_nil _ _ _ _, Below.refl _ _⟩
  case round =>
    obtain ⟨acc, v, x, hacc, hv, hx, hR, rfl, rfl, hown, hbel⟩ := hrel
    have HR := hide hR
    clear hR
    obtain ⟨ao, cap, rfl⟩ := own_shape hown
    by_cases hx0 : 0 < x.size
    · have ht : x.data.toList ≠ [] := by
        intro h
        have : x.data.toList.length = x.size := rfl
        rw [h] at this
        simp at this
        omega
      by_cases ha : acc.length = 100
      · have HF := hide ((unhide HR).full ht ha)
        have hd : ((acc.length : Int) == 100) = true := by rw [beq_iff_eq]; omega
        clear ht
        go_wp2
        go_ret3
        have hF := unhide HF
        rw [show s.data.toList.length = s.size from rfl] at hF
        rw [hF]
        exact ⟨_, by rw [ha]; rfl, by rw [← ha]; exact hown, hbel⟩
      · have hd : ((acc.length : Int) == 100) = false := by rw [beq_eq_false_iff_ne]; omega
        have HT := hide ht
        clear ht
        go_wp2_with fail
        refine (frame_any x v _ hv (by omega)).mono ?_
        rintro e w1 ⟨rfl, hb1⟩
        have hown1 := own_below hown hb1 (Nat.le_refl _)
        have hbel1 := hbel.trans (hb1.mono hbel.size)
        have hsz1 := hbel1.size
        have hent := rfEnt_le x.data.toList v
        have hlv := rfLnk_lt x.data.toList v
        clear hown hbel hb1
        by_cases he : rfErr x.data.toList v = 0
        · have HN := hide ((unhide HR).next (unhide HT) ha he)
          rw [he]
          have hent2 := hent.2 he
          have hxl : x.data.toList.length = x.size := rfl
          rw [hxl] at hent2
          have hent1 := hent.1
          clear hent he
          generalize rfEnt x.data.toList v = en at *
          generalize rfLnk x.data.toList v = ln at *
          have hes : (mk en).size = en.length := rfl
          go_wp2_with (at_builtin; refine wpList_append_own _ rfl (.tmp 35) (.tmp 37) 34 rfl w.heap.size 9 i0 (.string ⟨#[]⟩) 1 16 Tryd.underlying34 hi hz0 hz1 hz2 rfl (by decide) _ _ _ rfl (hown1.alloc _) ⟨w1.heap.size, 0, none⟩ 1 1 [.string (mk en)] rfl rfl ?c1 ?c2 ?c3 ?c4 ?c5 ?_)
          case c1 => exact cell_one_new _ _ _
          case c2 => intro u hu; simp at hu; subst hu; rfl
          case c3 => unfold maxLen; omega
          case c4 => omega
          case c5 => simp; omega
          intro v3 w3 hown3 hgrow3 _
          have hbel3 : Below w.heap.size w w3 := (hbel1.alloc hsz1 _).grown hgrow3 (by simp; omega) (own_row_ge hown1)
          clear hgrow3 hbel1 hown1
          go_wp2
          go_roundw
          case rel =>
            refine ⟨acc ++ [en], ln, _, by simp; omega, hlv, ?_, ?_, rfl, rfl, by simpa using hown3, hbel3⟩
            · simp; omega
            · have := unhide HN
              rw [← extract_mk_drop] at this
              exact this
          case measure => simp; omega
        · have HB := hide ((unhide HR).bad (unhide HT) ha he)
          have hle := rfErr_le x.data.toList v
          generalize rfErr x.data.toList v = er at *
          generalize rfEnt x.data.toList v = en at *
          generalize rfLnk x.data.toList v = ln at *
          have hne : ((er : Int) != 0) = true := by simp; omega
          clear hent
          go_wp2
          go_ret3
          have hF := unhide HB
          rw [show s.data.toList.length = s.size from rfl] at hF
          rw [hF]
          exact ⟨_, rfl, hown1, hbel1⟩
    · have hx1 : x.data.toList = [] := List.eq_nil_of_length_eq_zero (by have : x.data.toList.length = x.size := rfl; omega)
      have hR := unhide HR
      rw [hx1] at hR
      have HD := hide hR.done
      clear hR hx1
      go_wp2
      go_ret3
      have hF := unhide HD
      rw [show s.data.toList.length = s.size from rfl] at hF
      rw [hF]
      exact ⟨_, rfl, hown, hbel⟩

theorem read_any (s : ByteArray) (w : World) (hm : s.size ≤ maxLen) :
    Calls Tryd.prog 37 #[.string s] w fun e w' => ∃ v, e = .returned (.tuple #[v, .int .i64 (rdOld s.data.toList).2.1, .int .i64 (rdOld s.data.toList).2.2]) ∧
      w'.ownsRow w.heap.size 9 1 v (rdOld s.data.toList).1.length (((rdOld s.data.toList).1.map mk).map Value.string) ∧ Below w.heap.size w w' := by
  unfold rdOld
  by_cases h : 2300 < s.data.toList.length
  · rw [if_pos h]
    refine (read_long s w h hm).mono ?_
    rintro e w' ⟨rfl, rfl⟩
    exact ⟨_, rfl, World.ownsRow_nil _ _ _ _, Below.refl _ _⟩
  · rw [if_neg h]
    exact read_short s w (by have : s.data.toList.length = s.size := rfl; omega)
end Go.Proofs.YtocfikblfobjfaaDoor
