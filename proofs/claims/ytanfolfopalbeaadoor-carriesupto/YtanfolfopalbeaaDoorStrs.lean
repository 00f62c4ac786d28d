/- Slices of strings in memory: 'Strs w v ss': the value v reads, in the world w, as the list of strings ss. -/
import Derived.WalkKit
import Derived.WalkSpells
import Derived.WalkLawsBesides
import Derived.Deep.Slices
import Derived.Test.YtanfolfopalbeaaDoorMath
namespace Go.Proofs.YtanfolfopalbeaaDoor
open Go.RowKit

theorem hide {p : Prop} (h : p) : Hid p := h
/-- Is the next operation a load, a store of a value of type ty? (to be met by 'with_reducible refine': it fails at once elsewhere) -/
theorem at_load {P : Program} {ops : Array Oper} {rest : List Oper} {Q : Exit → Act → World → Prop} {a : Act} {w : World} {ty : TypeId} {x : Operand} {d : Option Tmp} {t : TypeId} {pos : String} {af : Array Edge} {g : Option (Nat × Bool)}
    (h : wpList P ops Q ({ dst := d, op := .load ty x, type := t, pos := pos, after := af, guard := g } :: rest) a w) : wpList P ops Q ({ dst := d, op := .load ty x, type := t, pos := pos, after := af, guard := g } :: rest) a w := h
theorem at_store {P : Program} {ops : Array Oper} {rest : List Oper} {Q : Exit → Act → World → Prop} {a : Act} {w : World} {ty : TypeId} {x y : Operand} {d : Option Tmp} {t : TypeId} {pos : String} {af : Array Edge} {g : Option (Nat × Bool)}
    (h : wpList P ops Q ({ dst := d, op := .store ty x y, type := t, pos := pos, after := af, guard := g } :: rest) a w) : wpList P ops Q ({ dst := d, op := .store ty x y, type := t, pos := pos, after := af, guard := g } :: rest) a w := h
theorem ev_same (a : Act) (d : Nat) (v : Value) (h : d < a.tmps.size) : (a.put (some d) v).eval (.tmp d) = v := by
  simp [Act.put, Act.eval, Array.getD, h]
theorem ev_other (a : Act) (d j : Nat) (v : Value) (h : d ≠ j) : (a.put (some d) v).eval (.tmp j) = a.eval (.tmp j) := by
  simp [Act.put, Act.eval, h]
theorem tmp_other (a : Act) (d j : Nat) (v u : Value) (h : d ≠ j) : ((a.put (some d) v).put none u).tmps.getD j undef = a.tmps.getD j undef := by
  simp [Act.put, h]
/-- A number that int holds is not wrapped. -/
theorem i64w (x : Int) (h : -9223372036854775808 ≤ x ∧ x ≤ 9223372036854775807) : IntKind.i64.wrap x = x := by rw [IntWalk.i64_left]; exact IntWalk.wrap64_in x h
theorem unhide {p : Prop} (h : Hid p) : p := h.out

theorem extract_data (s : ByteArray) (a b : Nat) : (s.extract a b).data.toList = (s.data.toList.drop a).take (b - a) := by
  have h := ByteArray.extract_mk s.data.toList a b
  have e : (ByteArray.mk s.data.toList.toArray) = s := rfl
  rw [e] at h
  rw [h]
theorem extract_mk_drop (x : ByteArray) (n : Nat) : (x.extract n x.size).data.toList = x.data.toList.drop n := by
  rw [extract_data, List.take_of_length_le]
  rw [List.length_drop]
  exact Nat.le_refl _
/-- v is a slice of strings that reads as ss in w. -/
def Strs (w : World) (v : Value) (ss : List ByteArray) : Prop :=
  ∃ ao cap, v = .slice ao ss.length cap ∧ ss.length ≤ cap ∧ cap ≤ maxLen ∧
    (ss = [] ∨ ∃ b off, ao = some ⟨b, off, none⟩ ∧ ∀ i, i < ss.length → w.cell? ⟨b, off + i, none⟩ = some (.string (ss.getD i ByteArray.empty)))

theorem cell_lt {w : World} {b o : Nat} {v : Value} (h : w.cell? ⟨b, o, none⟩ = some v) : b < w.heap.size := by
  by_cases hb : b < w.heap.size
  · exact hb
  · unfold World.cell? at h
    simp [Array.getElem?_eq_none (by omega : w.heap.size ≤ b)] at h

theorem Strs.below {w w' : World} {v : Value} {ss : List ByteArray} {B : Nat} (h : Strs w v ss) (hb : Below B w w') (hB : w.heap.size ≤ B) : Strs w' v ss := by
  obtain ⟨ao, cap, rfl, h1, h2, h3⟩ := h
  refine ⟨ao, cap, rfl, h1, h2, ?_⟩
  rcases h3 with h3 | ⟨b, off, rfl, hc⟩
  · exact .inl h3
  · refine .inr ⟨b, off, rfl, fun i hi => ?_⟩
    rw [hb.cell (p := ⟨b, off + i, none⟩) (Nat.lt_of_lt_of_le (cell_lt (hc i hi)) hB)]
    exact hc i hi

theorem Strs.same {w w' : World} {v : Value} {ss : List ByteArray} (h : Strs w v ss) (he : ∀ p : Addr, p.block < w.heap.size → w'.cell? p = w.cell? p) : Strs w' v ss := by
  obtain ⟨ao, cap, rfl, h1, h2, h3⟩ := h
  refine ⟨ao, cap, rfl, h1, h2, ?_⟩
  rcases h3 with h3 | ⟨b, off, rfl, hc⟩
  · exact .inl h3
  · refine .inr ⟨b, off, rfl, fun i hi => ?_⟩
    rw [he ⟨b, off + i, none⟩ (cell_lt (hc i hi))]
    exact hc i hi

/-- A row of strings that the call owns reads as those strings. -/
theorem strs_of_own {w : World} {base : Nat} {e : TypeId} {v : Value} {n : Nat} {ss : List ByteArray} (h : w.ownsRow base e 1 v n (ss.map Value.string)) : Strs w v ss := by
  obtain ⟨hl, h⟩ := h
  have hn : n = ss.length := by simpa using hl.symm
  subst hn
  rcases h with ⟨rfl, hn⟩ | ⟨g, cap, cur, rfl, hb, hg, h1, h2, h3, h4⟩
  · have : ss = [] := List.eq_nil_of_length_eq_zero hn
    subst this
    exact ⟨none, 0, rfl, Nat.le_refl _, Nat.zero_le _, .inl rfl⟩
  · refine ⟨_, cap, rfl, h1, h2, .inr ⟨g, 0, rfl, fun i hi => ?_⟩⟩
    have hc : cur[i]? = some (.string (ss.getD i ByteArray.empty)) := by
      have e1 : (cur.toList.take (ss.length * 1))[i]? = (ss.map Value.string)[i]? := by rw [h4]
      rw [List.getElem?_take_of_lt (by omega)] at e1
      rw [List.getElem?_map, List.getElem?_eq_getElem hi] at e1
      simpa [List.getD, List.getElem?_eq_getElem hi] using e1
    unfold World.cell?
    rw [hg]
    simpa using hc

/-- What chain.Check says of a list. -/
def chk (ss : List ByteArray) : Nat := if 100 < ss.length then 2 else if ss.any (fun s => decide (20 < s.size)) then 1 else 0
theorem any_take_succ (ss : List ByteArray) (k : Nat) (hk : k < ss.length) (h0 : (ss.take k).any (fun s => decide (20 < s.size)) = false) :
    (ss.take (k + 1)).any (fun s => decide (20 < s.size)) = decide (20 < (ss.getD k ByteArray.empty).size) := by
  rw [List.take_succ_eq_append_getElem hk, List.any_append, h0]
  simp [List.getD, List.getElem?_eq_getElem hk]
theorem any_of_take (ss : List ByteArray) (k : Nat) (h : (ss.take k).any (fun s => decide (20 < s.size)) = true) : ss.any (fun s => decide (20 < s.size)) = true := by
  rw [List.any_eq_true] at h ⊢
  obtain ⟨x, hx, h⟩ := h
  exact ⟨x, List.mem_of_mem_take hx, h⟩
end Go.Proofs.YtanfolfopalbeaaDoor
