/- '==' of digests; loads of whole rows. -/
import Derived.Test.YtanfolfopalbeaaDoorKeep
import Derived.ChangeKeysEq
import Derived.Laws.StructEq
namespace Go.Proofs.YtanfolfopalbeaaDoor
open Go.RowKit

theorem plain_u8 : Tryd.prog.plainKey 5 = true := by kernel_rfl
theorem cells_u8 : Tryd.prog.cellsOf 5 = 1 := by kernel_rfl
theorem items_eq (a b : List UInt8) (w : World) : ∀ is : List Nat, (∀ i ∈ is, i < a.length ∧ i < b.length) → (Op.eqItems 9999 5 1 (bcells a).toArray (bcells b).toArray is).run Tryd.prog w = .ok (is.all fun i => decide (a.getD i 0 = b.getD i 0)) w := by
  intro is
  induction is with
  | nil => intro _; simp [Op.eqItems]
  | cons i is ih =>
    intro h
    obtain ⟨hi, hj⟩ := h i (by simp)
    have hc : (bcells a).toArray[i * 1]? = some (.int .u8 ((a.getD i 0).toNat : Int)) := by
      rw [Nat.mul_one]
      simp [bcells, List.getD, List.getElem?_eq_getElem hi]
    have hc2 : (bcells b).toArray[i * 1]? = some (.int .u8 ((b.getD i 0).toNat : Int)) := by
      rw [Nat.mul_one]
      simp [bcells, List.getD, List.getElem?_eq_getElem hj]
    have hp := run_part_plain w plain_u8 hc
    have hp2 := run_part_plain w plain_u8 hc2
    have he := run_equalIn_int (P := Tryd.prog) (w := w) 9998 5 .u8 _ ((a.getD i 0).toNat : Int) ((b.getD i 0).toNat : Int) Tryd.underlying5
    have hq : (((a.getD i 0).toNat : Int) == ((b.getD i 0).toNat : Int)) = decide (a.getD i 0 = b.getD i 0) := by
      rw [Bool.eq_iff_iff, beq_iff_eq, decide_eq_true_iff, UInt8.toNat_inj.symm]
      omega
    rw [hq] at he
    by_cases hh : a.getD i 0 = b.getD i 0
    · rw [decide_eq_true hh] at he
      simp only [Op.eqItems, Sem.run_bind, hp, hp2, Result.andThen_ok, he, Bool.not_true, Bool.false_eq_true, if_false]
      rw [ih fun j hj => h j (by simp [hj])]
      rw [List.all_cons, decide_eq_true hh, Bool.true_and]
    · rw [decide_eq_false hh] at he
      simp only [Op.eqItems, Sem.run_bind, hp, hp2, Result.andThen_ok, he, Bool.not_false, if_true]
      rw [List.all_cons, decide_eq_false hh, Bool.false_and]
      rfl
theorem all_eq (a b : List UInt8) (ha : a.length = 32) (hb : b.length = 32) : ((List.range 32).all fun i => decide (a.getD i 0 = b.getD i 0)) = decide (a = b) := by
  rw [Bool.eq_iff_iff, List.all_eq_true, decide_eq_true_iff]
  constructor
  · intro hq
    apply List.ext_getElem (by omega)
    intro n h1 h2
    have := hq n (List.mem_range.2 (by omega))
    simpa [List.getD, List.getElem?_eq_getElem h1, List.getElem?_eq_getElem h2] using this
  · intro hq x _
    rw [hq]
    simp
/-- '==' of two digests. -/
theorem digest_eq (a b : List UInt8) (ha : a.length = 32) (hb : b.length = 32) (w : World) : Sem.run Tryd.prog (Op.equalIn 10000 31 (.agg (bcells a).toArray) (.agg (bcells b).toArray)) w = .ok (decide (a = b)) w := by
  have h := info_u8
  cases hi : Tryd.prog.info? 5 with
  | none => rw [hi] at h; cases h
  | some i =>
    have := run_equalIn_array (P := Tryd.prog) w 9999 (bcells a).toArray (bcells b).toArray Tryd.underlying31 hi
    rw [this, cells_u8, items_eq a b w _ fun j hj => by rw [ha, hb]; exact ⟨List.mem_range.1 hj, List.mem_range.1 hj⟩, all_eq a b ha hb]
theorem digest_same (d : List UInt8) (hd : d.length = 32) (w : World) : Sem.run Tryd.prog (Op.equalIn 10000 31 (.agg (bcells d).toArray) (.agg (bcells d).toArray)) w = .ok true w := by
  rw [digest_eq d d hd hd]
  simp
/-- Is the next operation a load, guarded or not? -/
theorem at_load2 {P : Program} {ops : Array Oper} {rest : List Oper} {Q : Exit → Act → World → Prop} {a : Act} {w : World} {ty : TypeId} {x : Operand} {d : Option Tmp} {t : TypeId} {pos : String} {af : Array Edge} {g : Option (Nat × Bool)}
    (h : wpList P ops Q ({ dst := d, op := .load ty x, type := t, pos := pos, after := af, guard := g } :: rest) a w) : wpList P ops Q ({ dst := d, op := .load ty x, type := t, pos := pos, after := af, guard := g } :: rest) a w := h
/-- A load of a whole row by an operation that is wanted. -/
theorem wpList_load_row_w {P : Program} {ops : Array Oper} {rest : List Oper} {o : Oper} {a : Act} {w : World} {Q : Exit → Act → World → Prop} (hw : Region.wanted o (yielded ops a.tmps) = true) (ty : TypeId) (x : Operand) (ho : o.op = .load ty x)
    (g : Nat) (hx : a.eval x = .pointer (some ⟨g, 0, none⟩)) (t : TypeId) (cs : Array Value) (fr : Nat × Nat) (d : TypeDesc) (hg : w.heap[g]? = some (.cells cs t fr))
    (hu : P.underlying ty = some d) (hd : (match d with | .struct _ | .array _ _ => true | _ => false) = true) (hi : (P.info? ty).map (·.size) = some cs.size)
    (h : wpList P ops Q rest (a.put o.dst (.agg cs)) w) : wpList P ops Q (o :: rest) a w :=
  wpList_step fun K hK => by
    simp only [hw, if_true]
    exact wp_load_row ty x ho g hx t cs fr d hg hu hd hi (hK _ _ h)
end Go.Proofs.YtanfolfopalbeaaDoor
