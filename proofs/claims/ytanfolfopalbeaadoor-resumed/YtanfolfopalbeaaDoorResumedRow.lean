/- Whatever the slice of texts and the three slices of numbers: the call of ferrykeep.Resumed returns true, and each argument reads afterwards as it read before. Conditions: the two package-level tables of the strong sum (startWords, roundWords) read as the program's own text lays them when the call begins; the card ties them to that text (that nothing else writes them is the translator's report, over the pruned copy of the project). -/
import Derived.Test.YtanfolfopalbeaaDoorCards
import Derived.Test.YtanfolfopalbeaaDoorTie
import Derived.Test.YtanfolfopalbeaaDoorResumed
import Derived.Test.YtanfolfopalbeaaDoorStrsArg
import Derived.ProofKit
import Derived.OpenShut
import Derived.SliceStrings
import Derived.Carry
import Derived.SizedLaws
import Derived.Deep.Slices
import Derived.Deep.DeepHandedRow
import Derived.Lib.LaidTab
import Derived.Stop.LaidErr
namespace Go.Proofs.YtanfolfopalbeaaDoor
open Go.ChangeShapes Go.WideShapes Go.ChangeAt Go.RowKit

theorem add_zero' (a : Addr) : a.add 0 = a := by
  unfold Addr.add
  split <;> simp_all
set_option maxRecDepth 100000 in
theorem cellsInt : Tryd.prog.cellsOf 3 = 1 := by kernel_rfl
set_option maxRecDepth 100000 in
theorem bytesInt : Tryd.prog.bytesOf 3 = 8 := by kernel_rfl
set_option maxRecDepth 100000 in
theorem ints_of_arg {H : Type} {enc : TypeId × Value → H} {W : World} {v : Value} {d : DataW H} {ps : List MemPlace} {base : Nat} (hval : Value.okWide Tryd.prog W .any base 78 v)
    (h : DataW.Trod enc Tryd.prog W 0 (fun _ => true) true 78 v d ps) : ∃ zs, Ints W v zs ∧ (zs = [] ∨ ∃ el sp, d = .slice el sp ∧ zs.length ≤ el.length + sp.length) := by
  obtain ⟨a0, len, cap, rfl⟩ := okWide_slice Tryd.underlying78 hval
  obtain ⟨fuel, hf⟩ := h
  rcases Deep.open_slice Tryd.underlying78 hf with ⟨hcs, _⟩ | ⟨a, len', cap', m, n, D, Pl, hcs, _, hl, hm, hmm, hx, hat⟩
  · have e : Value.slice a0 len cap = .slice none 0 0 := by simpa [Value.cells] using hcs
    rw [e]
    exact ⟨[], ⟨none, 0, rfl, Nat.le_refl _, Nat.zero_le _, by simp, .inl rfl⟩, .inl rfl⟩
  · have e : Value.slice a0 len cap = .slice (some a) len' cap' := by simpa [Value.cells] using hcs
    rw [e]
    have hd := congrArg Prod.fst hx
    simp only at hd
    have hlm : len' ≤ m := by rw [hmm]; split <;> omega
    rw [cellsInt] at hat
    have hds : ∀ i, i < len' → ∃ z : Int, (-9223372036854775808 ≤ z ∧ z ≤ 9223372036854775807) ∧ W.cell? (a.add i) = some (.int .i64 z) := by
      intro i hi
      obtain ⟨cs', h1, h2⟩ := hat i (by omega)
      obtain ⟨z, hc, _, hwf⟩ := DataW.trod_int Tryd.underlying3 h2
      obtain ⟨_, _, h3⟩ := World.cells?_some h1
      have h4 := h3 0 (by omega)
      rw [hc, Nat.mul_one, add_zero'] at h4
      have hb := bounds_i64 hwf
      exact ⟨z, by omega, h4⟩
    obtain ⟨f, hfx⟩ := Deep.choose_lt hds
    have hql : ((List.range len').map f).length = len' := by simp
    have hgd : ∀ i, i < len' → ((List.range len').map f).getD i 0 = f i := fun i hi => by
      rw [List.getD, List.getElem?_eq_getElem (by rw [hql]; exact hi)]
      simp
    refine ⟨(List.range len').map f, ⟨some a, cap', by rw [hql], by omega, hm, ?_, ?_⟩, .inr ⟨_, _, hd, ?_⟩⟩
    · intro z hz
      simp only [List.mem_map, List.mem_range] at hz
      obtain ⟨i, hi, rfl⟩ := hz
      exact (hfx i hi).1
    · by_cases h0 : len' = 0
      · left
        rw [h0]
        rfl
      · right
        obtain ⟨b, off, spot⟩ := a
        have hspot : spot = none := by simpa [Addr.add] using World.cell?_spot (hfx 0 (by omega)).2
        subst hspot
        refine ⟨b, off, rfl, fun i hi => ?_⟩
        rw [hql] at hi
        rw [hgd i hi, ← add_none]
        exact (hfx i hi).2
    · rw [hql]
      simp

set_option maxRecDepth 100000 in
theorem contract (H : Type) (enc : TypeId × Value → H) (W : World) (base : Nat) (args : Array Value) (ds gs : List (DataW H)) (before : List MemPlace)
    (hval : ∀ (j : Nat) t v, Tryd.f11.params[j]? = some t → args[j]? = some v → Value.okWide Tryd.prog W .any base t v)
    (hW : DataW.Whole enc Tryd.prog Tryd.f11.params.toList Rows.resumedSpec.vars false W args.toList ds gs before)
    (hsz0 : (DataW.weightsEach Tryd.prog (Tryd.f11.params.toList ++ Rows.resumedSpec.plain.varTypes Tryd.prog) (ds ++ gs)).all (· ≤ reachBytes) = true) (hL : laidMetH Tryd.prog Rows.resumedRow.laid W) :
    Calls Tryd.prog 11 args W fun e W' => ∃ v, e = .returned v ∧ Rows.resumedSpec.post enc Tryd.prog Tryd.f11 false true false false W args v W' := by
  have hW' := hW
  obtain ⟨p, q, hA0, hV, rfl, hfz, hnd⟩ := hW
  have hA : DataW.TrodAll enc Tryd.prog W 0 (fun _ => true) true Tryd.f11.params.toList args.toList ds p := hA0
  rw [Tryd.params11] at hA hval hsz0
  obtain ⟨v0, vs0, d0, ds0, p0, q0, hargs, rfl, rfl, h0, r0⟩ := trodAll_cons hA
  obtain ⟨v1, vs1, d1, ds1, p1, q1, rfl, rfl, rfl, h1, r1⟩ := trodAll_cons r0
  obtain ⟨v2, vs2, d2, ds2, p2, q2, rfl, rfl, rfl, h2, r2⟩ := trodAll_cons r1
  obtain ⟨v3, vs3, d3, ds3, p3, q3, rfl, rfl, rfl, h3, r3⟩ := trodAll_cons r2
  obtain ⟨rfl, rfl, rfl⟩ := trodAll_nil r3
  obtain rfl : args = #[v0, v1, v2, v3] := by cases args; simp_all
  obtain ⟨rfl, rfl⟩ := trodVars_none hV
  obtain ⟨ss, hS, hsz⟩ := strs_of_arg (hval 0 34 v0 rfl rfl) h0
  obtain ⟨bas, hBA, hl1⟩ := ints_of_arg (hval 1 78 v1 rfl rfl) h1
  obtain ⟨cus, hCU, hl2⟩ := ints_of_arg (hval 2 78 v2 rfl rfl) h2
  obtain ⟨bys, hBY, hl3⟩ := ints_of_arg (hval 3 78 v3 rfl rfl) h3
  have hb1 : bas.length ≤ 35184372088832 := by
    rcases hl1 with rfl | ⟨el, sp, hd, hl⟩
    · simp
    · have := sized_slice hsz0 (j := 1) (t := 78) (e := 3) (elems := el) (spare := sp) rfl (by rw [hd]; rfl) Tryd.underlying78
      rw [bytesInt] at this
      simp only [reachBytes] at this
      omega
  have hb3 : bys.length ≤ 35184372088832 := by
    rcases hl3 with rfl | ⟨el, sp, hd, hl⟩
    · simp
    · have := sized_slice hsz0 (j := 3) (t := 78) (e := 3) (elems := el) (spare := sp) rfl (by rw [hd]; rfl) Tryd.underlying78
      rw [bytesInt] at this
      simp only [reachBytes] at this
      omega
  refine (resumed_any v0 ss _ rfl v1 v2 v3 bas cus bys W hS hsz hBA hCU hBY hb1 hb3 (tables hL)).mono fun e W' ⟨he, hb⟩ => ?_
  subst he
  have hlt0 : ∀ x ∈ p0, x.block < W.heap.size := fun x hx => by
    have := hW'.lt x (by simp [hx])
    simpa using this
  have hlt1 : ∀ x ∈ p1, x.block < W.heap.size := fun x hx => by
    have := hW'.lt x (by simp [hx])
    simpa using this
  have hlt2 : ∀ x ∈ p2, x.block < W.heap.size := fun x hx => by
    have := hW'.lt x (by simp [hx])
    simpa using this
  have hlt3 : ∀ x ∈ p3, x.block < W.heap.size := fun x hx => by
    have := hW'.lt x (by simp [hx])
    simpa using this
  refine ⟨_, rfl, _, _, _, [], p0 ++ (p1 ++ (p2 ++ (p3 ++ []))), [], hW', trodAll_cons_mk (shut_bool Tryd.underlying4 _) trodAll_mk0, ?_, rfl, hb.frame _, fun h => by cases h⟩
  exact trodAll_cons_mk (Below.trod laidOutP (by kernel_rfl) (of_decide_eq_true (by kernel_rfl)) h0 hb hlt0) (trodAll_cons_mk (Below.trod laidOutP (by kernel_rfl) (of_decide_eq_true (by kernel_rfl)) h1 hb hlt1) (trodAll_cons_mk (Below.trod laidOutP (by kernel_rfl) (of_decide_eq_true (by kernel_rfl)) h2 hb hlt2) (trodAll_cons_mk (Below.trod laidOutP (by kernel_rfl) (of_decide_eq_true (by kernel_rfl)) h3 hb hlt3) trodAll_mk0)))
end Go.Proofs.YtanfolfopalbeaaDoor
