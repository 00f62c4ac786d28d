/- Digests, and slices of digests, that come in as arguments; how long a reading is. -/
import Derived.Test.YtanfolfopalbeaaDoorLaid
import Derived.Test.YtanfolfopalbeaaDoorTreeClimb
import Derived.ProofKit
import Derived.OpenShut
import Derived.Carry
import Derived.Deep.Slices
import Derived.Deep.DeepHandedRow
namespace Go.Proofs.YtanfolfopalbeaaDoor
open Go.ChangeShapes Go.WideShapes Go.ChangeAt Go.RowKit

set_option maxRecDepth 100000 in
theorem cellsU8 : Tryd.prog.cellsOf 5 = 1 := by kernel_rfl
set_option maxRecDepth 100000 in
theorem cellsDg : Tryd.prog.cellsOf 31 = 32 := by kernel_rfl

theorem wf_u8 {z : Int} (h : (Lit.int .u8 z).wf = true) : 0 ≤ z ∧ z < 256 := by
  simp [Lit.wf] at h
  have h1 : IntKind.u8.min = 0 := rfl
  have h2 : IntKind.u8.max = 255 := rfl
  omega

theorem dig_of_trod {H : Type} {enc : TypeId × Value → H} {w : World} {base : Nat} {sp : Nat → Bool} {held : Bool} {fuel : Nat} {cs : List Value} {x : DataW H × List MemPlace}
    (h : DataW.trod enc Tryd.prog w base sp held fuel 31 cs = some x) : ∃ d : List UInt8, d.length = 32 ∧ cs = bcells d := by
  obtain ⟨xs, m, _, _, hl, hxl, hat⟩ := DataW.trod_array Tryd.underlying31 h
  rw [cellsDg] at hl
  rw [cellsU8] at hat
  have hz : ∀ i, i < 32 → ∃ z : Int, cs[i]? = some (.int .u8 z) ∧ 0 ≤ z ∧ z < 256 := by
    intro i hi
    have h1 := hat i hi
    rw [List.getElem?_eq_getElem (by omega)] at h1
    obtain ⟨z, hc, _, hwf⟩ := DataW.trod_int Tryd.underlying5 h1
    refine ⟨z, ?_, wf_u8 hwf⟩
    have := congrArg (·[0]?) hc
    simpa [List.getElem?_take, List.getElem?_drop] using this
  obtain ⟨f, hf⟩ := Deep.choose_lt hz
  refine ⟨(List.range 32).map fun i => UInt8.ofNat (f i).toNat, by simp, ?_⟩
  apply List.ext_getElem?
  intro i
  by_cases hi : i < 32
  · obtain ⟨h1, h2, h3⟩ := hf i hi
    rw [h1]
    simp only [bcells, List.getElem?_map, List.getElem?_range hi, Option.map_some]
    rw [UInt8.toNat_ofNat', Nat.mod_eq_of_lt (by omega), Int.toNat_of_nonneg h2]
  · rw [List.getElem?_eq_none (by omega), List.getElem?_eq_none (by simp [bcells]; omega)]

set_option maxRecDepth 100000 in
theorem dig_of_arg {H : Type} {enc : TypeId × Value → H} {W : World} {v : Value} {d : DataW H} {ps : List MemPlace} {base : Nat} (hval : Value.okWide Tryd.prog W .any base 31 v)
    (h : DataW.Trod enc Tryd.prog W 0 (fun _ => true) true 31 v d ps) : ∃ r : List UInt8, r.length = 32 ∧ v = .agg (bcells r).toArray := by
  obtain ⟨fuel, hf⟩ := h
  have hv : ∃ cs, v = .agg cs := by
    unfold Value.okWide at hval
    rw [Tryd.underlying31] at hval
    obtain ⟨cs, h1, _⟩ := hval
    exact ⟨cs, h1⟩
  obtain ⟨cs, rfl⟩ := hv
  obtain ⟨r, hr, hc⟩ := dig_of_trod hf
  refine ⟨r, hr, ?_⟩
  have : cs.toList = bcells r := hc
  rw [← this]

theorem bulk_pos {H : Type} (d : DataW H) : 1 ≤ Rows.uptoBulk d := by
  cases d with
  | lit l => cases l <;> simp [Rows.uptoBulk]
  | _ => simp [Rows.uptoBulk]
theorem bulk_length {H : Type} (l : List (DataW H)) : l.length ≤ Rows.uptoBulkAll l := by
  induction l with
  | nil => simp [Rows.uptoBulkAll]
  | cons d r ih =>
    have := bulk_pos d
    simp only [Rows.uptoBulkAll, List.length_cons]
    omega

set_option maxRecDepth 100000 in
theorem digs_of_arg {H : Type} {enc : TypeId × Value → H} {W : World} {v : Value} {d : DataW H} {ps : List MemPlace} {base : Nat} (hval : Value.okWide Tryd.prog W .any base 50 v)
    (h : DataW.Trod enc Tryd.prog W 0 (fun _ => true) true 50 v d ps) : ∃ qs, Digs W v qs ∧ qs.length ≤ Rows.uptoBulk d := by
  obtain ⟨a0, len, cap, rfl⟩ := okWide_slice Tryd.underlying50 hval
  obtain ⟨fuel, hf⟩ := h
  rcases Deep.open_slice Tryd.underlying50 hf with ⟨hcs, _⟩ | ⟨a, len', cap', m, n, D, Pl, hcs, _, hl, hm, hmm, hx, hat⟩
  · have e : Value.slice a0 len cap = .slice none 0 0 := by simpa [Value.cells] using hcs
    rw [e]
    exact ⟨[], ⟨(fun d h => by cases h), none, 0, rfl, Nat.le_refl _, Nat.zero_le _, .inl rfl⟩, Nat.zero_le _⟩
  · have e : Value.slice a0 len cap = .slice (some a) len' cap' := by simpa [Value.cells] using hcs
    rw [e]
    have hd := congrArg Prod.fst hx
    simp only at hd
    have hlm : len' ≤ m := by rw [hmm]; split <;> omega
    rw [cellsDg] at hat
    have hds : ∀ i, i < len' → ∃ r : List UInt8, r.length = 32 ∧ ∀ j, j < 32 → W.cell? ((a.add (i * 32)).add j) = (bcells r)[j]? := by
      intro i hi
      obtain ⟨cs', h1, h2⟩ := hat i (by omega)
      obtain ⟨r, hr, rfl⟩ := dig_of_trod h2
      obtain ⟨_, _, h3⟩ := World.cells?_some h1
      exact ⟨r, hr, h3⟩
    obtain ⟨f, hfx⟩ := Deep.choose_lt hds
    have hql : ((List.range len').map f).length = len' := by simp
    have hqe : ∀ d ∈ (List.range len').map f, d.length = 32 := by
      intro d hd
      simp only [List.mem_map, List.mem_range] at hd
      obtain ⟨i, hi, rfl⟩ := hd
      exact (hfx i hi).1
    refine ⟨(List.range len').map f, ⟨hqe, some a, cap', by rw [hql], by omega, hm, ?_⟩, ?_⟩
    · by_cases h0 : len' = 0
      · left
        rw [h0]
        rfl
      · right
        obtain ⟨b, off, spot⟩ := a
        have hspot : spot = none := by
          have h1 := (hfx 0 (by omega)).2 0 (by omega)
          have hlen := (hfx 0 (by omega)).1
          rw [Nat.zero_mul] at h1
          have h2 : W.cell? ⟨b, off, spot⟩ = some ((bcells (f 0))[0]'(by simp [bcells, hlen])) := by
            rw [← List.getElem?_eq_getElem]
            simpa [Addr.add] using h1
          exact World.cell?_spot h2
        subst hspot
        refine ⟨b, off, rfl, fun j u hu => ?_⟩
        have hj : j < 32 * len' := by
          have h1 := (List.getElem?_eq_some_iff.1 hu).1
          rw [dcells_length _ hqe, hql] at h1
          exact h1
        have hk : j / 32 < ((List.range len').map f).length := by rw [hql]; omega
        rw [dcells_at _ (j / 32) hk] at hu
        have hgd : ((List.range len').map f).getD (j / 32) [] = f (j / 32) := by
          rw [List.getD, List.getElem?_eq_getElem hk]
          simp
        rw [hgd] at hu
        have htl : (dcells (((List.range len').map f).take (j / 32))).length = 32 * (j / 32) := by
          rw [dcells_length _ (fun d hd => hqe d (List.mem_of_mem_take hd)), List.length_take, hql]
          congr 1
          omega
        have hfl := (hfx (j / 32) (by omega)).1
        have hbl : (bcells (f (j / 32))).length = 32 := by simp [bcells, hfl]
        rw [List.append_assoc, List.getElem?_append_right (by omega), htl, List.getElem?_append_left (by omega)] at hu
        have h4 := (hfx (j / 32) (by omega)).2 (j - 32 * (j / 32)) (by omega)
        rw [hu, add_none, add_none] at h4
        rw [← h4]
        congr 2
        omega
    · rw [hql, hd]
      simp only [Rows.uptoBulk]
      have := bulk_length ((List.range len').map D)
      simp at this
      omega
end Go.Proofs.YtanfolfopalbeaaDoor
