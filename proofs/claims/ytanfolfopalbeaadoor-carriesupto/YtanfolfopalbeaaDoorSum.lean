import Derived.Test.YtanfolfopalbeaaDoorDigest
import Derived.Deep.RegionWith
import Derived.Deep.CutRange
namespace Go.Proofs.YtanfolfopalbeaaDoor
open Go.RowKit

/-- The state that the strong sum begins with. -/
def H0 : S8 := ⟨1779033703, 3144134277, 1013904242, 2773480762, 1359893119, 2600822924, 528734635, 1541459225⟩
theorem H0_ok : H0.ok := by unfold S8.ok H0; decide
/-- The strong sum, as the program goes: the whole blocks, then what is padded. -/
def shaL (l : List UInt8) : List UInt8 :=
  dig (cmp (padL (l.drop (l.length - l.length % 64)) l.length).length (cmp (l.length - l.length % 64) H0 (l.take (l.length - l.length % 64))) (padL (l.drop (l.length - l.length % 64)) l.length))
theorem cmp_ok (f : Nat) : ∀ (s : S8) (l : List UInt8), s.ok → (cmp f s l).ok := by
  induction f with
  | zero => intro s l h; exact h
  | succ f ih =>
    intro s l h
    simp only [cmp]
    split
    · exact h
    · exact ih _ _ (plus_ok _ _)
theorem padL_length (r : List UInt8) (n : Nat) (h : r.length < 64) : (padL r n).length ≤ 200 := by
  unfold padL zs
  simp [lenB]
  omega

theorem blocks_lit (x0 : ByteArray) (w : World) (hx : x0.size ≤ 140737488351232) (hT : Tabs w) :
    Calls Tryd.prog 88 #[.agg #[.int .u32 1779033703, .int .u32 3144134277, .int .u32 1013904242, .int .u32 2773480762, .int .u32 1359893119, .int .u32 2600822924, .int .u32 528734635, .int .u32 1541459225], .string x0] w fun e w' =>
      ∃ a0 a1 a2 a3 a4 a5 a6 a7 : Nat, Hid (cmp x0.size H0 x0.data.toList = ⟨a0, a1, a2, a3, a4, a5, a6, a7⟩) ∧ e = .returned (.agg #[.int .u32 a0, .int .u32 a1, .int .u32 a2, .int .u32 a3, .int .u32 a4, .int .u32 a5, .int .u32 a6, .int .u32 a7]) ∧ Below w.heap.size w w' := by
  refine (blocks_any H0 x0 w H0_ok hx hT).mono ?_
  rintro e w' ⟨rfl, hb⟩
  generalize cmp x0.size H0 x0.data.toList = r
  obtain ⟨a0, a1, a2, a3, a4, a5, a6, a7⟩ := r
  exact ⟨a0, a1, a2, a3, a4, a5, a6, a7, hide rfl, rfl, hb⟩

theorem set8 (w : World) (g : Nat) (t : TypeId) (v0 v1 v2 v3 v4 v5 v6 v7 : Int) (h : w.heap[g]? = some (.cells #[.int .u32 0, .int .u32 0, .int .u32 0, .int .u32 0, .int .u32 0, .int .u32 0, .int .u32 0, .int .u32 0] t (0, 0))) :
    ((((((((w.setCell ⟨g, 0, none⟩ (.int .u32 v0)).setCell ⟨g, 1, none⟩ (.int .u32 v1)).setCell ⟨g, 2, none⟩ (.int .u32 v2)).setCell ⟨g, 3, none⟩ (.int .u32 v3)).setCell ⟨g, 4, none⟩ (.int .u32 v4)).setCell ⟨g, 5, none⟩ (.int .u32 v5)).setCell ⟨g, 6, none⟩ (.int .u32 v6)).setCell ⟨g, 7, none⟩ (.int .u32 v7)).heap[g]? = some (.cells #[.int .u32 v0, .int .u32 v1, .int .u32 v2, .int .u32 v3, .int .u32 v4, .int .u32 v5, .int .u32 v6, .int .u32 v7] t (0, 0)) := by
  have h0 : (w.setCell ⟨g, 0, none⟩ (.int .u32 v0)).heap[g]? = some (.cells #[.int .u32 v0, .int .u32 0, .int .u32 0, .int .u32 0, .int .u32 0, .int .u32 0, .int .u32 0, .int .u32 0] t (0, 0)) := by rw [heap_setCell_same _ g 0 _ _ _ h]; rfl
  have h1 : ((w.setCell ⟨g, 0, none⟩ (.int .u32 v0)).setCell ⟨g, 1, none⟩ (.int .u32 v1)).heap[g]? = some (.cells #[.int .u32 v0, .int .u32 v1, .int .u32 0, .int .u32 0, .int .u32 0, .int .u32 0, .int .u32 0, .int .u32 0] t (0, 0)) := by rw [heap_setCell_same _ g 1 _ _ _ h0]; rfl
  have h2 : (((w.setCell ⟨g, 0, none⟩ (.int .u32 v0)).setCell ⟨g, 1, none⟩ (.int .u32 v1)).setCell ⟨g, 2, none⟩ (.int .u32 v2)).heap[g]? = some (.cells #[.int .u32 v0, .int .u32 v1, .int .u32 v2, .int .u32 0, .int .u32 0, .int .u32 0, .int .u32 0, .int .u32 0] t (0, 0)) := by rw [heap_setCell_same _ g 2 _ _ _ h1]; rfl
  have h3 : ((((w.setCell ⟨g, 0, none⟩ (.int .u32 v0)).setCell ⟨g, 1, none⟩ (.int .u32 v1)).setCell ⟨g, 2, none⟩ (.int .u32 v2)).setCell ⟨g, 3, none⟩ (.int .u32 v3)).heap[g]? = some (.cells #[.int .u32 v0, .int .u32 v1, .int .u32 v2, .int .u32 v3, .int .u32 0, .int .u32 0, .int .u32 0, .int .u32 0] t (0, 0)) := by rw [heap_setCell_same _ g 3 _ _ _ h2]; rfl
  have h4 : (((((w.setCell ⟨g, 0, none⟩ (.int .u32 v0)).setCell ⟨g, 1, none⟩ (.int .u32 v1)).setCell ⟨g, 2, none⟩ (.int .u32 v2)).setCell ⟨g, 3, none⟩ (.int .u32 v3)).setCell ⟨g, 4, none⟩ (.int .u32 v4)).heap[g]? = some (.cells #[.int .u32 v0, .int .u32 v1, .int .u32 v2, .int .u32 v3, .int .u32 v4, .int .u32 0, .int .u32 0, .int .u32 0] t (0, 0)) := by rw [heap_setCell_same _ g 4 _ _ _ h3]; rfl
  have h5 : ((((((w.setCell ⟨g, 0, none⟩ (.int .u32 v0)).setCell ⟨g, 1, none⟩ (.int .u32 v1)).setCell ⟨g, 2, none⟩ (.int .u32 v2)).setCell ⟨g, 3, none⟩ (.int .u32 v3)).setCell ⟨g, 4, none⟩ (.int .u32 v4)).setCell ⟨g, 5, none⟩ (.int .u32 v5)).heap[g]? = some (.cells #[.int .u32 v0, .int .u32 v1, .int .u32 v2, .int .u32 v3, .int .u32 v4, .int .u32 v5, .int .u32 0, .int .u32 0] t (0, 0)) := by rw [heap_setCell_same _ g 5 _ _ _ h4]; rfl
  have h6 : (((((((w.setCell ⟨g, 0, none⟩ (.int .u32 v0)).setCell ⟨g, 1, none⟩ (.int .u32 v1)).setCell ⟨g, 2, none⟩ (.int .u32 v2)).setCell ⟨g, 3, none⟩ (.int .u32 v3)).setCell ⟨g, 4, none⟩ (.int .u32 v4)).setCell ⟨g, 5, none⟩ (.int .u32 v5)).setCell ⟨g, 6, none⟩ (.int .u32 v6)).heap[g]? = some (.cells #[.int .u32 v0, .int .u32 v1, .int .u32 v2, .int .u32 v3, .int .u32 v4, .int .u32 v5, .int .u32 v6, .int .u32 0] t (0, 0)) := by rw [heap_setCell_same _ g 6 _ _ _ h5]; rfl
  have h7 : ((((((((w.setCell ⟨g, 0, none⟩ (.int .u32 v0)).setCell ⟨g, 1, none⟩ (.int .u32 v1)).setCell ⟨g, 2, none⟩ (.int .u32 v2)).setCell ⟨g, 3, none⟩ (.int .u32 v3)).setCell ⟨g, 4, none⟩ (.int .u32 v4)).setCell ⟨g, 5, none⟩ (.int .u32 v5)).setCell ⟨g, 6, none⟩ (.int .u32 v6)).setCell ⟨g, 7, none⟩ (.int .u32 v7)).heap[g]? = some (.cells #[.int .u32 v0, .int .u32 v1, .int .u32 v2, .int .u32 v3, .int .u32 v4, .int .u32 v5, .int .u32 v6, .int .u32 v7] t (0, 0)) := by rw [heap_setCell_same _ g 7 _ _ _ h6]; rfl
  exact h7
theorem below8 {B g : Nat} {a w : World} (h : Below B a w) (v0 v1 v2 v3 v4 v5 v6 v7 : Value) (hg : B ≤ g := by exact Nat.le_refl _) :
    Below B a ((((((((w.setCell ⟨g, 0, none⟩ v0).setCell ⟨g, 1, none⟩ v1).setCell ⟨g, 2, none⟩ v2).setCell ⟨g, 3, none⟩ v3).setCell ⟨g, 4, none⟩ v4).setCell ⟨g, 5, none⟩ v5).setCell ⟨g, 6, none⟩ v6).setCell ⟨g, 7, none⟩ v7) :=
  (((((((h.setCell (by exact hg) _).setCell (by exact hg) _).setCell (by exact hg) _).setCell (by exact hg) _).setCell (by exact hg) _).setCell (by exact hg) _).setCell (by exact hg) _).setCell (by exact hg) _
/-- A block that was made ahead of a call, as it lies behind it. -/
theorem made8 {w0 w1 : World} {t : TypeId} (hb : Below (w0.alloc (.cells #[.int .u32 0, .int .u32 0, .int .u32 0, .int .u32 0, .int .u32 0, .int .u32 0, .int .u32 0, .int .u32 0] t)).drew.heap.size (w0.alloc (.cells #[.int .u32 0, .int .u32 0, .int .u32 0, .int .u32 0, .int .u32 0, .int .u32 0, .int .u32 0, .int .u32 0] t)).drew w1) :
    w1.heap[w0.heap.size]? = some (.cells #[.int .u32 0, .int .u32 0, .int .u32 0, .int .u32 0, .int .u32 0, .int .u32 0, .int .u32 0, .int .u32 0] t (0, 0)) := by
  rw [hb.block _ (by show w0.heap.size < (w0.alloc _).heap.size; simp)]
  exact heap_alloc_new w0 _

set_option maxRecDepth 100000 in
set_option maxHeartbeats 800000 in
theorem strong_any (x : ByteArray) (w : World) (hx : x.size ≤ 140737488351232) (hT : Tabs w) :
    Calls Tryd.prog 52 #[.string x] w fun e w' => e = .returned (.agg (bcells (shaL x.data.toList)).toArray) ∧ Below w.heap.size w w' := by
  have HT := hide hT
  have t0 : w.cell? ⟨0, 0, none⟩ = some (.int .u32 1779033703) := hT.1 0 (by decide)
  have t1 : w.cell? ⟨0, 1, none⟩ = some (.int .u32 3144134277) := hT.1 1 (by decide)
  have t2 : w.cell? ⟨0, 2, none⟩ = some (.int .u32 1013904242) := hT.1 2 (by decide)
  have t3 : w.cell? ⟨0, 3, none⟩ = some (.int .u32 2773480762) := hT.1 3 (by decide)
  have t4 : w.cell? ⟨0, 4, none⟩ = some (.int .u32 1359893119) := hT.1 4 (by decide)
  have t5 : w.cell? ⟨0, 5, none⟩ = some (.int .u32 2600822924) := hT.1 5 (by decide)
  have t6 : w.cell? ⟨0, 6, none⟩ = some (.int .u32 528734635) := hT.1 6 (by decide)
  have t7 : w.cell? ⟨0, 7, none⟩ = some (.int .u32 1541459225) := hT.1 7 (by decide)
  have hwz : 0 < w.heap.size := by have := hT.2.2; omega
  clear hT
  have hq1 : ((x.size : Int) - (x.size : Int) % 64) = ((x.size - x.size % 64 : Nat) : Int) := by omega
  have hq2 : x.size - x.size % 64 ≤ x.size := by omega
  have hq3 : x.size - (x.size - x.size % 64) < 64 := by omega
  have HQ := hide (rfl : x.size - x.size % 64 = x.size - x.size % 64)
  generalize hqe : x.size - x.size % 64 = q at hq1 hq2 hq3
  have HQE := hide hqe
  clear hqe HQ
  go_enter Tryd.func52, Tryd.ntmps52
  go_wp2
  rw [← z32_cells]
  have hbel0 : Below w.heap.size w (w.alloc (.cells (bcells z32).toArray 31)) := (Below.refl _ _).alloc (Nat.le_refl _) _
  have hres0 : BRow (w.alloc (.cells (bcells z32).toArray 31)) w.heap.size 31 z32 := heap_alloc_new w _
  have hsz0 : (w.alloc (.cells (bcells z32).toArray 31)).heap.size = w.heap.size + 1 := by simp
  have hT0 : Tabs (w.alloc (.cells (bcells z32).toArray 31)) := (unhide HT).below hbel0 (Nat.le_refl _)
  rw [← hbel0.cell (p := ⟨0, 0, none⟩) hwz] at t0
  rw [← hbel0.cell (p := ⟨0, 1, none⟩) hwz] at t1
  rw [← hbel0.cell (p := ⟨0, 2, none⟩) hwz] at t2
  rw [← hbel0.cell (p := ⟨0, 3, none⟩) hwz] at t3
  rw [← hbel0.cell (p := ⟨0, 4, none⟩) hwz] at t4
  rw [← hbel0.cell (p := ⟨0, 5, none⟩) hwz] at t5
  rw [← hbel0.cell (p := ⟨0, 6, none⟩) hwz] at t6
  rw [← hbel0.cell (p := ⟨0, 7, none⟩) hwz] at t7
  generalize w.alloc (.cells (bcells z32).toArray 31) = w0 at hbel0 hres0 hsz0 hT0 t0 t1 t2 t3 t4 t5 t6 t7 ⊢
  have HT0 := hide hT0
  have HZ0 := hide hsz0
  have K0 := hide hres0
  have fA : (0 : Int) ≤ (q : Int) := by omega
  have fB : (q : Int) ≤ (x.size : Int) := by omega
  clear hT0 hsz0 hres0
  have hwz0 : 0 < w0.heap.size := Nat.lt_of_lt_of_le hwz hbel0.size
  have HT1 := hide (fun o => (unhide HT0).below ((Below.refl w0.heap.size w0).alloc (Nat.le_refl _) o) (Nat.le_refl _))
  go_cut [4] from 12 to 16 (fun p wx => ∃ (g : Nat) (st : S8), p = .pointer (some ⟨g, 0, none⟩) ∧ w.heap.size < g ∧ st.ok ∧ Hid (cmp q H0 (x.data.toList.take q) = st) ∧ wx.heap[g]? = some (.cells st.cells 137 (0, 0)) ∧ Below w0.heap.size w0 wx)
  case first =>
    go_region_with (go_at_call 88; refine (blocks_lit (x.extract 0 q) _ (by simp; omega) (by first | exact unhide HT0 | exact unhide HT1 _)).mono ?_; rintro e w1 ⟨a0, a1, a2, a3, a4, a5, a6, a7, HC, rfl, hb1⟩; first | (have hm8 := made8 hb1; have q0 := cell_of_row _ w0.heap.size 0 _ _ _ hm8; have p0 := frozen_of_row _ w0.heap.size 0 _ _ hm8; have q1 := cell_of_row _ w0.heap.size 1 _ _ _ hm8; have p1 := frozen_of_row _ w0.heap.size 1 _ _ hm8; have q2 := cell_of_row _ w0.heap.size 2 _ _ _ hm8; have p2 := frozen_of_row _ w0.heap.size 2 _ _ hm8; have q3 := cell_of_row _ w0.heap.size 3 _ _ _ hm8; have p3 := frozen_of_row _ w0.heap.size 3 _ _ hm8; have q4 := cell_of_row _ w0.heap.size 4 _ _ _ hm8; have p4 := frozen_of_row _ w0.heap.size 4 _ _ hm8; have q5 := cell_of_row _ w0.heap.size 5 _ _ _ hm8; have p5 := frozen_of_row _ w0.heap.size 5 _ _ hm8; have q6 := cell_of_row _ w0.heap.size 6 _ _ _ hm8; have p6 := frozen_of_row _ w0.heap.size 6 _ _ hm8; have q7 := cell_of_row _ w0.heap.size 7 _ _ _ hm8; have p7 := frozen_of_row _ w0.heap.size 7 _ _ hm8; simp only [List.getElem?_toArray, List.getElem?_cons_zero, List.getElem?_cons_succ] at q0 q1 q2 q3 q4 q5 q6 q7) | skip)
    all_goals (go_wp2_with fail; go_meet)
    all_goals
      have hz := unhide HZ0
      have hb1s : w0.heap.size ≤ w1.heap.size := by
        have := hb1.size
        first | exact this | (refine Nat.le_trans ?_ this; show w0.heap.size ≤ (w0.alloc _).heap.size; simp)
      have hes : (x.extract 0 q).size = q := by simp; omega
      have hst0 := unhide HC
      rw [extract_data, List.drop_zero, Nat.sub_zero, hes] at hst0
      have hok0 := cmp_ok q H0 (x.data.toList.take q) H0_ok
      rw [hst0] at hok0
    · exact ⟨w1.heap.size, _, rfl, by omega, hok0, hide hst0, heap_alloc_new w1 _, (show Below w0.heap.size w0 w1 from ⟨hb1.os, hb1.tape, hb1.output, hb1.size, hb1.block⟩).alloc hb1s _⟩
    · exact ⟨w0.heap.size, _, rfl, by omega, hok0, hide hst0, set8 w1 _ _ _ _ _ _ _ _ _ _ (made8 hb1), below8 (((Below.refl w0.heap.size w0).alloc (Nat.le_refl _) _).drew.trans (hb1.mono (by show w0.heap.size ≤ (w0.alloc _).heap.size; simp))) _ _ _ _ _ _ _ _⟩
    · exact ⟨w0.heap.size, _, rfl, by omega, hok0, hide hst0, set8 w1 _ _ _ _ _ _ _ _ _ _ (made8 hb1), below8 (((Below.refl w0.heap.size w0).alloc (Nat.le_refl _) _).drew.trans (hb1.mono (by show w0.heap.size ≤ (w0.alloc _).heap.size; simp))) _ _ _ _ _ _ _ _⟩
  case rest =>
    obtain ⟨g, st, rfl, hg, hok, HCM, hst, hbc⟩ := hcut
    have hz := unhide HZ0
    have hbelc : Below w.heap.size w wc := hbel0.trans (hbc.mono (by omega))
    have hresc : BRow wc w.heap.size 31 z32 := by
      unfold BRow
      rw [hbc.block _ (by omega)]
      exact unhide K0
    have hTc : Tabs wc := (unhide HT).below hbelc (Nat.le_refl _)
    have hbels := hbelc.size
    have HZ := hide hz
    have R1 := hide hst
    have R2 := hide hresc
    have R3 := hide hTc
    have hes : (x.extract q x.size).size = x.size - q := by simp
    clear hst hresc hTc hz hbc hbel0 t0 t1 t2 t3 t4 t5 t6 t7 hq1
    go_wp2_with fail
    refine (pad_any (x.extract q x.size) x.size _ (by omega) (by omega)).mono ?_
    rintro e w2 ⟨rfl, hb2⟩
    have hbel2 := hbelc.trans (hb2.mono hbels)
    have hst2 : w2.heap[g]? = some (.cells st.cells 137 (0, 0)) := by rw [hb2.block _ (lt_of_block (unhide R1))]; exact unhide R1
    have hres2 : w2.heap[w.heap.size]? = some (.cells (bcells z32).toArray 31 (0, 0)) := by rw [hb2.block _ (lt_of_block (unhide R2))]; exact unhide R2
    have hT2 : Tabs w2 := (unhide R3).below hb2 (Nat.le_refl _)
    have hpl := padL_length (x.extract q x.size).data.toList x.size (by show (x.extract q x.size).size < 64; omega)
    have HPX := hide (show (x.extract q x.size).data.toList = x.data.toList.drop q from extract_mk_drop x q)
    generalize hpe : padL (x.extract q x.size).data.toList x.size = pl at hpl ⊢
    have HPE := hide hpe
    have S1 := hide hst2
    have S2 := hide hres2
    have S3 := hide hT2
    clear hpe hst2 hres2 hT2 hb2 R1 R2 R3 hbelc hbels
    go_wp2_with ((with_reducible refine at_load ?_); refine wpList_load_row rfl 137 _ rfl g rfl 137 st.cells (0, 0) _ (unhide S1) Tryd.underlying137 rfl (by rw [info_w8]; rfl) ?_)
    refine (blocks_any st (mk pl) _ hok (by rw [mk_size]; omega) (unhide S3)).mono ?_
    rintro e w3 ⟨rfl, hb3⟩
    have hbel3 := hbel2.trans (hb3.mono hbel2.size)
    have hst3 : w3.heap[g]? = some (.cells st.cells 137 (0, 0)) := by rw [hb3.block _ (lt_of_block (unhide S1))]; exact unhide S1
    have hres3 : w3.heap[w.heap.size]? = some (.cells (bcells z32).toArray 31 (0, 0)) := by rw [hb3.block _ (lt_of_block (unhide S2))]; exact unhide S2
    have hok3 := cmp_ok (mk pl).size st (mk pl).data.toList hok
    generalize hce : cmp (mk pl).size st (mk pl).data.toList = s3 at hok3 ⊢
    have HCE := hide hce
    have hbel4 := below_row hbel3 (show w.heap.size ≤ g by omega) s3.cells
    have hres4 : (w3.setRow g s3.cells).heap[w.heap.size]? = some (.cells (bcells z32).toArray 31 (0, 0)) := by rw [setRow_other _ _ _ _ (by omega)]; exact hres3
    have U1 := hide hst3
    have U2 := hide (setRow_heap w3 g _ s3.cells _ _ hst3)
    have U3 := hide hres4
    clear hce hst3 hres3 hres4 hb3 S1 S2 S3 hbel2 hbel3
    go_wp2_with (first | ((with_reducible refine at_store ?_); refine wpList_store_row rfl 137 _ _ rfl g s3.cells rfl rfl 137 _ (unhide U1) (by rw [info_w8]; rfl) ((cells8_size st).trans (cells8_size s3).symm) (cells8_one s3) ?_) | ((with_reducible refine at_load ?_); refine wpList_load_row rfl 137 _ rfl g rfl 137 s3.cells (0, 0) _ (unhide U2) Tryd.underlying137 rfl (by rw [info_w8]; rfl) ?_))
    refine (digest_any s3 _ hok3).mono ?_
    rintro e w4 ⟨rfl, hb4⟩
    have hbel5 := hbel4.trans (hb4.mono hbel4.size)
    have hres5 : w4.heap[w.heap.size]? = some (.cells (bcells z32).toArray 31 (0, 0)) := by rw [hb4.block _ (lt_of_block (unhide U3))]; exact unhide U3
    have hdl : (bcells (dig s3)).toArray.size = 32 := by rw [bcells_size]; exact dgk_length s3 8 (Nat.le_refl _)
    have HEND := hide (show shaL x.data.toList = dig s3 by
      unfold shaL
      rw [show x.data.toList.length = x.size from rfl, unhide HQE, ← unhide HPX, unhide HPE, ← unhide HCE, unhide HCM]
      rfl)
    generalize dig s3 = d8 at hdl HEND ⊢
    have V1 := hide hres5
    have V2 := hide (show (Tryd.prog.info? 31).map (·.size) = some (bcells d8).toArray.size by rw [hdl]; exact info_dg)
    have V3 := hide (show (bcells z32).toArray.size = (bcells d8).toArray.size by rw [hdl, bcells_size]; rfl)
    clear hres5 hdl hb4 U1 U2 U3 hbel4
    go_wp2_with ((with_reducible refine at_store ?_); refine wpList_store_row rfl 31 _ _ rfl w.heap.size (bcells d8).toArray rfl rfl 31 _ (unhide V1) (unhide V2) (unhide V3) (bcells_one d8) ?_)
    refine bodyPost_ret (v := .agg (bcells d8).toArray) ?_ rfl ⟨by rw [unhide HEND], below_row hbel5 (Nat.le_refl _) _⟩
    exact results_cell_row Tryd.results52 _ _ w.heap.size 31 _ (0, 0) _ rfl (setRow_heap _ _ _ _ _ _ (unhide V1)) Tryd.underlying31 rfl (unhide V2)
end Go.Proofs.YtanfolfopalbeaaDoor
