import Derived.Test.YtanfolfopalbeaaDoorPad
namespace Go.Proofs.YtanfolfopalbeaaDoor
open Go.RowKit

/-- A block taken into the state. -/
def blk (s : S8) (b : List UInt8) : S8 := s.plus (rnds (sch 48 (be16 b)) 64 s)
/-- The whole blocks of a text taken into the state. -/
def cmp : Nat → S8 → List UInt8 → S8
  | 0, s, _ => s
  | f + 1, s, l => if l.length < 64 then s else cmp f (blk s (l.take 64)) (l.drop 64)
theorem cmp_end (f : Nat) (s : S8) (l : List UInt8) (h : l.length < 64) : cmp f s l = s := by
  cases f with
  | zero => rfl
  | succ f => simp only [cmp]; rw [if_pos h]
theorem cmp_step (f : Nat) (s : S8) (l : List UInt8) (h : ¬ l.length < 64) : cmp (f + 1) s l = cmp f (blk s (l.take 64)) (l.drop 64) := by
  simp only [cmp]; rw [if_neg h]
theorem heap_put_new (w : World) (c c' : Array Value) (t : TypeId) : ((w.alloc (.cells c t)).setRow w.heap.size c').heap[w.heap.size]? = some (.cells c' t (0, 0)) := setRow_heap _ _ _ _ _ _ (heap_alloc_new w _)
theorem heap_put_old (w : World) (c c' : Array Value) (t : TypeId) (k : Nat) (h : k < w.heap.size) : ((w.alloc (.cells c t)).setRow w.heap.size c').heap[k]? = w.heap[k]? := by
  rw [setRow_other _ _ _ _ (by omega)]
  exact heap_alloc_old _ _ h
theorem cells8_size (s : S8) : s.cells.size = 8 := rfl
theorem cells8_one (s : S8) : s.cells.all (·.oneCell') = true := one8 _ _ _ _ _ _ _ _

set_option maxRecDepth 100000 in
set_option maxHeartbeats 800000 in
theorem blocks_any (s : S8) (x0 : ByteArray) (w : World) (hs : s.ok) (hx : x0.size ≤ 140737488351232) (hT : Tabs w) :
    Calls Tryd.prog 88 #[.agg s.cells, .string x0] w fun e w' => e = .returned (.agg (cmp x0.size s x0.data.toList).cells) ∧ Below w.heap.size w w' := by
  have HT := hide hT
  have HS := hide hs
  clear hT hs
  go_enter Tryd.func88, Tryd.ntmps88
  go_wp2
  go_loopw [1, 5] (fun t p wr => ∃ (f : Nat) (x : ByteArray) (st : S8), x.size ≤ f ∧ x.size ≤ 140737488351232 ∧ st.ok ∧ t = .string x ∧ cmp x0.size s x0.data.toList = cmp f st x.data.toList ∧
      wr.heap[w.heap.size]? = some (.cells st.cells 137 (0, 0)) ∧ Row wr (w.heap.size + 1) 137 z8 ∧ Below w.heap.size w wr) (fun t _ _ => (match t with | .string x => x.size | _ => 0))
  case atStart =>
    refine ⟨x0.size, x0, s, Nat.le_refl _, hx, unhide HS, rfl, rfl, heap_alloc2_old w _ _, heap_alloc2_new w _ _, ((Below.refl _ _).alloc (Nat.le_refl _) _).alloc (by simp) _⟩
  case round =>
    obtain ⟨f, x, st, hf, hxs, hok, rfl, hcmp, hst, hres, hbel⟩ := hrel
    have HC := hide hcmp
    have hszr := hbel.size
    clear hcmp
    by_cases hlt : 64 ≤ x.size
    · have hl64 : (x.extract 0 64).size = 64 := by simp; omega
      go_wp2_with fail
      refine (sched_any _ _ hl64).mono ?_
      rintro e w1 ⟨rfl, hb1⟩
      have hst1 : w1.heap[w.heap.size]? = some (.cells st.cells 137 (0, 0)) := by rw [hb1.block _ (lt_of_block hst)]; exact hst
      have hres1 : Row w1 (w.heap.size + 1) 137 z8 := hres.below hb1 (Nat.le_refl _)
      have hbel1 := hbel.trans (hb1.mono hszr)
      have hsz1 := hbel1.size
      have hml : (sch 48 (be16 (x.extract 0 64).data.toList)).length = 64 := by rw [sch_length, be16_length]
      have hmx := sch_lt 48 _ (be16_lt (x.extract 0 64).data.toList)
      have HBK := hide (show blk st (x.extract 0 64).data.toList = st.plus (rnds (sch 48 (be16 (x.extract 0 64).data.toList)) 64 st) from rfl)
      generalize sch 48 (be16 (x.extract 0 64).data.toList) = m at hml hmx HBK ⊢
      have hsm : (wcells m).size = 64 := by rw [wcells_size, hml]
      have H1 := hide hst1
      have H2 := hide hres1
      have H3 := hide hmx
      have H4 := hide hml
      have H5 := hide hsm
      have H6 := hide (lt_of_block hst1)
      have H7 := hide hok
      have FB : ∀ c, Below w.heap.size w ((w1.alloc (.cells c 159)).setRow w1.heap.size (wcells m)) := fun c => below_row (hbel1.alloc hsz1 _) hsz1 _
      have FT : ∀ c, Tabs ((w1.alloc (.cells c 159)).setRow w1.heap.size (wcells m)) := fun c => (unhide HT).below (FB c) (Nat.le_refl _)
      have FW : ∀ c w3, Below ((w1.alloc (.cells c 159)).setRow w1.heap.size (wcells m)).heap.size ((w1.alloc (.cells c 159)).setRow w1.heap.size (wcells m)) w3 →
          w3.heap[w.heap.size]? = some (.cells st.cells 137 (0, 0)) ∧ Row w3 (w.heap.size + 1) 137 z8 ∧ Below w.heap.size w w3 := fun c w3 hb => by
        have hz : ((w1.alloc (.cells c 159)).setRow w1.heap.size (wcells m)).heap.size = w1.heap.size + 1 := by rw [setRow_size]; simp
        have h1 := lt_of_block hst1
        have h2 := lt_of_block hres1
        refine ⟨?_, ?_, (FB c).trans (hb.mono (by omega))⟩
        · rw [hb.block _ (by omega), heap_put_old _ _ _ _ _ h1]; exact hst1
        · unfold Row
          rw [hb.block _ (by omega), heap_put_old _ _ _ _ _ h2]; exact hres1
      have G1 := hide FB
      have G2 := hide FT
      have G3 := hide FW
      clear FB FT FW
      clear hst hres hbel hb1 hst1 hres1 hmx hml hsm hok
      go_wp2_with (first | ((with_reducible refine at_store ?_); refine wpList_store_row rfl 159 _ _ rfl w1.heap.size (wcells m) rfl rfl 159 _ (heap_alloc_new w1 _) (by rw [unhide H5]; exact info_w64) (by rw [unhide H5]; rfl) (wcells_one m) ?_) | ((with_reducible refine at_load ?_); refine wpList_load_row rfl 137 _ rfl w.heap.size rfl 137 st.cells (0, 0) _ (by rw [heap_put_old _ _ _ _ _ (unhide H6)]; exact unhide H1) Tryd.underlying137 rfl (by rw [info_w8]; rfl) ?_) | ((with_reducible refine at_load ?_); refine wpList_load_row rfl 159 _ rfl w1.heap.size rfl 159 (wcells m) (0, 0) _ (heap_put_new _ _ _ _) Tryd.underlying159 rfl (by rw [unhide H5]; exact info_w64) ?_))
      refine (block_any st m _ (unhide H7) (unhide H4) (unhide H3) (unhide G2 _)).mono ?_
      rintro e w3 ⟨rfl, hb3⟩
      obtain ⟨g1, g2, g3⟩ := unhide G3 _ _ hb3
      have HBK2 := hide (show (st.plus (rnds m 64 st)) = blk st (x.data.toList.take 64) by rw [← unhide HBK, extract_data, List.drop_zero])
      have hok2 := plus_ok st (rnds m 64 st)
      generalize st.plus (rnds m 64 st) = st2 at hok2 HBK2 ⊢
      have K1 := hide g1
      clear g1 hb3
      go_wp2_with ((with_reducible refine at_store ?_); refine wpList_store_row rfl 137 _ _ rfl w.heap.size st2.cells rfl rfl 137 _ (unhide K1) (by rw [info_w8]; rfl) ((cells8_size st).trans (cells8_size st2).symm) (cells8_one st2) ?_)
      go_roundw
      case rel =>
        have hfe : ∃ f', f = f' + 1 := ⟨f - 1, by omega⟩
        obtain ⟨f', rfl⟩ := hfe
        refine ⟨f', x.extract 64 x.size, st2, by simp; omega, by simp; omega, hok2, rfl, ?_, setRow_heap _ _ _ _ _ _ (unhide K1), ?_, below_row g3 (Nat.le_refl _) _⟩
        · rw [unhide HC, cmp_step _ _ _ (by have : x.data.toList.length = x.size := rfl; omega), ← unhide HBK2, extract_mk_drop]
        · unfold Row
          rw [setRow_other _ _ _ _ (by omega)]
          exact g2
      case measure => simp; omega
    · have HE := hide (show cmp x0.size s x0.data.toList = st by rw [unhide HC]; exact cmp_end _ _ _ (by have : x.data.toList.length = x.size := rfl; omega))
      have K1 := hide hst
      have K2 : Hid (wr.heap[w.heap.size + 1]? = some (.cells (wcells z8) 137 (0, 0))) := hide hres
      have hd : decide ((64 : Int) ≤ (x.size : Int)) = false := by simp; omega
      clear hst hres
      go_wp2_with (first | ((with_reducible refine at_load ?_); refine wpList_load_row rfl 137 _ rfl w.heap.size rfl 137 st.cells (0, 0) _ (unhide K1) Tryd.underlying137 rfl (by rw [info_w8]; rfl) ?_) | ((with_reducible refine at_store ?_); refine wpList_store_row rfl 137 _ _ rfl (w.heap.size + 1) st.cells rfl rfl 137 _ (unhide K2) (by rw [info_w8]; rfl) ((wcells_size z8).trans (cells8_size st).symm) (cells8_one st) ?_))
      refine bodyPost_ret (v := .agg st.cells) ?_ rfl ⟨by rw [unhide HE], below_row hbel (by omega) _⟩
      exact results_cell_row Tryd.results88 _ _ (w.heap.size + 1) 137 _ (0, 0) _ rfl (setRow_heap _ _ _ _ _ _ (unhide K2)) Tryd.underlying137 rfl (by rw [info_w8]; rfl)
end Go.Proofs.YtanfolfopalbeaaDoor
