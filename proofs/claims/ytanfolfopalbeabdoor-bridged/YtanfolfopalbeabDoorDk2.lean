/- ferrykeep's object Disk: written: what a plan leaves of a disk: the contract. -/
import Derived.Test.YtanfolfopalbeabDoorDk1
import Derived.BigRegion
namespace Go.Proofs.YtanfolfopalbeabDoor
open Go.RowKit

/-- v is a slice of numbers that reads as zs in w. -/
def Ints (w : World) (v : Value) (zs : List Int) : Prop :=
  ∃ ao cap, v = .slice ao zs.length cap ∧ zs.length ≤ cap ∧ cap ≤ maxLen ∧ (∀ z ∈ zs, -9223372036854775808 ≤ z ∧ z ≤ 9223372036854775807) ∧
    (zs = [] ∨ ∃ b off, ao = some ⟨b, off, none⟩ ∧ ∀ i, i < zs.length → w.cell? ⟨b, off + i, none⟩ = some (.int .i64 (zs.getD i 0)))
theorem Ints.below {w w' : World} {v : Value} {zs : List Int} {B : Nat} (h : Ints w v zs) (hb : Below B w w') (hB : w.heap.size ≤ B) : Ints w' v zs := by
  obtain ⟨ao, cap, rfl, h1, h2, hz, h3⟩ := h
  refine ⟨ao, cap, rfl, h1, h2, hz, ?_⟩
  rcases h3 with h3 | ⟨b, off, rfl, hc⟩
  · exact .inl h3
  · refine .inr ⟨b, off, rfl, fun i hi => ?_⟩
    rw [hb.cell (p := ⟨b, off + i, none⟩) (Nat.lt_of_lt_of_le (cell_lt (hc i hi)) hB)]
    exact hc i hi
theorem ints_nil (w : World) : Ints w (.slice none 0 0) [] := ⟨none, 0, rfl, Nat.le_refl _, Nat.zero_le _, by simp, .inl rfl⟩
theorem getD_mem_int (zs : List Int) (i : Nat) (h : i < zs.length) : zs.getD i 0 ∈ zs := by
  rw [List.getD, List.getElem?_eq_getElem h]
  exact List.getElem_mem h
/-- An item's number in a plan. -/
def itAt (l : List It) (k : Nat) : It := l.getD k fIt0
theorem itAt_mem (l : List It) (k : Nat) (h : k < l.length) : itAt l k ∈ l := by
  unfold itAt
  rw [List.getD, List.getElem?_eq_getElem h]
  exact List.getElem_mem h
theorem take_itAt (l : List It) (k : Nat) (h : k < l.length) : l.take (k + 1) = l.take k ++ [itAt l k] := by
  unfold itAt
  rw [List.take_succ_eq_append_getElem h, List.getD, List.getElem?_eq_getElem h]
  rfl
theorem pcells_at (l : List It) (h : ∀ x ∈ l, x.data.length = 32) (k : Nat) (hk : k < l.length) : ∀ j, j < 34 → (pcells l)[k * 34 + j]? = (itcells (itAt l k))[j]? := by
  intro j hj
  have e : l = l.take k ++ (itAt l k :: l.drop (k + 1)) := by
    unfold itAt
    rw [List.getD, List.getElem?_eq_getElem hk, Option.getD_some, List.getElem_cons_drop, List.take_append_drop]
  have hl : (pcells (l.take k)).length = k * 34 := by
    rw [pcells_length _ (fun x hx => h x (List.mem_of_mem_take hx)), List.length_take]
    rw [Nat.min_eq_left (by omega)]
    omega
  have hc : pcells l = pcells (l.take k) ++ (itcells (itAt l k) ++ pcells (l.drop (k + 1))) := by
    conv => lhs; rw [e]
    simp [pcells]
  rw [hc, List.getElem?_append_right (by omega), hl, show k * 34 + j - k * 34 = j by omega, List.getElem?_append_left (by rw [itcells_length _ (h _ (itAt_mem l k hk))]; exact hj)]
/-- A cell of a disk. -/
theorem dcells_get (ps : List (List UInt8)) (h : ∀ d ∈ ps, d.length = 32) : ∀ j, (dcells ps)[j]? = if j < 32 * ps.length then some (.int .u8 (((ps.getD (j / 32) []).getD (j % 32) 0).toNat : Int)) else none := by
  intro j
  split
  · rename_i hj
    have hk : j / 32 < ps.length := by omega
    have hd := h _ (getD_mem ps (j / 32) hk)
    have htl : (dcells (ps.take (j / 32))).length = 32 * (j / 32) := by
      rw [dcells_length _ (fun d hd => h d (List.mem_of_mem_take hd)), List.length_take, Nat.min_eq_left (by omega)]
    rw [dcells_at ps (j / 32) hk, List.append_assoc, List.getElem?_append_right (by omega), htl, List.getElem?_append_left (by rw [bcells_length]; omega)]
    have hlt : j - 32 * (j / 32) < (ps.getD (j / 32) []).length := by omega
    rw [show j % 32 = j - 32 * (j / 32) by omega]
    generalize ps.getD (j / 32) [] = x at hlt ⊢
    unfold bcells
    rw [List.getElem?_map, List.getElem?_eq_getElem hlt, List.getD, List.getElem?_eq_getElem hlt]
    rfl
  · rename_i hj
    rw [List.getElem?_eq_none]
    rw [dcells_length ps h]
    omega
theorem put1_cells (d : List (List UInt8)) (k : Nat) (data : List UInt8) (b : Nat) (h : ∀ s ∈ d, s.length = 32) (hd : data.length = 32) (hk : k < d.length) (hb : b < 32) :
    (dcells (put1 d k data b)).toArray.setIfInBounds (k * 32 + b) (.int .u8 ((data.getD b 0).toNat : Int)) = (dcells (put1 d k data (b + 1))).toArray := by
  apply Array.ext'
  rw [Array.toList_setIfInBounds]
  apply List.ext_getElem?
  intro j
  have e1 := put1_elem d k data b h hd
  have e2 := put1_elem d k data (b + 1) h hd
  rw [List.getElem?_set]
  rw [dcells_get _ e1, dcells_get _ e2, put1_length, put1_length]
  by_cases hj : k * 32 + b = j
  · subst hj
    rw [if_pos rfl, if_pos (by rw [dcells_length _ e1, put1_length]; omega), if_pos (by omega), show (k * 32 + b) / 32 = k by omega, show (k * 32 + b) % 32 = b by omega, put1_byte d k data (b + 1) b hk (by omega), if_pos (by omega)]
  · rw [if_neg hj]
    by_cases hjl : j < 32 * d.length
    · rw [if_pos hjl, if_pos hjl]
      congr 3
      by_cases hjk : j / 32 = k
      · subst hjk
        rw [put1_byte d _ data b _ hk (by omega), put1_byte d _ data (b + 1) _ hk (by omega)]
        by_cases hlt : j % 32 < b
        · rw [if_pos hlt, if_pos (by omega)]
        · rw [if_neg hlt, if_neg (by omega)]
      · rw [put1_other _ _ _ _ _ (fun e => hjk e.symm), put1_other _ _ _ _ _ (fun e => hjk e.symm)]
    · rw [if_neg hjl, if_neg hjl]
theorem put1_zero (d : List (List UInt8)) (k : Nat) (data : List UInt8) : put1 d k data 0 = d := by
  unfold put1
  rw [List.take_zero, List.nil_append, List.drop_zero]
  by_cases hk : k < d.length
  · apply List.ext_getElem?
    intro j
    rw [List.getElem?_set]
    by_cases hj : k = j
    · subst hj
      rw [if_pos rfl, if_pos hk, List.getD, List.getElem?_eq_getElem hk]
      rfl
    · rw [if_neg hj]
  · rw [List.set_eq_of_length_le (by omega)]
/-- The disk while a plan is done on it: some items were, by so many bytes each. -/
def AppK (its : List It) (ds : List (List UInt8)) (q k : Nat) (d : List (List UInt8)) : Prop := ∃ f : Nat → Nat, (∀ i, f i ≤ 32) ∧ (∀ i, i < q → f i = 32) ∧ d = app f 0 (its.take k) ds
theorem AppK.zero (its : List It) (ds : List (List UInt8)) (q : Nat) : AppK its ds q 0 ds := ⟨fun _ => 32, fun _ => Nat.le_refl _, fun _ _ => rfl, rfl⟩
theorem AppK.next {its : List It} {ds d : List (List UInt8)} {q k : Nat} (h : AppK its ds q k d) (hk : k < its.length) (n : Nat) (hn : n ≤ 32) (hq : k < q → n = 32) : AppK its ds q (k + 1) (app1 d (itAt its k) n) := by
  obtain ⟨f, h1, h2, rfl⟩ := h
  have hl : (its.take k).length = k := by rw [List.length_take]; omega
  refine ⟨fun i => if i = k then n else f i, fun i => ?_, fun i hi => ?_, ?_⟩
  · show (if i = k then n else f i) ≤ 32
    split
    · exact hn
    · exact h1 i
  · show (if i = k then n else f i) = 32
    split
    · rename_i e
      subst e
      exact hq hi
    · exact h2 i hi
  · rw [take_itAt its k hk, app_snoc, hl, if_pos rfl]
    congr 1
    apply app_congr
    intro j _ hj
    rw [hl] at hj
    rw [if_neg (by omega)]
theorem AppK.flush {its : List It} {ds d : List (List UInt8)} {q k : Nat} (h : AppK its ds q k d) (hk : k < its.length) (hf : (itAt its k).fl = true) : AppK its ds q (k + 1) d := by
  have := h.next hk (if k < q then 32 else 0) (by split <;> omega) (fun hq => by rw [if_pos hq])
  unfold app1 at this
  rwa [if_pos hf] at this
theorem AppK.elem {its : List It} {ds d : List (List UInt8)} {q k : Nat} (h : AppK its ds q k d) (hi : ∀ x ∈ its, x.data.length = 32) (hd : ∀ s ∈ ds, s.length = 32) : ∀ s ∈ d, s.length = 32 := by
  obtain ⟨f, _, _, rfl⟩ := h
  exact app_elem f _ (fun x hx => hi x (List.mem_of_mem_take hx)) 0 ds hd
theorem AppK.length {its : List It} {ds d : List (List UInt8)} {q k : Nat} (h : AppK its ds q k d) : d.length = ds.length := by
  obtain ⟨f, _, _, rfl⟩ := h
  exact app_length _ _ _ _
theorem Dk.setD {w0 w : World} {G : Nat} {T : ByteArray} {vl : Value} {xs : List ByteArray} {vd : Value} {ds d : List (List UInt8)} {k n gd : Nat} (h : Dk w0 w G T vl xs vd ds k) (hl : (dcells d).length = n * 32) (he : ∀ s ∈ d, s.length = 32)
    (hg : w.heap[gd]? = some (.cells (dcells d).toArray 88 (0, 0))) (hd : d.length = n) (hn : n ≤ 300) (hb : w0.heap.size ≤ gd) (hne : gd ≠ G) :
    Dk w0 (w.setCell ⟨G, 2, none⟩ (.slice (some ⟨gd, 0, none⟩) n n)) G T vl xs (.slice (some ⟨gd, 0, none⟩) n n) d k := by
  refine ⟨by unfold DkAt; rw [heap_setCell_same w G 2 _ _ _ h.cells]; rfl, h.base, h.bel.setCell (by exact h.base) _, h.ownl.kept (grown_set G 2 _) (.inr h.nel), h.nel, ?_, fun e => hne (Option.some.inj e), he⟩
  refine ⟨by rw [hl, hd], .inr ⟨gd, n, (dcells d).toArray, by rw [hd], hb, (heap_setCell_other _ _ _ _ (by exact hne)).trans hg, by omega, by unfold maxLen; omega, by rw [List.size_toArray]; exact hl, ?_⟩⟩
  rw [List.take_of_length_le (by rw [hd]; exact Nat.le_of_eq hl)]
theorem v_it (x : It) (h : x.data.length = 32) : (Tryd.prog.info? 90).map (·.size) = some (itcells x).length := by rw [itcells_length x h]; exact info_wrs
theorem v_its (x : It) (h : x.data.length = 32) : (Tryd.prog.info? 90).map (·.size) = some (itcells x).toArray.size := by rw [List.size_toArray, itcells_length x h]; exact info_wrs
theorem itcells_all (x : It) : (itcells x).toArray.all (·.oneCell') = true := all_oneCell_toArray (itcells_one x)
theorem icell0 (x : It) : (itcells x)[0]? = some (.bool x.fl) := rfl
theorem icell1 (x : It) : (itcells x)[1]? = some (.int .i64 (x.at_ : Int)) := rfl
theorem icell2 (x : It) (h : x.data.length = 32) (b : Nat) (hb : b < 32) : (itcells x)[2 + b]? = some (.int .u8 ((x.data.getD b 0).toNat : Int)) := by
  unfold itcells
  rw [List.getElem?_append_right (by simp)]
  have hlt : b < x.data.length := by omega
  simp [bcells, List.getD, List.getElem?_eq_getElem hlt]

set_option maxRecDepth 100000 in
set_option maxHeartbeats 3200000 in
theorem written_any (w0 w : World) (G : Nat) (T : ByteArray) (vl : Value) (xs : List ByteArray) (vd : Value) (ds : List (List UInt8)) (k0 : Nat) (its : List It) (vp : Value) (Bp begun : Nat) (vb : Value) (zs : List Int) (hK : Dk w0 w G T vl xs vd ds k0)
    (hP : w.ownsRow Bp 90 34 vp its.length (pcells its)) (hbg : begun ≤ its.length) (h0 : 0 < its.length) (hlen : its.length ≤ 1001) (hit : ∀ x ∈ its, x.data.length = 32 ∧ x.at_ < ds.length) (hI : Ints w vb zs) (hd1 : 2 ≤ ds.length) (hd3 : ds.length ≤ 300) :
    Calls Tryd.prog 33 #[.pointer (some ⟨G, 0, none⟩), vp, .int .i64 begun, vb] w fun e w' => e = .returned (.bool true) ∧ ∃ vd' q d', (∀ j, q ≤ j → j < begun → (itAt its j).fl = false) ∧ AppK its ds q begun d' ∧ Dk w0 w' G T vl xs vd' d' k0 := by
  obtain ⟨i0, hi, hz0, hz1, hz2⟩ := info_parts info_sec
  obtain ⟨hpl, hp⟩ := hP
  rcases hp with ⟨_, hp⟩ | ⟨gp, cp, cur, hvp, _, hg, hp1, hp2, hp3, hp4⟩
  · omega
  subst hvp
  have hdat : ∀ x ∈ its, x.data.length = 32 := fun x hx => (hit x hx).1
  have hcell : ∀ k, k < its.length → ∀ j, j < 34 → w.cell? ⟨gp, k * 34 + j, none⟩ = (itcells (itAt its k))[j]? := by
    intro k hk j hj
    rw [cell_of_row w gp _ _ _ _ hg, ← pcells_at its hdat k hk j hj, ← hp4]
    rw [List.getElem?_take_of_lt (by omega)]
    simp
  have HC := hide hcell
  have HIT := hide hit
  have HDAT := hide hdat
  have HK := hide hK
  have HI := hide hI
  have hc2 := hK.cells.c2
  obtain ⟨gv, ov', cv, hvd, _, _⟩ := digs_shape hK.digs (by omega)
  have hgp := lt_of_block hg
  subst hvd
  obtain ⟨ab, cb, hvb, hzl, hzm, _, _⟩ := hI
  subst hvb
  unfold maxLen at hzm
  clear hcell hit hdat hpl hp1 hp2 hp3 hp4 hg hK
  go_enter Tryd.func33, Tryd.ntmps33
  go_wp2
  go_loop [9, 10] (fun wh i => ∃ k q : Nat, k ≤ begun ∧ q ≤ k ∧ i = .int .i64 k ∧ wh = .int .i64 ((q : Int) - 1) ∧ ∀ j, q ≤ j → j < k → (itAt its j).fl = false) (fun _ i => begun - (intOf i).toNat)
  case atStart => exact ⟨0, 0, Nat.zero_le _, Nat.le_refl _, rfl, rfl, fun j h1 h2 => absurd h2 (by omega)⟩
  case round =>
    obtain ⟨k, q, hk, hq, rfl, rfl, hfl⟩ := hrel
    have HFL := hide hfl
    clear hfl
    by_cases hlt : k < begun
    · have hd1 : decide ((k : Int) < (begun : Int)) = true := by simp; omega
      have hcf := unhide HC k (by omega) 0 (by omega)
      rw [icell0, Nat.add_zero] at hcf
      have hk0 : (0 : Int) ≤ (k : Int) := by omega
      have hk1 : (k : Int) < (its.length : Int) := by omega
      cases hff : (itAt its k).fl with
      | true =>
        rw [hff] at hcf
        go_wp2
        go_round
        case rel => exact ⟨k + 1, k + 1, by omega, Nat.le_refl _, by go_num, val_int (by omega), fun j h1 h2 => absurd h2 (by omega)⟩
        case measure => simp [intOf]; omega
      | false =>
        rw [hff] at hcf
        have HFF := hide hff
        go_wp2
        go_round
        case rel =>
          refine ⟨k + 1, q, by omega, by omega, by go_num, rfl, fun j h1 h2 => ?_⟩
          by_cases hjk : j = k
          · rw [hjk]; exact unhide HFF
          · exact unhide HFL j h1 (by omega)
        case measure => simp [intOf]; omega
    · have hkb : k = begun := by omega
      subst hkb
      have hd1' : decide ((k : Int) < (k : Int)) = false := by simp
      go_wp2_with (at_make; go_must (refine wpList_make_full _ rfl _ _ 29 rfl w.heap.size 88 i0 (.agg (bcells z32).toArray) 32 Tryd.underlying29 hi hz0 hz1 _ _ _ _ ds.length rfl rfl rfl rfl (by rw [hz2]; omega) (by unfold maxLen; omega) (Nat.le_refl _) ?_))
      intro w1 hown1 hgrow1
      have hbel1 : Below w.heap.size w w1 := (Below.refl _ _).grown hgrow1 (Nat.le_refl _) (fun k h => by cases h)
      rw [made_zero] at hown1
      obtain ⟨hl1, h1⟩ := hown1
      rcases h1 with ⟨h1, _⟩ | ⟨g, cap1, cur1, hv, hg1, hg2, hg3, hg4, hg5, hg6⟩
      · simp at h1
      simp only [Value.slice.injEq, Option.some.injEq, Addr.mk.injEq, and_true, true_and] at hv
      obtain ⟨hgB, hcap1⟩ := hv
      rw [← hcap1] at hg5
      rw [← hgB] at hg2
      have hcl : cur1.toList.length = ds.length * 32 := by rw [Array.length_toList]; exact hg5
      have HG : Hid (w1.heap[w.heap.size]? = some (.cells cur1.toList.toArray 88 (0, 0))) := hide (by rw [Array.toArray_toList]; exact hg2)
      have hdc := dcells_length ds (unhide HK).elem
      have hsrc : 0 < ds.length → ∃ ad, some (⟨gv, ov', none⟩ : Addr) = some ad ∧ ∀ j v, (dcells ds)[j]? = some v → w1.cell? (ad.add j) = some v := by
        intro _
        refine ⟨_, rfl, fun j v hj => ?_⟩
        obtain ⟨_, ao, cc, he, _, _, h3⟩ := ((unhide HK).below hbel1).digs
        simp only [Value.slice.injEq] at he
        obtain ⟨rfl, _, rfl⟩ := he
        rcases h3 with h3 | ⟨b', off', he', hc'⟩
        · rw [h3] at hj; cases hj
        · simp only [Option.some.injEq, Addr.mk.injEq, and_true] at he'
          obtain ⟨rfl, rfl⟩ := he'
          rw [add_none]
          exact hc' j v hj
      have HSRC := hide hsrc
      have hc2' := ((unhide HK).below hbel1).cells.c2
      clear hsrc hl1 hg1 hg2 hg3 hg4 hg5 hg6 hgB hcap1 hgrow1 hc2
      go_wp2_with ((with_reducible refine at_copyD ?_); go_must (refine wpList_copy_big rfl (.tmp 33) (.tmp 37) 29 29 rfl 88 Tryd.underlying29 32 info_sc _ _ _ _ _ w.heap.size rfl rfl cur1.toList 88 (unhide HG) (dcells ds) (Nat.le_refl _) ?c1 (unhide HSRC) ?c2 (dcells_one2 ds) w.heap.size w hbel1 (Nat.le_refl _) ?_))
      case c1 => omega
      case c2 => omega
      intro w2 HG2 hbel2
      have hg2 : w2.heap[w.heap.size]? = some (.cells (dcells ds).toArray 88 (0, 0)) := by
        have := unhide HG2
        rwa [List.drop_eq_nil_of_le (by omega), List.append_nil] at this
      have HGG := hide hg2
      clear HG2 HG HSRC hbel1 hc2' hg2 hcl
      go_wp2_with fail
      generalize hgd : w.heap.size = gd at *
      go_loopw [12] (fun i wr => ∃ (m : Nat) (d : List (List UInt8)), m ≤ k ∧ i = .int .i64 m ∧ AppK its ds q m d ∧ wr.heap[gd]? = some (.cells (dcells d).toArray 88 (0, 0)) ∧ Below gd w wr) (fun i _ => k - (intOf i).toNat)
      case atStart => exact ⟨0, ds, Nat.zero_le _, rfl, AppK.zero _ _ _, unhide HGG, hbel2⟩
      case round =>
        obtain ⟨m, d, hm, rfl, happ, hgr, hbr⟩ := hrel
        have hel := happ.elem (unhide HDAT) (unhide HK).elem
        have hdl := happ.length
        have HEL := hide hel
        have HAP := hide happ
        have HGR := hide hgr
        have hszr := hbr.size
        have hgl := lt_of_block hgr
        clear happ hel hgr
        by_cases hlt2 : m < k
        · have hd2 : decide ((m : Int) < (k : Int)) = true := by simp; omega
          have hit := unhide HIT _ (itAt_mem its m (by omega))
          have hr : w.rangeAt gp (m * 34) (itcells (itAt its m)) := fun j v hj => by
            have hj34 : j < 34 := by have := (List.getElem?_eq_some_iff.1 hj).1; rw [itcells_length _ hit.1] at this; exact this
            rw [unhide HC m (by omega) j hj34]
            exact hj
          have HR := hide (rangeAt_below hr hbr (by omega))
          have HAN := hide (fun n hn hq => (unhide HAP).next (by omega) n hn hq)
          have HAF := hide (fun hf => (unhide HAP).flush (by omega) hf)
          obtain ⟨x, hx⟩ : ∃ x, x = itAt its m := ⟨_, rfl⟩
          rw [← hx] at hit HR HAN HAF
          have hxd := hit.1
          have hxa := hit.2
          have VM := hide (v_it x hxd)
          have VS := hide (v_its x hxd)
          have VZ := hide (show (itcells fIt0).toArray.size = (itcells x).toArray.size by rw [List.size_toArray, List.size_toArray, itcells_length x hxd]; rfl)
          have hk0 : (0 : Int) ≤ (m : Int) := by omega
          have hk1 : (m : Int) < (its.length : Int) := by omega
          clear hr hit hx
          go_upto_region 13 with (first | ((with_reducible refine at_load ?_); go_must (refine wpList_load_mid rfl 90 _ rfl gp (m * 34) (by rfl) (itcells x) _ (unhide HR) Tryd.underlying90 rfl (unhide VM) ?_)) | ((with_reducible refine at_store ?_); rw [← zero34]; go_must (refine wpList_store_row rfl 90 _ _ rfl wr.heap.size (itcells x).toArray rfl rfl 90 _ (heap_alloc_new wr _) (unhide VS) (unhide VZ) (itcells_all x) ?_)))
          have hbW : Below gd w ((wr.alloc (.cells (itcells fIt0).toArray 90)).setRow wr.heap.size (itcells x).toArray) := below_row (hbr.alloc (by omega) _) (by omega) _
          have hgW : ((wr.alloc (.cells (itcells fIt0).toArray 90)).setRow wr.heap.size (itcells x).toArray).heap[wr.heap.size]? = some (.cells (itcells x).toArray 90 (0, 0)) := heap_put_new _ _ _ _
          have hgD : ((wr.alloc (.cells (itcells fIt0).toArray 90)).setRow wr.heap.size (itcells x).toArray).heap[gd]? = some (.cells (dcells d).toArray 88 (0, 0)) := (heap_put_old wr _ _ _ _ hgl).trans (unhide HGR)
          generalize ((wr.alloc (.cells (itcells fIt0).toArray 90)).setRow wr.heap.size (itcells x).toArray) = W4 at hbW hgW hgD ⊢
          have hgg : gd < wr.heap.size := hgl
          generalize wr.heap.size = gw at hgW hgg ⊢
          have HBW := hide hbW
          have HGW := hide hgW
          have HGD := hide hgD
          have hcW0 : W4.cell? ⟨gw, 0, none⟩ = some (.bool x.fl) := (cell_of_row W4 gw 0 _ _ _ hgW).trans (by simpa using icell0 x)
          have hcW1 : W4.cell? ⟨gw, 1, none⟩ = some (.int .i64 (x.at_ : Int)) := (cell_of_row W4 gw 1 _ _ _ hgW).trans (by simpa using icell1 x)
          clear hbW hgW hgD HR VM VS VZ HGR hszr hgl hbr
          cases hxf : x.fl with
          | true =>
            rw [hxf] at hcW0
            have HAF2 := hide (unhide HAF hxf)
            go_wp2_with fail
            go_roundw
            case rel => exact ⟨m + 1, d, by omega, by go_num, unhide HAF2, unhide HGD, unhide HBW⟩
            case measure => simp [intOf]; omega
          | false =>
            rw [hxf] at hcW0
            have HA1 := hide (show ∀ n, app1 d x n = put1 d x.at_ x.data n from fun n => by unfold app1; rw [hxf]; rfl)
            have hd3 : decide ((x.at_ : Int) < 0) = false := by simp
            have hd4 : decide ((ds.length : Int) ≤ (x.at_ : Int)) = false := by simp; omega
            by_cases hmq : m < q
            · have hd6 : decide ((q : Int) - 1 < (m : Int)) = false := by simp; omega
              go_wp2_with fail
              go_loopw [15] (fun bv wr => ∃ b : Nat, b ≤ 32 ∧ bv = .int .i64 b ∧ wr.heap[gd]? = some (.cells (dcells (put1 d x.at_ x.data b)).toArray 88 (0, 0)) ∧ wr.heap[gw]? = some (.cells (itcells x).toArray 90 (0, 0)) ∧ Below gd w wr) (fun bv _ => 40 - (intOf bv).toNat)
              case atStart => exact ⟨0, Nat.zero_le _, rfl, by rw [put1_zero]; exact unhide HGD, unhide HGW, unhide HBW⟩
              case round =>
                obtain ⟨b, hb, rfl, hg3, hg4, hb3⟩ := hrel
                by_cases hlt3 : b < 32
                · have hd5 : decide ((b : Int) < (32 : Int)) = true := by simp; omega
                  have hcx := icell2 x hxd b (by omega)
                  have hcA : wr.drew.cell? ⟨gw, 1, none⟩ = some (.int .i64 (x.at_ : Int)) := (cell_of_row wr gw 1 _ _ _ hg4).trans (by simpa using icell1 x)
                  have hcB : wr.drew.cell? ⟨gw, 2 + b, none⟩ = some (.int .u8 ((x.data.getD b 0).toNat : Int)) := (cell_of_row wr gw (2 + b) _ _ _ hg4).trans (by simpa using hcx)
                  have hpl : (dcells (put1 d x.at_ x.data b)).length = 32 * ds.length := by rw [dcells_length _ (put1_elem d _ _ _ (unhide HEL) hxd), put1_length, hdl]
                  have hcC : ∃ u, wr.drew.cell? ⟨gd, x.at_ * 32 + b, none⟩ = some u := by
                    refine ⟨_, (cell_of_row wr gd _ _ _ _ hg3).trans (?_ : _ = some ((dcells (put1 d x.at_ x.data b))[x.at_ * 32 + b]'(by omega)))⟩
                    rw [List.getElem?_toArray, List.getElem?_eq_getElem]
                  obtain ⟨uC, hcC⟩ := hcC
                  have hfC : wr.drew.frozen? ⟨gd, x.at_ * 32 + b, none⟩ = false := frozen_of_row wr gd _ _ _ hg3
                  have hnew : (wr.drew.setCell ⟨gd, x.at_ * 32 + b, none⟩ (.int .u8 ((x.data.getD b 0).toNat : Int))).heap[gd]? = some (.cells (dcells (put1 d x.at_ x.data (b + 1))).toArray 88 (0, 0)) := by
                    rw [heap_setCell_same wr.drew gd _ _ _ _ hg3, put1_cells d x.at_ x.data b (unhide HEL) hxd (by omega) (by omega)]
                  have hold : (wr.drew.setCell ⟨gd, x.at_ * 32 + b, none⟩ (.int .u8 ((x.data.getD b 0).toNat : Int))).heap[gw]? = some (.cells (itcells x).toArray 90 (0, 0)) := (heap_setCell_other _ _ _ _ (show gw ≠ gd by omega)).trans hg4
                  have hbn : Below gd w (wr.drew.setCell ⟨gd, x.at_ * 32 + b, none⟩ (.int .u8 ((x.data.getD b 0).toNat : Int))) := hb3.drew.setCell (Nat.le_refl gd) _
                  generalize hue : x.data.getD b 0 = u8 at hcB hnew hold hbn
                  have HN := hide hnew
                  have HO := hide hold
                  have HB3 := hide hbn
                  have hb0 : (0 : Int) ≤ (b : Int) := by omega
                  have hb1 : (b : Int) < 32 := by omega
                  have ha0 : (0 : Int) ≤ (x.at_ : Int) := by omega
                  have ha1 : (x.at_ : Int) < (ds.length : Int) := by omega
                  have hne : gw ≠ gd := by omega
                  clear hg3 hg4 hcx hpl hnew hold hbn hue hb3
                  go_wp2_with fail
                  go_region
                  go_wp2
                  go_roundw
                  case rel => exact ⟨b + 1, by omega, by go_num, unhide HN, unhide HO, unhide HB3⟩
                  case measure => simp [intOf]; omega
                · have hbM : b = 32 := by omega
                  subst hbM
                  have hd5 : decide ((32 : Int) < (32 : Int)) = false := by simp
                  have HN := hide hg3
                  have HB3 := hide hb3
                  clear hg3 hg4 hb3
                  go_wp2_with fail
                  go_roundw
                  case rel => exact ⟨m + 1, put1 d x.at_ x.data 32, by omega, by go_num, by rw [← unhide HA1]; exact unhide HAN 32 (by omega) (fun _ => by omega), unhide HN, unhide HB3⟩
                  case measure => simp [intOf]; omega
            · have hd6 : decide ((q : Int) - 1 < (m : Int)) = true := by simp; omega
              by_cases hin : m - q < zs.length
              · have hd7 : decide ((m : Int) - ((q : Int) - 1) ≤ (zs.length : Int)) = true := by simp; omega
                obtain ⟨ao, cc, he, _, _, hzb, h3⟩ := (unhide HI).below (unhide HBW) (by omega)
                simp only [Value.slice.injEq, true_and] at he
                obtain ⟨rfl, rfl⟩ := he
                rcases h3 with h3 | ⟨bb, ob, rfl, hcz⟩
                · rw [h3] at hin; cases hin
                have hcz2 := hcz (m - q) hin
                have hzz := hzb _ (getD_mem_int zs (m - q) hin)
                generalize zs.getD (m - q) 0 = z at hcz2 hzz
                have j1 : (0 : Int) ≤ (m : Int) - ((q : Int) - 1) - 1 := by omega
                have j2 : (m : Int) - ((q : Int) - 1) - 1 < (zs.length : Int) := by omega
                have j3 : ((m : Int) - ((q : Int) - 1) - 1).toNat = m - q := by omega
                have j4 : IntKind.i64.wrap ((m : Int) - ((q : Int) - 1)) = (m : Int) - ((q : Int) - 1) := i64w _ (by omega)
                have j5 : IntKind.i64.wrap ((m : Int) - ((q : Int) - 1) - 1) = (m : Int) - ((q : Int) - 1) - 1 := i64w _ (by omega)
                clear hcz hzb
                go_wp2_with fail
                refine (pick_any z 33 _ hzz (by omega) (by omega)).mono ?_
                rintro e w5 ⟨p, hp, rfl, rfl⟩
                clear hcz2
                go_wp2_with fail
                go_loopw [15] (fun bv wr => ∃ b : Nat, b ≤ p ∧ bv = .int .i64 b ∧ wr.heap[gd]? = some (.cells (dcells (put1 d x.at_ x.data b)).toArray 88 (0, 0)) ∧ wr.heap[gw]? = some (.cells (itcells x).toArray 90 (0, 0)) ∧ Below gd w wr) (fun bv _ => 40 - (intOf bv).toNat)
                case atStart => exact ⟨0, Nat.zero_le _, rfl, by rw [put1_zero]; exact unhide HGD, unhide HGW, unhide HBW⟩
                case round =>
                  obtain ⟨b, hb, rfl, hg3, hg4, hb3⟩ := hrel
                  by_cases hlt3 : b < p
                  · have hd5 : decide ((b : Int) < (p : Int)) = true := by simp; omega
                    have hcx := icell2 x hxd b (by omega)
                    have hcA : wr.drew.cell? ⟨gw, 1, none⟩ = some (.int .i64 (x.at_ : Int)) := (cell_of_row wr gw 1 _ _ _ hg4).trans (by simpa using icell1 x)
                    have hcB : wr.drew.cell? ⟨gw, 2 + b, none⟩ = some (.int .u8 ((x.data.getD b 0).toNat : Int)) := (cell_of_row wr gw (2 + b) _ _ _ hg4).trans (by simpa using hcx)
                    have hpl : (dcells (put1 d x.at_ x.data b)).length = 32 * ds.length := by rw [dcells_length _ (put1_elem d _ _ _ (unhide HEL) hxd), put1_length, hdl]
                    have hcC : ∃ u, wr.drew.cell? ⟨gd, x.at_ * 32 + b, none⟩ = some u := by
                      refine ⟨_, (cell_of_row wr gd _ _ _ _ hg3).trans (?_ : _ = some ((dcells (put1 d x.at_ x.data b))[x.at_ * 32 + b]'(by omega)))⟩
                      rw [List.getElem?_toArray, List.getElem?_eq_getElem]
                    obtain ⟨uC, hcC⟩ := hcC
                    have hfC : wr.drew.frozen? ⟨gd, x.at_ * 32 + b, none⟩ = false := frozen_of_row wr gd _ _ _ hg3
                    have hnew : (wr.drew.setCell ⟨gd, x.at_ * 32 + b, none⟩ (.int .u8 ((x.data.getD b 0).toNat : Int))).heap[gd]? = some (.cells (dcells (put1 d x.at_ x.data (b + 1))).toArray 88 (0, 0)) := by
                      rw [heap_setCell_same wr.drew gd _ _ _ _ hg3, put1_cells d x.at_ x.data b (unhide HEL) hxd (by omega) (by omega)]
                    have hold : (wr.drew.setCell ⟨gd, x.at_ * 32 + b, none⟩ (.int .u8 ((x.data.getD b 0).toNat : Int))).heap[gw]? = some (.cells (itcells x).toArray 90 (0, 0)) := (heap_setCell_other _ _ _ _ (show gw ≠ gd by omega)).trans hg4
                    have hbn : Below gd w (wr.drew.setCell ⟨gd, x.at_ * 32 + b, none⟩ (.int .u8 ((x.data.getD b 0).toNat : Int))) := hb3.drew.setCell (Nat.le_refl gd) _
                    generalize hue : x.data.getD b 0 = u8 at hcB hnew hold hbn
                    have HN := hide hnew
                    have HO := hide hold
                    have HB3 := hide hbn
                    have hb0 : (0 : Int) ≤ (b : Int) := by omega
                    have hb1 : (b : Int) < 32 := by omega
                    have ha0 : (0 : Int) ≤ (x.at_ : Int) := by omega
                    have ha1 : (x.at_ : Int) < (ds.length : Int) := by omega
                    have hne : gw ≠ gd := by omega
                    clear hg3 hg4 hcx hpl hnew hold hbn hue hb3
                    go_wp2_with fail
                    go_region
                    go_wp2
                    go_roundw
                    case rel => exact ⟨b + 1, by omega, by go_num, unhide HN, unhide HO, unhide HB3⟩
                    case measure => simp [intOf]; omega
                  · have hbM : b = p := by omega
                    subst hbM
                    have hd5 : decide ((b : Int) < (b : Int)) = false := by simp
                    have HN := hide hg3
                    have HB3 := hide hb3
                    clear hg3 hg4 hb3
                    go_wp2_with fail
                    go_roundw
                    case rel => exact ⟨m + 1, put1 d x.at_ x.data b, by omega, by go_num, by rw [← unhide HA1]; exact unhide HAN b (by omega) (fun hq => absurd hq hmq), unhide HN, unhide HB3⟩
                    case measure => simp [intOf]; omega
              · have hd7 : decide ((m : Int) - ((q : Int) - 1) ≤ (zs.length : Int)) = false := by simp; omega
                have j4 : IntKind.i64.wrap ((m : Int) - ((q : Int) - 1)) = (m : Int) - ((q : Int) - 1) := i64w _ (by omega)
                go_wp2_with fail
                go_loopw [15] (fun bv wr => ∃ b : Nat, b ≤ 0 ∧ bv = .int .i64 b ∧ wr.heap[gd]? = some (.cells (dcells (put1 d x.at_ x.data b)).toArray 88 (0, 0)) ∧ wr.heap[gw]? = some (.cells (itcells x).toArray 90 (0, 0)) ∧ Below gd w wr) (fun bv _ => 40 - (intOf bv).toNat)
                case atStart => exact ⟨0, Nat.zero_le _, rfl, by rw [put1_zero]; exact unhide HGD, unhide HGW, unhide HBW⟩
                case round =>
                  obtain ⟨b, hb, rfl, hg3, hg4, hb3⟩ := hrel
                  by_cases hlt3 : b < 0
                  · exact absurd hlt3 (Nat.not_lt_zero _)
                  · have hbM : b = 0 := by omega
                    subst hbM
                    have hd5 : decide ((0 : Int) < (0 : Int)) = false := by simp
                    have HN := hide hg3
                    have HB3 := hide hb3
                    clear hg3 hg4 hb3
                    go_wp2_with fail
                    go_roundw
                    case rel => exact ⟨m + 1, put1 d x.at_ x.data 0, by omega, by go_num, by rw [← unhide HA1]; exact unhide HAN 0 (by omega) (fun hq => absurd hq hmq), unhide HN, unhide HB3⟩
                    case measure => simp [intOf]; omega
        · have hmk : m = k := by omega
          subst hmk
          have hd2 : decide ((m : Int) < (m : Int)) = false := by simp
          have hK9 := (unhide HK).below (show Below w.heap.size w wr by rw [hgd]; exact hbr)
          have HX := hide (show Dk w0 (wr.setCell ⟨G, 2, none⟩ (.slice (some ⟨gd, 0, none⟩) ds.length ds.length)) G T vl xs (.slice (some ⟨gd, 0, none⟩) ds.length ds.length) d k0 from
            hK9.setD (by rw [← hdl, dcells_length d (unhide HEL)]; omega) (unhide HEL) (unhide HGR) hdl (by omega) (by have := (unhide HK).bel.size; omega) (by have := lt_of_block (unhide HK).cells; omega))
          have hfr := hK9.cells.free 2
          have hcc := hK9.cells.c2
          clear hK9
          go_wp2
          go_ret
          exact ⟨rfl, _, q, d, unhide HFL, unhide HAP, unhide HX⟩
end Go.Proofs.YtanfolfopalbeabDoor
