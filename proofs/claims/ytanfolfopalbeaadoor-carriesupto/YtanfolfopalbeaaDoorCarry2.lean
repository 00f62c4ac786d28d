/- package carry: the body of a disk, what is read from it and written to it: the contracts. -/
import Derived.Test.YtanfolfopalbeaaDoorCarry1
namespace Go.Proofs.YtanfolfopalbeaaDoor
open Go.RowKit

theorem v_scm (d : List UInt8) (h : d.length = 32) : (Tryd.prog.info? 126).map (·.size) = some (bcells d).length := by rw [show (bcells d).length = 32 by simp [bcells, h]]; exact info_sc
/-- The bytes of the sectors from the second one up to k. -/
def upto (ds : List (List UInt8)) (k : Nat) : List UInt8 := ((ds.take k).drop 1).flatten
theorem upto_one (ds : List (List UInt8)) : upto ds 1 = [] := by
  unfold upto
  cases ds <;> rfl
theorem upto_succ (ds : List (List UInt8)) (k : Nat) (h1 : 1 ≤ k) (hk : k < ds.length) : upto ds (k + 1) = upto ds k ++ ds.getD k [] := by
  unfold upto
  rw [List.take_succ_eq_append_getElem hk, List.drop_append_of_le_length (by rw [List.length_take]; omega), List.flatten_append]
  simp [List.getD, List.getElem?_eq_getElem hk]
theorem upto_length (ds : List (List UInt8)) (h : ∀ d ∈ ds, d.length = 32) (k : Nat) (hk : k ≤ ds.length) : (upto ds k).length = 32 * (k - 1) := by
  unfold upto
  rw [flat_length _ (fun s hs => h s (List.mem_of_mem_take (List.mem_of_mem_drop hs))), List.length_drop, List.length_take]
  congr 1
  omega
theorem upto_all (ds : List (List UInt8)) : upto ds ds.length = (ds.drop 1).flatten := by unfold upto; rw [List.take_of_length_le (Nat.le_refl _)]
theorem news_of_heap {w : World} {g : Nat} {t : TypeId} {d : List UInt8} (h : w.heap[g]? = some (.cells (bcells d).toArray t (0, 0))) : ∀ j u, (bcells d)[j]? = some u → w.cell? ((⟨g, 0, none⟩ : Addr).add j) = some u := by
  intro j u hu
  rw [add_none, Nat.zero_add, cell_of_row w g j _ _ _ h]
  simpa using hu
theorem ret_str {l : List UInt8} {x : List UInt8} (h : l = x) : Ending.returned (.string ⟨l.toArray⟩) = Ending.returned (.string (mk x)) := by rw [h]; rfl

set_option maxRecDepth 100000 in
set_option maxHeartbeats 800000 in
theorem body_any (v : Value) (ds : List (List UInt8)) (w : World) (hD : Digs w v ds) (h1 : 1 ≤ ds.length) (h3 : ds.length ≤ 300) :
    Calls Tryd.prog 111 #[v] w fun e w' => e = .returned (.string (mk (ds.drop 1).flatten)) ∧ Below w.heap.size w w' := by
  obtain ⟨i0, hi, hz0, hz1, hz2⟩ := info_parts info_u8
  obtain ⟨b, off, cap, rfl, hcap, _⟩ := digs_shape hD (by omega)
  have HD := hide hD
  clear hD
  go_enter Tryd.func111, Tryd.ntmps111
  go_wp2
  go_loopw [3, 4] (fun tv i wr => ∃ k : Nat, 1 ≤ k ∧ k ≤ ds.length ∧ i = .int .i64 k ∧ wr.ownsRow w.heap.size 5 1 tv (upto ds k).length (bcells (upto ds k)) ∧ Below w.heap.size w wr) (fun _ i _ => ds.length - (intOf i).toNat)
  case atStart => exact ⟨1, Nat.le_refl _, h1, rfl, by rw [upto_one]; exact World.ownsRow_nil _ _ _ _, Below.refl _ _⟩
  case round =>
    obtain ⟨k, hk1, hk, rfl, hown, hbel⟩ := hrel
    have hszr := hbel.size
    by_cases hlt : k < ds.length
    · have hr := rangeAt_below (digs_at (unhide HD) k hlt) hbel (Nat.le_refl _)
      have hdl := digs_len (unhide HD) k hlt
      have HU := hide (upto_succ ds k hk1 hlt)
      have hul := upto_length ds (unhide HD).1 k (by omega)
      generalize ds.getD k [] = d at hr hdl HU
      generalize upto ds k = u at hown HU hul
      have HR := hide hr
      have VM := hide (v_scm d hdl)
      have VS := hide (v_sc d hdl)
      have VZ := hide (v_z32 d hdl)
      have hd1 : decide ((k : Int) < (ds.length : Int)) = true := by simp; omega
      have hka : (0 : Int) ≤ (k : Int) := by omega
      have hkb : (k : Int) < (ds.length : Int) := by omega
      clear hr
      go_wp2_with (first | ((with_reducible refine at_load ?_); go_must (refine wpList_load_mid rfl 126 _ rfl b (off + k * 32) (by rfl) (bcells d) _ (unhide HR) Tryd.underlying126 rfl (unhide VM) ?_)) | ((with_reducible refine at_store ?_); go_must (refine wpList_store_row rfl 126 _ _ rfl wr.heap.size (bcells d).toArray rfl rfl 126 _ (heap_alloc_new wr _) (unhide VS) (unhide VZ) (bcells_one d) ?_)) | (at_builtin; rw [← z32_cells]; go_must (refine wpList_append_own _ rfl (.tmp 16) (.tmp 17) 45 rfl w.heap.size 5 i0 (.int .u8 0) 1 1 Tryd.underlying45 hi hz0 hz1 hz2 rfl (by decide) _ _ _ rfl (own_keep hown (below_put wr _ _ _)) ⟨wr.heap.size, 0, none⟩ 32 32 (bcells d) rfl ?c0 (news_of_heap (heap_put_new wr _ _ _)) (bcells_one' d) ?c3 ?c4 ?c5 ?_)))
      case c0 => rw [bcells_length]; omega
      case c3 => unfold maxLen; omega
      case c4 => omega
      case c5 => simp [World.setRow]; omega
      intro v3 w3 hown3 hgrow3 _
      have hbel3 : Below w.heap.size w w3 := (below_row (hbel.alloc hszr _) hszr _).grown hgrow3 (by simp [World.setRow]; omega) (own_row_ge hown)
      clear hgrow3 hown hbel
      go_wp2
      go_roundw
      case rel => exact ⟨k + 1, by omega, by omega, by go_num, by rw [unhide HU, bcells_append, List.length_append, hdl, hul]; exact hown3, hbel3⟩
      case measure => simp [intOf]; omega
    · have hke : k = ds.length := by omega
      subst hke
      rw [upto_all] at hown
      generalize hoe : (ds.drop 1).flatten = o at hown ⊢
      have HF := hide hoe
      clear hoe
      have hd1 : decide ((ds.length : Int) < (ds.length : Int)) = false := by simp
      rcases hown with ⟨hl, ⟨rfl, h0⟩ | ⟨g, cap2, cur, rfl, hg1, hg2, hg3, hg4, hg5, hg6⟩⟩
      · have ho : o = [] := List.eq_nil_of_length_eq_zero h0
        subst ho
        have hcv := fun (w : World) => run_convert_bytes_nil (P := Tryd.prog) w 45 5 Tryd.underlying45 Tryd.underlying5 0 0 9 Tryd.underlying9
        go_wp2
        go_ret
        exact ⟨by rw [unhide HF]; rfl, hbel⟩
      · have hcv := run_convert_bytes_back (P := Tryd.prog) wr 45 9 5 ⟨g, 0, none⟩ cap2 o Tryd.underlying45 Tryd.underlying5 Tryd.underlying9 (by
          intro j hj
          have hc1 : (cur.toList.take (o.length * 1))[j]? = (bcells o)[j]? := by rw [hg6]
          rw [List.getElem?_take_of_lt (by omega)] at hc1
          rw [Addr.add_lit]
          unfold World.cell?
          rw [hg2]
          simpa [bcells, List.getElem?_eq_getElem hj] using hc1)
        clear hl hg1 hg2 hg3 hg4 hg5 hg6
        go_wp2
        go_ret
        exact ⟨by rw [unhide HF]; rfl, hbel⟩

def lenQ : Value → Nat
  | .slice _ m _ => m
  | _ => 0
theorem lenQ_own {w : World} {B : Nat} {e : TypeId} {s : Nat} {v : Value} {n : Nat} {xs : List Value} (h : w.ownsRow B e s v n xs) : lenQ v = n := by
  obtain ⟨ao, cap, rfl⟩ := own_shape h
  rfl
/-- What readBody answers. -/
def rbR (n : Nat) (t : List UInt8) : List (List UInt8) × Nat := match rb n t with | some es => (es, 0) | none => ([], 6)
/-- What is left to be read when some entries have been. -/
def RbAt (n : Nat) (L : List UInt8) (acc : List (List UInt8)) (t : List UInt8) : Prop := acc.length ≤ n ∧ rb n L = (rb (n - acc.length) t).map (acc ++ ·)
theorem RbAt.start (n : Nat) (L : List UInt8) : RbAt n L [] L := by
  refine ⟨Nat.zero_le _, ?_⟩
  show rb n L = (rb n L).map ([] ++ ·)
  cases rb n L <;> rfl
theorem RbAt.done {n : Nat} {L t : List UInt8} {acc : List (List UInt8)} (h : RbAt n L acc t) (hn : ¬ acc.length < n) : rbR n L = (acc, 0) := by
  obtain ⟨h1, h2⟩ := h
  have : n - acc.length = 0 := by omega
  rw [this, rb_zero] at h2
  unfold rbR
  rw [h2]
  simp
theorem RbAt.bad {n : Nat} {L t : List UInt8} {acc : List (List UInt8)} (h : RbAt n L acc t) (hn : acc.length < n) (hb : t = [] ∨ ∃ c r, t = c :: r ∧ (20 < c.toNat ∨ r.length < c.toNat)) : rbR n L = ([], 6) := by
  obtain ⟨h1, h2⟩ := h
  obtain ⟨m, hm⟩ : ∃ m, n - acc.length = m + 1 := ⟨n - acc.length - 1, by omega⟩
  have : rb n L = none := by
    rw [h2, hm]
    rcases hb with rfl | ⟨c, r, rfl, hb⟩
    · rfl
    · rw [rb_bad m c r hb]
      rfl
  unfold rbR
  rw [this]
theorem RbAt.next {n : Nat} {L : List UInt8} {acc : List (List UInt8)} {c : UInt8} {r : List UInt8} (h : RbAt n L acc (c :: r)) (hn : acc.length < n) (hb : ¬ (20 < c.toNat ∨ r.length < c.toNat)) : RbAt n L (acc ++ [r.take c.toNat]) (r.drop c.toNat) := by
  obtain ⟨h1, h2⟩ := h
  refine ⟨by simp; omega, ?_⟩
  obtain ⟨m, hm⟩ : ∃ m, n - acc.length = m + 1 := ⟨n - acc.length - 1, by omega⟩
  rw [h2, hm, rb_good m c r hb, show n - (acc ++ [r.take c.toNat]).length = m by simp; omega]
  cases rb m (r.drop c.toNat) <;> simp
theorem getElem0 (x : ByteArray) (h : 0 < x.size) : ∃ c r, x.data.toList = c :: r ∧ x[0] = c ∧ r.length + 1 = x.size := by
  obtain ⟨r, h1, h2⟩ := ba_getElem x h
  exact ⟨_, r, h1, rfl, h2⟩

set_option maxRecDepth 100000 in
set_option maxHeartbeats 1600000 in
theorem readBody_any (s : ByteArray) (n : Nat) (w : World) (hs : s.size ≤ 10000) (hn : n ≤ 100) :
    Calls Tryd.prog 112 #[.string s, .int .i64 n] w fun e w' => ∃ v, e = .returned (.tuple #[v, .int .i64 (rbR n s.data.toList).2]) ∧
      w'.ownsRow w.heap.size 9 1 v (rbR n s.data.toList).1.length (((rbR n s.data.toList).1.map mk).map Value.string) ∧ Below w.heap.size w w' := by
  obtain ⟨i0, hi, hz0, hz1, hz2⟩ := info_parts info_str
  go_enter Tryd.func112, Tryd.ntmps112
  go_wp2
  go_loopw [0, 6] (fun t v wr => ∃ (acc : List (List UInt8)) (x : ByteArray), x.size ≤ 10000 ∧ t = .string x ∧ RbAt n s.data.toList acc x.data.toList ∧ wr.ownsRow w.heap.size 9 1 v acc.length ((acc.map mk).map Value.string) ∧ Below w.heap.size w wr) (fun _ v _ => n - lenQ v)
  case atStart => exact ⟨[], s, hs, rfl, RbAt.start _ _, World.ownsRow_nil _ _ _ _, Below.refl _ _⟩
  case round =>
    obtain ⟨acc, x, hx, rfl, hR, hown, hbel⟩ := hrel
    have hszr := hbel.size
    have hal := hR.1
    obtain ⟨ao, cap, rfl⟩ := own_shape hown
    have HR := hide hR
    clear hR
    by_cases hlt : acc.length < n
    · have hd1 : decide ((acc.length : Int) < (n : Int)) = true := by simp; omega
      by_cases hx0 : x.size = 0
      · have hb : x.data.toList = [] := List.eq_nil_of_length_eq_zero hx0
        have HB := hide ((unhide HR).bad hlt (.inl hb))
        clear hb
        have hd2 : ((x.size : Int) == 0) = true := by simp [hx0]
        go_wp2
        go_ret2
        rw [unhide HB]
        exact ⟨_, rfl, World.ownsRow_nil _ _ _ _, hbel⟩
      · obtain ⟨c, r, hcr, hc0, hrl⟩ := getElem0 x (by omega)
        have hd2 : ((x.size : Int) == 0) = false := by rw [beq_eq_false_iff_ne]; omega
        have hcl : c.toNat < 256 := c.toNat_lt
        have HX := hide hcr
        by_cases hbad : 20 < c.toNat ∨ r.length < c.toNat
        · have HB := hide ((unhide HR).bad hlt (.inr ⟨c, r, hcr, hbad⟩))
          rw [← hc0] at hbad hcl
          clear hcr hc0
          rcases hbad with hbad | hbad
          · have hd3 : decide ((20 : Int) < (x[0].toNat : Int)) = true := by simp; omega
            go_wp2
            go_ret2
            rw [unhide HB]
            exact ⟨_, rfl, World.ownsRow_nil _ _ _ _, hbel⟩
          · by_cases h20 : 20 < x[0].toNat
            · have hd3 : decide ((20 : Int) < (x[0].toNat : Int)) = true := by simp; omega
              go_wp2
              go_ret2
              rw [unhide HB]
              exact ⟨_, rfl, World.ownsRow_nil _ _ _ _, hbel⟩
            · have hd3 : decide ((20 : Int) < (x[0].toNat : Int)) = false := by simp; omega
              have hd4 : decide ((x.size : Int) ≤ (x[0].toNat : Int)) = true := by simp; omega
              go_wp2
              go_ret2
              rw [unhide HB]
              exact ⟨_, rfl, World.ownsRow_nil _ _ _ _, hbel⟩
        · rw [hcr] at HR
          have HN := hide ((unhide HR).next hlt hbad)
          have he1 : (x.extract 1 (1 + c.toNat)).data.toList = r.take c.toNat := by
            rw [extract_data, hcr, show 1 + c.toNat - 1 = c.toNat by omega]
            rfl
          have he2 : (x.extract (1 + c.toNat) x.size).data.toList = r.drop c.toNat := by
            rw [extract_mk_drop, hcr, Nat.add_comm, List.drop_succ_cons]
          rw [← he1, ← he2] at HN
          clear hcr HX HR he1 he2
          generalize hm : c.toNat = m at *
          have hxm : x[0].toNat = m := by rw [hc0, hm]
          have hd3 : decide ((20 : Int) < (m : Int)) = false := by simp; omega
          have hd4 : decide ((x.size : Int) ≤ (m : Int)) = false := by simp; omega
          have fE : IntKind.i64.wrap (1 + (m : Int)) = 1 + (m : Int) := i64w _ (by omega)
          have f1 : (1 : Int) ≤ 1 + (m : Int) := by omega
          have f2 : 1 + (m : Int) ≤ (x.size : Int) := by omega
          have f3 : (1 + (m : Int)).toNat = 1 + m := by omega
          clear hc0
          go_wp2_with (at_builtin; go_must (refine wpList_append_own _ rfl (.tmp 26) (.tmp 31) 34 rfl w.heap.size 9 i0 (.string ⟨#[]⟩) 1 16 Tryd.underlying34 hi hz0 hz1 hz2 rfl (by decide) _ _ _ rfl (hown.alloc _) ⟨wr.heap.size, 0, none⟩ 1 1 [.string (x.extract 1 (1 + m))] rfl rfl ?c1 ?c2 ?c3 ?c4 ?c5 ?_))
          case c1 => exact cell_one_new _ _ _
          case c2 => intro u hu; simp at hu; subst hu; rfl
          case c3 => unfold maxLen; omega
          case c4 => omega
          case c5 => simp; omega
          intro v3 w3 hown3 hgrow3 _
          have hbel3 : Below w.heap.size w w3 := (hbel.alloc hszr _).grown hgrow3 (by simp; omega) (own_row_ge hown)
          have hl3 := lenQ_own hown3
          clear hgrow3 hown hbel
          go_wp2
          go_roundw
          case rel => exact ⟨acc ++ [(x.extract 1 (1 + m)).data.toList], x.extract (1 + m) x.size, by simp; omega, rfl, unhide HN, by rw [List.length_append, List.map_append, List.map_append, List.map_map]; exact hown3, hbel3⟩
          case measure =>
            show n - lenQ v3 < n - acc.length
            omega
    · have HB := hide ((unhide HR).done hlt)
      have hd1 : decide ((acc.length : Int) < (n : Int)) = false := by simp; omega
      go_wp2
      go_ret2
      rw [unhide HB]
      exact ⟨_, rfl, hown, hbel⟩

theorem wb_take_succ (ss : List ByteArray) (k : Nat) (hk : k < ss.length) : wb (bs (ss.take (k + 1))) = wb (bs (ss.take k)) ++ (UInt8.ofNat (ss.getD k ByteArray.empty).size :: (ss.getD k ByteArray.empty).data.toList) := by
  rw [bs_take_succ ss k hk, wb_snoc]
  rfl
theorem bs_small' (xs : List ByteArray) (hz : ∀ s ∈ xs, s.size ≤ 20) : ∀ e ∈ bs xs, e.length ≤ 20 := by
  intro e he
  simp only [bs, List.mem_map] at he
  obtain ⟨s, hs, rfl⟩ := he
  exact hz s hs

set_option maxRecDepth 100000 in
set_option maxHeartbeats 400000 in
theorem writeBody_empty (ao : Option Addr) (cap : Nat) (w : World) :
    Calls Tryd.prog 113 #[.slice ao 0 cap] w fun e w' => e = .returned (.string (mk (wb (bs [])))) ∧ Below w.heap.size w w' := by
  have hcv := fun (w : World) => run_convert_bytes_nil (P := Tryd.prog) w 45 5 Tryd.underlying45 Tryd.underlying5 0 0 9 Tryd.underlying9
  go_enter Tryd.func113, Tryd.ntmps113
  go_wp2
  refine wp_loop_rounds 1 ?_
  rw [rounds_succ]
  go_wp2
  go_ret
  exact ⟨rfl, Below.refl _ _⟩

set_option maxRecDepth 100000 in
set_option maxHeartbeats 800000 in
theorem writeBody_some (b off cap : Nat) (ss : List ByteArray) (w : World) (hm : ss.length ≤ 100) (hz : ∀ s ∈ ss, s.size ≤ 20)
    (hc : ∀ i, i < ss.length → w.cell? ⟨b, off + i, none⟩ = some (.string (ss.getD i ByteArray.empty))) :
    Calls Tryd.prog 113 #[.slice (some ⟨b, off, none⟩) ss.length cap] w fun e w' => e = .returned (.string (mk (wb (bs ss)))) ∧ Below w.heap.size w w' := by
  have HC := hide hc
  have HZ := hide hz
  clear hc hz
  obtain ⟨i0, hi, hz0, hz1, hz2⟩ := info_parts info_u8
  go_enter Tryd.func113, Tryd.ntmps113
  go_wp2
  go_loopw [3, 8] (fun v i wr => ∃ k : Nat, k ≤ ss.length ∧ i = .int .i64 k ∧
      wr.ownsRow w.heap.size 5 1 v (wb (bs (ss.take k))).length (bcells (wb (bs (ss.take k)))) ∧ Below w.heap.size w wr) (fun _ i _ => ss.length - (intOf i).toNat)
  case atStart => exact ⟨0, Nat.zero_le _, rfl, World.ownsRow_nil _ _ _ _, Below.refl _ _⟩
  case round =>
    obtain ⟨k, hk, rfl, hown, hbel⟩ := hrel
    have hszr := hbel.size
    by_cases hlt : k < ss.length
    · have hlen : (wb (bs (ss.take k))).length ≤ 2100 := by
        have := wb_length_le (bs (ss.take k)) (bs_small' _ (fun s hs => unhide HZ s (List.mem_of_mem_take hs)))
        simp only [bs_length, List.length_take] at this
        omega
      have HW := hide (wb_take_succ ss k hlt)
      obtain ⟨s, hs⟩ : ∃ s, s = ss.getD k ByteArray.empty := ⟨_, rfl⟩
      have hck0 := unhide HC k hlt
      have hss : (ss.getD k ByteArray.empty).size ≤ 20 := by
        rw [List.getD, List.getElem?_eq_getElem hlt]
        exact unhide HZ _ (List.getElem_mem hlt)
      rw [← hs] at hck0 hss HW
      clear hs
      have hck : wr.cell? ⟨b, off + k, none⟩ = some (.string s) := by rw [hbel.cell (p := ⟨b, off + k, none⟩) (cell_lt hck0)]; exact hck0
      generalize wb (bs (ss.take k)) = o at *
      have HBL := hide (byte_len s hss)
      have hd1 : decide ((k : Int) < (ss.length : Int)) = true := by simp; omega
      have hka : (0 : Int) ≤ (k : Int) := by omega
      have hkb : (k : Int) < (ss.length : Int) := by omega
      clear hck0
      go_wp2_with (at_builtin; go_must (refine wpList_append_own _ rfl (.tmp 12) (.tmp 16) 45 rfl w.heap.size 5 i0 (.int .u8 0) 1 1 Tryd.underlying45 hi hz0 hz1 hz2 rfl (by decide) _ _ _ rfl (hown.alloc _) ⟨wr.heap.size, 0, none⟩ 1 1 [.int .u8 (s.size : Int)] rfl rfl ?c1 ?c2 ?c3 ?c4 ?c5 ?_))
      case c1 => exact cell_one_new _ _ _
      case c2 => intro u hu; simp at hu; subst hu; rfl
      case c3 => unfold maxLen; omega
      case c4 => omega
      case c5 => simp; omega
      intro v3 w3 hown3 hgrow3 _
      have hbel3 : Below w.heap.size w w3 := (hbel.alloc hszr _).grown hgrow3 (by simp; omega) (own_row_ge hown)
      have hsz3 : w.heap.size ≤ w3.heap.size := hbel3.size
      clear hgrow3 hbel hown hck
      go_wp2_with (at_builtin; go_must (refine Lib.wpList_append_own_string _ rfl (.tmp 18) (.tmp 19) 45 9 rfl w.heap.size 5 i0 Tryd.underlying45 Tryd.underlying9 hi hz0 hz1 hz2 _ _ _ rfl hown3 s rfl ?d1 ?d2 hsz3 ?_))
      case d1 => unfold maxLen; omega
      case d2 => omega
      intro v4 w4 hown4 hgrow4 _
      have hbel4 : Below w.heap.size w w4 := hbel3.grown hgrow4 hsz3 (own_row_ge hown3)
      clear hgrow4 hbel3 hown3
      go_wp2
      go_roundw
      case rel =>
        refine ⟨k + 1, by omega, by go_num, ?_, hbel4⟩
        rw [unhide HW, bcells_append]
        have e1 : (o ++ (UInt8.ofNat s.size :: s.data.toList)).length = o.length + 1 + s.size := by
          have : s.data.toList.length = s.size := rfl
          rw [List.length_append, List.length_cons]; omega
        have e2 : bcells (UInt8.ofNat s.size :: s.data.toList) = [Value.int .u8 (s.size : Int)] ++ Lib.strCells s := by
          rw [unhide HBL]
          rfl
        rw [e1, e2]
        exact hown4
      case measure => simp [intOf]; omega
    · have hkl : ss.take k = ss := List.take_of_length_le (by omega)
      rw [hkl] at hown
      generalize hoe : wb (bs ss) = o at hown
      have HF := hide hoe
      have hd1 : decide ((k : Int) < (ss.length : Int)) = false := by simp; omega
      clear hoe
      rcases hown with ⟨hl, ⟨rfl, h0⟩ | ⟨g, cap2, cur, rfl, hg1, hg2, hg3, hg4, hg5, hg6⟩⟩
      · have ho : o = [] := List.eq_nil_of_length_eq_zero h0
        subst ho
        have hcv := fun (w : World) => run_convert_bytes_nil (P := Tryd.prog) w 45 5 Tryd.underlying45 Tryd.underlying5 0 0 9 Tryd.underlying9
        go_wp2
        go_ret
        exact ⟨by rw [unhide HF]; rfl, hbel⟩
      · have hcv := run_convert_bytes_back (P := Tryd.prog) wr 45 9 5 ⟨g, 0, none⟩ cap2 o Tryd.underlying45 Tryd.underlying5 Tryd.underlying9 (by
          intro j hj
          have hc1 : (cur.toList.take (o.length * 1))[j]? = (bcells o)[j]? := by rw [hg6]
          rw [List.getElem?_take_of_lt (by omega)] at hc1
          rw [Addr.add_lit]
          unfold World.cell?
          rw [hg2]
          simpa [bcells, List.getElem?_eq_getElem hj] using hc1)
        clear hl hg1 hg2 hg3 hg4 hg5 hg6
        go_wp2
        go_ret
        exact ⟨by rw [unhide HF]; rfl, hbel⟩
theorem writeBody_any (v : Value) (ss : List ByteArray) (w : World) (h : Strs w v ss) (hm : ss.length ≤ 100) (hz : ∀ s ∈ ss, s.size ≤ 20) :
    Calls Tryd.prog 113 #[v] w fun e w' => e = .returned (.string (mk (wb (bs ss)))) ∧ Below w.heap.size w w' := by
  obtain ⟨ao, cap, rfl, h1, h2, h3⟩ := h
  rcases h3 with rfl | ⟨b, off, rfl, hc⟩
  · exact writeBody_empty ao cap w
  · exact writeBody_some b off cap ss w hm hz hc
end Go.Proofs.YtanfolfopalbeaaDoor
