/- The book's oldProve, and OldProofs: the contracts. -/
import Derived.Test.YtanfolfopalbeaaBookIv1
import Derived.Test.YtanfolfopalbeaaLawr
import Derived.Test.YtanfolfopalbeaaRefOldP
namespace Go.Proofs.Ytanfolfopalbeaa
open Go.RowKit

/-- A book of texts alone, its lists not more than m, the blocks of Q not among its own. -/
def BkTE (B : Nat) (w : World) (G : Nat) (cs : Array Value) (n m : Nat) (Q : Nat → Prop) : Prop :=
  ∃ tv xv recs, BkV (Kt 32 0) Mt B w G cs tv xv recs ∧ cs[0]? = some (.int .i64 (n : Int)) ∧ cs[3]? = some (.slice none 0 0) ∧ cs[5]? = some (.slice none 0 0) ∧ cs[7]? = some (.slice none 0 0) ∧ recs.length ≤ m ∧ ∀ k, Q k → k < w.heap.size ∧ k ≠ G ∧ ¬ InB tv xv recs k
theorem BkTE.later {B : Nat} {w : World} {G : Nat} {cs : Array Value} {n m : Nat} {Q Q' : Nat → Prop} (h : BkTE B w G cs n m Q) {w' : World} (hb : Below w.heap.size w w') (hQ : ∀ k, Q' k → k < w'.heap.size ∧ (Q k ∨ w.heap.size ≤ k)) : BkTE B w' G cs n m Q' := by
  obtain ⟨tv, xv, recs, H, h0, h3, h5, h7, hm, hq⟩ := h
  refine ⟨tv, xv, recs, H.later hb, h0, h3, h5, h7, hm, fun k hk => ?_⟩
  obtain ⟨h1, h2⟩ := hQ k hk
  rcases h2 with h2 | h2
  · exact ⟨h1, (hq k h2).2⟩
  · have hG := H.bk.lt
    exact ⟨h1, by omega, fun hi => by have := (H.inB_lt hi).1; omega⟩
theorem strings1 (B : Nat) (w : World) (G : Nat) (cs : Array Value) (n m : Nat) (Q Q' : Nat → Prop) (h : BkTE B w G cs n m Q) (lv : Value) (nl : Nat) (ls : List (List Value)) (hl : w.ownsRow B 9 1 lv nl (fl ls)) (hlQ : ∀ k, lv.ownBlock = some k → Q k) (hnl : nl ≤ 1000) (hll : ls.length = nl) (hl32 : ∀ d ∈ ls, d.length = 1)
    (hQ : ∀ k, Q' k → Q k ∧ lv.ownBlock ≠ some k) (hn : n ≤ 1099511627776) (hm : m ≤ 1099511627776) :
    Calls Try.prog 20 #[.pointer (some ⟨G, 0, none⟩), lv] w fun e w' => ∃ cs', BkTE B w' G cs' (n + 1) (m + 4) Q' ∧ (∀ k, Q' k → w'.heap[k]? = w.heap[k]?) ∧ Below B w w' ∧ e = .returned (.tuple #[]) := by
  obtain ⟨tv, xv, recs, H, h0, h3, h5, h7, hT, hq⟩ := h
  have hlK : ∀ k, InB tv xv recs k → lv.ownBlock ≠ some k := fun k hk e => (hq k (hlQ k e)).2.2 hk
  obtain ⟨S, M⟩ := H.start hl (fun e => (hq G (hlQ G e)).2.1 rfl) (fun k e hk => hlK k hk e)
  refine (bKt_any 32 0 _ B G n cs _ _ w w recs lv nl ls S h0 hn hnl hll hl32 (by omega) (fun r hr g hg h2 => hlK g (.inr (.inr ⟨r, hr, h2⟩)) hg) M).mono ?_
  rintro e w' ⟨cs', tv', xv', recs', S', M', hlen, hcs, rfl⟩
  have J := S'.stop M'
  have hf : ∀ k, Q' k → FreeB w G tv xv recs lv k := fun k hk => by
    obtain ⟨h2, h3⟩ := hQ k hk
    obtain ⟨h1, h4, h5⟩ := hq k h2
    exact ⟨h1, h4, h5, h3⟩
  have ho : ∀ j, j ≠ 0 → j ≠ 1 → j ≠ 2 → cs'[j]? = cs[j]? := fun j a b c => hcs.other j a (by simpa [Kt] using b) (by simpa [Kt] using c)
  refine ⟨cs', ⟨tv', xv', recs', J.1, hcs.num, by rw [ho 3 (by decide) (by decide) (by decide)]; exact h3, by rw [ho 5 (by decide) (by decide) (by decide)]; exact h5, by rw [ho 7 (by decide) (by decide) (by decide)]; exact h7, by rw [hlen]; omega, fun k hk => ?_⟩, fun k hk => (J.2 k (hf k hk)).2.1, S'.bel, rfl⟩
  exact ⟨(J.2 k (hf k hk)).1, (hf k hk).2.1, (J.2 k (hf k hk)).2.2⟩
theorem holds1 (B : Nat) (w : World) (G : Nat) (cs : Array Value) (n m : Nat) (Q : Nat → Prop) (h : BkTE B w G cs n m Q) (hm : m ≤ 1099511627776) :
    Calls Try.prog 7 #[.pointer (some ⟨G, 0, none⟩)] w fun e w' => e = .returned (.bool true) ∧ Below w.heap.size w w' := by
  obtain ⟨tv, xv, recs, H, h0, h3, h5, h7, hT, hq⟩ := h
  have hn : ∀ (k : Nat) (x : Prop), (Value.slice none 0 0).ownBlock = some k → x := fun k x h => nomatch h
  obtain ⟨S1, M1⟩ := H.start (lv := .slice none 0 0) (nl := 0) (ls := []) (World.ownsRow_nil _ _ _ _) (fun h => hn _ _ h) (fun k h => hn _ _ h)
  exact holdsN_any 32 0 _ B G cs _ _ w w recs S1 M1 (by omega) h3 h5 h7
theorem BkTE.nil (B : Nat) (w : World) (G : Nat) (cs : Array Value) (hG : w.heap[G]? = some (.cells cs 32 (0, 0))) (hB : B ≤ G) (h0 : cs[0]? = some (.int .i64 0)) (hs : ∀ j, 1 ≤ j → j ≤ 8 → cs[j]? = some (.slice none 0 0)) : BkTE B w G cs 0 0 (fun _ => False) :=
  ⟨_, _, [], ⟨⟨hG, hs 1 (by omega) (by omega), hs 2 (by omega) (by omega), by simp [Kt]⟩, hB, World.ownsRow_nil _ _ _ _, World.ownsRow_nil _ _ _ _, (fun _ hr => nomatch hr), (fun _ hr => nomatch hr), (fun h => nomatch h), (fun h => nomatch h), (fun _ h => nomatch h), (fun _ hr => nomatch hr)⟩, h0, hs 3 (by omega) (by omega), hs 5 (by omega) (by omega), hs 7 (by omega) (by omega), Nat.le_refl _, fun k hk => hk.elim⟩
theorem fl_one (ss : List ByteArray) : fl (ss.map fun s => [Value.string s]) = ss.map Value.string := by
  unfold fl
  induction ss with
  | nil => rfl
  | cons a r ih => simp only [List.map_cons, List.flatten_cons, ih]; rfl
theorem Strs.shape {w : World} {v : Value} {ss : List ByteArray} (h : Strs w v ss) : ∃ ao cap, v = .slice ao ss.length cap ∧ cap ≤ maxLen := by
  obtain ⟨ao, cap, rfl, _, h2, _⟩ := h
  exact ⟨ao, cap, rfl, h2⟩
theorem own_base' {w : World} {B base : Nat} {e : TypeId} {s : Nat} {v : Value} {n : Nat} {xs : List Value} (h : w.ownsRow base e s v n xs) (hB : B ≤ base) : w.ownsRow B e s v n xs := by
  obtain ⟨h1, h2⟩ := h
  refine ⟨h1, ?_⟩
  rcases h2 with h2 | ⟨g, cap, cur, h3, h4, h5⟩
  · exact .inl h2
  · exact .inr ⟨g, cap, cur, h3, Nat.le_trans hB h4, h5⟩
theorem opf_new (w : World) (cs cs' : Array Value) (t : TypeId) : Below w.heap.size w ((w.alloc (.cells cs t)).setRow w.heap.size cs') ∧ ((w.alloc (.cells cs t)).setRow w.heap.size cs').heap[w.heap.size]? = some (.cells cs' t (0, 0)) ∧ ((w.alloc (.cells cs t)).setRow w.heap.size cs').heap.size = w.heap.size + 1 :=
  ⟨below_rowO ((Below.refl _ _).alloc (Nat.le_refl _) _) (Nat.le_refl _) _, setRow_heap _ _ _ _ _ _ (heap_alloc_new w _), by simp [World.setRow]⟩
theorem cell_of_opf {w : World} {g : Nat} {b : Nat} {v : Value} (h : w.heap[g]? = some (.cells #[.int .u16 (b : Int), v] 44 (0, 0))) : w.cell? ⟨g, 0, none⟩ = some (.int .u16 (b : Int)) ∧ w.cell? ⟨g, 1, none⟩ = some v :=
  ⟨by rw [cell_of_row w g _ _ _ _ h]; rfl, by rw [cell_of_row w g _ _ _ _ h]; rfl⟩
theorem opR_small (ss : List ByteArray) (i : Int) : (opR ss i).2.1.length ≤ 100 ∧ (opR ss i).1 < 65536 := by
  unfold opR
  split
  · simp
  · rename_i h
    have hc : chkI ss i = 0 := by omega
    have h1 := (chk_fits (chkI_zero hc).1).1
    refine ⟨?_, last_lt _ _ (by decide)⟩
    show (ss.drop _).length ≤ 100
    rw [List.length_drop]
    omega

set_option maxRecDepth 100000 in
set_option maxHeartbeats 1600000 in
theorem boldProve_any (B G : Nat) (cs : Array Value) (n m : Nat) (v : Value) (ss : List ByteArray) (i : Int) (w : World) (H0 : BkTE B w G cs n m (fun _ => False)) (hB : B ≤ w.heap.size) (hS : ∀ wq, Below B w wq → Strs wq v ss) (hm : ss.length * 16 ≤ 140737488351232) (hi : -9223372036854775808 ≤ i ∧ i ≤ 9223372036854775807) (hn : n ≤ 1000) (hm2 : m ≤ 1000) :
    Calls Try.prog 8 #[.pointer (some ⟨G, 0, none⟩), v, .int .i64 i] w fun e w' => e = .returned (.bool true) ∧ (∃ cs', BkTE B w' G cs' (n + 1) (m + 4) (fun _ => False)) ∧ Below B w w' := by
  have HB := hide H0
  have HS := hide hS
  obtain ⟨ao, cap, hv, hl1, hl2, _⟩ := hS w (Below.refl _ _)
  subst hv
  unfold maxLen at hl2
  have hop := fun vq wq hs => OldProve_any vq ss i wq hi hs
  have hrp := fun wq hs => rOldProve_any (.slice ao ss.length cap) ss i wq hi hs
  have hsm := opR_small ss i
  generalize opR ss i = r at hop hrp hsm
  obtain ⟨b0, rs, c⟩ := r
  simp only at hop hrp hsm
  clear H0 hS hi
  go_enter Try.func8, Try.ntmps8
  go_wp2_with fail
  refine (lend_any _ ss _ (unhide HS w (Below.refl _ _)) hm).mono ?_
  rintro e w1 ⟨g, rfl, hown1, hb1⟩
  have hg1 := hown1.lt g rfl
  have hgk : ∀ k, (Value.slice (some ⟨g, 0, none⟩) (ss.length + 2) (ss.length + 2)).ownBlock = some k → k < w1.heap.size := fun k hk => (hown1.lt k hk).2
  have F1 := hide (show Strs w1 (.slice (some ⟨g, 0, none⟩) ss.length (ss.length + 2)) ss by
    have := (strs_of_own hown1).cutF ss.length (by omega)
    rw [show (lentL ss).take ss.length = ss from List.take_left' rfl] at this
    exact this)
  have O1 := hide hown1
  have HB1 := hide hb1
  clear hown1 hb1
  go_wp2_with fail
  refine (hop _ _ (unhide F1)).mono ?_
  rintro e w2 ⟨v2, rfl, hown2, hb2⟩
  obtain ⟨ao2, cp2, rfl⟩ := own_shape hown2
  have hbnd : ∀ k, (Value.slice ao2 rs.length cp2).ownBlock = some k → k < w2.heap.size := fun k hk => (hown2.lt k hk).2
  have W3 := opf_new w2 #[.int .u16 0, .slice none 0 0] #[.int .u16 (b0 : Int), .slice ao2 rs.length cp2] 44
  have O2 := hide hown2
  have HB2 := hide hb2
  clear hown2 hb2 F1 hop
  go_upto_region 3 with ((with_reducible refine at_store ?_); go_must (refine wpList_store_row rfl 44 _ _ rfl w2.heap.size #[.int .u16 (b0 : Int), .slice ao2 rs.length cp2] rfl rfl 44 _ (heap_alloc_new w2 _) info_opf rfl (opf_one _ _ _ _) ?_))
  generalize (w2.alloc (.cells #[.int .u16 0, .slice none 0 0] 44)).setRow w2.heap.size #[.int .u16 (b0 : Int), .slice ao2 rs.length cp2] = w3 at W3 ⊢
  obtain ⟨hb3, hp3, hz3⟩ := W3
  have hs1 := (unhide HB1).size
  have hs2 := (unhide HB2).size
  have hs3 := hb3.size
  have K3 := hide ((unhide HB1).trans (((unhide HB2).mono hs1).trans (hb3.mono (by omega))))
  have HP3 := hide hp3
  have HB3 := hide hb3
  clear hb3 hp3
  go_wp2_with fail
  refine (hrp _ (unhide HS _ ((unhide K3).mono hB))).mono ?_
  rintro e w4 ⟨v4, rfl, hs4, hb4⟩
  obtain ⟨ao4, cp4, rfl, _⟩ := hs4.shape
  have W5 := opf_new w4 #[.int .u16 0, .slice none 0 0] #[.int .u16 (b0 : Int), .slice ao4 rs.length cp4] 44
  have S4 := hide hs4
  have HB4 := hide hb4
  clear hs4 hb4 hrp
  go_upto_region 4 with ((with_reducible refine at_store ?_); go_must (refine wpList_store_row rfl 44 _ _ rfl w4.heap.size #[.int .u16 (b0 : Int), .slice ao4 rs.length cp4] rfl rfl 44 _ (heap_alloc_new w4 _) info_opf rfl (opf_one _ _ _ _) ?_))
  generalize (w4.alloc (.cells #[.int .u16 0, .slice none 0 0] 44)).setRow w4.heap.size #[.int .u16 (b0 : Int), .slice ao4 rs.length cp4] = w5 at W5 ⊢
  obtain ⟨hb5, hp5, hz5⟩ := W5
  have hs4 := (unhide HB4).size
  have hs5 := hb5.size
  have K25 : Below w2.heap.size w2 w5 := (unhide HB3).trans (((unhide HB4).mono (by omega)).trans (hb5.mono (by omega)))
  have K15 : Below w1.heap.size w1 w5 := (unhide HB2).trans (K25.mono hs2)
  have K5 := hide ((unhide HB1).trans (K15.mono hs1))
  have O15 := hide (own_below (unhide O1) K15 (Nat.le_refl _))
  have O25 := hide (own_below (unhide O2) K25 (Nat.le_refl _))
  have P35 := hide (((unhide HB4).trans (hb5.mono (by omega))).block _ (by omega) |>.trans (unhide HP3))
  have P55 := hide hp5
  have S5 := hide ((unhide S4).below hb5 (Nat.le_refl _))
  clear hb5 hp5 K15 K25 S4 HP3 O1 O2 HB1 HB2 HB3 HB4 K3
  go_wp2_with fail
  refine (lent_any _ _ ss _ (strs_of_own (unhide O15)) (unhide HS _ ((unhide K5).mono hB)) hm).mono ?_
  rintro e w6 ⟨rfl, hb6⟩
  have hs6 := hb6.size
  have K6 := hide ((unhide K5).trans (hb6.mono (by omega)))
  have O16 := hide (own_below (unhide O15) hb6 (Nat.le_refl _))
  have O26 := hide (own_below (unhide O25) hb6 (Nat.le_refl _))
  have P36 := hide ((hb6.block _ (by omega)).trans (unhide P35))
  have P56 := hide ((hb6.block _ (by omega)).trans (unhide P55))
  have S6 := hide ((unhide S5).below hb6 (Nat.le_refl _))
  have c31 := (cell_of_opf (unhide P36)).2
  have c51 := (cell_of_opf (unhide P56)).2
  clear hb6 O15 O25 P35 P55 S5 K5
  go_wp2_with fail
  refine (same_any _ _ rs _ (strs_of_own (unhide O26)) (unhide S6)).mono ?_
  rintro e w7 ⟨rfl, hb7⟩
  have hs7 := hb7.size
  have K7 := hide ((unhide K6).trans (hb7.mono (by omega)))
  have O17 := hide (own_below (unhide O16) hb7 (Nat.le_refl _))
  have O27 := hide (own_below (unhide O26) hb7 (Nat.le_refl _))
  have P37 := hide ((hb7.block _ (by omega)).trans (unhide P36))
  have P57 := hide ((hb7.block _ (by omega)).trans (unhide P56))
  have c71 := (cell_of_opf (unhide P37)).2
  have B7 := (unhide HB).later (unhide K7) (Q' := fun k => w.heap.size ≤ k ∧ k < w7.heap.size) (fun k hk => ⟨hk.2, .inr hk.1⟩)
  have hst := strings1 B w7 G cs n m _ (fun k => (w.heap.size ≤ k ∧ k < w1.heap.size) ∨ k = w2.heap.size ∨ k = w4.heap.size) B7 (.slice ao2 rs.length cp2) rs.length (rs.map fun s => [Value.string s])
    (by rw [fl_one]; exact own_base' (unhide O27) (by omega)) (fun k hk => by have := (unhide O27).lt k hk; exact ⟨by omega, this.2⟩) (by omega) (by rw [List.length_map]) (fun d hd => by
      obtain ⟨x, _, rfl⟩ := List.mem_map.1 hd; rfl)
    (fun k hk => ⟨by rcases hk with hk | hk | hk <;> omega, fun h => by have h1 := (unhide O27).lt k h; have h2 := hbnd k h; rcases hk with hk | hk | hk <;> omega⟩) (by omega) (by omega)
  have HST := hide hst
  clear hst B7 hb7 O26 O16 P36 P56 S6 K6 c31 c51
  go_wp2_with fail
  refine (unhide HST).mono ?_
  rintro e w8 ⟨cs8, hE8, hk8, hb8, rfl⟩
  have K8 := hide (((unhide K7).mono hB).trans hb8)
  have O18 := hide (own_sameB (unhide O17) (fun k hk => hk8 k (.inl ⟨by have := (unhide O17).lt k hk; omega, hgk k hk⟩)))
  have P38 := hide ((hk8 _ (.inr (.inl rfl))).trans (unhide P37))
  have P58 := hide ((hk8 _ (.inr (.inr rfl))).trans (unhide P57))
  have E8 := hide hE8
  have hl38 := lt_of_block (unhide P38)
  have hl58 := lt_of_block (unhide P58)
  clear HST hE8 hk8 hb8 O17 O27 P37 P57 K7 c71
  go_wp2_with fail
  refine (lent_any _ _ ss _ (strs_of_own (unhide O18)) (unhide HS _ (unhide K8)) hm).mono ?_
  rintro e w9 ⟨rfl, hb9⟩
  have c30 := (cell_of_opf ((hb9.block _ hl38).trans (unhide P38))).1
  have c50 := (cell_of_opf ((hb9.block _ hl58).trans (unhide P58))).1
  have K9 := hide ((unhide K8).trans (hb9.mono (Nat.le_trans hB (unhide K8).size)))
  have E9 := hide ((unhide E8).later hb9 (Q' := fun _ => False) (fun k hk => hk.elim))
  have hnu := fun wq => num_any (c : Int) wq
  have hcc : ((c : Int) == (c : Int)) = true := by simp
  have hbb : ((b0 : Int) == (b0 : Int)) = true := by simp
  clear hb9 E8 K8 O18 P38 P58
  go_wp2_with (go_at_call 16; refine (hnu _).mono ?_; rintro e wz ⟨rfl, he⟩; cases he)
  go_ret
  exact ⟨rfl, ⟨cs8, unhide E9⟩, unhide K9⟩

def bkz : Array Value := #[.int .i64 0, .slice none 0 0, .slice none 0 0, .slice none 0 0, .slice none 0 0, .slice none 0 0, .slice none 0 0, .slice none 0 0, .slice none 0 0]
theorem bkz_cells : bkz = #[.int .i64 0, .slice none 0 0, .slice none 0 0, .slice none 0 0, .slice none 0 0, .slice none 0 0, .slice none 0 0, .slice none 0 0, .slice none 0 0] := rfl
theorem bkz_at : ∀ j, 1 ≤ j → j ≤ 8 → bkz[j]? = some (.slice none 0 0) := by
  intro j h1 h8
  match j, h1, h8 with
  | 1, _, _ => rfl
  | 2, _, _ => rfl
  | 3, _, _ => rfl
  | 4, _, _ => rfl
  | 5, _, _ => rfl
  | 6, _, _ => rfl
  | 7, _, _ => rfl
  | 8, _, _ => rfl

set_option maxRecDepth 100000 in
set_option maxHeartbeats 1600000 in
theorem oldProofs_any (v : Value) (ss : List ByteArray) (i : Int) (head : Nat) (own : Bool) (n at_ : Int) (entry : ByteArray) (before : Nat) (vr : Value) (rs : List ByteArray) (w : World) (h : Strs w v ss) (hm : ss.length * 16 ≤ 140737488351232) (hi : -9223372036854775808 ≤ i ∧ i ≤ 9223372036854775807)
    (hn : -9223372036854775808 ≤ n ∧ n ≤ 9223372036854775807) (ha : -9223372036854775808 ≤ at_ ∧ at_ ≤ 9223372036854775807) (he : entry.size ≤ 140737488351232) (hbf : before < 65536) (hr : Strs w vr rs) (hmr : rs.length * 16 ≤ 140737488351232) (hzr : ∀ i, i < rs.length → (rs.getD i ByteArray.empty).size ≤ 140737488351232) :
    Calls Try.prog 4 #[v, .int .i64 i, .int .u16 head, .bool own, .int .i64 n, .int .i64 at_, .string entry, .int .u16 before, vr] w fun e w' => e = .returned (.bool true) ∧ Below w.heap.size w w' := by
  have HS := hide (fun wq (hb : Below w.heap.size w wq) => h.below hb (Nat.le_refl _))
  have HR := hide (fun wq (hb : Below w.heap.size w wq) => hr.below hb (Nat.le_refl _))
  have HZ := hide hzr
  obtain ⟨aor, cpr, rfl, hlr1, hlr2, _⟩ := hr
  unfold maxLen at hlr2
  clear h hzr
  go_enter Try.func4, Try.ntmps4
  go_upto_region 2 with fail
  rw [← bkz_cells]
  have hb0 : Below w.heap.size w (w.alloc (.cells bkz 32)) := (Below.refl _ _).alloc (Nat.le_refl _) _
  have E0 := BkTE.nil w.heap.size (w.alloc (.cells bkz 32)) w.heap.size bkz (heap_alloc_new w _) (Nat.le_refl _) rfl bkz_at
  generalize (w.alloc (.cells bkz 32)) = W0 at hb0 E0 ⊢
  have hc1 := boldProve_any _ _ _ _ _ v ss i W0 E0 hb0.size (fun wq hb => unhide HS wq (hb0.trans hb)) hm hi (by decide) (by decide)
  have HB0 := hide hb0
  clear E0 hb0
  go_wp2_with fail
  refine hc1.mono ?_
  rintro e w1 ⟨rfl, ⟨cs1, E1⟩, hb1⟩
  have K1 := hide ((unhide HB0).trans hb1)
  have hc2 := boldProve_any _ _ _ _ _ v ss i w1 E1 (unhide K1).size (fun wq hb => unhide HS wq ((unhide K1).trans hb)) hm hi (by decide) (by decide)
  clear hc1 E1 hb1 HB0
  go_wp2_with fail
  refine hc2.mono ?_
  rintro e w2 ⟨rfl, ⟨cs2, E2⟩, hb2⟩
  have K2 := hide ((unhide K1).trans hb2)
  have hc3 := holds1 _ _ _ _ _ _ _ E2 (by decide)
  clear hc2 E2 hb2 K1
  go_wp2_with fail
  refine hc3.mono ?_
  rintro e w3 ⟨rfl, hb3⟩
  have K3 := hide ((unhide K2).trans (hb3.mono (unhide K2).size))
  clear hc3 hb3 K2
  cases own
  · go_wp2_with fail
    have hv1 := fun vq wq hs => OldVerify_any head before n at_ entry vq rs wq hbf hn ha he hs (unhide HZ)
    have hv2 := fun vq wq hs => rOldVerify_any head before n at_ entry vq rs wq hbf hn ha he hs hmr (unhide HZ)
    generalize ovR head n at_ entry before rs = ans at hv1 hv2
    have haa : (ans == ans) = true := by cases ans <;> rfl
    refine (lend_any _ rs _ (unhide HR _ (unhide K3)) hmr).mono ?_
    rintro e w4 ⟨g, rfl, hown4, hb4⟩
    have K4 := hide ((unhide K3).trans (hb4.mono (unhide K3).size))
    have F4 := hide (show Strs w4 (.slice (some ⟨g, 0, none⟩) rs.length (rs.length + 2)) rs by
      have := (strs_of_own hown4).cutF rs.length (by omega)
      rw [show (lentL rs).take rs.length = rs from List.take_left' rfl] at this
      exact this)
    have X4 := hide (strs_of_own hown4)
    clear hown4 hb4
    go_wp2_with fail
    refine (hv1 _ _ (unhide F4)).mono ?_
    rintro e w5 ⟨rfl, hb5⟩
    have K5 := hide ((unhide K4).trans (hb5.mono (unhide K4).size))
    have X5 := hide ((unhide X4).below hb5 (Nat.le_refl _))
    clear hb5 F4 X4 K4 hv1
    go_wp2_with fail
    refine (hv2 _ _ (unhide HR _ (unhide K5))).mono ?_
    rintro e w6 ⟨rfl, hb6⟩
    have K6 := hide ((unhide K5).trans (hb6.mono (unhide K5).size))
    have X6 := hide ((unhide X5).below hb6 (Nat.le_refl _))
    clear hb6 X5 K5 hv2
    go_wp2_with fail
    refine (lent_any _ _ rs _ (unhide X6) (unhide HR _ (unhide K6)) hmr).mono ?_
    rintro e w7 ⟨rfl, hb7⟩
    have K7 := hide ((unhide K6).trans (hb7.mono (unhide K6).size))
    clear hb7 X6 K6
    go_wp2
    go_ret
    exact ⟨rfl, unhide K7⟩
  · have ht1 := fun wq hs => texts_any before (.slice (some ⟨w3.heap.size, 0, none⟩) 1 1) [entry] wq hs hbf (by simp) (fun k hk => by
      have hk0 : k = 0 := by simpa using hk
      subst hk0
      exact he)
    have hl1 := last_lt (bs [entry]) before hbf
    generalize last before (bs [entry]) = l1 at ht1 hl1
    have ht2 := fun wq hs => texts_any l1 (.slice aor rs.length cpr) rs wq hs hl1 hmr (unhide HZ)
    have hl2 := last_lt (bs rs) l1 hl1
    generalize last l1 (bs rs) = l2 at ht2 hl2
    have hb4 : Below w3.heap.size w3 (w3.alloc (.cells #[.string entry] 9)) := (Below.refl _ _).alloc (Nat.le_refl _) _
    have S4 : Strs (w3.alloc (.cells #[.string entry] 9)) (.slice (some ⟨w3.heap.size, 0, none⟩) 1 1) [entry] := ⟨_, 1, rfl, Nat.le_refl _, by unfold maxLen; omega, .inr ⟨_, 0, rfl, fun k hk => by
      have hk0 : k = 0 := by simpa using hk
      subst hk0
      exact World.cell?_alloc_mark w3 _ _ _ _⟩⟩
    have K4 := hide ((unhide K3).trans (hb4.mono (unhide K3).size))
    have HS4 := hide S4
    clear hb4 S4
    go_wp2_with fail
    refine (ht1 _ (unhide HS4)).mono ?_
    rintro e wa ⟨va, rfl, _, hba⟩
    have Ka := hide ((unhide K4).trans (hba.mono (unhide K4).size))
    clear hba HS4 K4 ht1
    go_wp2_with fail
    refine (ht2 _ (unhide HR _ (unhide Ka))).mono ?_
    rintro e wb ⟨vb, rfl, _, hbb⟩
    have Kb := hide ((unhide Ka).trans (hbb.mono (unhide Ka).size))
    clear hbb Ka ht2 K3
    go_wp2_with fail
    have hv1 := fun vq wq hs => OldVerify_any l2 before n at_ entry vq rs wq hbf hn ha he hs (unhide HZ)
    have hv2 := fun vq wq hs => rOldVerify_any l2 before n at_ entry vq rs wq hbf hn ha he hs hmr (unhide HZ)
    generalize ovR l2 n at_ entry before rs = ans at hv1 hv2
    have haa : (ans == ans) = true := by cases ans <;> rfl
    refine (lend_any _ rs _ (unhide HR _ (unhide Kb)) hmr).mono ?_
    rintro e w4 ⟨g, rfl, hown4, hb4⟩
    have K4 := hide ((unhide Kb).trans (hb4.mono (unhide Kb).size))
    have F4 := hide (show Strs w4 (.slice (some ⟨g, 0, none⟩) rs.length (rs.length + 2)) rs by
      have := (strs_of_own hown4).cutF rs.length (by omega)
      rw [show (lentL rs).take rs.length = rs from List.take_left' rfl] at this
      exact this)
    have X4 := hide (strs_of_own hown4)
    clear hown4 hb4
    go_wp2_with fail
    refine (hv1 _ _ (unhide F4)).mono ?_
    rintro e w5 ⟨rfl, hb5⟩
    have K5 := hide ((unhide K4).trans (hb5.mono (unhide K4).size))
    have X5 := hide ((unhide X4).below hb5 (Nat.le_refl _))
    clear hb5 F4 X4 K4 hv1
    go_wp2_with fail
    refine (hv2 _ _ (unhide HR _ (unhide K5))).mono ?_
    rintro e w6 ⟨rfl, hb6⟩
    have K6 := hide ((unhide K5).trans (hb6.mono (unhide K5).size))
    have X6 := hide ((unhide X5).below hb6 (Nat.le_refl _))
    clear hb6 X5 K5 hv2
    go_wp2_with fail
    refine (lent_any _ _ rs _ (unhide X6) (unhide HR _ (unhide K6)) hmr).mono ?_
    rintro e w7 ⟨rfl, hb7⟩
    have K7 := hide ((unhide K6).trans (hb7.mono (unhide K6).size))
    clear hb7 X6 K6
    go_wp2
    go_ret
    exact ⟨rfl, unhide K7⟩
end Go.Proofs.Ytanfolfopalbeaa
