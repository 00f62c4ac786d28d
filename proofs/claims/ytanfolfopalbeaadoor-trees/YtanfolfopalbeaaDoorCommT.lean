/- Whatever the slice of texts and the number: the call of ferrylaw.Trees returns true, and each argument reads afterwards as it read before. Conditions: the two package-level tables of the strong sum (startWords, roundWords) read as the program's own text lays them when the call begins; the card ties them to that text (that nothing else writes them is the translator's report, over the pruned copy of the project). The book's tree; Trees: the contracts. Whatever the slice of texts and the number: the call of ferrylaw.Trees returns true, and each argument reads afterwards as it read before. Conditions: the two package-level tables of the strong sum (startWords, roundWords) read as the program's own text lays them when the call begins; the card ties them to that text (that nothing else writes them is the translator's report, over the pruned copy of the project). -/
import Derived.Test.YtanfolfopalbeaaDoorCommB
import Derived.Test.YtanfolfopalbeaaDoorLent
import Derived.Test.YtanfolfopalbeaaDoorLendDig
import Derived.Test.YtanfolfopalbeaaDoorRefRP
import Derived.Test.YtanfolfopalbeaaDoorCards
import Derived.Test.YtanfolfopalbeaaDoorTie
import Derived.Test.YtanfolfopalbeaaDoorLaid
import Derived.ProofKit
import Derived.OpenShut
import Derived.SliceStrings
import Derived.Carry
import Derived.SizedLaws
import Derived.Deep.DeepHandedRow
import Derived.Lib.LaidTab
import Derived.Stop.LaidErr
namespace Go.Proofs.YtanfolfopalbeaaDoor
open Go.RowKit

/-- What tree keeps of its own: its table, its entries, what it lent, its two roots. -/
theorem pathR_small (ss : List ByteArray) (i : Int) : (proveR ss i).1.length ≤ 100 := by
  unfold proveR
  split
  · simp
  · split
    · simp
    · rename_i h1 h2
      have hc : chk ss = 0 := by omega
      obtain ⟨hl, _⟩ := chk_inv ss hc
      have := pathL_length ss.length ss i.toNat (Nat.le_refl _) (by omega)
      rw [this]
      have := path_small 7 ss.length i.toNat (by omega)
      omega

/-- What the book's list-taking call is told of other blocks: from its own beginning on. -/
theorem StD.rebase {P P' : Nat → Prop} {B : Nat} {w0 w : World} {G : Nat} {b : Bk} {tl : List Value} {xl : List (List UInt8)} {recs : List (Value × List UInt8)} {lv : Value} {nl : Nat} {ls : List (List UInt8)} (S : StD P B w0 w G b tl xl recs lv nl ls) (h : ∀ k, P' k → k < w.heap.size ∧ k ≠ G ∧ b.dv.ownBlock ≠ some k ∧ b.ev.ownBlock ≠ some k ∧ lv.ownBlock ≠ some k) : StD P' B w w G b tl xl recs lv nl ls :=
  ⟨S.bk, S.base, S.ht, S.hx, S.hl, S.hf, S.hs, S.tG, S.xG, S.lG, S.tx, S.tlv, S.xlv, Below.refl _ _, fun k hk => ⟨(h k hk).1, rfl, (h k hk).2⟩⟩
theorem StD.unbase {P P' : Nat → Prop} {B : Nat} {w0 w w' : World} {G : Nat} {b : Bk} {tl : List Value} {xl : List (List UInt8)} {recs : List (Value × List UInt8)} {lv : Value} {nl : Nat} {ls : List (List UInt8)} (S : StD P' B w w' G b tl xl recs lv nl ls) (hb : Below B w0 w) (hp : ∀ k, P k → P' k ∧ w.heap[k]? = w0.heap[k]?) : StD P B w0 w' G b tl xl recs lv nl ls :=
  ⟨S.bk, S.base, S.ht, S.hx, S.hl, S.hf, S.hs, S.tG, S.xG, S.lG, S.tx, S.tlv, S.xlv, hb.trans S.bel, fun k hk => by
    obtain ⟨h1, h2⟩ := hp k hk
    obtain ⟨h3, h4, h5⟩ := S.pr k h1
    exact ⟨h3, h4.trans h2, h5⟩⟩

/-- What tree keeps of its own: its table and what it lent. -/
def TK (w : World) (tb : List Nat) (g1 : Nat) (ss : List ByteArray) (wx : World) : Prop :=
  Below w.heap.size w wx ∧ URow wx w.heap.size 26 tb ∧ Strs wx (.slice (some ⟨g1, 0, none⟩) (ss.length + 2) (ss.length + 2)) (lentL ss)
theorem TK.later {w : World} {tb : List Nat} {g1 : Nat} {ss : List ByteArray} {wx wy : World} (h : TK w tb g1 ss wx) (hb : Below wx.heap.size wx wy) : TK w tb g1 ss wy :=
  ⟨h.1.trans (hb.mono h.1.size), h.2.1.below hb (Nat.le_refl _), h.2.2.below hb (Nat.le_refl _)⟩
theorem TK.front {w : World} {tb : List Nat} {g1 : Nat} {ss : List ByteArray} {wx : World} (h : TK w tb g1 ss wx) : Strs wx (.slice (some ⟨g1, 0, none⟩) ss.length (ss.length + 2)) ss := by
  have h1 := h.2.2.front ss.length (by omega)
  rwa [show (lentL ss).take ss.length = ss from List.take_left' rfl] at h1
theorem put_below (w : World) (A : Obj) (cs : Array Value) : Below w.heap.size w ((w.alloc A).setRow w.heap.size cs) := below_row ((Below.refl _ _).alloc (Nat.le_refl _) _) (Nat.le_refl _) _
theorem put_size (w : World) (A : Obj) (cs : Array Value) : ((w.alloc A).setRow w.heap.size cs).heap.size = w.heap.size + 1 := by rw [setRow_size]; simp
theorem brow_below {w w' : World} {g : Nat} {t : TypeId} {d : List UInt8} (h : BRow w g t d) (hb : Below w.heap.size w w') : BRow w' g t d := (hb.block _ (lt_of_block h)).trans h

set_option maxRecDepth 100000 in
set_option maxHeartbeats 3200000 in
theorem tree_any (P : Nat → Prop) (B G : Nat) (b : Bk) (w0 w : World) (recs : List (Value × List UInt8)) (tb : List Nat) (ht : TabOk tb) (v : Value) (ss : List ByteArray) (i : Int) (S : BkD P B w0 w G b recs) (hi : -9223372036854775808 ≤ i ∧ i ≤ 9223372036854775807)
    (hs : Strs w v ss) (hm : ss.length * 16 ≤ 140737488351232) (hT : Tabs w) (hb : b.n ≤ 900) (hrl : recs.length ≤ 900) :
    Calls Tryd.prog 25 #[.pointer (some ⟨G, 0, none⟩), .agg (ucells tb).toArray, v, .int .i64 i] w fun e w' => e = .returned (.bool true) ∧ ∃ b' recs', BkD P B w0 w' G b' recs' ∧ b'.n = b.n + 1 ∧ recs'.length = recs.length + 4 ∧ b'.tv = b.tv ∧ b'.kv = b.kv ∧ b'.pv = b.pv := by
  have HS := hide S
  have hG := S.bk.lt
  have hsz := S.sz
  have htl := fun g h => (S.ht.lt g h).2
  have hxl := fun g h => (S.hx.lt g h).2
  have hrr := fun r hr g h => (S.hs r hr g h).1
  have hpp := fun k hk => (S.pr k hk).1
  clear S
  have VT := hide (v_tab tb ht.1)
  have HSS := hide (fun wq hb => hs.below (w' := wq) (B := w.heap.size) hb (Nat.le_refl _))
  have HTT := hide (fun wq hb => hT.below (w' := wq) (B := w.heap.size) hb (Nat.le_refl _))
  obtain ⟨ao, cap, hv, hl1, hl2, _⟩ := hs
  subst hv
  have HLD := hide (fun wq hs => lend_any (.slice ao ss.length cap) ss wq hs hm)
  have HLT := hide (fun x wq hx hs => lent_any x (.slice ao ss.length cap) ss wq hx hs hm)
  have HR1 := hide (fun vx wq hs ht => Root_any vx ss wq hs ht)
  have HR2 := hide (fun wq hs => rRoot_any tb ht (.slice ao ss.length cap) ss wq hs)
  have HP1 := hide (fun vx wq hs ht => Prove_any vx ss i wq hi hs ht)
  have HP2 := hide (fun wq hs => rProve_any tb ht (.slice ao ss.length cap) ss i wq hi hs)
  have hr32 := rootR_length ss
  have hpe := proveR_elem ss i
  have hps := pathR_small ss i
  have hle := chk_le ss
  have hpl := proveR_le ss i
  generalize rootR ss = r at HR1 HR2 hr32
  generalize chk ss = c at HR1 HR2 hle
  generalize (proveR ss i).1 = ps at HP1 HP2 hpe hps
  generalize (proveR ss i).2 = c2 at HP1 HP2 hpl
  have HPE := hide hpe
  have VR := hide (v_dg r hr32)
  have ZR := hide (v_z32 r hr32)
  have HSAME := fun wq => digest_same r hr32 wq
  have hbel0 : Below w.heap.size w (w.alloc (.cells (ucells tb).toArray 26)) := (Below.refl _ _).alloc (Nat.le_refl _) _
  have K0 := hide hbel0
  have G0 := hide (show URow (w.alloc (.cells (ucells tb).toArray 26)) w.heap.size 26 tb from heap_alloc_new w _)
  clear hbel0 hpe hT
  go_enter Tryd.func25, Tryd.ntmps25
  go_upto_region 1 with fail
  generalize (w.alloc (.cells (ucells tb).toArray 26)) = W0 at K0 G0 ⊢
  go_wp2_with fail
  refine (unhide HLD _ (unhide HSS _ (unhide K0))).mono ?_
  rintro e w1 ⟨g1, rfl, hown1, hb1⟩
  have T1 := hide (show TK w tb g1 ss w1 from ⟨(unhide K0).trans (hb1.mono (unhide K0).size), (unhide G0).below hb1 (Nat.le_refl _), strs_of_own hown1⟩)
  have f1 : (ss.length : Int) ≤ (ss.length : Int) + 2 := by omega
  have f0 : (0 : Int) ≤ (ss.length : Int) := by omega
  clear hown1 hb1 K0 G0 HLD
  go_wp2_with fail
  refine (unhide HR1 _ _ (unhide T1).front (unhide HTT _ (unhide T1).1)).mono ?_
  rintro e w2 ⟨rfl, hb2⟩
  have T2 := hide (((unhide T1).later hb2).later (put_below w2 (.cells (bcells z32).toArray 31) (bcells r).toArray))
  have hs2 := put_size w2 (.cells (bcells z32).toArray 31) (bcells r).toArray
  have R2 := hide (show BRow ((w2.alloc (.cells (bcells z32).toArray 31)).setRow w2.heap.size (bcells r).toArray) w2.heap.size 31 r from heap_put_new _ _ _ _)
  have hw2 : w.heap.size ≤ w2.heap.size := ((unhide T1).later hb2).1.size
  clear hb2 T1 HR1
  go_upto_region 3 with ((with_reducible refine at_store ?_); refine wpList_store_row rfl 31 _ _ rfl w2.heap.size (bcells r).toArray rfl rfl 31 _ (heap_alloc_new w2 _) (unhide VR) (unhide ZR) (bcells_one r) ?_)
  rw [← z32_cells]
  generalize ((w2.alloc (.cells (bcells z32).toArray 31)).setRow w2.heap.size (bcells r).toArray) = W2 at T2 R2 hs2 ⊢
  generalize w2.heap.size = A1 at R2 hs2 hw2 ⊢
  go_wp2_with ((with_reducible refine at_load ?_); refine wpList_load_row rfl 26 _ rfl w.heap.size (by rfl) 26 (ucells tb).toArray (0, 0) _ (unhide T2).2.1 Tryd.underlying26 rfl (unhide VT) ?_)
  refine (unhide HR2 _ (unhide HSS _ (unhide T2).1)).mono ?_
  rintro e w3 ⟨rfl, hb3⟩
  have T3 := hide (((unhide T2).later hb3).later (put_below w3 (.cells (bcells z32).toArray 31) (bcells r).toArray))
  have hs3 := put_size w3 (.cells (bcells z32).toArray 31) (bcells r).toArray
  have R3 := hide (show BRow ((w3.alloc (.cells (bcells z32).toArray 31)).setRow w3.heap.size (bcells r).toArray) A1 31 r ∧ BRow ((w3.alloc (.cells (bcells z32).toArray 31)).setRow w3.heap.size (bcells r).toArray) w3.heap.size 31 r from
    ⟨brow_below (brow_below (unhide R2) hb3) (put_below _ _ _), heap_put_new _ _ _ _⟩)
  have hw3 : A1 < w3.heap.size := by have := hb3.size; omega
  clear hb3 T2 R2 HR2 hs2
  go_upto_region 4 with ((with_reducible refine at_store ?_); refine wpList_store_row rfl 31 _ _ rfl w3.heap.size (bcells r).toArray rfl rfl 31 _ (heap_alloc_new w3 _) (unhide VR) (unhide ZR) (bcells_one r) ?_)
  rw [← z32_cells]
  generalize ((w3.alloc (.cells (bcells z32).toArray 31)).setRow w3.heap.size (bcells r).toArray) = W3 at T3 R3 hs3 ⊢
  generalize w3.heap.size = A2 at R3 hs3 hw3 ⊢
  go_wp2_with fail
  refine (unhide HP1 _ _ (unhide T3).front (unhide HTT _ (unhide T3).1)).mono ?_
  rintro e w4 ⟨v4, rfl, hown4, hb4⟩
  have T4 := hide ((unhide T3).later hb4)
  have R4 := hide (show BRow w4 A1 31 r ∧ BRow w4 A2 31 r from ⟨brow_below (unhide R3).1 hb4, brow_below (unhide R3).2 hb4⟩)
  have O4 := hide hown4
  clear hb4 T3 R3 HP1 hown4
  go_wp2_with ((with_reducible refine at_load ?_); refine wpList_load_row rfl 26 _ rfl w.heap.size (by rfl) 26 (ucells tb).toArray (0, 0) _ (unhide T4).2.1 Tryd.underlying26 rfl (unhide VT) ?_)
  refine (unhide HP2 _ (unhide HSS _ (unhide T4).1)).mono ?_
  rintro e w5 ⟨v5, rfl, hown5, hb5⟩
  have T5 := hide ((unhide T4).later hb5)
  have R5 := hide (show BRow w5 A1 31 r ∧ BRow w5 A2 31 r from ⟨brow_below (unhide R4).1 hb5, brow_below (unhide R4).2 hb5⟩)
  have O5 := hide (show w5.ownsRow W3.heap.size 31 32 v4 ps.length (dcells ps) ∧ Digs w5 v5 ps from ⟨own_keep (unhide O4) hb5, digs_of_own (unhide HPE) hown5 rfl⟩)
  clear hb5 T4 R4 O4 HP2 hown5
  go_wp2_with fail
  refine (unhide HLT _ _ (unhide T5).2.2 (unhide HSS _ (unhide T5).1)).mono ?_
  rintro e w6 ⟨rfl, hb6⟩
  have T6 := hide ((unhide T5).later hb6)
  have R6 := hide (show BRow w6 A1 31 r ∧ BRow w6 A2 31 r from ⟨brow_below (unhide R5).1 hb6, brow_below (unhide R5).2 hb6⟩)
  have O6 := hide (show w6.ownsRow W3.heap.size 31 32 v4 ps.length (dcells ps) ∧ Digs w6 v5 ps from ⟨own_keep (unhide O5).1 hb6, (unhide O5).2.below hb6 (Nat.le_refl _)⟩)
  clear hb6 T5 R5 O5 HLT
  go_wp2_with fail
  refine (sameD_any _ _ ps _ (digs_of_own (unhide HPE) (unhide O6).1 rfl) (unhide O6).2 (by omega)).mono ?_
  rintro e w7 ⟨rfl, hb7⟩
  have R7 := hide (show BRow w7 A1 31 r ∧ BRow w7 A2 31 r from ⟨brow_below (unhide R6).1 hb7, brow_below (unhide R6).2 hb7⟩)
  have O7 := own_keep (unhide O6).1 hb7
  have S7 := StD.take ((unhide HS).later (grown_of_below ((unhide T6).later hb7).1)) hsz (O7.mono (by omega)) hG htl hxl hrr hpp
  have hge := own_row_ge O7
  have S8 := S7.rebase (P' := fun k => P k ∨ k = A1 ∨ k = A2) (fun k hk => by
    rcases hk with hk | hk | hk
    · exact ⟨(S7.pr k hk).1, (S7.pr k hk).2.2⟩
    · subst hk
      exact ⟨lt_of_block (unhide R7).1, by omega, fun h => by have := htl _ h; omega, fun h => by have := hxl _ h; omega, fun h => by have := hge _ h; omega⟩
    · subst hk
      exact ⟨lt_of_block (unhide R7).2, by omega, fun h => by have := htl _ h; omega, fun h => by have := hxl _ h; omega, fun h => by have := hge _ h; omega⟩)
  have hst := bsums_any _ B G b w7 w7 recs v4 ps.length ps S8 (by omega) (by omega) rfl (unhide HPE) (by omega) (fun r hr g hv h => by have := hge g hv; have := hrr r hr g h; omega)
  have HBEL := hide S7.bel
  have HPR := hide S7.pr
  clear S7 S8 O7 hge O6 T6 R6 hb7 HS
  go_wp2_with fail
  refine hst.mono ?_
  rintro e w8 ⟨b', recs', S9, hn4, hr4, hd4, hk4, hp4, rfl⟩
  have HR8 := hide (show BRow w8 A1 31 r ∧ BRow w8 A2 31 r from ⟨((S9.pr A1 (.inr (.inl rfl))).2.1).trans (unhide R7).1, ((S9.pr A2 (.inr (.inr rfl))).2.1).trans (unhide R7).2⟩)
  have HB := hide (show ∃ b' recs', BkD P B w0 w8 G b' recs' ∧ b'.n = b.n + 1 ∧ recs'.length = recs.length + 4 ∧ b'.tv = b.tv ∧ b'.kv = b.kv ∧ b'.pv = b.pv from ⟨b', recs', StD.unbase S9 (unhide HBEL) (fun k hk => ⟨.inl hk, (unhide HPR k hk).2.1⟩), hn4, hr4, hd4, hk4, hp4⟩)
  clear S9 hn4 hr4 hd4 hk4 hp4 hst HBEL HPR R7
  have hnu1 := fun wq => num_any (c : Int) wq
  have hnu2 := fun wq => num_any (c2 : Int) wq
  go_wp2_with (first | ((with_reducible refine at_load2 ?_); first | refine wpList_load_row_w (by rfl) 31 _ rfl A1 (by rfl) 31 (bcells r).toArray (0, 0) _ (unhide HR8).1 Tryd.underlying31 rfl (unhide VR) ?_ | refine wpList_load_row_w (by rfl) 31 _ rfl A2 (by rfl) 31 (bcells r).toArray (0, 0) _ (unhide HR8).2 Tryd.underlying31 rfl (unhide VR) ?_) | (go_at_call 44; first | ((with_reducible refine (hnu1 _).mono ?_); rintro e w5 ⟨rfl, he⟩; cases he) | ((with_reducible refine (hnu2 _).mono ?_); rintro e w5 ⟨rfl, he⟩; cases he)))
  go_ret
  exact ⟨rfl, unhide HB⟩

def b0 : Bk := ⟨0, .slice none 0 0, .slice none 0 0, .slice none 0 0, .slice none 0 0, .slice none 0 0, .slice none 0 0, .slice none 0 0, .slice none 0 0⟩
theorem b0_cells : b0.cells = #[.int .i64 0, .slice none 0 0, .slice none 0 0, .slice none 0 0, .slice none 0 0, .slice none 0 0, .slice none 0 0, .slice none 0 0, .slice none 0 0] := rfl
/-- A new book, and a row that stands beside it. -/
theorem book_new {B G : Nat} {w : World} (hG : BkAt w G b0) (hB : B ≤ G) (P : Nat → Prop) (hP : ∀ k, P k → k < w.heap.size ∧ k ≠ G) : BkD P B w w G b0 [] :=
  ⟨hG, hB, World.ownsRow_nil _ _ _ _, World.ownsRow_nil _ _ _ _, World.ownsRow_nil _ _ _ _, (fun _ h => nomatch h), (fun _ h => nomatch h), (fun h => nomatch h), (fun h => nomatch h), (fun h => nomatch h), (fun _ h => nomatch h), (fun _ h => nomatch h), (fun _ h => nomatch h), Below.refl _ _, fun k hk => ⟨(hP k hk).1, rfl, (hP k hk).2, (fun h => nomatch h), (fun h => nomatch h), (fun h => nomatch h)⟩⟩

set_option maxRecDepth 100000 in
set_option maxHeartbeats 1600000 in
theorem trees_any (v : Value) (ss : List ByteArray) (i : Int) (w : World) (hi : -9223372036854775808 ≤ i ∧ i ≤ 9223372036854775807) (h : Strs w v ss) (hm : ss.length * 16 ≤ 140737488351232) (hT : Tabs w) :
    Calls Tryd.prog 5 #[v, .int .i64 i] w fun e w' => e = .returned (.bool true) ∧ Below w.heap.size w w' := by
  have hzt := zero_tab
  have hzl := z72_length
  have hns := newsums_any
  have hok := tabOk
  unfold tabV at hns
  generalize z72 = z7 at hzt hzl
  generalize Hl ++ Kl = tb at hns hok
  have htl := hok.1
  have VT := hide (v_tab tb htl)
  have ZT := hide (show (ucells z7).toArray.size = (ucells tb).toArray.size by rw [ucells_size, ucells_size, htl, hzl])
  have HS := hide (fun wq hb => h.below (w' := wq) (B := w.heap.size) hb (Nat.le_refl _))
  have HT := hide (fun wq hb => hT.below (w' := wq) (B := w.heap.size) hb (Nat.le_refl _))
  have HTR := hide (fun P b w0 wq recs S hs hT hb hrl => tree_any P w.heap.size w.heap.size b w0 wq recs tb hok v ss i S hi hs hm hT hb hrl)
  clear h hT hok hi
  go_enter Tryd.func5, Tryd.ntmps5
  go_upto_region 2 with fail
  rw [← b0_cells]
  have hb0 : Below w.heap.size w (w.alloc (.cells b0.cells 56)) := (Below.refl _ _).alloc (Nat.le_refl _) _
  have g0 : BkAt (w.alloc (.cells b0.cells 56)) w.heap.size b0 := heap_alloc_new w _
  generalize (w.alloc (.cells b0.cells 56)) = W0 at hb0 g0 ⊢
  go_upto_region 3 with (first | (go_at_call 13; (with_reducible refine (hns _).mono ?_); rintro e w1 ⟨rfl, hb1⟩) | ((with_reducible refine at_store ?_); refine wpList_store_row rfl 26 _ _ rfl w1.heap.size (ucells tb).toArray rfl rfl 26 _ (heap_alloc_new w1 _) (unhide VT) (unhide ZT) (ucells_one tb) ?_))
  have hb2 : Below w.heap.size w ((w1.alloc (.cells (ucells z7).toArray 26)).setRow w1.heap.size (ucells tb).toArray) := by
    have h1 := hb0.trans (hb1.mono hb0.size)
    exact h1.trans ((put_below w1 _ _).mono h1.size)
  have g1 : URow ((w1.alloc (.cells (ucells z7).toArray 26)).setRow w1.heap.size (ucells tb).toArray) w1.heap.size 26 tb := heap_put_new _ _ _ _
  have S2 : BkD (fun k => k = w1.heap.size) w.heap.size ((w1.alloc (.cells (ucells z7).toArray 26)).setRow w1.heap.size (ucells tb).toArray) ((w1.alloc (.cells (ucells z7).toArray 26)).setRow w1.heap.size (ucells tb).toArray) w.heap.size b0 [] := by
    have h1 := g0.same (hb1.block _ g0.lt)
    have h2 := h1.same ((put_below w1 (.cells (ucells z7).toArray 26) (ucells tb).toArray).block _ h1.lt)
    exact book_new h2 (Nat.le_refl _) _ (fun k hk => by subst hk; exact ⟨by rw [put_size]; omega, by have := h1.lt; omega⟩)
  generalize ((w1.alloc (.cells (ucells z7).toArray 26)).setRow w1.heap.size (ucells tb).toArray) = W2 at hb2 g1 S2 ⊢
  generalize w1.heap.size = GT at g1 S2 ⊢
  generalize hbe : b0 = b at S2
  have hd0 : b.tv = .slice none 0 0 := by rw [← hbe]; rfl
  have hk0 : b.kv = .slice none 0 0 := by rw [← hbe]; rfl
  have hp0 : b.pv = .slice none 0 0 := by rw [← hbe]; rfl
  have hn0 : b.n = 0 := by rw [← hbe]; rfl
  have hr1 := unhide HTR _ b _ _ _ S2 (unhide HS _ hb2) (unhide HT _ hb2) (by omega) (by simp)
  have G1 := hide g1
  clear hbe S2 hb0 g0 hb1 hns hzt hzl ZT g1
  go_wp2_with ((with_reducible refine at_load ?_); refine wpList_load_row rfl 26 _ rfl GT (by rfl) 26 (ucells tb).toArray (0, 0) _ (unhide G1) Tryd.underlying26 rfl (unhide VT) ?_)
  refine hr1.mono ?_
  rintro e w3 ⟨rfl, b3, r3, S3, hn3, hl3, hd3, hk3, hp3⟩
  have hb3 := hb2.trans S3.bel
  have hr2 := unhide HTR _ b3 _ _ _ S3 (unhide HS _ hb3) (unhide HT _ hb3) (by omega) (by simp at hl3; omega)
  have G3 := hide (show URow w3 GT 26 tb from ((S3.pr GT rfl).2.1).trans (unhide G1))
  clear S3 hr1 G1 hb3
  go_wp2_with ((with_reducible refine at_load ?_); refine wpList_load_row rfl 26 _ rfl GT (by rfl) 26 (ucells tb).toArray (0, 0) _ (unhide G3) Tryd.underlying26 rfl (unhide VT) ?_)
  refine hr2.mono ?_
  rintro e w4 ⟨rfl, b4, r4, S4, hn4, hl4, hd4, hk4, hp4⟩
  have hho := holds_any _ _ _ _ _ _ _ S4 (by simp at hl3; omega) (by rw [hd4, hd3, hd0]) (by rw [hk4, hk3, hk0]) (by rw [hp4, hp3, hp0])
  have HBEL := hide (hb2.trans S4.bel)
  clear S4 hr2 hn3 hl3 hd3 hk3 hp3 hn4 hl4 hd4 hk4 hp4 hd0 hk0 hp0 hn0 G3 hb2 HTR HS HT
  go_wp2_with fail
  refine hho.mono ?_
  rintro e w5 ⟨rfl, hb5⟩
  have HB5 := hide ((unhide HBEL).trans (hb5.mono (unhide HBEL).size))
  clear hho hb5
  go_wp2
  go_ret
  exact ⟨rfl, unhide HB5⟩
end Go.Proofs.YtanfolfopalbeaaDoor
namespace Go.Proofs.YtanfolfopalbeaaDoor
open Go.ChangeShapes Go.WideShapes Go.ChangeAt Go.RowKit

set_option maxRecDepth 100000 in
theorem bytesStr : Tryd.prog.bytesOf 9 = 16 := by kernel_rfl
set_option maxRecDepth 100000 in
theorem strs_of_arg2 {H : Type} {enc : TypeId × Value → H} {W : World} {v : Value} {d : DataW H} {ps : List MemPlace} {base : Nat} (hval : Value.okWide Tryd.prog W .any base 34 v)
    (h : DataW.Trod enc Tryd.prog W 0 (fun _ => true) true 34 v d ps) : ∃ ss, Strs W v ss ∧ (ss = [] ∨ ∃ el sp, d = .slice el sp ∧ ss.length ≤ el.length + sp.length) := by
  obtain ⟨a0, len, cap, rfl⟩ := okWide_slice Tryd.underlying34 hval
  obtain ⟨fuel, hf⟩ := h
  rcases open_strings Tryd.underlying34 Tryd.underlying9 cellsStr hf with ⟨hcs, hx⟩ | ⟨a, len', cap', ss, hcs, _, hl, hm, hz, hx, hcell, hws⟩
  · have e : Value.slice a0 len cap = .slice none 0 0 := by simpa [Value.cells] using hcs
    rw [e]
    exact ⟨[], ⟨none, 0, rfl, Nat.le_refl _, Nat.zero_le _, .inl rfl⟩, .inl rfl⟩
  · have e : Value.slice a0 len cap = .slice (some a) len' cap' := by simpa [Value.cells] using hcs
    rw [e]
    simp only [if_true] at hz
    have htl : (ss.take len').length = len' := by rw [List.length_take]; omega
    have hgd : ∀ i, i < len' → (ss.take len').getD i ByteArray.empty = ss.getD i ByteArray.empty := fun i hi => by
      simp only [List.getD]
      rw [List.getElem?_take_of_lt hi]
    refine ⟨ss.take len', ⟨some a, cap', by rw [htl], by omega, hm, ?_⟩, .inr ⟨_, _, congrArg Prod.fst hx, ?_⟩⟩
    · by_cases h0 : len' = 0
      · left
        rw [h0, List.take_zero]
      · right
        obtain ⟨b, off, spot⟩ := a
        have hspot : spot = none := by simpa [Addr.add] using World.cell?_spot (hcell 0 (by omega))
        subst hspot
        refine ⟨b, off, rfl, fun i hi => ?_⟩
        rw [htl] at hi
        rw [hgd i hi, ← add_plain]
        exact hcell i (by omega)
    · simp only [strs, List.length_map]
      omega

set_option maxRecDepth 100000 in
theorem trees_contract (H : Type) (enc : TypeId × Value → H) (W : World) (base : Nat) (args : Array Value) (ds gs : List (DataW H)) (before : List MemPlace)
    (hval : ∀ (j : Nat) t v, Tryd.f5.params[j]? = some t → args[j]? = some v → Value.okWide Tryd.prog W .any base t v)
    (hW : DataW.Whole enc Tryd.prog Tryd.f5.params.toList Rows.treesSpec.vars false W args.toList ds gs before)
    (hsz0 : (DataW.weightsEach Tryd.prog (Tryd.f5.params.toList ++ Rows.treesSpec.plain.varTypes Tryd.prog) (ds ++ gs)).all (· ≤ reachBytes) = true) (hL : laidMetH Tryd.prog Rows.treesRow.laid W) :
    Calls Tryd.prog 5 args W fun e W' => ∃ v, e = .returned v ∧ Rows.treesSpec.post enc Tryd.prog Tryd.f5 false true false false W args v W' := by
  have hW' := hW
  obtain ⟨p, q, hA0, hV, rfl, hfz, hnd⟩ := hW
  have hA : DataW.TrodAll enc Tryd.prog W 0 (fun _ => true) true Tryd.f5.params.toList args.toList ds p := hA0
  rw [Tryd.params5] at hA hval hsz0
  obtain ⟨v0, vs0, d0, ds0, p0, q0, hargs, rfl, rfl, h0, r0⟩ := trodAll_cons hA
  obtain ⟨v1, vs1, d1, ds1, p1, q1, rfl, rfl, rfl, h1, r1⟩ := trodAll_cons r0
  obtain ⟨rfl, rfl, rfl⟩ := trodAll_nil r1
  obtain rfl : args = #[v0, v1] := by cases args; simp_all
  obtain ⟨rfl, rfl⟩ := trodVars_none hV
  obtain ⟨c1, rfl, rfl, rfl, wc1⟩ := open_int Tryd.underlying3 (hval 1 3 v1 rfl rfl) h1
  obtain ⟨ss, hS, hlen⟩ := strs_of_arg2 (hval 0 34 v0 rfl rfl) h0
  have b1 := bounds_i64 wc1
  have hm : ss.length * 16 ≤ 140737488351232 := by
    rcases hlen with rfl | ⟨el, sp, hd, hl⟩
    · simp
    · have := sized_slice hsz0 (j := 0) (t := 34) (e := 9) (elems := el) (spare := sp) rfl (by rw [hd]; rfl) Tryd.underlying34
      rw [bytesStr] at this
      simp only [reachBytes] at this
      omega
  refine (trees_any v0 ss c1 W (by omega) hS hm (tables hL)).mono fun e W' ⟨he, hb⟩ => ?_
  subst he
  have hlt : ∀ x ∈ p0, x.block < W.heap.size := fun x hx => by
    have := hW'.lt x (by simp [hx])
    simpa using this
  refine ⟨_, rfl, _, _, _, [], p0 ++ ([] ++ []), [], hW', trodAll_cons_mk (shut_bool Tryd.underlying4 _) trodAll_mk0, ?_, rfl, hb.frame _, fun h => by cases h⟩
  exact trodAll_cons_mk (Below.trod laidOutP (by kernel_rfl) (of_decide_eq_true (by kernel_rfl)) h0 hb hlt) (trodAll_cons_mk (shut_int Tryd.underlying3 wc1) trodAll_mk0)
end Go.Proofs.YtanfolfopalbeaaDoor
namespace Go.Proofs.YtanfolfopalbeaaDoor
open Go.ChangeShapes Go.WideShapes Go.ChangeAt Go.RowKit

set_option maxRecDepth 100000 in
theorem trees_laid_met (os : Os) : laidMet Tryd.prog Rows.treesRow.laid ((laidWorld os).forCall (fun _ _ => 0) ⟨#[], #[.slice none 0 0, .int .i64 0], []⟩).memory :=
  laidMet_of_run' 8 (by kernel_rfl) (by kernel_rfl)
set_option maxRecDepth 100000 in
theorem trees_reads (os : Os) {H : Type} (enc : TypeId × Value → H) : ∃ places, DataW.whole enc Tryd.prog ((laidWorld os).forCall (fun _ _ => 0) ⟨#[], #[.slice none 0 0, .int .i64 0], []⟩).memory Tryd.f5.params.toList Rows.treesSpec.vars false #[Value.slice none 0 0, Value.int .i64 0].toList 8 = some ([.nil, .lit (.int .i64 0)], [], places) :=
  ⟨[], by kernel_rfl⟩

set_option maxRecDepth 100000 in
theorem trees_lifted (os : Os) (started : os.Started) (H : Type) (enc : TypeId × Value → H) (F : Stop.Interp) :
    ReturnsInHanded {} Tryd.checked os 5 .any ((OpenSpec.ofChange Rows.treesSpec).preRow enc Tryd.prog Tryd.f5 Rows.treesRow.domain false Rows.treesRow.laid) (((OpenSpec.ofChange Rows.treesSpec).at F).post enc Tryd.prog Tryd.f5 false true false false) := by
  obtain ⟨places, hx⟩ := trees_reads os enc
  refine returnsInHanded_of_row (C := Tryd.checked) (s := OpenSpec.ofChange Rows.treesSpec) own started (by kernel_rfl) Tryd.func5
    (witness_row_at (enc := enc) (C := Tryd.checked) false (laidWorld os) #[.slice none 0 0, .int .i64 0] rfl (by kernel_rfl) (by kernel_rfl) (by kernel_rfl)
      (OpenSpec.preRow_of_cond 8 hx (by kernel_rfl) (fun k hk => by cases hk) (by kernel_rfl) (trees_laid_met os))) ?_
  intro W base args ds gs before hval hW _ _ hsz hL _ _
  exact trees_contract H enc W base args ds gs before hval hW hsz hL

set_option maxRecDepth 100000 in
theorem trees_said : Rows.TreesSaid :=
  OpenClaim.holds_of_cond 5 Tryd.f5 rfl rfl rfl rfl rfl rfl rfl ⟨rfl, rfl, rfl, rfl, rfl⟩ rfl rfl rfl rfl rfl (by kernel_rfl) Tryd.func5 (by kernel_rfl)
    (of_decide_eq_true (by kernel_rfl)) (by unfold Func.isWrapper; first | (rw [if_pos (by decide +kernel)]; kernel_rfl) | (rw [if_neg (by decide +kernel)]; exact ⟨rfl, rfl⟩))
    (fun os started H enc _ F => by rw [OpenClaim.pre_eq_preRow]; exact trees_lifted os started H enc F)

set_option maxRecDepth 100000 in
theorem trees_plain (f : FuncId) (fn : Func) (hf : Tryd.pinned.checked.prog.funcNamed "ferry/ferrylaw.Trees" = some f) (hfn : Tryd.pinned.checked.prog.funcs[f]? = some fn) :
    false = Tryd.pinned.checked.prog.looks [] ∧ ∀ (j : Nat) t, fn.params[j]? = some t → Tryd.pinned.checked.prog.wantsStandIn t = false := by
  obtain rfl : f = 5 := Option.some.inj ((show Tryd.prog.funcNamed "ferry/ferrylaw.Trees" = some 5 by kernel_rfl).symm.trans hf) |>.symm
  obtain rfl : fn = Tryd.f5 := (Option.some.inj (Tryd.func5.symm.trans hfn)).symm
  refine ⟨by kernel_rfl, fun j t ht => ?_⟩
  rw [Tryd.params5] at ht
  have hm := Array.mem_of_getElem? ht
  have hor : t = 34 ∨ t = 3 := by simpa using hm
  rcases hor with rfl | rfl
  · exact (show Tryd.prog.wantsStandIn 34 = false by kernel_rfl)
  · exact (show Tryd.prog.wantsStandIn 3 = false by kernel_rfl)

set_option maxRecDepth 100000 in
/-- The card. -/
theorem trees_card : Rows.TreesCardSaid :=
  Claim7.holds_tied_plain_at .later [] _ _ _ _ trees_said (fun _ h => by cases h) (by kernel_rfl) (fun _ h => by cases h) trees_row_tie rfl ⟨rfl, rfl⟩ (by kernel_rfl) rfl trees_plain (by kernel_rfl)
end Go.Proofs.YtanfolfopalbeaaDoor
