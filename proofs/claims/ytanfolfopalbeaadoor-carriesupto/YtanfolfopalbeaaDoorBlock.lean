import Derived.Test.YtanfolfopalbeaaDoorTurned
namespace Go.Proofs.YtanfolfopalbeaaDoor
open Go.RowKit

/-- The strong sum's constants, as the program's text lays them. -/
def Kl : List Nat := [1116352408, 1899447441, 3049323471, 3921009573, 961987163, 1508970993, 2453635748, 2870763221, 3624381080, 310598401, 607225278, 1426881987, 1925078388, 2162078206, 2614888103, 3248222580, 3835390401, 4022224774, 264347078, 604807628, 770255983, 1249150122, 1555081692, 1996064986, 2554220882, 2821834349, 2952996808, 3210313671, 3336571891, 3584528711, 113926993, 338241895, 666307205, 773529912, 1294757372, 1396182291, 1695183700, 1986661051, 2177026350, 2456956037, 2730485921, 2820302411, 3259730800, 3345764771, 3516065817, 3600352804, 4094571909, 275423344, 430227734, 506948616, 659060556, 883997877, 958139571, 1322822218, 1537002063, 1747873779, 1955562222, 2024104815, 2227730452, 2361852424, 2428436474, 2756734187, 3204031479, 3329325298]
def Hl : List Nat := [1779033703, 3144134277, 1013904242, 2773480762, 1359893119, 2600822924, 528734635, 1541459225]
/-- The two tables of the program lie in w. -/
def Tabs (w : World) : Prop := (∀ t, t < 8 → w.cell? ⟨0, t, none⟩ = some (.int .u32 ((Hl.getD t 0 : Nat) : Int))) ∧ (∀ t, t < 64 → w.cell? ⟨1, t, none⟩ = some (.int .u32 ((Kl.getD t 0 : Nat) : Int))) ∧ 2 ≤ w.heap.size
theorem Tabs.below {w w' : World} {B : Nat} (h : Tabs w) (hb : Below B w w') (hB : w.heap.size ≤ B) : Tabs w' := by
  obtain ⟨h1, h2, h3⟩ := h
  refine ⟨fun t ht => ?_, fun t ht => ?_, Nat.le_trans h3 hb.size⟩
  · rw [hb.cell (p := ⟨0, t, none⟩) (by show 0 < B; omega)]; exact h1 t ht
  · rw [hb.cell (p := ⟨1, t, none⟩) (by show 1 < B; omega)]; exact h2 t ht

/-- Eight words. -/
structure S8 where
  a : Nat
  b : Nat
  c : Nat
  d : Nat
  e : Nat
  f : Nat
  g : Nat
  h : Nat
def S8.ok (s : S8) : Prop := s.a < 4294967296 ∧ s.b < 4294967296 ∧ s.c < 4294967296 ∧ s.d < 4294967296 ∧ s.e < 4294967296 ∧ s.f < 4294967296 ∧ s.g < 4294967296 ∧ s.h < 4294967296
def t1 (s : S8) (k x : Nat) : Nat := (s.h + bg1 s.e + chf s.e s.f s.g + k + x) % 4294967296
def t2 (s : S8) : Nat := (bg0 s.a + maj s.a s.b s.c) % 4294967296
def stp (s : S8) (k x : Nat) : S8 := ⟨(t1 s k x + t2 s) % 4294967296, s.a, s.b, s.c, (s.d + t1 s k x) % 4294967296, s.e, s.f, s.g⟩
/-- The state behind t rounds. -/
def rnds (ws : List Nat) : Nat → S8 → S8
  | 0, s => s
  | n + 1, s => stp (rnds ws n s) (Kl.getD n 0) (ws.getD n 0)
theorem rnds_succ (ws : List Nat) (n : Nat) (s : S8) : rnds ws (n + 1) s = stp (rnds ws n s) (Kl.getD n 0) (ws.getD n 0) := rfl
def S8.plus (s r : S8) : S8 := ⟨(s.a + r.a) % 4294967296, (s.b + r.b) % 4294967296, (s.c + r.c) % 4294967296, (s.d + r.d) % 4294967296, (s.e + r.e) % 4294967296, (s.f + r.f) % 4294967296, (s.g + r.g) % 4294967296, (s.h + r.h) % 4294967296⟩
def S8.cells (s : S8) : Array Value := #[.int .u32 s.a, .int .u32 s.b, .int .u32 s.c, .int .u32 s.d, .int .u32 s.e, .int .u32 s.f, .int .u32 s.g, .int .u32 s.h]
theorem stp_ok (s : S8) (k x : Nat) (h : s.ok) : (stp s k x).ok := by
  obtain ⟨h1, h2, h3, h4, h5, h6, h7, h8⟩ := h
  refine ⟨?_, h1, h2, h3, ?_, h5, h6, h7⟩
  · show (_ + _) % 4294967296 < 4294967296; omega
  · show (_ + _) % 4294967296 < 4294967296; omega
theorem rnds_ok (ws : List Nat) (n : Nat) (s : S8) (h : s.ok) : (rnds ws n s).ok := by
  induction n with
  | zero => exact h
  | succ n ih => exact stp_ok _ _ _ ih
theorem plus_ok (s r : S8) : (s.plus r).ok := by
  refine ⟨?_, ?_, ?_, ?_, ?_, ?_, ?_, ?_⟩
  all_goals (show (_ + _) % 4294967296 < 4294967296; omega)

theorem not_bits (e : Nat) (he : e < 4294967296) : bits BinOp.xor IntKind.u32 (if IntKind.u32.signed = true then -1 else IntKind.u32.max) (e : Int) = ((4294967295 - e : Nat) : Int) := by
  have h0 : (if IntKind.u32.signed = true then (-1 : Int) else IntKind.u32.max) = ((4294967295 : Nat) : Int) := by decide
  rw [h0, u32_xor_nat 4294967295 e (by omega) he]
  congr 1
  have h1 : (BitVec.allOnes 32 ^^^ BitVec.ofNat 32 e).toNat = 4294967295 - e := by
    rw [BitVec.allOnes_xor, BitVec.toNat_not, BitVec.toNat_ofNat]
    omega
  rw [BitVec.toNat_xor, BitVec.toNat_allOnes, BitVec.toNat_ofNat, Nat.mod_eq_of_lt (by omega)] at h1
  exact h1
theorem ch_bits (e f g : Nat) (he : e < 4294967296) (hf : f < 4294967296) (hg : g < 4294967296) :
    bits BinOp.xor IntKind.u32 (bits BinOp.and IntKind.u32 (e : Int) (f : Int)) (bits BinOp.and IntKind.u32 (bits BinOp.xor IntKind.u32 (if IntKind.u32.signed = true then -1 else IntKind.u32.max) (e : Int)) (g : Int)) = ((chf e f g : Nat) : Int) := by
  rw [not_bits e he, u32_and_nat e f he hf, u32_and_nat _ g (by omega) hg, u32_xor_nat _ _ (and_lt32 _ _ he) (and_lt32 _ _ (by omega))]
  rfl
theorem maj_bits (a b c : Nat) (ha : a < 4294967296) (hb : b < 4294967296) (hc : c < 4294967296) :
    bits BinOp.xor IntKind.u32 (bits BinOp.xor IntKind.u32 (bits BinOp.and IntKind.u32 (a : Int) (b : Int)) (bits BinOp.and IntKind.u32 (a : Int) (c : Int))) (bits BinOp.and IntKind.u32 (b : Int) (c : Int)) = ((maj a b c : Nat) : Int) := by
  rw [u32_and_nat a b ha hb, u32_and_nat a c ha hc, u32_and_nat b c hb hc]
  exact xor3_bits _ _ _ (and_lt32 _ _ ha) (and_lt32 _ _ ha) (and_lt32 _ _ hb)

theorem heap_drewN' (w : World) (n : Nat) : (w.drewN n).heap = w.heap := by
  simp
theorem row_drewN {w : World} {g : Nat} {ty : TypeId} {l : List Nat} (h : Row w g ty l) (n : Nat) : Row (w.drewN n) g ty l := by
  unfold Row
  rw [heap_drewN']
  exact h

theorem one8 (x0 x1 x2 x3 x4 x5 x6 x7 : Int) : (#[Value.int .u32 x0, Value.int .u32 x1, Value.int .u32 x2, Value.int .u32 x3, Value.int .u32 x4, Value.int .u32 x5, Value.int .u32 x6, Value.int .u32 x7] : Array Value).all (·.oneCell') = true := by
  simp [Value.oneCell']
theorem heap3 (w : World) (A X Z : Obj) : (((w.alloc A).alloc X).alloc Z).heap[w.heap.size]? = some A ∧ (((w.alloc A).alloc X).alloc Z).heap[w.heap.size + 1]? = some X ∧ (((w.alloc A).alloc X).alloc Z).heap[w.heap.size + 1 + 1]? = some Z := by
  have e1 : (w.alloc A).heap.size = w.heap.size + 1 := by simp
  have e2 : ((w.alloc A).alloc X).heap.size = w.heap.size + 1 + 1 := by simp
  refine ⟨?_, ?_, ?_⟩
  · rw [heap_alloc_old _ _ (by omega), heap_alloc_old _ _ (by omega)]
    exact heap_alloc_new w A
  · rw [heap_alloc_old _ _ (by omega), ← e1]
    exact heap_alloc_new _ X
  · rw [← e2]
    exact heap_alloc_new _ Z
/-- Eight words that are 0. -/
def z8 : List Nat := List.replicate 8 0

theorem Kl_lt (t : Nat) : Kl.getD t 0 < 4294967296 := getD_lt Kl (by decide) t

set_option maxRecDepth 100000 in
set_option maxHeartbeats 800000 in
theorem block_any (s : S8) (ws : List Nat) (w : World) (hs : s.ok) (hw : ws.length = 64) (hwl : ∀ x ∈ ws, x < 4294967296) (hT : Tabs w) :
    Calls Tryd.prog 118 #[.agg s.cells, .agg (wcells ws)] w fun e w' => e = .returned (.agg (s.plus (rnds ws 64 s)).cells) ∧ Below w.heap.size w w' := by
  have HSok := hide hs
  have HW := hide hwl
  have HT := hide hT
  clear hs hwl hT
  obtain ⟨s0, s1, s2, s3, s4, s5, s6, s7⟩ := s
  have hc0 : S8.cells ⟨s0, s1, s2, s3, s4, s5, s6, s7⟩ = #[.int .u32 s0, .int .u32 s1, .int .u32 s2, .int .u32 s3, .int .u32 s4, .int .u32 s5, .int .u32 s6, .int .u32 s7] := rfl
  rw [hc0]
  clear hc0
  go_enter Tryd.func118, Tryd.ntmps118
  go_wp2
  go_quiet (fail)
  go_wp2
  go_quiet (fail)
  go_wp2
  go_loopw [5, 6, 7, 8, 9, 10, 11, 12, 13] (fun a b c d e f g h i wr => ∃ t : Nat, t ≤ 64 ∧ i = .int .i64 t ∧ a = .int .u32 (rnds ws t ⟨s0, s1, s2, s3, s4, s5, s6, s7⟩).a ∧ b = .int .u32 (rnds ws t ⟨s0, s1, s2, s3, s4, s5, s6, s7⟩).b ∧ c = .int .u32 (rnds ws t ⟨s0, s1, s2, s3, s4, s5, s6, s7⟩).c ∧ d = .int .u32 (rnds ws t ⟨s0, s1, s2, s3, s4, s5, s6, s7⟩).d ∧ e = .int .u32 (rnds ws t ⟨s0, s1, s2, s3, s4, s5, s6, s7⟩).e ∧ f = .int .u32 (rnds ws t ⟨s0, s1, s2, s3, s4, s5, s6, s7⟩).f ∧ g = .int .u32 (rnds ws t ⟨s0, s1, s2, s3, s4, s5, s6, s7⟩).g ∧ h = .int .u32 (rnds ws t ⟨s0, s1, s2, s3, s4, s5, s6, s7⟩).h ∧
      Row wr (w.heap.size + 1) 159 ws ∧ wr.heap[w.heap.size]? = some (.cells #[.int .u32 s0, .int .u32 s1, .int .u32 s2, .int .u32 s3, .int .u32 s4, .int .u32 s5, .int .u32 s6, .int .u32 s7] 137 (0, 0)) ∧ Row wr (w.heap.size + 1 + 1) 137 z8 ∧ Below w.heap.size w wr) (fun _ _ _ _ _ _ _ _ i _ => 64 - (intOf i).toNat)
  case atStart =>
    obtain ⟨g0, g1, g2⟩ := heap3 w (.cells #[.int .u32 s0, .int .u32 s1, .int .u32 s2, .int .u32 s3, .int .u32 s4, .int .u32 s5, .int .u32 s6, .int .u32 s7] 137) (.cells (wcells ws) 159) (.cells (wcells z8) 137)
    refine ⟨0, by omega, rfl, rfl, rfl, rfl, rfl, rfl, rfl, rfl, rfl, g1, g0, g2, ?_⟩
    exact below_drewN (below_drewN ((((Below.refl _ _).alloc (Nat.le_refl _) _).alloc (by simp) _).alloc (by simp; omega) _) _) _
  case round =>
    obtain ⟨t, ht, rfl, rfl, rfl, rfl, rfl, rfl, rfl, rfl, rfl, hrow, hst, hres, hbel⟩ := hrel
    have hok := rnds_ok ws t _ (unhide HSok)
    by_cases hlt : t < 64
    · generalize hre : rnds ws t ⟨s0, s1, s2, s3, s4, s5, s6, s7⟩ = r at hok ⊢
      have HRE := hide hre
      clear hre
      obtain ⟨a, b, c, d, e, f, g, h⟩ := r
      obtain ⟨ba, bb, bc, bd, be, bf, bg, bh⟩ := hok
      dsimp only at ba bb bc bd be bf bg bh ⊢
      have cw := hrow.cell t (by omega)
      have ck : wr.cell? ⟨1, t, none⟩ = some (.int .u32 ((Kl.getD t 0 : Nat) : Int)) := by
        have hT := unhide HT
        rw [hbel.cell (p := ⟨1, t, none⟩) (by have := hT.2.2; show 1 < w.heap.size; omega)]
        exact hT.2.1 t hlt
      have bk := Kl_lt t
      have bw := getD_lt ws (unhide HW) t
      generalize hke : Kl.getD t 0 = kt at ck bk
      generalize hxe : ws.getD t 0 = xt at cw bw
      have HKE := hide hke
      have HXE := hide hxe
      clear hke hxe
      have h0 := bg0_bits a ba
      have h1 := bg1_bits e be
      have l0 := bg0_lt a ba
      have l1 := bg1_lt e be
      have hd : decide ((t : Int) < 64) = true := by simp; omega
      go_wp2_with fail
      refine (turned_2 a _ ba).mono ?_
      rintro e' w1 ⟨rfl, rfl⟩
      go_wp2_with fail
      refine (turned_13 a _ ba).mono ?_
      rintro e' w1 ⟨rfl, rfl⟩
      go_wp2_with fail
      refine (turned_22 a _ ba).mono ?_
      rintro e' w1 ⟨rfl, rfl⟩
      go_wp2_with fail
      refine (turned_6 e _ be).mono ?_
      rintro e' w1 ⟨rfl, rfl⟩
      go_wp2_with fail
      refine (turned_11 e _ be).mono ?_
      rintro e' w1 ⟨rfl, rfl⟩
      go_wp2_with fail
      refine (turned_25 e _ be).mono ?_
      rintro e' w1 ⟨rfl, rfl⟩
      go_wp2_with fail
      go_quiet (fail)
      go_wp2
      go_roundw
      case rel =>
        have hS : rnds ws (t + 1) ⟨s0, s1, s2, s3, s4, s5, s6, s7⟩ = stp ⟨a, b, c, d, e, f, g, h⟩ kt xt := by rw [rnds_succ, unhide HRE, unhide HKE, unhide HXE]
        refine ⟨t + 1, by omega, by go_num, ?_, ?_, ?_, ?_, ?_, ?_, ?_, ?_, ?_, ?_, ?_, ?_⟩
        · rw [hS, ch_bits e f g be bf bg, maj_bits a b c ba bb bc]
          exact val_int (by simp only [stp, t1, t2]; omega)
        · rw [hS]; rfl
        · rw [hS]; rfl
        · rw [hS]; rfl
        · rw [hS, ch_bits e f g be bf bg]
          exact val_int (by simp only [stp, t1]; omega)
        · rw [hS]; rfl
        · rw [hS]; rfl
        · rw [hS]; rfl
        · exact row_drewN hrow nq
        · rw [heap_drewN']; exact hst
        · exact row_drewN hres nq
        · exact below_drewN hbel nq
      case measure => simp [intOf]; omega
    · have HT64 : t = 64 := by omega
      generalize hre : rnds ws t ⟨s0, s1, s2, s3, s4, s5, s6, s7⟩ = r at hok ⊢
      rw [HT64] at hre
      have HRE := hide hre
      clear hre HT64
      obtain ⟨a, b, c, d, e, f, g, h⟩ := r
      obtain ⟨ba, bb, bc, bd, be, bf, bg, bh⟩ := hok
      dsimp only at ba bb bc bd be bf bg bh ⊢
      have q0 := cell_of_row wr w.heap.size 0 _ _ _ hst
      have q1 := cell_of_row wr w.heap.size 1 _ _ _ hst
      have q2 := cell_of_row wr w.heap.size 2 _ _ _ hst
      have q3 := cell_of_row wr w.heap.size 3 _ _ _ hst
      have q4 := cell_of_row wr w.heap.size 4 _ _ _ hst
      have q5 := cell_of_row wr w.heap.size 5 _ _ _ hst
      have q6 := cell_of_row wr w.heap.size 6 _ _ _ hst
      have q7 := cell_of_row wr w.heap.size 7 _ _ _ hst
      simp only [List.getElem?_toArray, List.getElem?_cons_zero, List.getElem?_cons_succ] at q0 q1 q2 q3 q4 q5 q6 q7
      have hd : decide ((t : Int) < 64) = false := by simp; omega
      have HR : Hid (wr.heap[w.heap.size + 1 + 1]? = some (.cells (wcells z8) 137 (0, 0))) := hide hres
      have HB := hide hbel
      clear hrow hst hres hbel
      have HW0 := hide (show S8.plus ⟨s0, s1, s2, s3, s4, s5, s6, s7⟩ (rnds ws 64 ⟨s0, s1, s2, s3, s4, s5, s6, s7⟩) = ⟨(s0 + a) % 4294967296, (s1 + b) % 4294967296, (s2 + c) % 4294967296, (s3 + d) % 4294967296, (s4 + e) % 4294967296, (s5 + f) % 4294967296, (s6 + g) % 4294967296, (s7 + h) % 4294967296⟩ by rw [unhide HRE]; rfl)
      go_wp2_with ((with_reducible refine at_store ?_); refine wpList_store_row rfl 137 _ _ rfl (w.heap.size + 1 + 1) _ rfl rfl 137 _ (unhide HR) (by rw [info_w8]; rfl) (by rfl) (one8 _ _ _ _ _ _ _ _) ?_)
      refine bodyPost_ret (v := .agg (S8.plus ⟨s0, s1, s2, s3, s4, s5, s6, s7⟩ (rnds ws 64 ⟨s0, s1, s2, s3, s4, s5, s6, s7⟩)).cells) ?_ rfl ⟨rfl, below_row (unhide HB) (by omega) _⟩
      rw [unhide HW0]
      exact results_cell_row Tryd.results118 _ _ (w.heap.size + 1 + 1) 137 _ (0, 0) _ rfl (setRow_heap _ _ _ _ _ _ (unhide HR)) Tryd.underlying137 rfl (by rw [info_w8]; rfl)
end Go.Proofs.YtanfolfopalbeaaDoor
