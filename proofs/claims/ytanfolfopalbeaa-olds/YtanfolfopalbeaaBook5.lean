import Derived.Test.YtanfolfopalbeaaLawr
import Derived.Test.YtanfolfopalbeaaBook3
import Derived.Test.YtanfolfopalbeaaBook4
namespace Go.Proofs.Ytanfolfopalbeaa
open Go.RowKit

theorem rd_short : ∀ (f k v : Nat) (l : List UInt8), k ≤ 100 → (rd f k v l).1.length + k ≤ 100 := by
  intro f
  induction f with
  | zero => intro k v l h; simpa [rd] using h
  | succ f ih =>
    intro k v l h
    simp only [rd]
    split
    · simpa using h
    · split
      · simpa using h
      · split
        · have := ih (k + 1) (rfLnk l v) (l.drop (3 + (rfEnt l v).length)) (by omega)
          simp only [List.length_cons]
          omega
        · simpa using h
theorem rdOld_short (l : List UInt8) : (rdOld l).1.length ≤ 100 := by
  unfold rdOld
  split
  · simp
  · have := rd_short l.length 0 0 l (by omega)
    omega
theorem grown_of_below {w w' : World} (h : Below w.heap.size w w') : w.grownBy w' none := ⟨h.os, h.tape, h.output, h.size, fun k hk _ => h.block k hk⟩
theorem own_kept_none {w w' : World} {B : Nat} {e : TypeId} {v : Value} {n : Nat} {xs : List Value} (h : w.ownsRow B e 1 v n xs) (hg : w.grownBy w' none) : w'.ownsRow B e 1 v n xs :=
  h.kept hg (by cases v.ownBlock <;> simp)

set_option maxRecDepth 100000 in
set_option maxHeartbeats 800000 in
theorem bread_any (B G : Nat) (b : Bk) (w0 w : World) (recs : List (Value × ByteArray)) (s : ByteArray) (S : BkI B w0 w G b recs) (hs : s.size ≤ maxLen) (hb : b.n ≤ 900) (hrl : recs.length ≤ 900) :
    Calls Try.prog 6 #[.pointer (some ⟨G, 0, none⟩), .string s] w fun e w' => e = .returned (.bool true) ∧ ∃ b' recs', BkI B w0 w' G b' recs' ∧ b'.n = b.n + 1 ∧ recs'.length = recs.length + 4 ∧ b'.dv = b.dv ∧ b'.kv = b.kv ∧ b'.pv = b.pv := by
  have HS := hide S
  have hG := S.bk.lt
  have hsz := S.sz
  have htl := fun g h => (S.ht.lt g h).2
  have hxl := fun g h => (S.hx.lt g h).2
  have hrr := fun r hr g h => (S.hs r hr g h).1
  clear S
  have hra := fun wq => ReadOld_any s wq hs
  have hrb := fun wq => rRead_any s wq hs
  have hsh := rdOld_short s.data.toList
  generalize (rdOld s.data.toList).2.1 = er at hra hrb
  generalize (rdOld s.data.toList).2.2 = nr at hra hrb
  generalize (rdOld s.data.toList).1 = L at hra hrb hsh
  go_enter Try.func6, Try.ntmps6
  go_wp2_with fail
  refine (hra _).mono ?_
  rintro e w1 ⟨v, rfl, hown1, hb1⟩
  go_wp2_with fail
  refine (hrb _).mono ?_
  rintro e w2 ⟨v', rfl, hown2, hb2⟩
  have X1 := strs_of_own (own_kept_none hown1 (grown_of_below hb2))
  have X2 := strs_of_own hown2
  have Hown1 := hide (own_kept_none hown1 (grown_of_below hb2))
  clear hown1 hown2
  go_wp2_with fail
  refine (same_any _ _ (L.map mk) _ X1 X2).mono ?_
  rintro e w3 ⟨rfl, hb3⟩
  have Hown3 := hide (own_kept_none (unhide Hown1) (grown_of_below hb3))
  have S3 := (((unhide HS).later (grown_of_below hb1)).later (grown_of_below hb2)).later (grown_of_below hb3)
  have T3 := StI.take S3 hsz (unhide Hown3) hG htl hxl hrr
  have hge := own_row_ge (unhide Hown3)
  have hst := strings_any B G b w0 w3 recs v L.length _ T3 (by omega) (by omega) (by omega) (fun r hr g hv h => by have := hge g hv; have := hrr r hr g h; omega)
  clear X1 X2 S3 T3 hge Hown1 Hown3 HS
  go_wp2_with fail
  refine hst.mono ?_
  rintro e w4 ⟨b', recs', S4, hn4, hr4, hd4, hk4, hp4, rfl⟩
  have HB := hide (show ∃ b' recs', BkI B w0 w4 G b' recs' ∧ b'.n = b.n + 1 ∧ recs'.length = recs.length + 4 ∧ b'.dv = b.dv ∧ b'.kv = b.kv ∧ b'.pv = b.pv from ⟨b', recs', S4, hn4, hr4, hd4, hk4, hp4⟩)
  clear S4 hn4 hr4 hd4 hk4 hp4 hst hra hrb
  have hnu := fun wq => num_any (er : Int) wq
  go_wp2_with (go_at_call 16; refine (hnu _).mono ?_; rintro e w5 ⟨rfl, he⟩; cases he)
  go_ret
  exact ⟨rfl, unhide HB⟩

def b0 : Bk := ⟨0, .slice none 0 0, .slice none 0 0, .slice none 0 0, .slice none 0 0, .slice none 0 0, .slice none 0 0, .slice none 0 0, .slice none 0 0⟩
theorem b0_cells : b0.cells = #[.int .i64 0, .slice none 0 0, .slice none 0 0, .slice none 0 0, .slice none 0 0, .slice none 0 0, .slice none 0 0, .slice none 0 0, .slice none 0 0] := rfl
theorem book_new (w : World) : BkI w.heap.size w (w.alloc (.cells b0.cells 32)) w.heap.size b0 [] :=
  ⟨heap_alloc_new w _, Nat.le_refl _, World.ownsRow_nil _ _ _ _, World.ownsRow_nil _ _ _ _, World.ownsRow_nil _ _ _ _, (fun _ h => nomatch h), (fun _ h => nomatch h), (fun h => nomatch h), (fun h => nomatch h), (fun h => nomatch h), (fun _ h => nomatch h), (fun _ h => nomatch h), (fun _ h => nomatch h), (Below.refl _ _).alloc (Nat.le_refl _) _⟩

set_option maxRecDepth 100000 in
set_option maxHeartbeats 800000 in
theorem olds_any (v : Value) (ss : List ByteArray) (s : ByteArray) (w : World) (h : Strs w v ss) (hm : ss.length * 16 ≤ 140737488351232) (hs : s.size ≤ maxLen) :
    Calls Try.prog 3 #[v, .string s] w fun e w' => e = .returned (.bool true) ∧ Below w.heap.size w w' := by
  have HS := hide h
  clear h
  go_enter Try.func3, Try.ntmps3
  go_wp2_with fail
  rw [← b0_cells]
  have S1 := book_new w
  have hb1 : Below w.heap.size w (w.alloc (.cells b0.cells 32)) := (Below.refl _ _).alloc (Nat.le_refl _) _
  have hlw := lwrite_any v ss _ ((unhide HS).below hb1 (Nat.le_refl _)) hm
  generalize hbe : b0 = b at S1 hlw hb1 ⊢
  have hd0 : b.dv = .slice none 0 0 := by rw [← hbe]; rfl
  have hk0 : b.kv = .slice none 0 0 := by rw [← hbe]; rfl
  have hp0 : b.pv = .slice none 0 0 := by rw [← hbe]; rfl
  have hn0 : b.n = 0 := by rw [← hbe]; rfl
  clear hbe
  generalize w.alloc (.cells b.cells 32) = W1 at S1 hlw hb1 ⊢
  refine hlw.mono ?_
  rintro e w2 ⟨rfl, hb2⟩
  have S2 := S1.later (grown_of_below hb2)
  have hr1 := bread_any _ _ _ _ _ _ s S2 hs (by omega) (by simp)
  clear S1 S2 hlw hb1 hb2 HS
  go_wp2_with fail
  refine hr1.mono ?_
  rintro e w3 ⟨rfl, b3, r3, S3, hn3, hl3, hd3, hk3, hp3⟩
  have hr2 := bread_any _ _ _ _ _ _ s S3 hs (by omega) (by simp at hl3; omega)
  clear S3 hr1
  go_wp2_with fail
  refine hr2.mono ?_
  rintro e w4 ⟨rfl, b4, r4, S4, hn4, hl4, hd4, hk4, hp4⟩
  have hho := holds_any _ _ _ _ _ _ S4 (by simp at hl3; omega) (by rw [hd4, hd3, hd0]) (by rw [hk4, hk3, hk0]) (by rw [hp4, hp3, hp0])
  have HBEL := hide S4.bel
  clear S4 hr2 hn3 hl3 hd3 hk3 hp3 hn4 hl4 hd4 hk4 hp4 hd0 hk0 hp0 hn0
  go_wp2_with fail
  refine hho.mono ?_
  rintro e w5 ⟨rfl, hb5⟩
  have HB5 := hide ((unhide HBEL).trans (hb5.mono (unhide HBEL).size))
  clear hho hb5
  go_wp2
  go_ret
  exact ⟨rfl, unhide HB5⟩
end Go.Proofs.Ytanfolfopalbeaa
