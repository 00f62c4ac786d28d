/- The book's holds, of a book of digests: the contract. -/
import Derived.Test.YtocfikblfobjfaaDoorBookD2
import Derived.Test.YtocfikblfobjfaaDoorCommD
import Derived.Deep.QuietTactic
namespace Go.Proofs.YtocfikblfobjfaaDoor
open Go.RowKit

set_option maxRecDepth 100000 in
set_option maxHeartbeats 800000 in
theorem disks_any (G : Nat) (b : Bk) (w : World) (hB : BkAt w G b) (hk : b.kv = .slice none 0 0) (hp : b.pv = .slice none 0 0) :
    Calls Tryd.prog 44 #[.pointer (some ⟨G, 0, none⟩)] w fun e w' => e = .returned (.bool true) ∧ w' = w := by
  have c5 := hB.c5
  have c7 := hB.c7
  rw [hk] at c5
  rw [hp] at c7
  clear hB hk hp
  go_enter Tryd.func44, Tryd.ntmps44
  go_wp2
  go_loopw [3] (fun v wr => v = .int .i64 0 ∧ wr = w) (fun _ _ => 0)
  case atStart => exact ⟨rfl, rfl⟩
  case round =>
    obtain ⟨rfl, rfl⟩ := hrel
    go_wp2
    go_loopw [5] (fun v wq => v = .int .i64 0 ∧ wq = wr) (fun _ _ => 0)
    case atStart => exact ⟨rfl, rfl⟩
    case round =>
      obtain ⟨rfl, rfl⟩ := hrel
      go_wp2
      go_ret
      exact ⟨rfl, rfl⟩

theorem drewN_grown (w : World) : ∀ n, w.grownBy (w.drewN n) none := fun _ => ⟨rfl, rfl, rfl, Nat.le_refl _, fun _ _ _ => rfl⟩
theorem below_of_grown {w w' : World} (h : w.grownBy w' none) : Below w.heap.size w w' := ⟨h.os, h.tape, h.output, h.size, fun k hk => h.block k hk (fun e => by cases e)⟩
theorem grown_of_below {w w' : World} (h : Below w.heap.size w w') : w.grownBy w' none := ⟨h.os, h.tape, h.output, h.size, fun k hk _ => h.block k hk⟩
/-- The mark of list k, where it stands in the book. -/
theorem marks_at {w : World} {B n cap : Nat} {gx : Nat} {xl : List (List UInt8)} (h : w.ownsRow B 31 32 (.slice (some ⟨gx, 0, none⟩) n cap) n (dcells xl)) (h32 : ∀ d ∈ xl, d.length = 32) (hn : n = xl.length) (k : Nat) (hk : k < xl.length) : w.rangeAt gx (k * 32) (bcells (xl.getD k [])) := by
  have hD := digs_of_own h32 h hn
  have := digs_at hD k hk
  rwa [Nat.zero_add] at this

set_option maxRecDepth 100000 in
set_option maxHeartbeats 1600000 in
theorem holds_any (P : Nat → Prop) (B G : Nat) (b : Bk) (w0 w : World) (recs : List (Value × List UInt8)) (S : BkD P B w0 w G b recs) (hrl : recs.length ≤ 1000)
    (htv : b.tv = .slice none 0 0) (hkv : b.kv = .slice none 0 0) (hpv : b.pv = .slice none 0 0) :
    Calls Tryd.prog 22 #[.pointer (some ⟨G, 0, none⟩)] w fun e w' => e = .returned (.bool true) ∧ Below w.heap.size w w' := by
  have HS := hide S
  have hdk := fun (wq : World) (h : BkAt wq G b) => disks_any G b wq h hkv hpv
  have c1 := S.bk.c1
  rw [htv] at c1
  have H32 := hide (show ∀ d ∈ recs.map (·.2), d.length = 32 from fun d hd => by
    obtain ⟨r, hr, rfl⟩ := List.mem_map.1 hd
    exact (S.hf r hr).1)
  clear S htv hkv hpv
  go_enter Tryd.func22, Tryd.ntmps22
  go_wp2
  go_loopw [3] (fun v wr => v = .int .i64 0 ∧ wr = w) (fun _ _ => 0)
  case atStart => exact ⟨rfl, rfl⟩
  case round =>
  obtain ⟨rfl, hwe⟩ := hrel
  have hwf := hwe.symm
  clear hwe
  subst hwf
  go_wp2
  go_loopw [5] (fun v wr => ∃ k : Nat, k ≤ recs.length ∧ v = .int .i64 k ∧ BkD P B w0 wr G b recs ∧ w.grownBy wr none) (fun v _ => recs.length - (intOf v).toNat)
  case atStart => exact ⟨0, Nat.zero_le _, rfl, unhide HS, grown_refl _ _⟩
  case round =>
    clear HS
    obtain ⟨k, hk, rfl, S, hgr⟩ := hrel
    have c3 := S.bk.c3
    have HS := hide S
    have HGR := hide hgr
    clear hgr
    by_cases hlt : k < recs.length
    · have hd : decide ((k : Int) < (recs.length : Int)) = true := by simp; omega
      have j1 : (k : Int) < (recs.length : Int) := by omega
      obtain ⟨gt, ct, hdv⟩ : ∃ gt ct, b.dv = .slice (some ⟨gt, 0, none⟩) recs.length ct := by
        rcases S.ht.2 with ⟨_, h0⟩ | ⟨g, cap, cur, h, _⟩
        · rw [List.length_map] at h0; omega
        · rw [List.length_map] at h; exact ⟨g, cap, h⟩
      have hr : recs[k]? = some recs[k] := List.getElem?_eq_getElem hlt
      have hF := S.hf recs[k] (List.getElem_mem hlt)
      have ctk := S.ht.cells (g := gt) (by rw [hdv]; rfl) k recs[k].1 (by rw [List.getElem?_map, hr]; rfl)
      rw [Addr.add_lit, Nat.zero_add] at ctk
      rw [hdv] at c3
      generalize hrk : recs[k] = r at hF ctk
      obtain ⟨lv, mk⟩ := r
      obtain ⟨hm32, ao, n, cap, rfl, hn1, hn2, hn3⟩ := hF
      have HRK := hide hrk
      unfold maxLen at hn2
      have hmi := v_mid mk hm32
      have hsame := fun wq => digest_same mk hm32 wq
      clear S hr hrk hn3
      go_wp2
      go_loopw [6] (fun v wq => ∃ i : Nat, i ≤ n ∧ v = .int .i64 i ∧ wr.grownBy wq none) (fun v _ => n - (intOf v).toNat)
      case atStart => exact ⟨0, Nat.zero_le _, rfl, grown_refl _ _⟩
      case round =>
        obtain ⟨i, hi, rfl, hgq⟩ := hrel
        have S := (unhide HS).later hgq
        have HGQ := hide hgq
        have e1 := S.bk.c3
        rw [hdv] at e1
        have e2 := S.ht.cells (g := gt) (by rw [hdv]; rfl) k (.slice ao n cap) (by rw [List.getElem?_map, List.getElem?_eq_getElem hlt, unhide HRK]; rfl)
        rw [Addr.add_lit, Nat.zero_add] at e2
        by_cases hin : i < n
        · have hd2 : decide ((i : Int) < (n : Int)) = true := by simp; omega
          have j2 : (i : Int) < (n : Int) := by omega
          obtain ⟨gx, cx, hev⟩ : ∃ gx cx, b.ev = .slice (some ⟨gx, 0, none⟩) recs.length cx := by
            rcases S.hx.2 with ⟨_, h0⟩ | ⟨g, cap, cur, h, _⟩
            · rw [List.length_map] at h0; omega
            · rw [List.length_map] at h; exact ⟨g, cap, h⟩
          have e3 := S.bk.c4
          rw [hev] at e3
          have e4 : wr.rangeAt gx (k * 32) (bcells mk) := by
            have hx := S.hx
            rw [hev, List.length_map] at hx
            have := marks_at hx (unhide H32) (by rw [List.length_map]) k (by rw [List.length_map]; exact hlt)
            rwa [List.getD, List.getElem?_map, List.getElem?_eq_getElem hlt, unhide HRK] at this
          have hF := S.hf recs[k] (List.getElem_mem hlt)
          rw [unhide HRK] at hF
          obtain ⟨_, ao', n', cap', he, _, _, hn3⟩ := hF
          injection he with he1 he2 he3
          subst he1 he2 he3
          obtain ⟨g, hao, hc⟩ := hn3 (by omega)
          subst hao
          have e5 := hc i hin
          have hS0 : wr.drew.cell? ⟨G, 3, none⟩ = some (.slice (some ⟨gt, 0, none⟩) recs.length ct) ∧ wr.drew.cell? ⟨gt, k, none⟩ = some (.slice (some ⟨g, 0, none⟩) n cap) ∧ wr.drew.cell? ⟨G, 4, none⟩ = some (.slice (some ⟨gx, 0, none⟩) recs.length cx) ∧ wr.drew.rangeAt g (i * 32) (bcells mk) ∧ wr.drew.rangeAt gx (k * 32) (bcells mk) := ⟨e1, e2, e3, e5, e4⟩
          clear hc hn3 S hgq hdv hev
          go_wp2
          clear e4 e5
          have hu31 := Tryd.underlying31
          refine wp_region_held_drew (S := fun w' => w'.cell? ⟨G, 3, none⟩ = some (.slice (some ⟨gt, 0, none⟩) recs.length ct) ∧ w'.cell? ⟨gt, k, none⟩ = some (.slice (some ⟨g, 0, none⟩) n cap) ∧ w'.cell? ⟨G, 4, none⟩ = some (.slice (some ⟨gx, 0, none⟩) recs.length cx) ∧ w'.rangeAt g (i * 32) (bcells mk) ∧ w'.rangeAt gx (k * 32) (bcells mk)) (by kernel_rfl) hS0 (fun hHeld => ?_)
          refine wpAnyH_take (i := 0) (v := .pointer (some ⟨G, 0, none⟩)) rfl (by kernel_rfl) (by kernel_rfl) (by kernel_rfl) (fun _ _ _ h => h) (Or.inl ⟨by rfl, fun _ _ => by go_simp⟩) hHeld ?_
          simp only [List.getElem_toArray, List.getElem_cons_zero, Act.put, List.setIfInBounds_toArray, List.set_cons_zero, List.set_cons_succ]
          refine wpAnyH_take (i := 1) (v := .pointer (some ⟨G, 0, none⟩)) rfl (by kernel_rfl) (by kernel_rfl) (by kernel_rfl) (fun _ _ _ h => h) (Or.inl ⟨by rfl, fun _ _ => by go_simp⟩) hHeld ?_
          simp only [List.getElem_toArray, List.getElem_cons_zero, List.getElem_cons_succ, Act.put, List.setIfInBounds_toArray, List.set_cons_zero, List.set_cons_succ]
          refine wpAnyH_take (i := 2) (v := .pointer (some ⟨G, 3, none⟩)) rfl (by kernel_rfl) (by kernel_rfl) (by kernel_rfl) (fun _ _ _ h => h) (Or.inl ⟨by rfl, fun _ _ => by go_simp⟩) hHeld ?_
          simp only [List.getElem_toArray, List.getElem_cons_zero, List.getElem_cons_succ, Act.put, List.setIfInBounds_toArray, List.set_cons_zero, List.set_cons_succ]
          refine wpAnyH_take (i := 3) (v := .slice (some ⟨gt, 0, none⟩) recs.length ct) rfl (by kernel_rfl) (by kernel_rfl) (by kernel_rfl) (fun _ _ _ h => h) (Or.inl ⟨by rfl, fun _ hq => by have h5 := hq.1; clear hq; go_simp⟩) hHeld ?_
          simp only [List.getElem_toArray, List.getElem_cons_zero, List.getElem_cons_succ, Act.put, List.setIfInBounds_toArray, List.set_cons_zero, List.set_cons_succ]
          refine wpAnyH_take (i := 4) (v := .int .i64 k) rfl (by kernel_rfl) (by kernel_rfl) (by kernel_rfl) (fun _ _ _ h => h) (Or.inl ⟨by rfl, fun _ _ => by go_simp⟩) hHeld ?_
          simp only [List.getElem_toArray, List.getElem_cons_zero, List.getElem_cons_succ, Act.put, List.setIfInBounds_toArray, List.set_cons_zero, List.set_cons_succ]
          refine wpAnyH_take (i := 5) (v := .pointer (some ⟨gt, k, none⟩)) rfl (by kernel_rfl) (by kernel_rfl) (by kernel_rfl) (fun _ _ _ h => h) (Or.inl ⟨by rfl, fun _ _ => by go_simp⟩) hHeld ?_
          simp only [List.getElem_toArray, List.getElem_cons_zero, List.getElem_cons_succ, Act.put, List.setIfInBounds_toArray, List.set_cons_zero, List.set_cons_succ]
          refine wpAnyH_take (i := 6) (v := .slice (some ⟨g, 0, none⟩) n cap) rfl (by kernel_rfl) (by kernel_rfl) (by kernel_rfl) (fun _ _ _ h => h) (Or.inl ⟨by rfl, fun _ hq => by have h5 := hq.2.1; clear hq; go_simp⟩) hHeld ?_
          simp only [List.getElem_toArray, List.getElem_cons_zero, List.getElem_cons_succ, Act.put, List.setIfInBounds_toArray, List.set_cons_zero, List.set_cons_succ]
          refine wpAnyH_take (i := 7) (v := .int .i64 i) rfl (by kernel_rfl) (by kernel_rfl) (by kernel_rfl) (fun _ _ _ h => h) (Or.inl ⟨by rfl, fun _ _ => by go_simp⟩) hHeld ?_
          simp only [List.getElem_toArray, List.getElem_cons_zero, List.getElem_cons_succ, Act.put, List.setIfInBounds_toArray, List.set_cons_zero, List.set_cons_succ]
          refine wpAnyH_take (i := 8) (v := .pointer (some ⟨g, i * 32, none⟩)) rfl (by kernel_rfl) (by kernel_rfl) (by kernel_rfl) (fun _ _ _ h => h) (Or.inl ⟨by rfl, fun _ _ => by go_simp⟩) hHeld ?_
          simp only [List.getElem_toArray, List.getElem_cons_zero, List.getElem_cons_succ, Act.put, List.setIfInBounds_toArray, List.set_cons_zero, List.set_cons_succ]
          refine wpAnyH_take (i := 9) rfl (by kernel_rfl) (by kernel_rfl) (by kernel_rfl) (fun _ _ _ h => h) (yieldsIf_load_mid (by rfl) 31 _ rfl g (i * 32) rfl (bcells mk) _ (fun _ hq => hq.2.2.2.1) Tryd.underlying31 rfl hmi) hHeld ?_
          simp only [List.getElem_toArray, List.getElem_cons_zero, List.getElem_cons_succ, Act.put, List.setIfInBounds_toArray, List.set_cons_zero, List.set_cons_succ]
          refine wpAnyH_take (i := 10) (v := .pointer (some ⟨G, 0, none⟩)) rfl (by kernel_rfl) (by kernel_rfl) (by kernel_rfl) (fun _ _ _ h => h) (Or.inl ⟨by rfl, fun _ _ => by go_simp⟩) hHeld ?_
          simp only [List.getElem_toArray, List.getElem_cons_zero, List.getElem_cons_succ, Act.put, List.setIfInBounds_toArray, List.set_cons_zero, List.set_cons_succ]
          refine wpAnyH_take (i := 11) (v := .pointer (some ⟨G, 0, none⟩)) rfl (by kernel_rfl) (by kernel_rfl) (by kernel_rfl) (fun _ _ _ h => h) (Or.inl ⟨by rfl, fun _ _ => by go_simp⟩) hHeld ?_
          simp only [List.getElem_toArray, List.getElem_cons_zero, List.getElem_cons_succ, Act.put, List.setIfInBounds_toArray, List.set_cons_zero, List.set_cons_succ]
          refine wpAnyH_take (i := 12) (v := .pointer (some ⟨G, 4, none⟩)) rfl (by kernel_rfl) (by kernel_rfl) (by kernel_rfl) (fun _ _ _ h => h) (Or.inl ⟨by rfl, fun _ _ => by go_simp⟩) hHeld ?_
          simp only [List.getElem_toArray, List.getElem_cons_zero, List.getElem_cons_succ, Act.put, List.setIfInBounds_toArray, List.set_cons_zero, List.set_cons_succ]
          refine wpAnyH_take (i := 13) (v := .slice (some ⟨gx, 0, none⟩) recs.length cx) rfl (by kernel_rfl) (by kernel_rfl) (by kernel_rfl) (fun _ _ _ h => h) (Or.inl ⟨by rfl, fun _ hq => by have h5 := hq.2.2.1; clear hq; go_simp⟩) hHeld ?_
          simp only [List.getElem_toArray, List.getElem_cons_zero, List.getElem_cons_succ, Act.put, List.setIfInBounds_toArray, List.set_cons_zero, List.set_cons_succ]
          refine wpAnyH_take (i := 14) (v := .int .i64 k) rfl (by kernel_rfl) (by kernel_rfl) (by kernel_rfl) (fun _ _ _ h => h) (Or.inl ⟨by rfl, fun _ _ => by go_simp⟩) hHeld ?_
          simp only [List.getElem_toArray, List.getElem_cons_zero, List.getElem_cons_succ, Act.put, List.setIfInBounds_toArray, List.set_cons_zero, List.set_cons_succ]
          refine wpAnyH_take (i := 15) (v := .pointer (some ⟨gx, k * 32, none⟩)) rfl (by kernel_rfl) (by kernel_rfl) (by kernel_rfl) (fun _ _ _ h => h) (Or.inl ⟨by rfl, fun _ _ => by go_simp⟩) hHeld ?_
          simp only [List.getElem_toArray, List.getElem_cons_zero, List.getElem_cons_succ, Act.put, List.setIfInBounds_toArray, List.set_cons_zero, List.set_cons_succ]
          refine wpAnyH_take (i := 16) rfl (by kernel_rfl) (by kernel_rfl) (by kernel_rfl) (fun _ _ _ h => h) (yieldsIf_load_mid (by rfl) 31 _ rfl gx (k * 32) rfl (bcells mk) _ (fun _ hq => hq.2.2.2.2) Tryd.underlying31 rfl hmi) hHeld ?_
          simp only [List.getElem_toArray, List.getElem_cons_zero, List.getElem_cons_succ, Act.put, List.setIfInBounds_toArray, List.set_cons_zero, List.set_cons_succ]
          refine wpAnyH_take (i := 17) (v := .bool false) rfl (by kernel_rfl) (by kernel_rfl) (by kernel_rfl) (fun _ _ _ h => h) (Or.inl ⟨by rfl, fun _ _ => by go_simp⟩) hHeld ?_
          simp only [List.getElem_toArray, List.getElem_cons_zero, List.getElem_cons_succ, Act.put, List.setIfInBounds_toArray, List.set_cons_zero, List.set_cons_succ]
          refine wpAnyH_done (by kernel_rfl) ?_ _
          clear hsame hS0 hHeld e1 e2 e3
          go_wp2
          exact ⟨⟨i + 1, by omega, by go_num, grown_trans (unhide HGQ) (grown_drew (grown_refl _ _))⟩, by simp [intOf]; omega⟩
        · have hd2 : decide ((i : Int) < (n : Int)) = false := by simp; omega
          clear S hgq hdv
          go_wp2
          exact ⟨⟨k + 1, by omega, by go_num, (unhide HS).later (unhide HGQ), grown_trans (unhide HGR) (unhide HGQ)⟩, by simp [intOf]; omega⟩
    · have hke : k = recs.length := by omega
      obtain ⟨at1, ct, hdv⟩ := own_shape S.ht
      rw [List.length_map] at hdv
      rw [hdv] at c3
      have hd : decide ((k : Int) < (recs.length : Int)) = false := by simp; omega
      have hdk2 := hdk wr S.bk
      clear S hdv hdk
      go_wp2_with (go_at_call 44; refine hdk2.mono ?_; rintro e wz ⟨rfl, he⟩; cases he)
      go_ret
      exact ⟨rfl, below_of_grown (unhide HGR)⟩
end Go.Proofs.YtocfikblfobjfaaDoor
