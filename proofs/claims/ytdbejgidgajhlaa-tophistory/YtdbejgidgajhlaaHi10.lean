/- How the row goes on (package hist, find): op by op. -/
import Derived.Test.YtdbejgidgajhlaaHi9
import Derived.BigRegion
namespace Go.Proofs.Ytdbejgidgajhlaa
open Go.RowKit

set_option maxRecDepth 100000 in
set_option maxHeartbeats 8000000 in
theorem find_step (all : Bool) (h : List M.HOp) (p : Option Addr) (n cap S base k : Nat) (hl : h.length = n) (hk : HOk h) (ih : FindSpec all h p n cap S base k) : FindSpec all h p n cap S base (k + 1) := by
  intro O d x y z t L c w hs hOb hc hO ht hd hcn hx hy hz0 hm hcb
  by_cases hin : [x, y, z] ∈ L d
  · exact find_known all h p n cap S k O d x y z t L c w hs hl ht hd hcn hx hy hz0 hm hin
  obtain ⟨v, Mb, ib, h1⟩ := hs
  obtain ⟨w1, hw1⟩ : ∃ w1, (w.alloc (.cells (opsC d) 49)).alloc (.cells (vaC x y z) 51) = w1 := ⟨_, rfl⟩
  have hB1 : Below w.heap.size w w1 := hw1 ▸ bel_al (bel_al (Below.refl _ _) _) _
  have s1 : w1.heap.size = w.heap.size + 2 := by subst hw1; simp
  have b4 : Blk w1 w.heap.size (opsC d) 49 := hw1 ▸ (Blk.new _ _ _).alloc _
  have b5 : Blk w1 (w.heap.size + 1) (vaC x y z) 51 := by
    have := Blk.new (w.alloc (.cells (opsC d) 49)) (vaC x y z) 51
    rw [hw1] at this
    simpa using this
  have hbase : base ≤ w.heap.size := Nat.le_trans (hOb S h1.oS) (Nat.le_of_lt h1.blk.lt)
  have h2 := h1.later hB1
  have h2o : Sr (O1 O w.heap.size) S (.slice p n cap) (bfV all) t L c v Mb ib w1 := (h1.own (O' := O1 O w.heap.size) (fun b hb ho => ⟨ho, by omega, by omega⟩)).later hB1
  have HFI : Hid (FI all h O S (.slice p n cap) t c k d x y z w 0 w1) := ⟨⟨L, c, ⟨v, Mb, ib, h2o⟩, hm, by omega⟩, Frm.of_below hB1, b4, b5, fun j hj => absurd hj (Nat.not_lt_zero _)⟩
  obtain ⟨q, hq⟩ : ∃ q, ib d = q := ⟨_, rfl⟩
  have hmk : ∀ X, Below w1.heap.size w1 X → X.cell? ⟨S, 3, none⟩ = some (.map (some Mb)) ∧
      X.rangeAt w.heap.size 0 (opsL d) ∧
      (X.cell? ⟨w.heap.size + 1, 0, none⟩ = some (.int .i64 (x : Nat)) ∧ X.cell? ⟨w.heap.size + 1, 1, none⟩ = some (.int .i64 (y : Nat)) ∧ X.cell? ⟨w.heap.size + 1, 2, none⟩ = some (.int .i64 (z : Nat))) ∧
      (Instr.lookup 44 (.map (some Mb)) (.agg (opsL d).toArray) false).run Try.prog X = .ok (.map q) X ∧
      (Instr.lookup 56 (.map q) (vaV x y z) true).run Try.prog X = .ok (.tuple #[.agg #[], .bool false]) X := fun X hX => by
    have g4 := b4.below hX b4.lt
    have g5 := b5.below hX b5.lt
    have g := h2.later hX
    have l1 := om_look g.om hd
    have l2 : (Instr.lookup 56 (.map q) (vaV x y z) true).run Try.prog X = .ok (.tuple #[.agg #[], .bool false]) X := by
      cases q with
      | none => exact kv_nil X (by omega) (by omega) (by omega)
      | some B =>
        have l2 := kv_look (g.kv d B hq) (x := x) (y := y) (z := z) (by omega) (by omega) (by omega)
        rwa [decide_eq_false hin] at l2
    rw [hq] at l1
    exact ⟨g.blk.cell 3, ops_range g4, ⟨g5.cell 0, g5.cell 1, g5.cell 2⟩, l1, l2⟩
  obtain ⟨m, hm9⟩ : ∃ m, t.length = m := ⟨_, rfl⟩
  rw [hm9] at ht
  have hrow := h1.row
  obtain ⟨pv, cv, rfl⟩ := owns_slice hrow
  rw [hm9] at h2
  have q0 := h2.blk.cell 0
  have q2 := h2.blk.cell 2
  have hSl := h2.blk.lt
  have hmn : ((m : Int) == (n : Int)) = false := by simp; omega
  have q3 := (hmk w1 (Below.refl _ _)).1
  have hou := op_under
  have hoi := ops_info d
  clear h1 h2 h2o hB1 hm b4 b5 hrow hq
  go_enter Try.func15, Try.ntmps15
  go_wp2_with fail
  go_big_quiet (fail)
  go_wp2_with fail
  obtain ⟨wq, hwq⟩ : ∃ wq, w1.drewN nq = wq := ⟨_, rfl⟩
  have hBq : Below w1.heap.size w1 wq := hwq ▸ bel_drN (Below.refl _ _) _
  have hmq := fun X (hX : Below wq.heap.size wq X) => hmk X (bel_on hBq hX)
  simp only [hwq]
  clear hmk hwq
  go_cut [7, 8] from 24 to 34 (fun _ u w' => u = .bool false ∧ Below w1.heap.size w1 w')
  case first =>
    go_region_held3 (fun X => X.cell? ⟨S, 3, none⟩ = some (.map (some Mb)) ∧
      X.rangeAt w.heap.size 0 (opsL d) ∧
      (X.cell? ⟨w.heap.size + 1, 0, none⟩ = some (.int .i64 (x : Nat)) ∧ X.cell? ⟨w.heap.size + 1, 1, none⟩ = some (.int .i64 (y : Nat)) ∧ X.cell? ⟨w.heap.size + 1, 2, none⟩ = some (.int .i64 (z : Nat))) ∧
      (Instr.lookup 44 (.map (some Mb)) (.agg (opsL d).toArray) false).run Try.prog X = .ok (.map q) X ∧
      (Instr.lookup 56 (.map q) (vaV x y z) true).run Try.prog X = .ok (.tuple #[.agg #[], .bool false]) X) (exact hmq _ (by repeat first | exact Below.refl _ _ | apply bel_al | apply Below.drew | apply bel_drN)) (fail)
    all_goals (go_wp2_with fail; go_meet; all_goals exact ⟨rfl, by repeat first | exact hBq | apply bel_al | apply Below.drew | apply bel_drN⟩)
  case rest =>
    obtain ⟨rfl, hBc⟩ := hcut
    have HFc : Hid (FI all h O S (.slice p n cap) t c k d x y z w 0 wc) := HFI.out.later hBc
    have qc0 : wc.cell? ⟨S, 0, none⟩ = some (.slice p n cap) := (hBc.cell (p := ⟨S, 0, none⟩) hSl).trans q0
    have HIN : Hid ([x, y, z] ∉ L d) := hin
    clear hmq hou hoi q0 q2 q3 hmn hBc hBq HFI hin
    go_wp2_with fail
    go_loopw [41] (fun u wr => ∃ i : Nat, u = .int .i64 i ∧ i ≤ n ∧ Hid (FI all h O S (.slice p n cap) t c k d x y z w i wr)) (fun u _ => n - (intOf u).toNat)
    case atStart => exact ⟨0, rfl, Nat.zero_le _, HFc⟩
    case round =>
      clear qc0 HFc
      obtain ⟨i, rfl, hi, HF⟩ := hrel
      by_cases hlt : i < n
      · obtain ⟨L', c', hs', hm', hc'⟩ := HF.out.ex
        obtain ⟨v, Mb, ib, g1⟩ := hs'
        have hhas := HF.out.has hc hOb hbase
        have hn10 : h.length ≤ 10 := hk.len
        obtain ⟨b, off, rfl, hb9, hop⟩ := hhas i (by rw [hz_len]; omega)
        rw [oAt_hzO] at hop
        have hob3 := hk.ob i
        have hva := hk.va i
        obtain ⟨A, hA⟩ : ∃ A, M.hop h i = A := ⟨_, rfl⟩
        have HA : Hid (M.hop h i = A) := hA
        rw [hA] at hop hob3 hva
        obtain ⟨pr, ob, wt, va, fr, te⟩ := A
        simp only [hzO] at hop
        simp only at hob3 hva
        obtain ⟨hbl, k0, k1, k2, k3, k4, k5⟩ := hop
        obtain ⟨wx, hwx⟩ : ∃ wx, wr.alloc (.cells #[.int .i64 (pr : Nat), .int .i64 (ob : Nat), .int .i64 (wt : Nat), .int .i64 (va : Nat), .int .i64 (fr : Nat), .int .i64 (te : Nat)] 33) = wx := ⟨_, rfl⟩
        have hBx : Below wr.heap.size wr wx := hwx ▸ bel_al (Below.refl _ _) _
        have FX : Hid (FI all h O S (.slice (some ⟨b, off, none⟩) n cap) t c k d x y z w i wx) := HF.out.later hBx
        have ox : OpAt (hzO ⟨pr, ob, wt, va, fr, te⟩) wr.heap.size 0 wx := hwx ▸ opAt_new wr (hzO ⟨pr, ob, wt, va, fr, te⟩)
        have gx := g1.later hBx
        have hhx : HasO (hz h) (some ⟨b, off, none⟩) wx := (hhas.later hBx (by have := HF.out.b4.lt; omega)).a
        have hcall := mayCome_ok all h (some ⟨b, off, none⟩) n cap S Mb v i d x y z wx hl hk hhx gx.blk hlt
        have b4 := FX.out.b4
        have b5 := FX.out.b5
        have o0 := b4.cell 0
        have o1 := b4.cell 1
        have o2 := b4.cell 2
        have o3 := b4.cell 3
        have o4 := b4.cell 4
        have o5 := b4.cell 5
        have o6 := b4.cell 6
        have o7 := b4.cell 7
        have o8 := b4.cell 8
        have o9 := b4.cell 9
        have v0 := b5.cell 0
        have v1 := b5.cell 1
        have v2 := b5.cell 2
        have hin9 : (i : Int) < (n : Int) := by omega
        have HOX : Hid (OpAt (hzO ⟨pr, ob, wt, va, fr, te⟩) wr.heap.size 0 wx) := ox
        have HGX : Hid (Sr (O1 O w.heap.size) S (.slice (some ⟨b, off, none⟩) n cap) (bfV all) t L' c' v Mb ib wx) := gx
        clear b4 b5 gx hhx hhas hA ox g1
        cases hg : M.goB all h d (M.vf [x, y, z]) i with
        | false =>
          have HS : Hid (FI all h O S (.slice (some ⟨b, off, none⟩) n cap) t c k d x y z w (i + 1) wx) := FX.out.skip hg
          rw [hg] at hcall
          clear hg
          go_wp2_with fail
          refine hcall.mono ?_
          rintro e w2 ⟨rfl, hB2⟩
          have HS2 : Hid (FI all h O S (.slice (some ⟨b, off, none⟩) n cap) t c k d x y z w (i + 1) w2) := HS.out.later hB2
          clear hB2 hcall
          go_wp2_with fail
          go_roundw
          case rel => exact ⟨i + 1, by go_num, by omega, HS2⟩
          case measure => simp [intOf]; omega
        | true =>
          rw [hg] at hcall
          have HGO : Hid (M.goB all h d (M.vf [x, y, z]) i = true) := hg
          clear hg
          go_wp2_with fail
          refine hcall.mono ?_
          rintro e w2 ⟨rfl, hB2⟩
          have F2 : Hid (FI all h O S (.slice (some ⟨b, off, none⟩) n cap) t c k d x y z w i w2) := FX.out.later hB2
          have G2 : Hid (Sr (O1 O w.heap.size) S (.slice (some ⟨b, off, none⟩) n cap) (bfV all) t L' c' v Mb ib w2) := HGX.out.later hB2
          have X2 : Hid (OpAt (hzO ⟨pr, ob, wt, va, fr, te⟩) wr.heap.size 0 w2) := HOX.out.later hB2 HOX.out.lt
          have b4 := F2.out.b4
          have b5 := F2.out.b5
          clear hcall o0 o1 o2 o3 o4 o5 o6 o7 o8 o9 v0 v1 v2 hB2 HF FX HGX HOX hwx hBx k0 k1 k2 k3 k4 k5
          have o0 := b4.cell 0
          have o1 := b4.cell 1
          have o2 := b4.cell 2
          have o3 := b4.cell 3
          have o4 := b4.cell 4
          have o5 := b4.cell 5
          have o6 := b4.cell 6
          have o7 := b4.cell 7
          have o8 := b4.cell 8
          have o9 := b4.cell 9
          have v0 := b5.cell 0
          have v1 := b5.cell 1
          have v2 := b5.cell 2
          have l4 := b4.lt
          have l5 := b5.lt
          clear b4 b5
          go_wp2_with fail
          go_cut [11, 12] from 52 to 53 (fun a c w' => ∃ A B, a = .pointer (some ⟨A, 0, none⟩) ∧ c = .pointer (some ⟨B, 0, none⟩) ∧ Blk w' A (opsC d) 49 ∧ Blk w' B (vaC x y z) 51 ∧ A ≠ B ∧ w2.heap.size ≤ A ∧ w2.heap.size ≤ B ∧ Below w2.heap.size w2 w')
          case first =>
            have T1 := blk_two w2 (opsC d) (vaC x y z) 49 51
            have T2 := blk_two w2 (vaC x y z) (opsC d) 51 49
            have HT1 : Hid _ := T1
            have HT2 : Hid _ := T2
            clear T1 T2
            go_region
            · go_wp2_with fail
              go_meet
              exact ⟨_, _, rfl, rfl, HT1.out.1, HT1.out.2.1, by omega, by omega, by omega, HT1.out.2.2⟩
            · go_wp2_with fail
              go_meet
              exact ⟨_, _, rfl, rfl, HT2.out.2.1, HT2.out.1, by omega, by omega, by omega, HT2.out.2.2⟩
          case rest =>
            obtain ⟨A, B, rfl, rfl, bA, bB, hAB, hA2, hB2, hBc⟩ := hcut
            have FC : Hid (FI all h O S (.slice (some ⟨b, off, none⟩) n cap) t c k d x y z w i wc) := F2.out.later hBc
            have GC : Hid (Sr (O1 O w.heap.size) S (.slice (some ⟨b, off, none⟩) n cap) (bfV all) t L' c' v Mb ib wc) := G2.out.later hBc
            have XC : OpAt (hzO ⟨pr, ob, wt, va, fr, te⟩) wr.heap.size 0 wc := X2.out.later hBc X2.out.lt
            have HS2 : Hid (S < w2.heap.size) := G2.out.blk.lt
            have HX2 : Hid (wr.heap.size < w2.heap.size) := X2.out.lt
            have hi10 : (i : Int) < 10 := by omega
            have hob9 : (ob : Int) < 3 := by omega
            obtain ⟨w4, hw4⟩ : ∃ w4, wc.setCell ⟨A, i, none⟩ (.bool true) = w4 := ⟨_, rfl⟩
            obtain ⟨w5, hw5⟩ : ∃ w5, w4.setCell ⟨B, ob, none⟩ (.int .i64 (va : Nat)) = w5 := ⟨_, rfl⟩
            have eA := bA.cell i
            rw [opsC_get d i (by omega)] at eA
            have fA := bA.frozen i
            have bA4 : Blk w4 A (opsC (d ||| 2 ^ i)) 49 := by
              rw [← hw4, ← opsC_set d i (by omega)]; exact bA.set i _
            have bB4 : Blk w4 B (vaC x y z) 51 := by rw [← hw4]; exact bB.other (Ne.symm hAB) _
            have eB := bB4.cell ob
            rw [vaC_get x y z ob hob3] at eB
            have fB := bB4.frozen ob
            have bA5 : Blk w5 A (opsC (d ||| 2 ^ i)) 49 := by rw [← hw5]; exact bA4.other hAB _
            have bB5 : Blk w5 B (vaC (nv ob va 0 x) (nv ob va 1 y) (nv ob va 2 z)) 51 := by
              rw [← hw5, ← vaC_set x y z ob va hob3]; exact bB4.set ob _
            have bel5 : ∀ K, K < w2.heap.size → w5.heap[K]? = wc.heap[K]? := fun K hK => by
              rw [← hw5, ← hw4]
              exact (Below.heap_setCell _ _ _ _ (show K ≠ B by omega)).trans (Below.heap_setCell _ _ _ _ (show K ≠ A by omega))
            have bel4 : ∀ K, K < w2.heap.size → w4.heap[K]? = wc.heap[K]? := fun K hK => by
              rw [← hw4]
              exact Below.heap_setCell _ _ _ _ (show K ≠ A by omega)
            have k1 : w4.cell? ⟨wr.heap.size, 0 + 1, none⟩ = some (.int .i64 (ob : Nat)) := (World.cell?_of_block (a := ⟨wr.heap.size, 0 + 1, none⟩) (bel4 _ HX2.out)).trans XC.c1
            have k3 : w4.cell? ⟨wr.heap.size, 0 + 3, none⟩ = some (.int .i64 (va : Nat)) := (World.cell?_of_block (a := ⟨wr.heap.size, 0 + 3, none⟩) (bel4 _ HX2.out)).trans XC.c3
            have sz5 : w5.heap.size = wc.heap.size := by rw [← hw5, ← hw4]; simp [World.setCell]
            have szc := hBc.size
            have XL := XC.lt
            have hsz2 : w.heap.size + 2 ≤ w2.heap.size := F2.out.b5.lt
            have G5 : Hid (Sr (O1 O w.heap.size) S (.slice (some ⟨b, off, none⟩) n cap) (bfV all) t L' c' v Mb ib w5) := G2.out.at_ (fun K hK _ => (bel5 K hK).trans (hBc.block K hK))
            have oA : O1 O w.heap.size A := ⟨hO A (by omega), by omega, by omega⟩
            have oB : O1 O w.heap.size B := ⟨hO B (by omega), by omega, by omega⟩
            have R5 : Hid (Frm (O1 O w.heap.size) w2 w5) := by
              rw [← hw5, ← hw4]
              exact ((Frm.of_below hBc).set (p := ⟨A, i, none⟩) oA _).set (p := ⟨B, ob, none⟩) oB _
            have HTM : Hid (t.length + (k + 1) = n) := by rw [hm9]; exact ht
            have hrow := G5.out.row
            obtain ⟨pv2, cv2, rfl⟩ := owns_slice hrow
            have q25 := G5.out.blk.cell 2
            have hS5 := G5.out.blk.lt
            have htl : t.length ≤ 10 := by omega
            obtain ⟨i0, hi0, hiz0, hiz1, hiz2⟩ := infoIh_parts infoIh
            have FIN : Hid (∀ g cap2 w6, w6.ownsRow 0 3 1 (.slice (some ⟨g, 0, none⟩) (t.length + 1) cap2) (t.length + 1) (icells t ++ [.int .i64 (i : Nat)]) → (w5.alloc (.cells #[.int .i64 (i : Nat)] 3)).grownBy w6 (Value.slice pv2 t.length cv2).ownBlock → ((Value.slice pv2 t.length cv2).ownBlock = some g ∨ g = w5.heap.size + 1) →
                Sr (O1 O w.heap.size) S (.slice (some ⟨b, off, none⟩) n cap) (bfV all) (t ++ [i]) L' c' (.slice (some ⟨g, 0, none⟩) (t.length + 1) cap2) Mb ib (w6.setCell ⟨S, 2, none⟩ (.slice (some ⟨g, 0, none⟩) (t.length + 1) cap2)) ∧
                Frm (O1 O w.heap.size) w2 (w6.setCell ⟨S, 2, none⟩ (.slice (some ⟨g, 0, none⟩) (t.length + 1) cap2)) ∧
                Blk (w6.setCell ⟨S, 2, none⟩ (.slice (some ⟨g, 0, none⟩) (t.length + 1) cap2)) A (opsC (d ||| 2 ^ i)) 49 ∧ Blk (w6.setCell ⟨S, 2, none⟩ (.slice (some ⟨g, 0, none⟩) (t.length + 1) cap2)) B (vaC (nv ob va 0 x) (nv ob va 1 y) (nv ob va 2 z)) 51 ∧
                w6.cell? ⟨S, 2, none⟩ = some (.slice pv2 t.length cv2) ∧ w6.frozen? ⟨S, 2, none⟩ = false) := by
              intro g cap2 w6 ho hg hat
              have keep : ∀ K, K < w5.heap.size → (Value.slice pv2 t.length cv2).ownBlock ≠ some K → w6.heap[K]? = w5.heap[K]? := fun K hK hne => (hg.block K (Nat.lt_of_lt_of_le hK (by simp)) (Ne.symm hne)).trans (Below.heap_alloc w5 _ K hK)
              have og : O1 O w.heap.size g := by
                rcases hat with e | e
                · exact G5.out.oR g e
                · exact ⟨hO g (by omega), by omega, by omega⟩
              have rlt : ∀ K, (Value.slice pv2 t.length cv2).ownBlock = some K → K < w2.heap.size := fun K e => G2.out.ltR e
              have hS6 : Blk w6 S #[.slice (some ⟨b, off, none⟩) n cap, bfV all, .slice pv2 t.length cv2, .map (some Mb)] 46 := (keep S hS5 G5.out.neSR).trans G5.out.blk
              refine ⟨G5.out.push ho keep (by rcases hat with e | e; exact .inl e; exact .inr (by omega)) og, ?_, ?_, ?_, hS6.cell 2, hS6.frozen 2⟩
              · exact (((R5.out).alloc _).grown hg (fun K e => G5.out.oR K e)).set (p := ⟨S, 2, none⟩) G5.out.oS _
              · exact Blk.other ((keep A (by have := bA5.lt; omega) (fun e => by have := rlt A e; omega)).trans bA5) (show A ≠ S by have := HS2.out; omega) _
              · exact Blk.other ((keep B (by have := bB5.lt; omega) (fun e => by have := rlt B e; omega)).trans bB5) (show B ≠ S by have := HS2.out; omega) _
            clear sz5 szc bA bB bA4 bB4 bA5 bB5 hBc bel5 bel4 XC ht hm9 o0 o1 o2 o3 o4 o5 o6 o7 o8 o9 v0 v1 v2
            go_wp2_with (at_builtin; (refine wpList_append_lies _ rfl _ _ 23 rfl 0 3 i0 (.int .i64 0) 1 8 Try.underlying23 hi0 hiz0 hiz1 hiz2 rfl (by decide) (.slice pv2 t.length cv2) t.length (icells t) rfl (hrow.alloc _) ⟨w5.heap.size, 0, none⟩ 1 1 [.int .i64 (i : Nat)] rfl rfl (World.news_of_block (cs := #[.int .i64 (i : Nat)]) (t := 3) (fr := (0, 0)) (heap_alloc_new w5 _)) (by simp [Value.oneCell']) (by omega) (by unfold maxLen; omega) (by omega) (Nat.zero_le _) (w5.heap.size + 1) (by simp) ?_))
            intro g cap2 w6 ho hg hat _
            obtain ⟨s7, f7, a7, b7, q26, f26⟩ := FIN.out g cap2 w6 ho hg hat
            obtain ⟨w7, hw7⟩ : ∃ w7, w6.setCell ⟨S, 2, none⟩ (.slice (some ⟨g, 0, none⟩) (t.length + 1) cap2) = w7 := ⟨_, rfl⟩
            rw [hw7] at s7 f7 a7 b7
            have ho9 : ob < 3 := hob3
            have hhas := F2.out.has hc hOb hbase
            have hh7 : HasOb base (hz h) (some ⟨b, off, none⟩) w7 := hhas.later (f7.below (N := base) (by omega) (fun K hK ho => by have := hOb K ho.1; omega)) (Nat.le_refl _)
            have hnew := (M.goB_iff.1 HGO.out).new
            have h7s : w2.heap.size ≤ w7.heap.size := f7.size
            have HC' : Hid (c' ≤ c + i * tryT k) := hc'
            have hc' : c' + tryT k ≤ 70368744177664 := by
              have h1 : tryT (k + 1) = 10 * tryT k + 2 := rfl
              have h2 : i * tryT k ≤ 9 * tryT k := Nat.mul_le_mul_right _ (by omega)
              have h3 := HC'.out
              omega
            have hrec := ih (O1 O w.heap.size) (d ||| 2 ^ i) (nv ob va 0 x) (nv ob va 1 y) (nv ob va 2 z) (t ++ [i]) L' c' w7 ⟨_, _, _, s7⟩ (fun K hK => hOb K hK.1) hh7 (fun K hK => ⟨hO K (by omega), by omega, by omega⟩) (by rw [List.length_append]; have := HTM.out; simp; omega)
              (or_lt hd (by omega)) (by rw [← hl]; exact M.done_next (by omega) hnew (by rw [hl]; exact hcn)) (nv_lt hx hva) (nv_lt hy hva) (nv_lt hz0 hva) hm' hc'
            rw [vf_nv x y z ob va hob3] at hrec
            have o0 := a7.cell 0
            have o1 := a7.cell 1
            have o2 := a7.cell 2
            have o3 := a7.cell 3
            have o4 := a7.cell 4
            have o5 := a7.cell 5
            have o6 := a7.cell 6
            have o7 := a7.cell 7
            have o8 := a7.cell 8
            have o9 := a7.cell 9
            have v0 := b7.cell 0
            have v1 := b7.cell 1
            have v2 := b7.cell 2
            have al := a7.lt
            have bl := b7.lt
            have F7 : Hid (Frm (O1 O w.heap.size) w2 w7) := f7
            have F9 : Hid (Frm O w w7) := F2.out.frm.trans (f7.mono (fun _ _ h => h.1))
            have HC9 : Hid (c' + tryT k ≤ c + i * tryT k + tryT k) := by show _ ≤ _; have := HC'.out; omega
            have HC8 : Hid (c' + tryT k ≤ c + tryT (k + 1)) := by
              have h1 : tryT (k + 1) = 10 * tryT k + 2 := rfl
              have h2 : i * tryT k ≤ 9 * tryT k := Nat.mul_le_mul_right _ (by omega)
              have h3 := HC'.out
              show _ ≤ _
              omega
            obtain ⟨R, hR⟩ : ∃ R, M.best all h k (d ||| 2 ^ i) (M.setv (M.vf [x, y, z]) ob va) = R := ⟨_, rfl⟩
            have HBR : Hid (M.best all h k (d ||| 2 ^ i) (M.setv (M.vf [x, y, z]) (M.hop h i).ob (M.hop h i).va) = R) := by show _ = _; rw [HA.out]; exact hR
            rw [hR] at hrec
            have hS7 : S < w7.heap.size := by have := HS2.out; omega
            clear s7 f7 hR hnew hc' hm' hh7 hhas ho hg hat FIN q25 hS5 hrow eA fA eB fB k1 k3 hw4 hw5 a7 b7 hi0 hiz0 hiz1 hiz2 R5 G5 GC FC
            cases R with
            | some l =>
              have HB : Hid (M.best all h (k + 1) d (M.vf [x, y, z]) = some (i :: l)) := M.best_first (by omega) HGO.out HBR.out (fun j hj hg => F2.out.no j hj hg)
              go_wp2_with fail
              refine hrec.mono ?_
              rintro e w8 ⟨rfl, ⟨L8, s8, m8⟩, f8⟩
              have HEND : Hid ((∃ L', SV O S (.slice (some ⟨b, off, none⟩) n cap) (bfV all) (M.told t (M.best all h (k + 1) d (M.vf [x, y, z]))) L' (c + tryT (k + 1)) w8 ∧ M.Memo all h (fun e l => l ∈ L' e)) ∧ Frm O w w8) := by
                show _ ∧ _
                rw [HB.out]
                refine ⟨⟨L8, ?_, m8⟩, F9.out.trans (f8.mono (fun _ _ h => h.1))⟩
                have := (s8.own (O' := O) (fun _ _ h => h.1)).mono HC8.out
                simpa [M.told] using this
              clear s8 m8 f8 hrec o0 o1 o2 o3 o4 o5 o6 o7 o8 o9 v0 v1 v2
              go_wp2_with fail
              go_ret
              exact ⟨by rw [HB.out]; rfl, HEND.out⟩
            | none =>
              go_wp2_with fail
              refine hrec.mono ?_
              rintro e w8 ⟨rfl, ⟨L8, ⟨v8, Mb8, ib8, s8⟩, m8⟩, f8⟩
              have s8' : Sr (O1 O w.heap.size) S (.slice (some ⟨b, off, none⟩) n cap) (bfV all) (t ++ [i]) L8 (c' + tryT k) v8 Mb8 ib8 w8 := s8
              obtain ⟨g8, cap8, rfl, hc81, hc82⟩ := s8'.slice
              have HS9 : Hid (FI all h O S (.slice (some ⟨b, off, none⟩) n cap) t c k d x y z w (i + 1) (w8.drew.setCell ⟨S, 2, none⟩ (.slice (some ⟨g8, 0, none⟩) t.length cap8))) := by
                have p8 : Sr (O1 O w.heap.size) S (.slice (some ⟨b, off, none⟩) n cap) (bfV all) (t ++ [i]) L8 (c' + tryT k) (.slice (some ⟨g8, 0, none⟩) (t.length + 1) cap8) Mb8 ib8 w8.drew := s8'.later (Below.refl _ _).drew
                have p9 := p8.pop
                have r9 : Frm (O1 O w.heap.size) w2 (w8.drew.setCell ⟨S, 2, none⟩ (.slice (some ⟨g8, 0, none⟩) t.length cap8)) := ((F7.out.trans f8).drew).set (p := ⟨S, 2, none⟩) s8'.oS _
                exact F2.out.tried ⟨_, _, _, p9⟩ m8 HC9.out (F2.out.frm.trans (r9.mono (fun _ _ h => h.1))) r9 HBR.out
              have q8 := s8'.blk.cell 2
              have f82 := s8'.blk.frozen 2
              have l8 := s8'.blk.lt
              have hc0 : (cap8 = 0) = False := by simp; omega
              have hcI : ((t.length : Nat) : Int) ≤ (cap8 : Int) := by omega
              clear s8 s8' m8 f8 hrec o0 o1 o2 o3 o4 o5 o6 o7 o8 o9 v0 v1 v2
              go_wp2_with fail
              go_region
              go_wp2_with fail
              go_roundw
              case rel => exact ⟨i + 1, by go_num, by omega, HS9⟩
              case measure => simp [intOf]; omega
      · obtain rfl : i = n := by omega
        have hn10 : h.length ≤ 10 := hk.len
        have hno : M.best all h (k + 1) d (M.vf [x, y, z]) = none := M.best_fail (fun j hj hg => HF.out.no j (by omega) hg)
        have HNO : Hid (M.best all h (k + 1) d (M.vf [x, y, z]) = none) := hno
        obtain ⟨L', c', hs', hm', hc'⟩ := HF.out.ex
        have hTT : tryT (k + 1) = 10 * tryT k + 2 := rfl
        have hiT : i * tryT k ≤ 10 * tryT k := Nat.mul_le_mul_right _ (by omega)
        have b4 := HF.out.b4
        have b5 := HF.out.b5
        have o0 := b4.cell 0
        have o1 := b4.cell 1
        have o2 := b4.cell 2
        have o3 := b4.cell 3
        have o4 := b4.cell 4
        have o5 := b4.cell 5
        have o6 := b4.cell 6
        have o7 := b4.cell 7
        have o8 := b4.cell 8
        have o9 := b4.cell 9
        have v0 := b5.cell 0
        have v1 := b5.cell 1
        have v2 := b5.cell 2
        have hsz : w.heap.size + 2 ≤ wr.heap.size := b5.lt
        have hcall := giveUp_ok d x y z wr hs' hd (by omega) (by omega) (by omega) (by omega) (fun b hb => ⟨hO b (by omega), by omega, by omega⟩)
        have HEND : Hid (∀ w', SV (O1 O w.heap.size) S (.slice p i cap) (bfV all) t (moreL L' d [x, y, z]) (c' + 2) w' → Frm (O1 O w.heap.size) wr w' →
            (∃ L', SV O S (.slice p i cap) (bfV all) (M.told t (M.best all h (k + 1) d (M.vf [x, y, z]))) L' (c + tryT (k + 1)) w' ∧ M.Memo all h (fun e l => l ∈ L' e)) ∧ Frm O w w') := fun w' h1 h2 => by
          rw [hno]
          exact ⟨⟨_, (h1.own (fun _ _ h => h.1)).mono (by omega), memo_more hm' (by rw [hl]; exact hcn) hno⟩, HF.out.frm.trans (h2.mono (fun _ _ h => h.1))⟩
        clear b4 b5 hs' hm' hc' hiT hTT hno
        go_wp2_with fail
        refine hcall.mono ?_
        rintro e w9 ⟨⟨u, rfl⟩, hs9, hf9⟩
        have HE9 : Hid _ := HEND.out w9 hs9 hf9
        clear hs9 hf9 HEND hcall o0 o1 o2 o3 o4 o5 o6 o7 o8 o9 v0 v1 v2
        go_wp2_with fail
        go_ret
        exact ⟨by rw [HNO.out]; rfl, HE9.out⟩
end Go.Proofs.Ytdbejgidgajhlaa
