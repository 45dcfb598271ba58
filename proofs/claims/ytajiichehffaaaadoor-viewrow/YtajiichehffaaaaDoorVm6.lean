/- Who wrote over what one read (package view, wroteOver). -/
import Derived.Test.YtajiichehffaaaaDoorVm4
namespace Go.Proofs.YtajiichehffaaaaDoor
open Go.RowKit
set_option maxRecDepth 100000 in
set_option maxHeartbeats 4000000 in
theorem vover_ok {O : Nat → Prop} {S : Nat} {s : M.Vw} (t : Nat) (w : World) (h : VV O S s w) (hI : M.VI s) (ht : t < 5) :
    Calls Tryd.prog 35 #[.pointer (some ⟨S, 0, none⟩), .int .i64 (t : Nat)] w fun e w' => e = .returned (.int .i64 (M.laterS s t : Nat)) ∧ Below w.heap.size w w' := by
  have HV : Hid (VV O S s w) := h
  have HI : Hid (M.VI s) := hI
  obtain ⟨p, c, v1, _⟩ := h.parts
  have cr := v1.ro
  have hlen := hI.len
  have l1 := v1.lt
  obtain ⟨L, hL⟩ : ∃ L, s.ro.length = L := ⟨_, rfl⟩
  have hrow := row_at rfl v1.row
  rw [hL] at hrow
  have hLc : L ≤ c := by rcases hrow with ⟨_, h2, h3⟩ | ⟨g, _, h2, _⟩ <;> omega
  have hse := hI.se t
  rw [hL] at cr hlen hse
  have HL : Hid (s.ro.length = L ∧ w.cell? ⟨S, 20, none⟩ = some (.slice p L c)) := ⟨hL, cr⟩
  have b0 := v1.dg ht
  have b1 := v1.se ht
  have b2 := v1.rd ht
  have b3 := v1.wr ht
  have hti : (t : Int) < 5 := by omega
  obtain ⟨z, hz⟩ : ∃ z, s.se t = z := ⟨_, rfl⟩
  obtain ⟨x, hx⟩ : ∃ x, s.rd t = x := ⟨_, rfl⟩
  obtain ⟨d, hd⟩ : ∃ d, s.dg t = d := ⟨_, rfl⟩
  obtain ⟨y, hy⟩ : ∃ y, s.wr t = y := ⟨_, rfl⟩
  have HX : Hid (s.rd t = x ∧ x < 16 ∧ s.se t = z) := ⟨hx, by rw [← hx]; exact hI.rb t, hz⟩
  rw [hz] at b1 hse
  rw [hx] at b2
  rw [hd] at b0
  rw [hy] at b3
  have HRW : Hid _ := hrow
  have hzi : (z : Int) ≤ L := by omega
  have hzc : (z : Int) ≤ c := by omega
  clear hL v1 h hI hrow hz hx hd hy
  go_enter Tryd.func35, Tryd.ntmps35
  go_wp2_with fail
  go_region
  obtain ⟨w2, hw2⟩ : ∃ w2, (w.alloc (.cells #[.int .i64 (d : Nat), .int .i64 (z : Nat), .int .i64 (x : Nat), .int .i64 (y : Nat)] 54)).drew = w2 := ⟨_, rfl⟩
  rw [hw2]
  have B2 : Hid (Below w.heap.size w w2) := by rw [← hw2]; exact (bel_al (Below.refl _ _) _).drew
  have q1 : w2.cell? ⟨w.heap.size, 1, none⟩ = some (.int .i64 (z : Nat)) := by
    rw [← hw2]; show (w.alloc _).cell? _ = _; rw [cell_of_row _ _ _ _ _ _ (World.alloc_heap_new w _)]; rfl
  have q2 : w2.cell? ⟨w.heap.size, 2, none⟩ = some (.int .i64 (x : Nat)) := by
    rw [← hw2]; show (w.alloc _).cell? _ = _; rw [cell_of_row _ _ _ _ _ _ (World.alloc_heap_new w _)]; rfl
  have l2 : w.heap.size < w2.heap.size := by rw [← hw2]; show _ < (w.alloc _).heap.size; simp
  have ls2 : S < w2.heap.size := by omega
  have cr2 := (B2.out.cell (p := ⟨S, 20, none⟩) l1).trans cr
  clear hw2 b0 b1 b2 b3 cr
  go_wp2_with fail
  go_quiet (fail)
  obtain ⟨P, hP⟩ : ∃ P, (if c = z then p else Option.map (fun x => x.add z) p) = P := ⟨_, rfl⟩
  obtain ⟨m, hm⟩ : ∃ m, L - z = m := ⟨_, rfl⟩
  obtain ⟨cc, hcc⟩ : ∃ cc, c - z = cc := ⟨_, rfl⟩
  rw [hP, hm, hcc]
  have HP : Hid (∀ k, k < m → ∀ g, p = some ⟨g, 0, none⟩ → P = some ⟨g, z, none⟩) := fun k hk g hg => by
    rw [← hP, if_neg (by omega), hg]
    simp [Addr.add]
    exact fun e => e.symm
  clear hP
  have HB0 : Hid (Below (w.heap.size + 1) w2 (w2.drewN nq)) := belowEq rfl rfl rfl rfl
  obtain ⟨wq, hwq⟩ : ∃ wq, w2.drewN nq = wq := ⟨_, rfl⟩
  rw [hwq] at HB0 ⊢
  clear hwq cr2 q1
  have HM : Hid (L - z = m) := hm
  have hm5 : m ≤ 5 := by omega
  clear hm
  go_wp2_with fail
  go_loopw [5, 23] (fun u' v wr => ∃ k q : Nat, u' = .int .i64 (q : Nat) ∧ v = .int .i64 (k : Nat) ∧ k ≤ m ∧ Hid (M.orL ((s.ro.drop z).take k) (M.ltF s t) = q) ∧ Hid (Below (w.heap.size + 1) w2 wr)) (fun _ v _ => m - (intOf v).toNat)
  case atStart => exact ⟨0, 0, rfl, rfl, Nat.zero_le _, (rfl : M.orL ((s.ro.drop z).take 0) (M.ltF s t) = 0), HB0⟩
  case round =>
    clear HB0
    obtain ⟨k, q, rfl, rfl, hk, hq, HB2⟩ := hrel
    have HB : Hid (Below w.heap.size w wr) := B2.out.trans (HB2.out.mono (by omega))
    by_cases hlt : k < m
    · obtain ⟨g, b, hpg, _, hb, hb5, hg, c0, _, _, c3⟩ := HV.out.place HI.out HL.out.2 HL.out.1 HB.out (show z + k < L by have := HM.out; omega)
      obtain rfl := HP.out k hlt g hpg
      have HPG : Hid (p = some ⟨g, 0, none⟩) := hpg
      have hki : (k : Int) < m := by omega
      have hui : (b : Int) < 5 := by omega
      have hls : S < wr.heap.size := by have := HB.out.size; omega
      have hlA : w.heap.size < wr.heap.size := by have := HB2.out.size; omega
      have qx := (HB2.out.cell (p := ⟨w.heap.size, 2, none⟩) (show w.heap.size < w.heap.size + 1 by omega)).trans q2
      have hq32 : q < 32 := by rw [← hq.out]; exact HI.out.orS_lt _ _ _
      have hw16 := HI.out.wb b
      obtain ⟨y, hy⟩ : ∃ y, s.wr b = y := ⟨_, rfl⟩
      rw [hy] at c3 hw16
      have hF : M.ltF s t b = (b != t && (y &&& x) != 0) := by unfold M.ltF; rw [hy, HX.out.1]
      have hand := i64_and_nat y x (by omega) (by have := HX.out.2; omega)
      obtain ⟨r, hr⟩ : ∃ r, y &&& x = r := ⟨_, rfl⟩
      rw [hr] at hand hF
      have hor := i64_or_nat q (1 <<< b) (by omega) (by have := one32 hb5; omega)
      have hsh : IntKind.i64.wrap (2 ^ b) = ((1 <<< b : Nat) : Int) := i64_shl b (by omega)
      have hzk : z + k < s.ro.length := by have := HL.out.1; have := HM.out; omega
      have HQ1 : M.ltF s t b = true → M.orL ((s.ro.drop z).take (k + 1)) (M.ltF s t) = q ||| 1 <<< b := fun e1 => by
        rw [M.orS_yes hzk hb e1, hq.out]
      have HQ0 : M.ltF s t b = false → M.orL ((s.ro.drop z).take (k + 1)) (M.ltF s t) = q := fun e1 => by
        rw [M.orS_no hzk hb e1, hq.out]
      clear hr hy hb hq hpg HB hzk
      by_cases hc : b = t
      · have hcd : ((b : Int) != (t : Int)) = false := by simp [hc]
        have hcd' : (b != t) = false := by simp [hc]
        have HQ : Hid (M.orL ((s.ro.drop z).take (k + 1)) (M.ltF s t) = q) := HQ0 (by rw [hF, hcd']; rfl)
        clear HQ0 HQ1 hF hc hor hsh hand
        go_wp2_with fail
        go_quiet (fail)
        go_wp2_with fail
        go_roundw
        case rel => exact ⟨k + 1, q, rfl, by go_num, by omega, HQ, belowOn HB2.out rfl rfl rfl rfl⟩
        case measure => simp [intOf]; omega
      · have hcd : ((b : Int) != (t : Int)) = true := by simp; omega
        have hcd' : (b != t) = true := by simp [hc]
        by_cases hr0 : r = 0
        · have hg0 : ((r : Int) != 0) = false := by simp [hr0]
          have HQ : Hid (M.orL ((s.ro.drop z).take (k + 1)) (M.ltF s t) = q) := HQ0 (by rw [hF, hr0]; simp)
          clear hr0 HQ0 HQ1 hF hc hor hsh
          go_wp2_with fail
          go_quiet (fail)
          go_wp2_with fail
          go_roundw
          case rel => exact ⟨k + 1, q, rfl, by go_num, by omega, HQ, belowOn HB2.out rfl rfl rfl rfl⟩
          case measure => simp [intOf]; omega
        · have hg0 : ((r : Int) != 0) = true := by simp [hr0]
          have HQ : Hid (M.orL ((s.ro.drop z).take (k + 1)) (M.ltF s t) = q ||| 1 <<< b) := HQ1 (by rw [hF, hcd']; simp [hr0])
          obtain ⟨z', hz⟩ : ∃ z, 1 <<< b = z := ⟨_, rfl⟩
          obtain ⟨r2, hr2⟩ : ∃ r, q ||| z' = r := ⟨_, rfl⟩
          rw [hz] at hor hsh HQ
          rw [hr2] at hor HQ
          clear hr0 HQ0 HQ1 hF hc hz hr2
          go_wp2_with fail
          go_quiet (fail)
          go_wp2_with fail
          go_roundw
          case rel => exact ⟨k + 1, r2, rfl, by go_num, by omega, HQ, belowOn HB2.out rfl rfl rfl rfl⟩
          case measure => simp [intOf]; omega
    · obtain rfl : k = m := by omega
      have HQ : Hid (M.laterS s t = q) := by
        show _ = _
        unfold M.laterS
        rw [HX.out.2.2, ← hq.out, M.orS_all (by have := HL.out.1; have := HM.out; omega)]
      clear hq
      go_wp2_with fail
      go_ret
      exact ⟨by rw [HQ.out]; rfl, HB.out⟩
end Go.Proofs.YtajiichehffaaaaDoor
