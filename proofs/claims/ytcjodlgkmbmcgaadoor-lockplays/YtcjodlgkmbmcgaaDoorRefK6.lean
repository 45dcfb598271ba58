/- Who waits for whom, and who is stuck, at the document's own locks (whensteadref3.Waits, Stuck). -/
import Derived.Test.YtcjodlgkmbmcgaaDoorRefK5
import Derived.Test.YtcjodlgkmbmcgaaDoorRefClo
import Derived.Test.YtcjodlgkmbmcgaaDoorBRf
import Derived.Test.YtcjodlgkmbmcgaaDoorLo8
namespace Go.Proofs.YtcjodlgkmbmcgaaDoor
open Go.RowKit
theorem waits_row {s : M.Lk} {k : Nat} (h : k < 5) : M.row (M.wtR s) k = M.cnt01 5 (M.wtB s k) := by simp [M.row, M.wtR, h]
set_option maxRecDepth 100000 in
set_option maxHeartbeats 4000000 in
theorem rwaits_ok {G : Nat → Prop} {s : M.Lk} (v : LV) (w : World) (hR : RL G s v w) (hS : M.LG s) :
    Calls Tryd.prog 22 #[rlV s v] w fun e w' => ∃ p c, e = .returned (.slice p 5 c) ∧ Has (ints (M.wtR s)) p w' ∧ Below w.heap.size w w' := by
  obtain ⟨ph, ch, pw, cw, pa, ca⟩ := v
  obtain ⟨bw, ow, e1, hbw, _, hcw⟩ := hR.wa.at_ (by omega)
  simp only at e1
  subst e1
  obtain ⟨i0, hi0, hz0, hz1, hz2⟩ := info_parts Tryd.info3
  have hlen := M.wtR_len s
  have L0 := lb_alloc w 20 5 (M.frS s) s.ac.length ⟨ph, ch, some ⟨bw, ow, none⟩, cw, pa, ca⟩
  obtain ⟨w1, hw1⟩ : ∃ w1, w.alloc (.cells #[.slice ph 20 ch, .slice (some ⟨bw, ow, none⟩) 5 cw, .int .i64 (M.frS s : Nat), .slice pa s.ac.length ca] 46) = w1 := ⟨_, rfl⟩
  have B1 : Below w.heap.size w w1 := by rw [← hw1]; exact bel_al (Below.refl _ _) _
  rw [hw1] at L0
  have HR : Hid (RL G s ⟨ph, ch, some ⟨bw, ow, none⟩, cw, pa, ca⟩ w) := hR
  have HS : Hid (M.LG s) := hS
  have HL : Hid (LB w.heap.size 20 5 (M.frS s) s.ac.length ⟨ph, ch, some ⟨bw, ow, none⟩, cw, pa, ca⟩ w1 ∧ Below w.heap.size w w1) := ⟨L0, B1⟩
  have HC : Hid (∀ j, j < 5 → w.cell? ⟨bw, ow + j, none⟩ = some (.int .i64 ((s.wa j : Int) - 1))) := hcw
  clear hR hS L0 B1 hcw
  go_enter Tryd.func22, Tryd.ntmps22
  go_wp2_with fail
  go_loopw [3, 4] (fun a u wr => ∃ k : Nat, u = .int .i64 (k : Nat) ∧ k ≤ 5 ∧ Hid (wr.ownsRow w1.heap.size 3 1 a k (cellsOf (M.wtR s) k) ∧ Below w1.heap.size w1 wr)) (fun _ u _ => 5 - (intOf u).toNat)
  case atStart => exact ⟨0, rfl, Nat.zero_le _, ⟨World.ownsRow_nil _ _ _ _, Below.refl _ _⟩⟩
  case round =>
    obtain ⟨k, rfl, hk, HO⟩ := hrel
    have hB : Below w.heap.size w wr := HL.out.2.trans (HO.out.2.mono HL.out.2.size)
    by_cases hlt : k < 5
    case neg =>
      obtain rfl : k = 5 := by omega
      obtain ⟨p, c, rfl, hh⟩ := has_of_owns hlen HO.out.1
      have F : Hid (Has (ints (M.wtR s)) p wr ∧ Below w.heap.size w wr) := ⟨hh, hB⟩
      clear hh HO hB
      go_wp2_with fail
      go_ret
      exact ⟨p, c, rfl, F.out⟩
    have hki : (k : Int) < 5 := by omega
    have hL := HL.out.1.below HO.out.2
    have l0 := hL.c0
    have l1 := hL.c1
    have l2 := hL.c2
    have l3 := hL.c3
    simp only at l0 l1 l3
    have hlw := hL.lt
    have hc := (hB.cell (p := ⟨bw, ow + k, none⟩) hbw).trans (HC.out k hlt)
    have hbr : bw < wr.heap.size := Nat.lt_of_lt_of_le hbw hB.size
    have hrow := waits_row (s := s) hlt
    have hw8 := HS.out.wb k
    have hcs := cellsOf_succ (M.wtR s) k (by rw [hlen]; exact hlt)
    by_cases h0 : s.wa k = 0
    · have hr0 : M.row (M.wtR s) k = 0 := by rw [hrow]; exact M.wt_none (by simp [h0])
      rw [hr0] at hcs
      rw [h0] at hc
      have HCS : Hid (cellsOf (M.wtR s) (k + 1) = cellsOf (M.wtR s) k ++ [.int .i64 ((0 : Nat) : Int)]) := hcs
      have hcc : wr.cell? ⟨bw, ow + k, none⟩ = some (.int .i64 (-1)) := hc
      clear hc hrow hcs hr0 hL
      obtain ⟨xs, hxs⟩ : ∃ xs, cellsOf (M.wtR s) k = xs := ⟨_, rfl⟩
      rw [hxs] at HCS HO
      obtain ⟨ho, hbo⟩ := HO.out
      go_wp2_with (at_builtin; refine wpList_append_own _ rfl _ _ 31 rfl w1.heap.size 3 i0 (.int .i64 0) 1 8 Tryd.underlying31 hi0 hz0 hz1 hz2 rfl (by decide) _ _ _ rfl (ho.alloc _) ⟨wr.heap.size, 0, none⟩ 1 1 [.int .i64 0] rfl rfl (World.news_of_block (cs := #[.int .i64 0]) (t := 3) (fr := (0, 0)) (heap_alloc_new wr _)) (by simp [Value.oneCell']) (by unfold maxLen; omega) (by omega) (by have := hbo.size; simp; omega) ?_)
      intro v5 w5 hown5 hgrow5 _
      have hB5 : Below w1.heap.size w1 w5 := (hbo.alloc (by have := hbo.size; omega) _).grown hgrow5 (by have := hbo.size; simp; omega) (fun j e => (ho.lt j e).1)
      have H5 : Hid (w5.ownsRow w1.heap.size 3 1 v5 (k + 1) (cellsOf (M.wtR s) (k + 1)) ∧ Below w1.heap.size w1 w5) := ⟨by rw [HCS.out]; exact hown5, hB5⟩
      clear hown5 hgrow5 hB5 ho hbo HO HCS
      go_wp2_with fail
      go_roundw
      case rel => exact ⟨k + 1, by go_num, by omega, H5⟩
      case measure => simp [intOf]; omega
    · obtain ⟨n, hn⟩ : ∃ n, s.wa k = n + 1 := ⟨s.wa k - 1, by omega⟩
      have hr0 : M.row (M.wtR s) k = M.agS s k (n / 2) (n % 2) := by rw [hrow, M.wt_some (by simp [hn]), hn]; rfl
      rw [hr0] at hcs
      rw [hn, show (((n + 1 : Nat) : Int) - 1) = (n : Int) by omega] at hc
      have hag := fun w' (hb : Below wr.heap.size wr w') => ragainst_ok (G := G) (s := s) (M.frS s : Nat) k (n / 2) (n % 2) pa s.ac.length ca ch cw ph (some ⟨bw, ow, none⟩) w' (HR.out.later (hB.trans (hb.mono hB.size))).ho (by omega) (by omega)
      obtain ⟨x, hx⟩ : ∃ x, M.agS s k (n / 2) (n % 2) = x := ⟨_, rfl⟩
      rw [hx] at hcs hag
      have HCS : Hid (cellsOf (M.wtR s) (k + 1) = cellsOf (M.wtR s) k ++ [.int .i64 (x : Nat)]) := hcs
      have hn0 : (0 : Int) ≤ (n : Int) := by omega
      have q1 : (n : Int).tdiv 2 = ((n / 2 : Nat) : Int) := (Int.ofNat_tdiv n 2).symm
      have q2 : ((n : Int).tmod 2 == 1) = (n % 2 == 1) := by
        rw [show (n : Int).tmod 2 = ((n % 2 : Nat) : Int) from (Int.ofNat_tmod n 2).symm, Bool.eq_iff_iff, beq_iff_eq, beq_iff_eq]
        omega
      rw [← q1, ← q2] at hag
      clear q1 q2
      clear hrow hcs hr0 hL hx
      obtain ⟨xs, hxs⟩ : ∃ xs, cellsOf (M.wtR s) k = xs := ⟨_, rfl⟩
      rw [hxs] at HCS HO
      clear hxs
      go_wp2_with fail
      go_still_tail 15, (by kernel_rfl)
      go_wp2_with fail
      refine (hag _ (Below.refl _ _).drew).mono ?_
      rintro e w4 ⟨rfl, hB4⟩
      have hB4' : Below wr.heap.size wr w4 := bel_on (Below.refl _ _).drew hB4
      have HO4 : Hid (w4.ownsRow w1.heap.size 3 1 u3 k xs ∧ Below w1.heap.size w1 w4) := ⟨owns_below HO.out.1 hB4', HO.out.2.trans (hB4'.mono HO.out.2.size)⟩
      have hs4 := HO4.out.2.size
      clear hag hB4 hB4' HO hc l0 l1 l2 l3 hB
      go_wp2_with (at_builtin; refine wpList_append_own _ rfl _ _ 31 rfl w1.heap.size 3 i0 (.int .i64 0) 1 8 Tryd.underlying31 hi0 hz0 hz1 hz2 rfl (by decide) _ _ _ rfl (HO4.out.1.alloc _) ⟨w4.heap.size, 0, none⟩ 1 1 [.int .i64 (x : Nat)] rfl rfl (World.news_of_block (cs := #[.int .i64 (x : Nat)]) (t := 3) (fr := (0, 0)) (heap_alloc_new w4 _)) (by simp [Value.oneCell']) (by unfold maxLen; omega) (by omega) (by simp; omega) ?_)
      intro v5 w5 hown5 hgrow5 _
      have hB5 : Below w1.heap.size w1 w5 := (HO4.out.2.alloc (by omega) _).grown hgrow5 (by simp; omega) (fun j e => (HO4.out.1.lt j e).1)
      have H5 : Hid (w5.ownsRow w1.heap.size 3 1 v5 (k + 1) (cellsOf (M.wtR s) (k + 1)) ∧ Below w1.heap.size w1 w5) := ⟨by rw [HCS.out]; exact hown5, hB5⟩
      clear hown5 hgrow5 hB5 HO4 HCS
      go_wp2_with fail
      go_roundw
      case rel => exact ⟨k + 1, by go_num, by omega, H5⟩
      case measure => simp [intOf]; omega
set_option maxRecDepth 100000 in
set_option maxHeartbeats 4000000 in
theorem rstuck_ok {G : Nat → Prop} {s : M.Lk} (v : LV) (w : World) (hR : RL G s v w) (hS : M.LG s) :
    Calls Tryd.prog 23 #[rlV s v] w fun e w' => e = .returned (.int .i64 (M.stS s : Nat)) ∧ Below w.heap.size w w' := by
  have hwt := fun w' (hb : Below w.heap.size w w') => rwaits_ok v w' (hR.later hb) hS
  obtain ⟨ph, ch, pw, cw, pa, ca⟩ := v
  have hok := M.wtR_ok s
  have hlen := M.wtR_len s
  have HA : Hid (M.stS s = M.cnt01 5 (M.stB s)) := (rfl : M.stS s = _)
  obtain ⟨w1, hw1⟩ : ∃ w1, w.alloc (.cells #[.slice ph 20 ch, .slice pw 5 cw, .int .i64 (M.frS s : Nat), .slice pa s.ac.length ca] 46) = w1 := ⟨_, rfl⟩
  have B1 : Below w.heap.size w w1 := by rw [← hw1]; exact bel_al (Below.refl _ _) _
  have L0 := lb_alloc w 20 5 (M.frS s) s.ac.length ⟨ph, ch, pw, cw, pa, ca⟩
  rw [hw1] at L0
  have l0 := L0.c0
  have l1 := L0.c1
  have l2 := L0.c2
  have l3 := L0.c3
  simp only at l0 l1 l3
  have hlw := L0.lt
  clear hR hS L0
  go_enter Tryd.func23, Tryd.ntmps23
  go_wp2_with fail
  refine (hwt _ B1).mono ?_
  rintro e w2 ⟨p, c, rfl, hh, hB2⟩
  have HB2 : Hid (Below w.heap.size w w2) := B1.trans (hB2.mono B1.size)
  have hcl := closed_any (M.wtR s) p 5 c w2 hlen hok (by omega) hh
  clear hwt hh hB2 l0 l1 l2 l3 B1
  go_wp2_with fail
  refine hcl.mono ?_
  rintro e w3 ⟨q, c2, rfl, hh, hB3⟩
  have HH : Hid (Has (ints (M.clo (M.wtR s))) q w3 ∧ Below w.heap.size w w3) := ⟨hh, HB2.out.trans (hB3.mono HB2.out.size)⟩
  have hrl : ∀ k, k < 5 → M.row (M.clo (M.wtR s)) k < 32 := fun k hk => by have := M.clo_ok hok k; rw [M.clo_length, hlen] at this; exact this
  clear hcl hh hB3 HB2
  go_wp2_with fail
  go_loopw [4, 5] (fun a u wr => ∃ k d : Nat, u = .int .i64 (k : Nat) ∧ a = .int .i64 (d : Nat) ∧ k ≤ 5 ∧ Hid (M.cnt01 k (M.stB s) = d) ∧ wr = w3) (fun _ u _ => 5 - (intOf u).toNat)
  case atStart => exact ⟨0, 0, rfl, rfl, Nat.zero_le _, (rfl : M.cnt01 0 (M.stB s) = 0), rfl⟩
  case round =>
    obtain ⟨k, d, rfl, rfl, hk, hd, rfl⟩ := hrel
    by_cases hlt : k < 5
    case neg =>
      obtain rfl : k = 5 := by omega
      have HD : Hid (M.stS s = d) := by show _ = _; rw [HA.out]; exact hd.out
      clear hd HA hrl
      go_wp2_with fail
      go_ret
      exact ⟨by rw [HD.out]; rfl, HH.out.2⟩
    have hki : (k : Int) < 5 := by omega
    obtain ⟨b, off, rfl, hb, hc⟩ := HH.out.1 k (by rw [ints_length, M.clo_length, hlen]; exact hlt)
    rw [ints_get] at hc
    have hr := hrl k hlt
    have hbit := fun w' => bit_any (M.row (M.clo (M.wtR s)) k) k w' (by omega) (by omega)
    have hB : Hid (M.stB s k = (M.row (M.clo (M.wtR s)) k).testBit k) := (rfl : M.stB s k = _)
    have hit := @M.agK_hit (M.stB s) k
    have miss := @M.agK_miss (M.stB s) k
    rw [hd.out] at hit miss
    have hd32 : d < 32 := by rw [← hd.out]; exact M.c_lt _ hk
    obtain ⟨y, hy⟩ : ∃ y, 2 ^ k = y := ⟨_, rfl⟩
    have hy16 : y ≤ 16 := by rw [← hy]; exact Nat.pow_le_pow_right (n := 2) (by omega) (by omega : k ≤ 4)
    have hpw := fun w' => pow2_any k y w' (by omega) (hy : 2 ^ k = y)
    rw [hy] at hit
    have HIT : Hid (M.stB s k = true → M.cnt01 (k + 1) (M.stB s) = d + y) := hit
    have MISS : Hid (M.stB s k = false → M.cnt01 (k + 1) (M.stB s) = d) := miss
    obtain ⟨r, hrr⟩ : ∃ r, M.row (M.clo (M.wtR s)) k = r := ⟨_, rfl⟩
    rw [hrr] at hc hr hbit hB
    clear hit miss hd hy hrr
    cases htb : r.testBit k with
    | false =>
      have e : Hid (M.cnt01 (k + 1) (M.stB s) = d) := MISS.out (by rw [hB.out, htb])
      rw [htb] at hbit
      clear HIT MISS hB hpw htb
      go_wp2_with fail
      refine (hbit _).mono ?_
      rintro e5 w5 ⟨rfl, rfl⟩
      go_wp2_with fail
      go_roundw
      case rel => exact ⟨k + 1, d, by go_num, rfl, by omega, e, trivial⟩
      case measure => simp [intOf]; omega
    | true =>
      have e : Hid (M.cnt01 (k + 1) (M.stB s) = d + y) := HIT.out (by rw [hB.out, htb])
      rw [htb] at hbit
      clear HIT MISS hB htb
      go_wp2_with fail
      refine (hbit _).mono ?_
      rintro e5 w5 ⟨rfl, rfl⟩
      go_wp2_with fail
      refine (hpw _).mono ?_
      rintro e5 w5 ⟨rfl, rfl⟩
      go_wp2_with fail
      go_roundw
      case rel => exact ⟨k + 1, d + y, by go_num, by go_num, by omega, e, trivial⟩
      case measure => simp [intOf]; omega
end Go.Proofs.YtcjodlgkmbmcgaaDoor
