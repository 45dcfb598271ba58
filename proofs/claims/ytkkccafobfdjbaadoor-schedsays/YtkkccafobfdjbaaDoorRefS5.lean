/- The document's answer: the places of all acts, transaction by transaction (whensteadref3.Ordered); what is wrong with the row. -/
import Derived.Test.YtkkccafobfdjbaaDoorRefS4
namespace Go.Proofs.YtkkccafobfdjbaaDoor
open Go.RowKit

set_option maxRecDepth 100000 in
set_option maxHeartbeats 4000000 in
theorem refOrdered_ok (s : List M.SAct) (rs : List Int) (p q : Option Addr) (n cap cap' : Nat) (w : World) (hl : s.length = n) (hk : M.AOk s) (hc : HasAc (az s) p w) (hlr : rs.length = 5) (hcr : HasI rs q w) :
    Calls Tryd.prog 13 #[.slice p n cap, .slice q 5 cap'] w fun e w' => Below w.heap.size w w' ∧
      ((kcd rs ≠ 0 ∧ e = .returned (.tuple #[.slice none 0 0, .int .i64 ((kcd rs : Nat) : Int)])) ∨ (kcd rs = 0 ∧ ∃ a c, e = .returned (.tuple #[.slice a (M.ordd s (nats rs)).length c, .int .i64 0]) ∧ HasI (ints (M.ordd s (nats rs))) a w')) := by
  have hn24 : n ≤ 24 := by have := hk.len; omega
  have hnl : (nats rs).length = 5 := by rw [nats_length, hlr]
  obtain ⟨i0, hi0, hz0, hz1, hz2⟩ := info_parts Tryd.info3
  have HK : Hid (kcd rs = kTo rs 5) := if_pos hlr
  go_enter Tryd.func13, Tryd.ntmps13
  go_wp2_with fail
  go_loopw [6, 7] (fun pv v wr => ∃ k : Nat, v = .int .i64 k ∧ k ≤ 5 ∧ Hid (kTo rs k = 0) ∧ Hid (wr.ownsRow w.heap.size 3 1 pv (M.ordd s ((nats rs).take k)).length (icells (M.ordd s ((nats rs).take k)))) ∧ Below w.heap.size w wr) (fun _ v _ => 5 - (intOf v).toNat)
  case atStart => exact ⟨0, rfl, Nat.zero_le _, (rfl : kTo rs 0 = 0), World.ownsRow_nil _ _ _ _, Below.refl _ _⟩
  case round =>
    obtain ⟨k, rfl, hk5, hz, hown, hB⟩ := hrel
    obtain ⟨wo, hwo⟩ : ∃ wo, wo = wr := ⟨_, rfl⟩
    subst hwo
    by_cases hlt : k < 5
    · obtain ⟨b9, o9, rfl, hb9, hcell⟩ := (hcr.later hB) k (by omega)
      obtain ⟨z, hzd⟩ : ∃ z, rs[k]?.getD 0 = z := ⟨_, rfl⟩
      rw [hzd] at hcell
      have HZ : Hid (rs[k]?.getD 0 = z) := hzd
      have hk5i : (k : Int) < 5 := by omega
      have HRK : Hid (∀ W', Below w.heap.size w W' → HasI rs (some ⟨b9, o9, none⟩) W') := fun W' h => hcr.later h
      have hin3 := fun W => in3y_ok z 0 4 W
      rw [show (4 : Int) = 5 - 1 from rfl] at hin3
      have hth : inY z 0 (5 - 1) = thingZ z 5 := iny_thing z 4
      simp only [hth] at hin3
      clear hzd hth hcr
      cases ht : thingZ z 5 with
      | false =>
        have HC : Hid (kTo rs 5 = 1) := by
          have e : kC rs k = 1 := kC_range (by rw [HZ.out]; exact ht)
          show _ = _
          rw [kTo_first hz.out hlt (by rw [e]; omega), e]
        simp only [ht] at hin3
        clear ht
        go_wp2_with fail
        refine (hin3 _).mono ?_
        rintro e w2 ⟨rfl, rfl⟩
        go_wp2_with fail
        go_ret2
        exact ⟨hB, .inl ⟨by rw [HK.out, HC.out]; omega, by rw [HK.out, HC.out]; rfl⟩⟩
      | true =>
        have hzz : 0 ≤ z ∧ z < 5 := by unfold thingZ at ht; simpa using ht
        obtain ⟨t, rfl⟩ : ∃ t : Nat, z = (t : Int) := ⟨z.toNat, by omega⟩
        have HT : Hid (M.row (nats rs) k = t) := by show _ = _; rw [nats_row, HZ.out]; rfl
        have HTH : Hid (thingZ (t : Int) 5 = true) := ht
        simp only [ht] at hin3
        clear ht hzz
        go_wp2_with fail
        refine (hin3 _).mono ?_
        rintro e w2 ⟨rfl, rfl⟩
        go_wp2_with fail
        go_loopw [8] (fun v wr => ∃ m : Nat, v = .int .i64 m ∧ m ≤ k ∧ Hid (∀ x, x < m → rs[x]?.getD 0 ≠ (t : Int)) ∧ Hid (wr.ownsRow w.heap.size 3 1 u6 (M.ordd s ((nats rs).take k)).length (icells (M.ordd s ((nats rs).take k)))) ∧ Below w.heap.size w wr) (fun v _ => k - (intOf v).toNat)
        case atStart => exact ⟨0, rfl, Nat.zero_le _, fun x h => absurd h (Nat.not_lt_zero _), hown, hB⟩
        case round =>
          clear hown hB hcell hb9
          obtain ⟨m, rfl, hm, hno, hown, hB⟩ := hrel
          obtain ⟨_, _, e0, hb9, hcell⟩ := HRK.out _ hB k (by omega)
          cases e0
          rw [HZ.out] at hcell
          by_cases hmk : m < k
          · obtain ⟨_, _, e0, _, hcm⟩ := HRK.out _ hB m (by omega)
            cases e0
            obtain ⟨y, hy⟩ : ∃ y, rs[m]?.getD 0 = y := ⟨_, rfl⟩
            rw [hy] at hcm
            have HY : Hid (rs[m]?.getD 0 = y) := hy
            have hmki : (m : Int) < (k : Int) := by omega
            have hm5 : (m : Int) < 5 := by omega
            clear hy
            have HDN : Hid (∀ d, Hid ((wr.drewN d).ownsRow w.heap.size 3 1 u6 (M.ordd s ((nats rs).take k)).length (icells (M.ordd s ((nats rs).take k)))) ∧ Below w.heap.size w (wr.drewN d)) := fun d => ⟨ownsRow_drN hown.out d, bel_on hB (below_drewN wr d)⟩
            clear hown
            by_cases hyt : y = (t : Int)
            · have e1 : (y == (t : Int)) = true := by rw [hyt]; exact beq_self_eq_true _
              have HC : Hid (kTo rs 5 = 6) := by
                have e : kC rs k = 6 := kC_clash (by rw [HZ.out]; exact HTH.out) hmk (by rw [HY.out, HZ.out, hyt])
                show _ = _
                rw [kTo_first hz.out hlt (by rw [e]; omega), e]
              clear hyt
              go_wp2_with fail
              go_big_quiet (fail)
              go_wp2_with fail
              go_ret2
              exact ⟨(HDN.out _).2, .inl ⟨by rw [HK.out, HC.out]; omega, by rw [HK.out, HC.out]; rfl⟩⟩
            · have e1 : (y == (t : Int)) = false := by simpa using hyt
              have HN : Hid (∀ x, x < m + 1 → rs[x]?.getD 0 ≠ (t : Int)) := fun x hx => by
                by_cases e : x = m
                · rw [e, HY.out]; exact hyt
                · exact hno.out x (by omega)
              clear hyt
              go_wp2_with fail
              go_big_quiet (fail)
              go_wp2_with fail
              go_roundw
              case rel => exact ⟨m + 1, by go_num, by omega, HN, (HDN.out _).1, (HDN.out _).2⟩
              case measure => simp [intOf]; omega
          · obtain rfl : m = k := by omega
            have HKN : Hid (kTo rs (m + 1) = 0) := kTo_next hz.out (kC_fine (by rw [HZ.out]; exact HTH.out) (fun j hj => by rw [HZ.out]; exact hno.out j hj))
            have hownI : Hid (wr.ownsRow w.heap.size 3 1 u6 (M.orP s (nats rs) m t 0).length (icells (M.orP s (nats rs) m t 0))) := by show World.ownsRow _ _ _ _ _ _ _; rw [M.orP_zero]; exact hown.out
            clear hown
            obtain ⟨w3, hw3⟩ : ∃ w3, w3 = wr := ⟨_, rfl⟩
            subst hw3
            go_wp2_with fail
            go_loopw [6, 9] (fun pv v wr => ∃ i : Nat, v = .int .i64 i ∧ i ≤ n ∧ Hid (wr.ownsRow w.heap.size 3 1 pv (M.orP s (nats rs) m t i).length (icells (M.orP s (nats rs) m t i))) ∧ Below w.heap.size w wr) (fun _ v _ => n - (intOf v).toNat)
            case atStart => exact ⟨0, rfl, Nat.zero_le _, hownI, hB⟩
            case round =>
              clear hownI hB hcell hb9
              obtain ⟨i, rfl, hi, hown, hB⟩ := hrel
              obtain ⟨_, _, e0, hb9, hcell⟩ := HRK.out _ hB m (by omega)
              cases e0
              rw [HZ.out] at hcell
              by_cases hin : i < n
              · obtain ⟨b, off, rfl, hop⟩ := (hc.later hB) i (by rw [az_len]; omega)
                rw [aAt_az] at hop
                obtain ⟨hb, k0, k1, k2⟩ := hop
                have hhit := @M.orP_hit s (nats rs) m t i
                have hmiss := @M.orP_miss s (nats rs) m t i
                have hlen := @M.orP_len s (nats rs) m t i (by omega) hnl (by omega)
                obtain ⟨⟨T, I, W⟩, ha⟩ : ∃ a, M.sat s i = a := ⟨_, rfl⟩
                rw [ha] at k0 k1 k2 hhit hmiss
                simp only [azN] at k0 k1 k2 hhit hmiss
                have hini : (i : Int) < (n : Int) := by omega
                clear ha
                obtain ⟨L, hL⟩ : ∃ L, M.orP s (nats rs) m t i = L := ⟨_, rfl⟩
                rw [hL] at hown hhit hmiss hlen
                clear hL
                have HDN : Hid (∀ d, Hid ((wr.drewN d).ownsRow w.heap.size 3 1 u6 L.length (icells L)) ∧ Below w.heap.size w (wr.drewN d)) := fun d => ⟨ownsRow_drN hown.out d, bel_on hB (below_drewN wr d)⟩
                clear hown
                by_cases hTt : T = t
                · have hd : ((T : Int) == (t : Int)) = true := by rw [hTt]; exact beq_self_eq_true _
                  have HH : Hid (M.orP s (nats rs) m t (i + 1) = L ++ [i]) := hhit hTt
                  clear hhit hmiss hTt
                  go_wp2_with fail
                  go_big_quiet (fail)
                  obtain ⟨wd, hwd⟩ : ∃ wd, wr.drewN nq = wd := ⟨_, rfl⟩
                  have HDQ := HDN.out nq
                  rw [hwd] at HDQ
                  simp only [hwd]
                  clear hwd HDN
                  obtain ⟨hown, hBd⟩ := HDQ
                  have hszr := hBd.size
                  go_wp2_with (at_builtin; refine wpList_append_own _ rfl _ _ 23 rfl w.heap.size 3 i0 (.int .i64 0) 1 8 Tryd.underlying23 hi0 hz0 hz1 hz2 rfl (by decide) _ _ _ rfl (hown.out.alloc _) ⟨wd.heap.size, 0, none⟩ 1 1 [.int .i64 (i : Nat)] rfl rfl (cell_one_new _ _ _) (by simp [Value.oneCell']) (by unfold maxLen; omega) (by omega) (by simp; omega) ?_; intro v' w6 hown' hgrow _)
                  have hB6 : Below w.heap.size w w6 := (bel_al hBd _).grown hgrow (by simp; omega) (fun j e => (hown.out.lt j e).1)
                  have ho6 : Hid (w6.ownsRow w.heap.size 3 1 v' (M.orP s (nats rs) m t (i + 1)).length (icells (M.orP s (nats rs) m t (i + 1)))) := by
                    show World.ownsRow _ _ _ _ _ _ _
                    rw [HH.out, icells_snoc, List.length_append]; exact hown'
                  clear hown' hgrow hown k0 k1 k2
                  go_wp2_with fail
                  go_roundw
                  case rel => exact ⟨i + 1, by go_num, by omega, ho6, hB6⟩
                  case measure => simp [intOf]; omega
                · have hd : ((T : Int) == (t : Int)) = false := by simpa using (by omega : ¬ (T : Int) = (t : Int))
                  have HH : Hid (M.orP s (nats rs) m t (i + 1) = L) := hmiss hTt
                  clear hhit hmiss hTt
                  go_wp2_with fail
                  go_big_quiet (fail)
                  go_wp2_with fail
                  go_roundw
                  case rel => exact ⟨i + 1, by go_num, by omega, (by rw [HH.out]; exact (HDN.out _).1), (HDN.out _).2⟩
                  case measure => simp [intOf]; omega
              · obtain rfl : i = n := by omega
                have HE : Hid (M.orP s (nats rs) m t i = M.ordd s ((nats rs).take (m + 1))) := by show _ = _; rw [← HT.out, ← hl]; exact M.orP_next (by omega)
                rw [HE.out] at hown
                go_wp2_with fail
                go_roundw
                case rel => exact ⟨m + 1, by go_num, by omega, HKN, hown, hB⟩
                case measure => simp [intOf]; omega
    · obtain rfl : k = 5 := by omega
      have hall : (nats rs).take 5 = nats rs := List.take_of_length_le (by omega)
      rw [hall] at hown
      obtain ⟨pv, cv, rfl⟩ := owns_slice hown.out
      have HI : Hid (HasI (ints (M.ordd s (nats rs))) pv wo) := hasI_of_owns rfl hown.out
      clear hown
      go_wp2_with fail
      go_ret2
      exact ⟨hB, .inr ⟨by rw [HK.out]; exact hz.out, pv, cv, rfl, HI.out⟩⟩
end Go.Proofs.YtkkccafobfdjbaaDoor
