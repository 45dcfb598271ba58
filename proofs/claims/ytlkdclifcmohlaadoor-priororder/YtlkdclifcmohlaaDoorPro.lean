/- All goes by who began first (law PriorOrder), the walk. -/
import Derived.Test.YtlkdclifcmohlaaDoorPrf
import Derived.Test.YtlkdclifcmohlaaDoorLxr
import Derived.BigQuiet
namespace Go.Proofs.YtlkdclifcmohlaaDoor
open Go.RowKit
/-- what a gate let through is serial -/
theorem M.GG.ring {s : M.Gt} (h : M.GG s) : ringB (M.edR s.ac) = false := by
  cases c : ringB (M.edR s.ac) with
  | false => rfl
  | true => exact absurd (ringB_iff.1 c) (M.rise_ring (fun t u e => h.gi.edge ((M.edR_bit s.ac t u).1 e).2.2))
/-- what the law asks of two acts -/
theorem M.GG.pair {s : M.Gt} (h : M.GG s) {i j : Nat} (hij : i < j) (hj : j < s.ac.length) (h1 : (M.sat s.ac j).tx < (M.sat s.ac i).tx) (h2 : (M.sat s.ac i).it = (M.sat s.ac j).it) : (M.sat s.ac i).wr + (M.sat s.ac j).wr = 0 := by
  have a1 := (h.acs _ (M.sat_mem (show i < s.ac.length by omega))).2.2
  have a2 := (h.acs _ (M.sat_mem hj)).2.2
  apply Classical.byContradiction
  intro c
  have hc : M.clash (M.sat s.ac i) (M.sat s.ac j) = true := by
    unfold M.clash
    rw [h2]
    simp only [beq_self_eq_true, Bool.true_and, Bool.or_eq_true, beq_iff_eq]
    omega
  have := h.gi.ord i j hij hj hc
  omega
set_option maxRecDepth 100000 in
set_option maxHeartbeats 4000000 in
theorem po_walk (sk : Bool) (zs : List Az) (p : Option Addr) (n cap : Nat) (w : World) (he : Env w) (hty : Ety w) (hl : zs.length = n) (_ : n ≤ maxLen) (_ : n ≤ cap) (hc : HasAc zs p w) :
    Calls Tryd.prog 3 #[.bool sk, .slice p n cap] w fun e w' => e = .returned (.bool true) ∧ Below w.heap.size w w' := by
  have hf := priorFact_ok w hty
  have HE : Hid (Env w) := he
  have HC : Hid (HasAc zs p w) := hc
  clear he hc hty
  go_enter Tryd.func3, Tryd.ntmps3
  go_wp2_with fail
  refine hf.mono ?_
  rintro e w1 ⟨rfl, hB1⟩
  have H1 : Hid (Below w.heap.size w w1) := hB1
  clear hf hB1
  go_wp2_with fail
  refine (gnew_ok (O := fun k => w.heap.size ≤ k) sk w1 H1.out.size).mono ?_
  rintro e w2 ⟨rfl, hT2, hB2⟩
  obtain ⟨S, hS⟩ : ∃ S, w1.heap.size = S := ⟨_, rfl⟩
  rw [hS] at hT2
  have H2 : Hid (GV (fun k => w.heap.size ≤ k) S sk M.gt0 w2 ∧ Below w.heap.size w w2) := ⟨hT2, H1.out.trans (hB2.mono H1.out.size)⟩
  clear hT2 hB2 H1
  go_wp2_with fail
  clear hS
  go_loopw [7] (fun u wr => ∃ (i : Nat) (s : M.Gt), u = .int .i64 (i : Nat) ∧ i ≤ n ∧ i ≤ 60 ∧ Hid (GV (fun k => w.heap.size ≤ k) S sk s wr ∧ M.GG s ∧ Below w.heap.size w wr)) (fun u _ => 60 - (intOf u).toNat)
  case atStart => exact ⟨0, _, rfl, Nat.zero_le _, Nat.zero_le _, ⟨H2.out.1, M.GG.zero, H2.out.2⟩⟩
  case round =>
    clear H2
    obtain ⟨i, s, rfl, hi, hi2, HP⟩ := hrel
    by_cases hlt : i < n ∧ i < 60
    · obtain ⟨h1, h2⟩ := hlt
      have h1i : (i : Int) < n := by omega
      have h2i : (i : Int) < 60 := by omega
      obtain ⟨b, off, rfl, hd⟩ := (HC.out.later HP.out.2.2) i (by omega)
      obtain ⟨⟨t, o, x⟩, hz⟩ : ∃ d, aAt zs i = d := ⟨_, rfl⟩
      rw [hz] at hd
      have c0 := hd.c0
      have c1 := hd.c1
      have c2 := hd.c2
      have hb := hd.lt
      simp only at c0 c1 c2
      have dd := gdo_ok ⟨t, o, x⟩ wr HP.out.1 (fun k hk => Nat.le_trans HP.out.2.2.size hk) HP.out.2.1
      have HN : Hid (∀ w', GV (fun k => w.heap.size ≤ k) S sk (gtZ sk s ⟨t, o, x⟩).1 w' → Frm (fun k => w.heap.size ≤ k) wr w' → GV (fun k => w.heap.size ≤ k) S sk (gtZ sk s ⟨t, o, x⟩).1 w' ∧ M.GG (gtZ sk s ⟨t, o, x⟩).1 ∧ Below w.heap.size w w') := fun w' h1 h2 => ⟨h1, HP.out.2.1.z sk _, HP.out.2.2.trans (h2.below HP.out.2.2.size (fun k hk h => by omega))⟩
      obtain ⟨q1, hq1⟩ : ∃ q, (gtZ sk s ⟨t, o, x⟩).2.1 = q := ⟨_, rfl⟩
      obtain ⟨q2, hq2⟩ : ∃ q, terr (gtZ sk s ⟨t, o, x⟩).2.2 = q := ⟨_, rfl⟩
      obtain ⟨s', hs'⟩ : ∃ s', (gtZ sk s ⟨t, o, x⟩).1 = s' := ⟨_, rfl⟩
      rw [hq1, hq2, hs'] at dd
      rw [hs'] at HN
      clear hz hd HP hq1 hq2 hs'
      go_wp2_with fail
      refine dd.mono ?_
      rintro e w3 ⟨rfl, h3, h4⟩
      have H3 : Hid _ := HN.out w3 h3 h4
      clear dd h3 h4 HN c0 c1 c2
      go_wp2_with fail
      go_roundw
      case rel => exact ⟨i + 1, _, by go_num, by omega, by omega, H3⟩
      case measure => simp [intOf]; omega
    · have ha := gacts_ok wr HP.out.1 HP.out.2.1
      have hx : Hid (i < n → 60 ≤ i) := (by omega : i < n → 60 ≤ i)
      have hser : ∀ w' p c, Below wr.heap.size wr w' → s.ac.length ≤ c → HasAc (az s.ac) p w' → Calls Tryd.prog 11 #[.slice p s.ac.length c] w' fun e w'' => ∃ v, e = .returned (.tuple #[.bool true, v, .nilIface]) ∧ Below w.heap.size w w'' := fun w' p c hb hcap hh => by
        have h5 := HP.out.2.2.trans (hb.mono HP.out.2.2.size)
        refine (serial_any s.ac p s.ac.length c w' (HE.out.later h5) rfl HP.out.2.1.aok hcap hh).mono ?_
        rintro e w'' ⟨v, rfl, hB⟩
        rw [HP.out.2.1.ring]
        exact ⟨v, rfl, h5.trans (hB.mono h5.size)⟩
      have HGG : Hid (M.GG s) := HP.out.2.1
      obtain ⟨L, hL⟩ : ∃ L, s.ac.length = L := ⟨_, rfl⟩
      have HL : Hid (s.ac.length = L) := hL
      have hL24 : L ≤ 24 := by rw [← hL]; exact HP.out.2.1.len
      rw [hL] at ha hser
      have HS : Hid _ := hser
      clear hL HP hser hlt
      have hdec : (n : Int) ≤ (i : Int) ∨ ((i : Int) < (n : Int) ∧ (60 : Int) ≤ (i : Int)) := by
        by_cases hn : i < n
        · have := hx.out hn
          exact .inr ⟨by omega, by omega⟩
        · exact .inl (by omega)
      clear hx
      rcases hdec with hd1 | ⟨hd1, hd2⟩
      all_goals
        go_wp2_with fail
        refine ha.mono ?_
        rintro e w3 ⟨q, c, rfl, h1, h2, h3⟩
        have HSer : Hid (∀ m, Calls Tryd.prog 11 #[.slice q L c] (w3.drewN m) fun e w'' => ∃ v, e = .returned (.tuple #[.bool true, v, .nilIface]) ∧ Below w.heap.size w w'') := fun m => HS.out _ q c (bel_on h3 (below_drewN w3 m)) h1 (h2.later (below_drewN w3 m))
        have HA : Hid (HasAc (az s.ac) q w3) := h2
        clear ha h1 h2 h3 HS
        go_wp2_with fail
        go_loopw [9] (fun v wr => ∃ j : Nat, v = .int .i64 (j : Nat) ∧ j ≤ L ∧ ∃ m, wr = w3.drewN m) (fun v _ => L - (intOf v).toNat)
        case atStart => exact ⟨0, rfl, Nat.zero_le _, 0, rfl⟩
        case round =>
          obtain ⟨j, rfl, hj, m, rfl⟩ := hrel
          by_cases hjL : j < L
          · have hjLi : (j : Int) < (L : Int) := by omega
            go_wp2_with fail
            go_loopw [10] (fun v wr => ∃ i : Nat, v = .int .i64 (i : Nat) ∧ i ≤ j ∧ ∃ m, wr = w3.drewN m) (fun v _ => j - (intOf v).toNat)
            case atStart => exact ⟨0, rfl, Nat.zero_le _, m, rfl⟩
            case round =>
              obtain ⟨i2, rfl, hi3, m2, rfl⟩ := hrel
              by_cases hij : i2 < j
              · have hiji : (i2 : Int) < (j : Int) := by omega
                have hiLi : (i2 : Int) < (L : Int) := by omega
                have HPR : Hid _ := @M.GG.pair s HGG.out i2 j hij (by rw [HL.out]; exact hjL)
                have HW : Hid ((M.sat s.ac i2).wr < 2 ∧ (M.sat s.ac j).wr < 2) := ⟨(HGG.out.acs _ (M.sat_mem (by rw [HL.out]; omega))).2.2, (HGG.out.acs _ (M.sat_mem (by rw [HL.out]; omega))).2.2⟩
                obtain ⟨b1, o1, rfl, ha1⟩ := HA.out i2 (by rw [az_len, HL.out]; omega)
                obtain ⟨b2, o2, eq2, ha2⟩ := HA.out j (by rw [az_len, HL.out]; omega)
                cases eq2
                rw [aAt_az] at ha1 ha2
                obtain ⟨⟨t1, d1, x1⟩, e1⟩ : ∃ a, M.sat s.ac i2 = a := ⟨_, rfl⟩
                obtain ⟨⟨t2, d2, x2⟩, e2⟩ : ∃ a, M.sat s.ac j = a := ⟨_, rfl⟩
                rw [e1] at ha1 HPR HW
                rw [e2] at ha2 HPR HW
                clear e1 e2
                have k0 := ha1.c0
                have k1 := ha1.c1
                have k2 := ha1.c2
                have l0 := ha2.c0
                have l1 := ha2.c1
                have l2 := ha2.c2
                have lb := ha1.lt
                simp only [azN] at k0 k1 k2 l0 l1 l2
                clear ha1 ha2
                by_cases f1 : t2 < t1
                · have g1 : decide ((t2 : Int) < (t1 : Int)) = true := decide_eq_true (by omega)
                  have g1' : decide (t2 < t1) = true := decide_eq_true f1
                  by_cases f2 : d1 = d2
                  · have g2 : ((d1 : Int) == (d2 : Int)) = true := by rw [f2]; simp
                    have HZ : Hid (x1 = 0 ∧ x2 = 0) := by
                      have := HPR.out f1 f2
                      simp only at this
                      exact ⟨by omega, by omega⟩
                    obtain ⟨rfl, rfl⟩ := HZ.out
                    clear f1 f2 HPR HW HZ
                    go_wp2_with fail
                    go_big_quiet (fail)
                    go_wp2_with fail
                    go_roundw
                    case rel => exact ⟨i2 + 1, by go_num, by omega, m2 + nq, rfl⟩
                    case measure => simp [intOf]; omega
                  · have g2 : ((d1 : Int) == (d2 : Int)) = false := by simp; omega
                    clear f1 f2 HPR HW
                    go_wp2_with fail
                    go_big_quiet (fail)
                    go_wp2_with fail
                    go_roundw
                    case rel => exact ⟨i2 + 1, by go_num, by omega, m2 + nq, rfl⟩
                    case measure => simp [intOf]; omega
                · have g1 : decide ((t2 : Int) < (t1 : Int)) = false := decide_eq_false (by omega)
                  have g1' : decide (t2 < t1) = false := decide_eq_false f1
                  clear f1 HPR HW
                  go_wp2_with fail
                  go_big_quiet (fail)
                  go_wp2_with fail
                  go_roundw
                  case rel => exact ⟨i2 + 1, by go_num, by omega, m2 + nq, rfl⟩
                  case measure => simp [intOf]; omega
              · obtain rfl : j = i2 := by omega
                go_wp2_with fail
                go_roundw
                case rel => exact ⟨j + 1, by go_num, by omega, m2, rfl⟩
                case measure => simp [intOf]; omega
          · obtain rfl : L = j := by omega
            have hs := HSer.out m
            clear HSer
            go_wp2_with fail
            refine hs.mono ?_
            rintro e w4 ⟨v, rfl, hB⟩
            go_wp2_with fail
            go_ret
            exact ⟨rfl, hB⟩
end Go.Proofs.YtlkdclifcmohlaaDoor
