/- WHO HAS MOST VOTES MEETS (law QuorumVotes), the walk. -/
import Derived.Test.YtfjmealeglbklaaDoorLql
import Derived.Test.YtfjmealeglbklaaDoorRefSet
namespace Go.Proofs.YtfjmealeglbklaaDoor
open Go.RowKit

/-- a call, named by one of its arguments -/
theorem call_two {P : Program} {f : Nat} {x : Value} {z : Nat} {W : World} {Q : Ending → World → Prop} (h : Calls P f #[x, .int .i64 (z : Nat)] W Q) : Calls P f #[x, .int .i64 (z : Nat)] W Q := h
theorem anyN_snoc (P : Nat → Bool) (f : Nat → Nat) (n : Nat) : anyN P f (n + 1) = (anyN P f n || P (f n)) := by
  unfold anyN; rw [List.range_succ, List.any_append]; simp
set_option maxRecDepth 100000 in
set_option maxHeartbeats 1000000 in
theorem esum_ok (W : List Nat) (p : Option Addr) (n cap : Nat) (w : World) (hl : W.length = n) (hn : n ≤ 8) (hW : ∀ i, M.row W i ≤ 20) (hc : HasI (ints W) p w) :
    Calls Tryd.prog 27 #[.slice p n cap] w fun e w' => e = .returned (.int .i64 (M.wtQ (M.row W) n (2 ^ n - 1) : Nat)) ∧ w = w' := by
  have HC : Hid (HasN (M.row W) n p w) := by have := hc.toN; rw [hl] at this; exact this
  have HE : Hid (psum (ints W) n = (M.wtQ (M.row W) n (2 ^ n - 1) : Nat)) := psum_ints W n
  obtain ⟨t, ht⟩ : ∃ t, M.wtQ (M.row W) n (2 ^ n - 1) = t := ⟨_, rfl⟩
  rw [ht] at HE
  rw [ht]
  clear hc hl ht
  go_enter Tryd.func27, Tryd.ntmps27
  go_wp2_with fail
  go_loop [3, 4] (fun u v => ∃ i y : Nat, u = .int .i64 (y : Nat) ∧ v = .int .i64 (i : Nat) ∧ i ≤ n ∧ Hid (psum (ints W) i = (y : Nat)) ∧ y ≤ 20 * i) (fun _ v => n - (intOf v).toNat)
  case atStart => exact ⟨0, 0, rfl, rfl, Nat.zero_le _, (rfl : psum (ints W) 0 = ((0 : Nat) : Int)), Nat.le_refl _⟩
  case round =>
    obtain ⟨i, y, rfl, rfl, hi, hy, hyb⟩ := hrel
    by_cases hlt : i < n
    · obtain ⟨b, off, rfl, hb, hcell⟩ := HC.out i hlt
      have hps : psum (ints W) (i + 1) = psum (ints W) i + (ints W)[i]?.getD 0 := rfl
      rw [hy.out, ints_get] at hps
      have hwi := hW i
      obtain ⟨z, hz⟩ : ∃ z, M.row W i = z := ⟨_, rfl⟩
      rw [hz] at hcell hps hwi
      obtain ⟨x, hx⟩ : ∃ x : Nat, y + z = x := ⟨_, rfl⟩
      have hxi : (y : Int) + (z : Int) = (x : Int) := by omega
      have HX : Hid (psum (ints W) (i + 1) = (x : Nat)) := hps.trans hxi
      have hin : (i : Int) < (n : Int) := by omega
      have hxb : x ≤ 20 * (i + 1) := by omega
      clear hps hz hx
      go_wp2_with fail
      go_round
      case rel => exact ⟨i + 1, x, by go_num, by go_num, by omega, HX, hxb⟩
      case measure => simp [intOf]; omega
    · obtain rfl : n = i := by omega
      have HT : Hid (y = t) := by have h1 := hy.out; have h2 := HE.out; show y = t; omega
      go_wp2_with fail
      go_ret
      exact ⟨by rw [← HT.out]; rfl, rfl⟩
set_option maxRecDepth 100000 in
set_option maxHeartbeats 4000000 in
theorem qv_walk (zs : List Int) (p : Option Addr) (n cap : Nat) (iz : Int) (w : World) (he : Env w) (hl : zs.length = n) (hmax : n ≤ maxLen) (hc : HasI zs p w) (_ : ∀ k : Nat, zs[k]?.getD 0 < 9223372036854775808) (_ : (Lit.int .i64 iz).wf = true) :
    Calls Tryd.prog 4 #[.slice p n cap, .int .i64 iz] w fun e w' => e = .returned (.bool true) ∧ Below w.heap.size w w' := by
  go_enter Tryd.func4, Tryd.ntmps4
  go_wp2_with fail
  refine (quorumFact_ok _ he).mono ?_
  rintro e w1 ⟨rfl, hB1⟩
  have hc1 := hc.later hB1
  go_wp2_with fail
  by_cases h0 : vcode zs iz = 0
  · obtain ⟨W, nd, rfl, rfl, hR⟩ := vcode_get h0
    rw [ints_length] at hl
    have hn8 : n ≤ 8 := hl ▸ hR.hi
    have h8 := pow8 hn8
    refine (qVotes_ok W nd p n cap w1 (he.later hB1) hR hl hc1).mono ?_
    rintro e w2 ⟨v, rfl, hown, hB2⟩
    have HC2 : Hid (Below w.heap.size w w2) := bel_on hB1 hB2
    have HW2 : Hid (HasI (ints W) p w2) := hc1.later hB2
    have HE2 : Hid (Env w2) := he.later HC2.out
    obtain ⟨pv, cv, rfl⟩ := owns_slice hown
    have hI : Hid (HasI (ints (vts W nd)) pv w2) := hasI_of_owns rfl hown
    have hok : M.QOk n (vts W nd) := by rw [← hl]; exact M.votes_ok hR.some hR.most hR.half
    have hap : ∀ a b, a ∈ vts W nd → b ∈ vts W nd → M.subB a b = true → a = b := fun a b => M.votes_apart
    have hup : (vts W nd).Pairwise (· < ·) := List.pairwise_lt_range.filter _
    have hmore : ∀ a, a ∈ vts W (nd + 1) → M.hasQ (vts W nd) a = true := fun a => M.votes_more
    have hlen : (vts W nd).length ≤ 256 := by
      have := upB_len (M.voteB (M.row W) n nd) (2 ^ n)
      rw [← hl] at this h8
      exact Nat.le_trans this h8
    obtain ⟨L, hL⟩ : ∃ L, vts W nd = L := ⟨_, rfl⟩
    rw [hL] at hown hI hok hap hup hmore hlen
    rw [hL]
    have HOK : Hid (M.QOk n L) := hok
    have HAP : Hid (∀ a b, a ∈ L → b ∈ L → M.subB a b = true → a = b) := hap
    have HUP : Hid (L.Pairwise (· < ·)) := hup
    have HMO : Hid (∀ a, a ∈ vts W (nd + 1) → M.hasQ L a = true) := hmore
    obtain ⟨l, hll⟩ : ∃ l, L.length = l := ⟨_, rfl⟩
    have HLL : Hid (L.length = l) := hll
    have hl0 : 0 < l := by rw [← hll]; exact List.length_pos_iff.2 hok.some
    rw [hll] at hlen
    rw [hll]
    have HR : Hid (VR W nd) := hR
    have HL : Hid (W.length = n) := hl
    obtain ⟨pw, hpw⟩ : ∃ pw, 2 ^ n = pw := ⟨_, rfl⟩
    have hpo := fun W => pow2_any n pw W (by omega) hpw
    have HPW : Hid (2 ^ n = pw) := hpw
    rw [hpw] at h8
    have hnd : nd ≤ 160 := by
      have h1 := hR.most
      have h2 := (psum_bounds (zs := ints W) (fun i hi => wAll_iff.1 hR.ok i hi) n (by rw [ints_length]; omega)).2
      rw [psum_ints, ← hl] at h2
      rw [hl] at h2 h1
      omega
    clear h0 hB1 hB2 hc hc1 he hown hok hap hup hmore hL hll hl hR hpw hmax
    go_wp2_with fail
    have H0 : Below w2.heap.size w2 w2 := Below.refl _ _
    go_loopw [9] (fun v wr => ∃ i : Nat, v = .int .i64 (i : Nat) ∧ i ≤ l ∧ Hid (Below w2.heap.size w2 wr)) (fun v _ => l - (intOf v).toNat)
    case atStart => exact ⟨0, rfl, Nat.zero_le _, H0⟩
    case round =>
      clear H0
      obtain ⟨i, rfl, hi, hB⟩ := hrel
      by_cases hlt : i < l
      · have hil : (i : Int) < (l : Int) := by omega
        obtain ⟨b, off, rfl, hb, hcz⟩ := (hI.out.later hB.out) i (by rw [ints_length, HLL.out]; exact hlt)
        rw [ints_get] at hcz
        have hin := M.row_inS (S := L) (i := i) (by rw [HLL.out]; exact hlt)
        have hx1 := HOK.out.lt _ hin
        have hx2 := HOK.out.pos _ hin
        rw [HPW.out] at hx1
        obtain ⟨x, hx⟩ : ∃ x, M.row L i = x := ⟨_, rfl⟩
        rw [hx] at hcz hx1 hx2
        have HX : Hid (M.row L i = x) := hx
        have g1 : decide ((x : Int) < 1) = false := decide_eq_false (by omega)
        have g2 : decide ((pw : Int) ≤ (x : Int)) = false := decide_eq_false (by omega)
        have g2' : decide (pw ≤ x) = false := decide_eq_false (by omega)
        have hx3 : 0 < x := by omega
        clear hx hin hx2
        go_wp2_with fail
        go_big_quiet ((go_at_call 24; exact Calls.quiet_of_same ((hpo _).mono (fun e w' h => ⟨h.1, h.2.symm⟩))))
        obtain ⟨wo, hwo⟩ : ∃ wo, wo = wr.drewN nq := ⟨_, rfl⟩
        rw [← hwo]
        have hBo : Hid (Below w2.heap.size w2 wo) := by rw [hwo]; exact bel_drN hB.out _
        clear hwo hB hcz
        go_wp2_with fail
        go_loopw [10] (fun v wr => ∃ j : Nat, v = .int .i64 (j : Nat) ∧ j ≤ i ∧ Hid (Below w2.heap.size w2 wr)) (fun v _ => i - (intOf v).toNat)
        case atStart => exact ⟨0, rfl, Nat.zero_le _, hBo⟩
        case round =>
          clear hBo
          obtain ⟨j, rfl, hj, hB⟩ := hrel
          by_cases hji : j < i
          · have hjil : (j : Int) < (i : Int) := by omega
            have hjl : (j : Int) < (l : Int) := by omega
            obtain ⟨b', off', e', hb, hcz⟩ := (hI.out.later hB.out) i (by rw [ints_length, HLL.out]; exact hlt)
            cases e'
            obtain ⟨b', off', e', hb', hcy⟩ := (hI.out.later hB.out) j (by rw [ints_length, HLL.out]; omega)
            cases e'
            rw [ints_get] at hcz hcy
            have hinx := M.row_inS (S := L) (i := i) (by rw [HLL.out]; exact hlt)
            have hiny := M.row_inS (S := L) (i := j) (by rw [HLL.out]; omega)
            have hne := M.row_rise HUP.out hji (by rw [HLL.out]; exact hlt)
            have hy1 := HOK.out.lt _ hiny
            have hmt := HOK.out.meet _ _ hinx hiny
            have ha1 := HAP.out _ _ hinx hiny
            have ha2 := HAP.out _ _ hiny hinx
            rw [HPW.out] at hy1
            obtain ⟨y, hy⟩ : ∃ y, M.row L j = y := ⟨_, rfl⟩
            rw [hy] at hcy hy1 hne hmt ha1 ha2
            rw [HX.out] at hcz hne hmt ha1 ha2
            have hs1 : M.subB x y = false := by
              cases e : M.subB x y with
              | false => rfl
              | true => have := ha1 e; omega
            have hs2 : M.subB y x = false := by
              cases e : M.subB y x with
              | false => rfl
              | true => have := ha2 e; omega
            have hbo := fun W => both_any x y W (by omega) (by omega)
            have hw1 := fun W => within_any x y W (by omega) (by omega)
            have hw2 := fun W => within_any y x W (by omega) (by omega)
            rw [hs1] at hw1
            rw [hs2] at hw2
            obtain ⟨u, hu⟩ : ∃ u, x &&& y = u := ⟨_, rfl⟩
            rw [hu] at hbo hmt
            have g3 : ((u : Int) == 0) = false := by simp; omega
            obtain ⟨wc, hwc⟩ : ∃ wc, wc = wr := ⟨_, rfl⟩
            subst hwc
            clear hu hmt ha1 ha2 hne hinx hiny hy hs1 hs2
            go_wp2_with fail
            go_big_quiet (first | (go_at_call 25; exact Calls.quiet_of_same ((hbo _).mono (fun e w' h => ⟨h.1, h.2.symm⟩))) | (go_at_call 26; first | (with_reducible refine call_two (z := y) ?_; exact Calls.quiet_of_same ((hw1 _).mono (fun e w' h => ⟨h.1, h.2.symm⟩))) | (with_reducible refine call_two (z := x) ?_; exact Calls.quiet_of_same ((hw2 _).mono (fun e w' h => ⟨h.1, h.2.symm⟩)))))
            go_wp2_with fail
            go_roundw
            case rel => exact ⟨j + 1, by go_num, by omega, bel_drN hB.out _⟩
            case measure => simp [intOf]; omega
          · obtain rfl : i = j := by omega
            go_wp2_with fail
            go_roundw
            case rel => exact ⟨i + 1, by go_num, by omega, hB⟩
            case measure => simp [intOf]; omega
      · obtain rfl : i = l := by omega
        have g1 : ((i : Int) == 0) = false := by simp; omega
        have g1' : (i == 0) = false := by simp; omega
        have hnd1 : (nd : Int) + 1 = ((nd + 1 : Nat) : Int) := by omega
        obtain ⟨nd1, hn1⟩ : ∃ nd1, nd + 1 = nd1 := ⟨_, rfl⟩
        rw [hn1] at hnd1 HMO
        have HC3 : Hid (Below w.heap.size w wr) := bel_on HC2.out hB.out
        have hcode := HR.out.code W nd ((nd1 : Nat) : Int)
        rw [HL.out] at hcode
        have hhalf := HR.out.half
        have hmost := HR.out.most
        have hle := HR.out.le
        have hlo := HR.out.lo
        have hhi := HR.out.hi
        rw [HL.out] at hhalf hmost
        by_cases h1 : vcode (ints W) ((nd1 : Nat) : Int) = 0
        · have hVR : VR W nd1 := vr_of h1
          have hvo := qVotes_ok W nd1 p n cap wr (HE2.out.later hB.out) hVR HL.out (HW2.out.later hB.out)
          have hok1 : ∀ a, a ∈ vts W nd1 → a < pw ∧ a ≠ 0 := fun a ha => by
            have h := M.votes_ok hVR.some hVR.most hVR.half
            have h3 := h.lt a ha
            rw [HL.out, HPW.out] at h3
            exact ⟨h3, h.pos a ha⟩
          have hlen2 : (vts W nd1).length ≤ 256 := by
            have := upB_len (M.voteB (M.row W) W.length nd1) (2 ^ W.length)
            have h9 := pow8 hn8
            rw [← HL.out] at h9
            exact Nat.le_trans this h9
          clear hcode h1 hhalf hmost hle hlo hhi hn1
          go_wp2_with fail
          refine hvo.mono ?_
          rintro e w4 ⟨v, rfl, hown, hB4⟩
          have HC4 : Hid (Below w.heap.size w w4) := bel_on HC3.out hB4
          have HI4 : Hid (HasI (ints L) pv w4) := hI.out.later (bel_on hB.out hB4)
          obtain ⟨p2, c2, rfl⟩ := owns_slice hown
          have HJ4 : Hid (HasI (ints (vts W nd1)) p2 w4) := hasI_of_owns rfl hown
          obtain ⟨T, hT⟩ : ∃ T, vts W nd1 = T := ⟨_, rfl⟩
          rw [hT] at hok1 hlen2 HJ4 HMO
          rw [hT]
          obtain ⟨t, htt⟩ : ∃ t, T.length = t := ⟨_, rfl⟩
          rw [htt] at hlen2
          rw [htt]
          have HTT : Hid (T.length = t) := htt
          have HO1 : Hid (∀ a, a ∈ T → a < pw ∧ a ≠ 0) := hok1
          clear hown hT htt hok1 hvo hB4 hB
          go_wp2_with fail
          have H0 : Below w4.heap.size w4 w4 := Below.refl _ _
          go_loopw [13, 14] (fun v _ wr => ∃ k : Nat, v = .int .i64 (k : Nat) ∧ k ≤ t ∧ Hid (Below w4.heap.size w4 wr)) (fun v _ _ => t - (intOf v).toNat)
          case atStart => exact ⟨0, rfl, Nat.zero_le _, H0⟩
          case round =>
            clear H0
            obtain ⟨k, rfl, hk, hB⟩ := hrel
            by_cases hkt : k < t
            · have hktl : (k : Int) < (t : Int) := by omega
              have hmem := M.row_inS (S := T) (i := k) (by rw [HTT.out]; exact hkt)
              have hz := HO1.out _ hmem
              have hhq := HMO.out _ hmem
              obtain ⟨z, hzz⟩ : ∃ z, M.row T k = z := ⟨_, rfl⟩
              have HZ : Hid (M.row T k = z) := hzz
              rw [hzz] at hz hhq
              have HHQ : Hid (M.hasQ L z = true) := hhq
              have hzl := hz.1
              have hz0 : 0 < z := by omega
              obtain ⟨wo, hwo⟩ : ∃ wo, wo = wr := ⟨_, rfl⟩
              subst hwo
              clear hmem hhq hzz hz
              go_wp2_with fail
              go_loopw [14, 15] (fun u v wr => ∃ (j : Nat) (s : Bool), u = .bool s ∧ v = .int .i64 (j : Nat) ∧ j ≤ i ∧ Hid (anyN (fun a => M.subB a z) (M.row L) j = s) ∧ Hid (Below w4.heap.size w4 wr)) (fun _ v _ => i - (intOf v).toNat)
              case atStart => exact ⟨0, false, rfl, rfl, Nat.zero_le _, (rfl : anyN (fun a => M.subB a z) (M.row L) 0 = false), hB⟩
              case round =>
                clear hB
                obtain ⟨j, s, rfl, rfl, hj, hs, hB⟩ := hrel
                by_cases hji : j < i
                · have hjil : (j : Int) < (i : Int) := by omega
                  have hsn := anyN_snoc (fun a => M.subB a z) (M.row L) j
                  rw [hs.out] at hsn
                  cases s with
                  | true =>
                    have HS : Hid (anyN (fun a => M.subB a z) (M.row L) (j + 1) = true) := hsn
                    clear hsn
                    go_wp2_with fail
                    go_big_quiet (fail)
                    go_wp2_with fail
                    go_roundw
                    case rel => exact ⟨j + 1, true, rfl, by go_num, by omega, HS, bel_drN hB.out _⟩
                    case measure => simp [intOf]; omega
                  | false =>
                    obtain ⟨b, off, rfl, hb, hcz⟩ := (HJ4.out.later hB.out) k (by rw [ints_length, HTT.out]; exact hkt)
                    obtain ⟨b', off', rfl, hb', hcy⟩ := (HI4.out.later hB.out) j (by rw [ints_length, HLL.out]; omega)
                    rw [ints_get] at hcz hcy
                    have hiny := M.row_inS (S := L) (i := j) (by rw [HLL.out]; omega)
                    have hy1 := HOK.out.lt _ hiny
                    rw [HPW.out] at hy1
                    obtain ⟨y, hy⟩ : ∃ y, M.row L j = y := ⟨_, rfl⟩
                    rw [hy] at hcy hy1 hsn
                    rw [HZ.out] at hcz
                    have hwi := fun W => within_any y z W (by omega) (by omega)
                    obtain ⟨c, hcc⟩ : ∃ c, M.subB y z = c := ⟨_, rfl⟩
                    rw [hcc] at hwi
                    have HS : Hid (anyN (fun a => M.subB a z) (M.row L) (j + 1) = c) := (by rw [hsn, Bool.false_or]; exact hcc : anyN (fun a => M.subB a z) (M.row L) (j + 1) = c)
                    have g3 : decide ((0 : Int) < (z : Int)) = true := decide_eq_true (by omega)
                    have g3' : decide (0 < z) = true := decide_eq_true hz0
                    clear hcc hsn hiny hy
                    go_wp2_with fail
                    go_big_quiet ((go_at_call 26; exact Calls.quiet_of_same ((hwi _).mono (fun e w' h => ⟨h.1, h.2.symm⟩))))
                    go_wp2_with fail
                    go_roundw
                    case rel => exact ⟨j + 1, c, rfl, by go_num, by omega, HS, bel_drN hB.out _⟩
                    case measure => simp [intOf]; omega
                · obtain rfl : i = j := by omega
                  have HS : Hid (s = true) := (by have h := hs.out; rw [← HLL.out, anyN_row] at h; rw [← h]; exact HHQ.out : s = true)
                  obtain rfl := HS.out
                  clear hs HS
                  go_wp2_with fail
                  go_roundw
                  case rel => exact ⟨k + 1, by go_num, by omega, hB⟩
                  case measure => simp [intOf]; omega
            · obtain rfl : k = t := by omega
              have FB : Hid (Below w.heap.size w wr) := bel_on HC4.out hB.out
              go_wp2_with fail
              go_ret
              exact ⟨rfl, FB.out⟩
        · have hve := qVotes_err (ints W) ((nd1 : Nat) : Int) _ p n cap wr (by rw [ints_length]; exact HL.out) (by unfold maxLen; omega) (HW2.out.later hB.out) rfl h1
          obtain ⟨A, hA⟩ : ∃ A, M.wtQ (M.row W) n (2 ^ n - 1) = A := ⟨_, rfl⟩
          have hsm := esum_ok W p n cap wr HL.out hn8 hle (HW2.out.later hB.out)
          rw [hA] at hcode hhalf hmost hsm
          have hAn : A ≤ nd := by
            refine Classical.byContradiction fun hn => h1 ?_
            rw [hcode, if_neg (by omega), if_neg (by omega)]
          have g3 : decide ((A : Int) ≤ (nd : Int)) = true := decide_eq_true (by omega)
          have g3' : decide (A ≤ nd) = true := decide_eq_true hAn
          unfold errP at hve
          obtain ⟨c, hcc⟩ : ∃ c, vcode (ints W) ((nd1 : Nat) : Int) = c := ⟨_, rfl⟩
          rw [hcc] at hve
          clear hcode hhalf hmost h1 hA hle hlo hhi hcc hn1 hB
          go_wp2_with fail
          refine hve.mono ?_
          rintro e w4 ⟨rfl, rfl⟩
          go_wp2_with fail
          refine hsm.mono ?_
          rintro e w5 ⟨rfl, rfl⟩
          go_wp2_with fail
          go_ret
          exact ⟨rfl, HC3.out⟩
  · refine (qVotes_err zs iz _ p n cap w1 hl hmax hc1 rfl h0).mono ?_
    rintro e w2 ⟨rfl, rfl⟩
    unfold errP
    clear h0
    go_wp2_with fail
    go_ret
    exact ⟨rfl, hB1⟩
end Go.Proofs.YtfjmealeglbklaaDoor
