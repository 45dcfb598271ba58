/- WHEN ALL TOLD ALL, ALL IS STABLE (law TableAll), the walk. -/
import Derived.Test.YtelonimdpeenaaaTfa
import Derived.Test.YtelonimdpeenaaaHss
namespace Go.Proofs.Ytelonimdpeenaaa
open Go.RowKit
/-- A table at S, and what always holds of it. -/
structure AI (w : World) (S n : Nat) (k : M.Kt) (W : Nat → Nat) (wr : World) : Prop where
  tv : TV S n k wr
  ti : M.TI n k W
  bl : Below w.heap.size w wr
  gs : w.heap.size ≤ S
theorem AI.frm {w wr w' : World} {S n : Nat} {k k' : M.Kt} {W W' : Nat → Nat} (h : AI w S n k W wr) (hv : TV S n k' w') (ht : M.TI n k' W') (hf : Frm (fun j => j = S) wr w') : AI w S n k' W' w' :=
  ⟨hv, ht, h.bl.trans (hf.below h.bl.size (fun j hj e => by have := h.gs; omega)), h.gs⟩
theorem AI.later {w wr w' : World} {S n : Nat} {k : M.Kt} {W : Nat → Nat} (h : AI w S n k W wr) (hb : Below wr.heap.size wr w') : AI w S n k W w' := ⟨h.tv.below hb, h.ti, bel_on h.bl hb, h.gs⟩
theorem M.TI.wrT {n : Nat} {k : M.Kt} {W : Nat → Nat} (h : M.TI n k W) (z : Int) : ∃ W', M.TI n (M.wrT n k z).1 W' := by
  unfold M.wrT
  split
  · exact ⟨W, h⟩
  split
  · exact ⟨W, h⟩
  · rename_i h1 h2
    exact ⟨_, h.wr (p := z.toNat) (by omega) h2⟩
theorem teT_in {n : Nat} (k : M.Kt) {f t : Nat} (hf : f < n) (ht : t < n) (hne : f ≠ t) : M.teT n k f t = (M.tlJ k f t n, 0) := by
  unfold M.teT
  rw [if_neg (fun x => x.elim (fun y => y ⟨by omega, by omega⟩) (fun y => y ⟨by omega, by omega⟩)), if_neg (by omega)]
  simp
/-- In round r, at p and q. -/
def TR3 (w : World) (S n : Nat) (W : Nat → Nat) (r p q : Nat) (wr : World) : Prop := ∃ k, AI w S n k W wr ∧ M.TR n k W r p q
set_option maxRecDepth 100000 in
set_option maxHeartbeats 8000000 in
theorem al_walk (z : Int) (ss : List (List Int)) (q : Option Addr) (m cap : Nat) (w : World) (_ : (Lit.int .i64 z).wf = true) (hl : ss.length = m) (_ : m ≤ maxLen) (hm : HasSS ss q w) :
    Calls Try.prog 4 #[.int .i64 z, .slice q m cap] w fun e w' => e = .returned (.bool true) ∧ Below w.heap.size w w' := by
  have HM : Hid (HasSS ss q w) := hm
  clear hm
  go_enter Try.func4, Try.ntmps4
  go_wp2_with fail
  refine (tableFact_ok w).mono ?_
  rintro e w1 ⟨rfl, hB1⟩
  go_wp2_with fail
  by_cases hz : 1 ≤ z ∧ z ≤ 5
  case neg =>
    refine (tnew_err z w1 hz).mono ?_
    rintro e w2 ⟨rfl, hB2⟩
    have F : Hid (Below w.heap.size w w2) := bel_on hB1 hB2
    clear hB1 hB2
    by_cases h1 : z < 1
    · go_wp2_with fail
      go_ret
      exact ⟨rfl, F.out⟩
    · have h2 : 5 < z := by omega
      have h3 : 1 ≤ z := by omega
      go_wp2_with fail
      go_ret
      exact ⟨rfl, F.out⟩
  obtain ⟨n, rfl⟩ : ∃ n : Nat, z = n := ⟨z.toNat, by omega⟩
  have h1 : 1 ≤ n := by omega
  have h5 : n ≤ 5 := by omega
  refine (tnew_ok n w1 h1 h5).mono ?_
  rintro e w2 ⟨S, rfl, hS, hV2, hB2⟩
  have HA : Hid (AI w S n M.k0 (fun _ => 0) w2) := ⟨hV2, M.TI.zero n, bel_on hB1 hB2, by have := hB1.size; omega⟩
  clear hz hV2 hB1 hB2 hS
  go_wp2_with fail
  go_loopw [8] (fun u wr => ∃ (i : Nat) (k : M.Kt) (W : Nat → Nat), u = .int .i64 (i : Nat) ∧ i ≤ m ∧ i ≤ 80 ∧ Hid (AI w S n k W wr)) (fun u _ => 80 - (intOf u).toNat)
  case atStart => exact ⟨0, _, _, rfl, Nat.zero_le _, Nat.zero_le _, HA⟩
  case round =>
    clear HA
    obtain ⟨i, k, W, rfl, hi, hi2, HA⟩ := hrel
    by_cases hlt : i < m ∧ i < 80
    · obtain ⟨hlt, hlt2⟩ := hlt
      have hii : (i : Int) < m := by omega
      have hi80 : (i : Int) < 80 := by omega
      obtain ⟨b, off, a, c, rfl, hb, hcell, hI, hmx⟩ := (HM.out.later HA.out.bl) i (by omega)
      obtain ⟨l, hll⟩ : ∃ l, ssAt ss i = l := ⟨_, rfl⟩
      rw [hll] at hcell hI hmx
      clear hll
      by_cases h2 : 2 ≤ l.length
      · obtain ⟨b2, o2, rfl, hb2, hc0⟩ := hI 0 (by omega)
        obtain ⟨b3, o3, e3, _, hc1⟩ := hI 1 (by omega)
        cases e3
        obtain ⟨x, hx⟩ : ∃ x, l[0]?.getD 0 = x := ⟨_, rfl⟩
        obtain ⟨y, hy⟩ : ∃ y, l[1]?.getD 0 = y := ⟨_, rfl⟩
        rw [hx, Nat.add_zero] at hc0
        rw [hy] at hc1
        obtain ⟨L, hL⟩ : ∃ L, l.length = L := ⟨_, rfl⟩
        rw [hL] at hcell h2 hmx
        have h2i : (2 : Int) ≤ (L : Int) := by omega
        have h1i : (1 : Int) < (L : Int) := by omega
        have h0i : (0 : Int) < (L : Int) := by omega
        have h1n : 1 < L := by omega
        have h0n : 0 < L := by omega
        unfold maxLen at hmx
        clear hx hy hL hI
        by_cases h9 : y = 9
        · subst h9
          go_wp2_with fail
          refine (twrite_ok x wr HA.out.tv h5).mono ?_
          rintro e w4 ⟨rfl, hV4, hF4⟩
          obtain ⟨W', hW'⟩ := HA.out.ti.wrT x
          have HA4 : Hid (AI w S n (M.wrT n k x).1 W' w4) := HA.out.frm hV4 hW' hF4
          clear hV4 hF4 hW' HA hcell hc0 hc1
          go_wp2_with fail
          go_roundw
          case rel => exact ⟨i + 1, _, _, by go_num, by omega, by omega, HA4⟩
          case measure => simp [intOf]; omega
        · have h9' : (y == 9) = false := by simp [h9]
          have H9 : Hid (y ≠ 9) := h9
          clear h9
          go_wp2_with fail
          go_roundw
          case rel => exact ⟨i + 1, _, _, by go_num, by omega, by omega, HA⟩
          case measure => simp [intOf]; omega
      · have h2' : l.length < 2 := by omega
        obtain ⟨L, hL⟩ : ∃ L, l.length = L := ⟨_, rfl⟩
        rw [hL] at hcell h2' hmx
        have h2i : (L : Int) < 2 := by omega
        clear h2 hL hI
        go_wp2_with fail
        go_roundw
        case rel => exact ⟨i + 1, _, _, by go_num, by omega, by omega, HA⟩
        case measure => simp [intOf]; omega
    · have hor : (i : Int) < m → i = 80 := by omega
      by_cases hlt : i < m
      · have hii : (i : Int) < m := by omega
        have hi80 : (80 : Int) ≤ (i : Int) := by omega
        clear hor
        go_wp2_with fail
        have HR : Hid (TR3 w S n W 0 0 0 wr) := ⟨_, HA.out, M.TR.begin HA.out.ti⟩
        clear HA
        obtain ⟨wo, hwo⟩ : ∃ wo, wo = wr := ⟨_, rfl⟩
        subst hwo
        go_loopw [9, 10, 11] (fun u _ _ wr => ∃ (r : Nat), u = .int .i64 (r : Nat) ∧ r ≤ 3 ∧ Hid (TR3 w S n W r 0 0 wr)) (fun u _ _ _ => 3 - (intOf u).toNat)
        case atStart => exact ⟨0, rfl, by omega, HR⟩
        case round =>
          clear HR
          obtain ⟨r, rfl, hr, HR⟩ := hrel
          by_cases hltr : r < 3
          · have hri : (r : Int) < 3 := by omega
            obtain ⟨wp, hwp⟩ : ∃ wp, wp = wr := ⟨_, rfl⟩
            subst hwp
            go_wp2_with fail
            go_loopw [10, 11] (fun u _ wr => ∃ (p : Nat), u = .int .i64 (p : Nat) ∧ p ≤ n ∧ Hid (TR3 w S n W r p 0 wr)) (fun u _ _ => n - (intOf u).toNat)
            case atStart => exact ⟨0, rfl, by omega, HR⟩
            case round =>
              clear HR
              obtain ⟨p, rfl, hp, HR⟩ := hrel
              by_cases hltp : p < n
              · have hpi : (p : Int) < n := by omega
                obtain ⟨wq, hwq⟩ : ∃ wq, wq = wr := ⟨_, rfl⟩
                subst hwq
                go_wp2_with fail
                go_loopw [11] (fun u wr => ∃ (q : Nat), u = .int .i64 (q : Nat) ∧ q ≤ n ∧ Hid (TR3 w S n W r p q wr)) (fun u _ => n - (intOf u).toNat)
                case atStart => exact ⟨0, rfl, by omega, HR⟩
                case round =>
                  clear HR
                  obtain ⟨q, rfl, hq, HR⟩ := hrel
                  by_cases hltq : q < n
                  · have hqi : (q : Int) < n := by omega
                    by_cases hpq : p = q
                    · subst hpq
                      have H2 : Hid (TR3 w S n W r p (p + 1) wr) := by
                        obtain ⟨k, h1, h2⟩ := HR.out
                        exact ⟨k, h1, h2.same⟩
                      clear HR
                      go_wp2_with fail
                      go_roundw
                      case rel => exact ⟨p + 1, by go_num, by omega, H2⟩
                      case measure => simp [intOf]; omega
                    · have hne : ((p : Int) != (q : Int)) = true := by simp; omega
                      have hne' : (p != q) = true := by simp; omega
                      obtain ⟨K, hK⟩ : ∃ K, AI w S n K W wr ∧ M.TR n K W r p q := HR.out
                      have HK : Hid (AI w S n K W wr ∧ M.TR n K W r p q) := hK
                      have ht := ttell_ok (p : Int) (q : Int) wr hK.1.tv h5
                      rw [teT_in K hltp hltq hpq] at ht
                      have HPQ : Hid (p ≠ q) := hpq
                      clear HR hK hpq
                      go_wp2_with fail
                      refine ht.mono ?_
                      rintro e w4 ⟨rfl, hV4, hF4⟩
                      have H2 : Hid (TR3 w S n W r p (q + 1) w4) := ⟨_, HK.out.1.frm hV4 (HK.out.2.ti.te hltp hltq) hF4, HK.out.2.tell hltp hltq⟩
                      clear hV4 hF4 HK ht
                      rw [terr_zero]
                      go_wp2_with fail
                      go_roundw
                      case rel => exact ⟨q + 1, by go_num, by omega, H2⟩
                      case measure => simp [intOf]; omega
                  · obtain rfl : n = q := by omega
                    have H2 : Hid (TR3 w S n W r (p + 1) 0 wr) := by
                      obtain ⟨k, h1, h2⟩ := HR.out
                      exact ⟨k, h1, h2.row⟩
                    clear HR
                    go_wp2_with fail
                    go_roundw
                    case rel => exact ⟨p + 1, by go_num, by omega, H2⟩
                    case measure => simp [intOf]; omega
              · obtain rfl : n = p := by omega
                have H2 : Hid (TR3 w S n W (r + 1) 0 0 wr) := by
                  obtain ⟨k, h1, h2⟩ := HR.out
                  exact ⟨k, h1, h2.round⟩
                clear HR
                go_wp2_with fail
                go_roundw
                case rel => exact ⟨r + 1, by go_num, by omega, H2⟩
                case measure => simp [intOf]; omega
          · have hr3 : (3 : Int) ≤ (r : Int) := by omega
            obtain ⟨k2, h2, h3⟩ := HR.out
            have HA : Hid (AI w S n k2 W wr) := h2
            have HE : Hid (M.A1 n k2 W) := h3.r2 (by omega)
            clear HR h2 h3
            obtain ⟨wp, hwp⟩ : ∃ wp, wp = wr := ⟨_, rfl⟩
            subst hwp
            go_wp2_with fail
            go_loopw [12, 13] (fun u _ wr => ∃ (p : Nat), u = .int .i64 (p : Nat) ∧ p ≤ n ∧ Hid (AI w S n k2 W wr)) (fun u _ _ => n - (intOf u).toNat)
            case atStart => exact ⟨0, rfl, by omega, HA⟩
            case round =>
              clear HA
              obtain ⟨p, rfl, hp, HA⟩ := hrel
              by_cases hltp : p < n
              · have hpi : (p : Int) < n := by omega
                obtain ⟨wq, hwq⟩ : ∃ wq, wq = wr := ⟨_, rfl⟩
                subst hwq
                go_wp2_with fail
                go_loopw [13] (fun u wr => ∃ (q : Nat), u = .int .i64 (q : Nat) ∧ q ≤ n ∧ Hid (AI w S n k2 W wr)) (fun u _ => n - (intOf u).toNat)
                case atStart => exact ⟨0, rfl, by omega, HA⟩
                case round =>
                  clear HA
                  obtain ⟨q, rfl, hq, HA⟩ := hrel
                  by_cases hltq : q < n
                  · have hqi : (q : Int) < n := by omega
                    have hst := tstable_ok p q wr HA.out.tv h5 hltp hltq
                    have e1 : M.lst (fun b => k2 p b q) (k2 p p q) n = W q := by
                      rw [HE.out p p q hltp hltp hltq]
                      exact M.lst_eq (fun b hb => HE.out p b q hltp hb hltq)
                    rw [e1] at hst
                    clear e1
                    go_wp2_with fail
                    refine hst.mono ?_
                    rintro e w4 ⟨rfl, hB4⟩
                    have HA4 : Hid (AI w S n k2 W w4) := HA.out.later hB4
                    have hkn := tknows_ok q q q w4 HA4.out.tv h5 hltq hltq hltq
                    rw [HE.out q q q hltq hltq hltq] at hkn
                    obtain ⟨x, hx⟩ : ∃ x, W q = x := ⟨_, rfl⟩
                    rw [hx] at hkn ⊢
                    clear hst HA hB4 hx
                    go_wp2_with fail
                    refine hkn.mono ?_
                    rintro e w5 ⟨rfl, rfl⟩
                    go_wp2_with fail
                    go_roundw
                    case rel => exact ⟨q + 1, by go_num, by omega, HA4⟩
                    case measure => simp [intOf]; omega
                  · obtain rfl : n = q := by omega
                    go_wp2_with fail
                    go_roundw
                    case rel => exact ⟨p + 1, by go_num, by omega, HA⟩
                    case measure => simp [intOf]; omega
              · obtain rfl : n = p := by omega
                go_wp2_with fail
                go_ret
                exact ⟨rfl, HA.out.bl⟩
      · obtain rfl : m = i := by omega
        clear hor
        go_wp2_with fail
        have HR : Hid (TR3 w S n W 0 0 0 wr) := ⟨_, HA.out, M.TR.begin HA.out.ti⟩
        clear HA
        obtain ⟨wo, hwo⟩ : ∃ wo, wo = wr := ⟨_, rfl⟩
        subst hwo
        go_loopw [9, 10, 11] (fun u _ _ wr => ∃ (r : Nat), u = .int .i64 (r : Nat) ∧ r ≤ 3 ∧ Hid (TR3 w S n W r 0 0 wr)) (fun u _ _ _ => 3 - (intOf u).toNat)
        case atStart => exact ⟨0, rfl, by omega, HR⟩
        case round =>
          clear HR
          obtain ⟨r, rfl, hr, HR⟩ := hrel
          by_cases hltr : r < 3
          · have hri : (r : Int) < 3 := by omega
            obtain ⟨wp, hwp⟩ : ∃ wp, wp = wr := ⟨_, rfl⟩
            subst hwp
            go_wp2_with fail
            go_loopw [10, 11] (fun u _ wr => ∃ (p : Nat), u = .int .i64 (p : Nat) ∧ p ≤ n ∧ Hid (TR3 w S n W r p 0 wr)) (fun u _ _ => n - (intOf u).toNat)
            case atStart => exact ⟨0, rfl, by omega, HR⟩
            case round =>
              clear HR
              obtain ⟨p, rfl, hp, HR⟩ := hrel
              by_cases hltp : p < n
              · have hpi : (p : Int) < n := by omega
                obtain ⟨wq, hwq⟩ : ∃ wq, wq = wr := ⟨_, rfl⟩
                subst hwq
                go_wp2_with fail
                go_loopw [11] (fun u wr => ∃ (q : Nat), u = .int .i64 (q : Nat) ∧ q ≤ n ∧ Hid (TR3 w S n W r p q wr)) (fun u _ => n - (intOf u).toNat)
                case atStart => exact ⟨0, rfl, by omega, HR⟩
                case round =>
                  clear HR
                  obtain ⟨q, rfl, hq, HR⟩ := hrel
                  by_cases hltq : q < n
                  · have hqi : (q : Int) < n := by omega
                    by_cases hpq : p = q
                    · subst hpq
                      have H2 : Hid (TR3 w S n W r p (p + 1) wr) := by
                        obtain ⟨k, h1, h2⟩ := HR.out
                        exact ⟨k, h1, h2.same⟩
                      clear HR
                      go_wp2_with fail
                      go_roundw
                      case rel => exact ⟨p + 1, by go_num, by omega, H2⟩
                      case measure => simp [intOf]; omega
                    · have hne : ((p : Int) != (q : Int)) = true := by simp; omega
                      have hne' : (p != q) = true := by simp; omega
                      obtain ⟨K, hK⟩ : ∃ K, AI w S n K W wr ∧ M.TR n K W r p q := HR.out
                      have HK : Hid (AI w S n K W wr ∧ M.TR n K W r p q) := hK
                      have ht := ttell_ok (p : Int) (q : Int) wr hK.1.tv h5
                      rw [teT_in K hltp hltq hpq] at ht
                      have HPQ : Hid (p ≠ q) := hpq
                      clear HR hK hpq
                      go_wp2_with fail
                      refine ht.mono ?_
                      rintro e w4 ⟨rfl, hV4, hF4⟩
                      have H2 : Hid (TR3 w S n W r p (q + 1) w4) := ⟨_, HK.out.1.frm hV4 (HK.out.2.ti.te hltp hltq) hF4, HK.out.2.tell hltp hltq⟩
                      clear hV4 hF4 HK ht
                      rw [terr_zero]
                      go_wp2_with fail
                      go_roundw
                      case rel => exact ⟨q + 1, by go_num, by omega, H2⟩
                      case measure => simp [intOf]; omega
                  · obtain rfl : n = q := by omega
                    have H2 : Hid (TR3 w S n W r (p + 1) 0 wr) := by
                      obtain ⟨k, h1, h2⟩ := HR.out
                      exact ⟨k, h1, h2.row⟩
                    clear HR
                    go_wp2_with fail
                    go_roundw
                    case rel => exact ⟨p + 1, by go_num, by omega, H2⟩
                    case measure => simp [intOf]; omega
              · obtain rfl : n = p := by omega
                have H2 : Hid (TR3 w S n W (r + 1) 0 0 wr) := by
                  obtain ⟨k, h1, h2⟩ := HR.out
                  exact ⟨k, h1, h2.round⟩
                clear HR
                go_wp2_with fail
                go_roundw
                case rel => exact ⟨r + 1, by go_num, by omega, H2⟩
                case measure => simp [intOf]; omega
          · have hr3 : (3 : Int) ≤ (r : Int) := by omega
            obtain ⟨k2, h2, h3⟩ := HR.out
            have HA : Hid (AI w S n k2 W wr) := h2
            have HE : Hid (M.A1 n k2 W) := h3.r2 (by omega)
            clear HR h2 h3
            obtain ⟨wp, hwp⟩ : ∃ wp, wp = wr := ⟨_, rfl⟩
            subst hwp
            go_wp2_with fail
            go_loopw [12, 13] (fun u _ wr => ∃ (p : Nat), u = .int .i64 (p : Nat) ∧ p ≤ n ∧ Hid (AI w S n k2 W wr)) (fun u _ _ => n - (intOf u).toNat)
            case atStart => exact ⟨0, rfl, by omega, HA⟩
            case round =>
              clear HA
              obtain ⟨p, rfl, hp, HA⟩ := hrel
              by_cases hltp : p < n
              · have hpi : (p : Int) < n := by omega
                obtain ⟨wq, hwq⟩ : ∃ wq, wq = wr := ⟨_, rfl⟩
                subst hwq
                go_wp2_with fail
                go_loopw [13] (fun u wr => ∃ (q : Nat), u = .int .i64 (q : Nat) ∧ q ≤ n ∧ Hid (AI w S n k2 W wr)) (fun u _ => n - (intOf u).toNat)
                case atStart => exact ⟨0, rfl, by omega, HA⟩
                case round =>
                  clear HA
                  obtain ⟨q, rfl, hq, HA⟩ := hrel
                  by_cases hltq : q < n
                  · have hqi : (q : Int) < n := by omega
                    have hst := tstable_ok p q wr HA.out.tv h5 hltp hltq
                    have e1 : M.lst (fun b => k2 p b q) (k2 p p q) n = W q := by
                      rw [HE.out p p q hltp hltp hltq]
                      exact M.lst_eq (fun b hb => HE.out p b q hltp hb hltq)
                    rw [e1] at hst
                    clear e1
                    go_wp2_with fail
                    refine hst.mono ?_
                    rintro e w4 ⟨rfl, hB4⟩
                    have HA4 : Hid (AI w S n k2 W w4) := HA.out.later hB4
                    have hkn := tknows_ok q q q w4 HA4.out.tv h5 hltq hltq hltq
                    rw [HE.out q q q hltq hltq hltq] at hkn
                    obtain ⟨x, hx⟩ : ∃ x, W q = x := ⟨_, rfl⟩
                    rw [hx] at hkn ⊢
                    clear hst HA hB4 hx
                    go_wp2_with fail
                    refine hkn.mono ?_
                    rintro e w5 ⟨rfl, rfl⟩
                    go_wp2_with fail
                    go_roundw
                    case rel => exact ⟨q + 1, by go_num, by omega, HA4⟩
                    case measure => simp [intOf]; omega
                  · obtain rfl : n = q := by omega
                    go_wp2_with fail
                    go_roundw
                    case rel => exact ⟨p + 1, by go_num, by omega, HA⟩
                    case measure => simp [intOf]; omega
              · obtain rfl : n = p := by omega
                go_wp2_with fail
                go_ret
                exact ⟨rfl, HA.out.bl⟩
end Go.Proofs.Ytelonimdpeenaaa
