/- IT ENDS WHEN ALL MARKS CAME (law SnapEnds), the walk. -/
import Derived.Test.YtplplgpfglaajaaHsm4
namespace Go.Proofs.Ytplplgpfglaajaa
open Go.RowKit
/-- A bank whose ways were gone over N times, with all its money. -/
structure ES (w : World) (S n s N : Nat) (all : Int) (b : M.Bk) (wr : World) : Prop where
  bv : BV (fun k => w.heap.size ≤ k) S n b wr
  ei : M.EI n s N b
  tt : M.tot n b = all
  bl : Below w.heap.size w wr
set_option maxRecDepth 100000 in
set_option maxHeartbeats 4000000 in
theorem se_walk (zs : List Int) (p : Option Addr) (n cap : Nat) (ms : List Mv) (q : Option Addr) (m cap2 : Nat) (w : World) (hl : zs.length = n) (hmax : n ≤ maxLen) (hc : HasI zs p w) (_ : ∀ k : Nat, zs[k]?.getD 0 < 9223372036854775808) (hl2 : ms.length = m) (hmax2 : m ≤ maxLen) (hm : HasM ms q w) :
    Calls Try.prog 5 #[.slice p n cap, .slice q m cap2] w fun e w' => e = .returned (.bool true) ∧ Below w.heap.size w w' := by
  go_enter Try.func5, Try.ntmps5
  go_wp2_with fail
  refine (snapFact_ok w).mono ?_
  rintro e w1 ⟨rfl, hB1⟩
  go_wp2_with fail
  by_cases h0 : M.newC zs = 0
  · refine (new_ok zs p n cap w1 hl hmax (hc.later hB1) h0 (O := fun k => w.heap.size ≤ k) (fun k hk => Nat.le_trans hB1.size hk)).mono ?_
    rintro e w2 ⟨S, rfl, hV2, hB2⟩
    obtain ⟨z1, z2, z3⟩ := M.newC_zero h0
    have hC2 := bel_on hB1 hB2
    have G0 : M.BG n (M.newB (M.mof zs)) := M.BG.new (by omega) (by omega) (fun i hi => z3 i (by omega))
    have HV : Hid (BV (fun k => w.heap.size ≤ k) S n (M.newB (M.mof zs)) w2) := hV2
    have HG : Hid (M.BG n (M.newB (M.mof zs))) := G0
    have HT : Hid (M.tot n (M.newB (M.mof zs)) = M.suml zs) := by rw [M.tot_new]; unfold M.suml; rw [hl]; rfl
    have HZ : Hid (∀ i, i < n → 0 ≤ M.mof zs i ∧ M.mof zs i ≤ 10000) := fun i hi => by have := z3 i (by omega); omega
    have h5 : n ≤ 5 := by omega
    have hn0 : 0 < n := by omega
    obtain ⟨all, hall⟩ : ∃ all, M.suml zs = all := ⟨_, rfl⟩
    have HA : Hid (M.suml zs = all) := hall
    rw [hall] at HT
    have H2 : Hid (Below w.heap.size w w2) := hC2
    have HM : Hid (HasM ms q w) := hm
    have HC : Hid (HasI zs p w) := hc
    unfold maxLen at hmax2
    clear hV2 hB2 G0 z1 z2 z3 h0 hB1 hall hC2 hc hm
    go_wp2_with fail
    go_loopw [8] (fun v wr => ∃ (i : Nat) (b : M.Bk), v = .int .i64 i ∧ i ≤ m ∧ i ≤ 40 ∧ Hid (BV (fun k => w.heap.size ≤ k) S n b wr) ∧ Hid (M.BG n b) ∧ Hid (M.tot n b = all) ∧ Hid (Below w.heap.size w wr)) (fun v _ => 40 - (intOf v).toNat)
    case atStart => exact ⟨0, _, rfl, Nat.zero_le _, Nat.zero_le _, HV, HG, HT, H2⟩
    case round =>
      clear HV HG HT H2
      obtain ⟨i, b, rfl, hi, hi2, HV, HG, HT, HB⟩ := hrel
      by_cases hcond : i < m ∧ i < 40
      · obtain ⟨hlt, hlt2⟩ := hcond
        obtain ⟨b', off, rfl, hb, c0, c1, c2, c3⟩ := (HM.out.later HB.out) i (by omega)
        obtain ⟨⟨k, f, t, s⟩, hmv⟩ : ∃ mv, mvAt ms i = mv := ⟨_, rfl⟩
        rw [hmv] at c0 c1 c2 c3
        simp only at c0 c1 c2 c3
        have hii : (i : Int) < m := by omega
        have hi40 : (i : Int) < 40 := by omega
        clear hmv
        go_wp2_with fail
        refine (do_ok k f t s wr HV.out (fun k hk => Nat.le_trans HB.out.size hk) HG.out).mono ?_
        rintro e w4 ⟨rfl, hV4, hF4⟩
        have V4 : Hid (BV (fun k => w.heap.size ≤ k) S n (M.mvB n b k f t s).1 w4) := hV4
        have G4 : Hid (M.BG n (M.mvB n b k f t s).1) := HG.out.mv k f t s
        have T4 : Hid (M.tot n (M.mvB n b k f t s).1 = all) := by rw [(M.mv_all HG.out.ok k f t s).2.1]; exact HT
        have B4 : Hid (Below w.heap.size w w4) := HB.out.trans (frm_below hF4 HB.out.size)
        clear hV4 hF4 HV HG HT HB c0 c1 c2 c3 hb
        go_wp2_with fail
        go_roundw
        case rel => exact ⟨i + 1, _, by go_num, by omega, by omega, V4, G4, T4, B4⟩
        case measure => simp [intOf]; omega
      · have hg : (decide ((i : Int) < m) && decide ((i : Int) < 40)) = false := by
          rw [Bool.and_eq_false_iff, decide_eq_false_iff_not, decide_eq_false_iff_not]; omega
        have START : ∃ s, s < n ∧ ∀ w4, BV (fun k => w.heap.size ≤ k) S n (M.mvB n b 2 0 0 0).1 w4 → Below w.heap.size w w4 → ES w S n s 0 all (M.mvB n b 2 0 0 0).1 w4 := by
          obtain ⟨s, hs, hn⟩ := M.mv_begun HG.out 0 0
          exact ⟨s, hs, fun w4 v4 b4 => ⟨v4, M.EI.begin (HG.out.mv 2 0 0 0) hn, by rw [(M.mv_all HG.out.ok 2 0 0 0).2.1]; exact HT, b4⟩⟩
        obtain ⟨s, hs, START⟩ := START
        have ST : Hid (∀ w4, BV (fun k => w.heap.size ≤ k) S n (M.mvB n b 2 0 0 0).1 w4 → Below w.heap.size w w4 → ES w S n s 0 all (M.mvB n b 2 0 0 0).1 w4) := START
        clear START
        by_cases hlt : i < m
        · have h40 : i = 40 := by omega
          subst h40
          have hii : (40 : Int) < m := by omega
          clear hcond hg
          go_wp2_with fail
          refine (do_ok 2 0 0 0 wr HV.out (fun k hk => Nat.le_trans HB.out.size hk) HG.out).mono ?_
          rintro e w4 ⟨rfl, hV4, hF4⟩
          have E0 : Hid (ES w S n s 0 all (M.mvB n b 2 0 0 0).1 w4) := ST.out w4 hV4 (HB.out.trans (frm_below hF4 HB.out.size))
          obtain ⟨b1, hb1⟩ : ∃ b1, (M.mvB n b 2 0 0 0).1 = b1 := ⟨_, rfl⟩
          rw [hb1] at E0
          obtain ⟨er, her⟩ : ∃ er, terr (M.mvB n b 2 0 0 0).2 = er := ⟨_, rfl⟩
          rw [her]
          clear hV4 hF4 HV HG HT HB ST hb1 her
          go_wp2_with fail
          go_loopw [10] (fun v wr => ∃ (r : Nat) (b : M.Bk), v = .int .i64 r ∧ r ≤ 5 ∧ Hid (ES w S n s (r * (n * n)) all b wr)) (fun v _ => 5 - (intOf v).toNat)
          case atStart => exact ⟨0, b1, rfl, Nat.zero_le _, by rw [Nat.zero_mul]; exact E0⟩
          case round =>
            clear E0
            obtain ⟨r, b2, rfl, hr, E1⟩ := hrel
            by_cases hr5 : r < 5
            · have hri : (r : Int) < 5 := by omega
              obtain ⟨wo, hwo⟩ : ∃ wo, wo = wr := ⟨_, rfl⟩
              subst hwo
              go_wp2_with fail
              go_loopw [11] (fun v wr => ∃ (a : Nat) (b : M.Bk), v = .int .i64 a ∧ a ≤ n ∧ Hid (ES w S n s (r * (n * n) + a * n) all b wr)) (fun v _ => n - (intOf v).toNat)
              case atStart => exact ⟨0, b2, rfl, Nat.zero_le _, by rw [Nat.zero_mul]; exact E1⟩
              case round =>
                clear E1
                obtain ⟨a, b3, rfl, ha, E2⟩ := hrel
                by_cases han : a < n
                · have hai : (a : Int) < n := by omega
                  obtain ⟨wp, hwp⟩ : ∃ wp, wp = wr := ⟨_, rfl⟩
                  subst hwp
                  go_wp2_with fail
                  go_loopw [12] (fun v wr => ∃ (c : Nat) (b : M.Bk), v = .int .i64 c ∧ c ≤ n ∧ Hid (ES w S n s (r * (n * n) + a * n + c) all b wr)) (fun v _ => n - (intOf v).toNat)
                  case atStart => exact ⟨0, b3, rfl, Nat.zero_le _, E2⟩
                  case round =>
                    clear E2
                    obtain ⟨c, b4, rfl, hcn, E3⟩ := hrel
                    by_cases hcl : c < n
                    · have hci : (c : Int) < n := by omega
                      obtain ⟨wq, hwq⟩ : ∃ wq, wq = wr := ⟨_, rfl⟩
                      subst hwq
                      have NX : Hid (∀ b' w', M.Cms n b4 b' → (a ≠ c → b'.wy a c = []) → BV (fun k => w.heap.size ≤ k) S n b' w' → Below w.heap.size w w' → ES w S n s (r * (n * n) + a * n + (c + 1)) all b' w') := fun b' w' k hw v4 bl =>
                        ⟨v4, E3.out.ei.step hs han hcl rfl k hw, by rw [k.tt]; exact E3.out.tt, bl⟩
                      go_wp2_with fail
                      go_loopw [13] (fun v wr => ∃ (k : Nat) (b' : M.Bk), v = .int .i64 k ∧ k ≤ 9 ∧ Hid (a ≠ c → (b'.wy a c).length + k ≤ 9) ∧ Hid (M.Cms n b4 b') ∧ Hid (BV (fun k => w.heap.size ≤ k) S n b' wr) ∧ Hid (Below w.heap.size w wr)) (fun v _ => 9 - (intOf v).toNat)
                      case atStart => exact ⟨0, b4, rfl, Nat.zero_le _, (fun _ => by have := E3.out.ei.bg.cnt a c; omega : a ≠ c → _), M.Cms.refl E3.out.ei.bg, E3.out.bv, E3.out.bl⟩
                      case round =>
                        clear E3
                        obtain ⟨k, b5, rfl, hk9, hlen, hcm, hbv, hbl⟩ := hrel
                        have hk20 : (k : Int) < 20 := by omega
                        by_cases hac : a = c
                        · subst hac
                          have FIN : Hid (ES w S n s (r * (n * n) + a * n + (a + 1)) all b5 wr) := NX.out b5 wr hcm.out (fun x => absurd rfl x) hbv.out hbl.out
                          clear NX hlen hcm hbv hbl
                          go_wp2_with fail
                          go_roundw
                          case rel => exact ⟨a + 1, b5, by go_num, by omega, FIN⟩
                          case measure => simp [intOf]; omega
                        · have hne : ((a : Int) != (c : Int)) = true := by simp; omega
                          have hne' : (a != c) = true := by simp; omega
                          have HAC : Hid (a ≠ c) := hac
                          clear hac
                          go_wp2_with fail
                          refine (way_ok a c wr hbv.out hcm.out.bg han hcl).mono ?_
                          rintro e w5 ⟨ad, cc, rfl, _, hB5⟩
                          have V5 : Hid (BV (fun k => w.heap.size ≤ k) S n b5 w5) := hbv.out.below hB5
                          have B5 : Hid (Below w.heap.size w w5) := bel_on hbl.out hB5
                          have HL : Hid ((b5.wy a c).length + k ≤ 9) := hlen.out HAC.out
                          cases hw : b5.wy a c with
                          | nil =>
                            have FIN : Hid (ES w S n s (r * (n * n) + a * n + (c + 1)) all b5 w5) := NX.out b5 w5 hcm.out (fun _ => hw) V5.out B5.out
                            rw [List.length_nil]
                            clear NX hlen hcm hbv hbl hB5 V5 B5 HL hw
                            go_wp2_with fail
                            go_roundw
                            case rel => exact ⟨c + 1, b5, by go_num, by omega, FIN⟩
                            case measure => simp [intOf]; omega
                          | cons x rr =>
                            obtain ⟨s1, s2, s3⟩ := hcm.out.step han hcl HAC.out hw 0
                            obtain ⟨L, hL⟩ : ∃ L, (x :: rr).length = L := ⟨_, rfl⟩
                            have hL0 : 0 < L := by rw [← hL]; simp
                            have hL9 : L + k ≤ 9 := by have := HL.out; rw [hw, hL] at this; exact this
                            have hLr : rr.length + 1 = L := by rw [← hL]; simp
                            rw [hL]
                            have hL0' : (0 : Int) < (L : Int) := by omega
                            have CM : Hid (M.Cms n b4 (M.mvB n b5 1 (a : Int) (c : Int) 0).1) := s1
                            have LN : Hid (a ≠ c → ((M.mvB n b5 1 (a : Int) (c : Int) 0).1.wy a c).length + (k + 1) ≤ 9) := fun _ => by rw [s2]; omega
                            have GG : Hid (M.BG n b5) := hcm.out.bg
                            clear NX hlen hcm hbv hbl hB5 HL hw s1 s2 hL hLr
                            go_wp2_with fail
                            refine (do_ok 1 (a : Int) (c : Int) 0 w5 V5.out (fun k hk => Nat.le_trans B5.out.size hk) GG.out).mono ?_
                            rw [s3, terr_zero]
                            rintro e w6 ⟨rfl, hV6, hF6⟩
                            have V6 : Hid (BV (fun k => w.heap.size ≤ k) S n (M.mvB n b5 1 (a : Int) (c : Int) 0).1 w6) := hV6
                            have B6 : Hid (Below w.heap.size w w6) := B5.out.trans (frm_below hF6 B5.out.size)
                            clear s3 hV6 hF6 V5 B5 GG
                            go_wp2_with fail
                            go_roundw
                            case rel => exact ⟨k + 1, _, by go_num, by omega, LN, CM, V6, B6⟩
                            case measure => simp [intOf]; omega
                    · obtain rfl : n = c := by omega
                      have FIN : Hid (ES w S n s (r * (n * n) + (a + 1) * n) all b4 wr) := by rw [Nat.succ_mul, ← Nat.add_assoc]; exact E3
                      clear E3
                      go_wp2_with fail
                      go_roundw
                      case rel => exact ⟨a + 1, b4, by go_num, by omega, FIN⟩
                      case measure => simp [intOf]; omega
                · obtain rfl : n = a := by omega
                  have FIN : Hid (ES w S n s ((r + 1) * (n * n)) all b3 wr) := by rw [Nat.succ_mul]; exact E2
                  clear E2
                  go_wp2_with fail
                  go_roundw
                  case rel => exact ⟨r + 1, b3, by go_num, by omega, FIN⟩
                  case measure => simp [intOf]; omega
            · obtain rfl : r = 5 := by omega
              obtain ⟨AL, TT⟩ := E1.out.ei.end_ hs
              have HS : Hid (M.suml (M.mol n b2) = all) := by rw [M.suml_mol, ← TT]; exact E1.out.tt
              have E2 : Hid (ES w S n s (5 * (n * n)) all b2 wr) := E1
              clear E1 TT
              go_wp2_with fail
              refine (noted_yes wr E2.out.bv h5 AL).mono ?_
              rintro e w5 ⟨p1, d1, p2, d2, rfl, _, _, hB5⟩
              have V5 : Hid (BV (fun k => w.heap.size ≤ k) S n b2 w5) := E2.out.bv.below hB5
              have B5 : Hid (Below w.heap.size w w5) := bel_on E2.out.bl hB5
              have GG : Hid (M.BG n b2) := E2.out.ei.bg
              clear hB5 E2 AL
              go_wp2_with fail
              refine (money_ok w5 V5.out h5).mono ?_
              rintro e w6 ⟨ad, rfl, hI6, hB6⟩
              have B6 : Hid (Below w.heap.size w w6) := bel_on B5.out hB6
              clear V5 B5 hB6
              go_wp2_with fail
              refine (sum_ok (M.mol n b2) ad n n w6 (M.mol_length n b2) (by omega) (mol_bound GG.out) hI6).mono ?_
              rw [HS.out]
              rintro e w7 ⟨rfl, rfl⟩
              clear hI6
              go_wp2_with fail
              refine (sum_ok zs p n cap w6 hl (by omega) HZ.out (HC.out.later B6.out)).mono ?_
              rw [HA.out]
              rintro e w7 ⟨rfl, rfl⟩
              go_wp2_with fail
              go_ret
              exact ⟨rfl, B6.out⟩
        · obtain rfl : m = i := by omega
          clear hcond hg
          go_wp2_with fail
          refine (do_ok 2 0 0 0 wr HV.out (fun k hk => Nat.le_trans HB.out.size hk) HG.out).mono ?_
          rintro e w4 ⟨rfl, hV4, hF4⟩
          have E0 : Hid (ES w S n s 0 all (M.mvB n b 2 0 0 0).1 w4) := ST.out w4 hV4 (HB.out.trans (frm_below hF4 HB.out.size))
          obtain ⟨b1, hb1⟩ : ∃ b1, (M.mvB n b 2 0 0 0).1 = b1 := ⟨_, rfl⟩
          rw [hb1] at E0
          obtain ⟨er, her⟩ : ∃ er, terr (M.mvB n b 2 0 0 0).2 = er := ⟨_, rfl⟩
          rw [her]
          clear hV4 hF4 HV HG HT HB ST hb1 her
          go_wp2_with fail
          go_loopw [10] (fun v wr => ∃ (r : Nat) (b : M.Bk), v = .int .i64 r ∧ r ≤ 5 ∧ Hid (ES w S n s (r * (n * n)) all b wr)) (fun v _ => 5 - (intOf v).toNat)
          case atStart => exact ⟨0, b1, rfl, Nat.zero_le _, by rw [Nat.zero_mul]; exact E0⟩
          case round =>
            clear E0
            obtain ⟨r, b2, rfl, hr, E1⟩ := hrel
            by_cases hr5 : r < 5
            · have hri : (r : Int) < 5 := by omega
              obtain ⟨wo, hwo⟩ : ∃ wo, wo = wr := ⟨_, rfl⟩
              subst hwo
              go_wp2_with fail
              go_loopw [11] (fun v wr => ∃ (a : Nat) (b : M.Bk), v = .int .i64 a ∧ a ≤ n ∧ Hid (ES w S n s (r * (n * n) + a * n) all b wr)) (fun v _ => n - (intOf v).toNat)
              case atStart => exact ⟨0, b2, rfl, Nat.zero_le _, by rw [Nat.zero_mul]; exact E1⟩
              case round =>
                clear E1
                obtain ⟨a, b3, rfl, ha, E2⟩ := hrel
                by_cases han : a < n
                · have hai : (a : Int) < n := by omega
                  obtain ⟨wp, hwp⟩ : ∃ wp, wp = wr := ⟨_, rfl⟩
                  subst hwp
                  go_wp2_with fail
                  go_loopw [12] (fun v wr => ∃ (c : Nat) (b : M.Bk), v = .int .i64 c ∧ c ≤ n ∧ Hid (ES w S n s (r * (n * n) + a * n + c) all b wr)) (fun v _ => n - (intOf v).toNat)
                  case atStart => exact ⟨0, b3, rfl, Nat.zero_le _, E2⟩
                  case round =>
                    clear E2
                    obtain ⟨c, b4, rfl, hcn, E3⟩ := hrel
                    by_cases hcl : c < n
                    · have hci : (c : Int) < n := by omega
                      obtain ⟨wq, hwq⟩ : ∃ wq, wq = wr := ⟨_, rfl⟩
                      subst hwq
                      have NX : Hid (∀ b' w', M.Cms n b4 b' → (a ≠ c → b'.wy a c = []) → BV (fun k => w.heap.size ≤ k) S n b' w' → Below w.heap.size w w' → ES w S n s (r * (n * n) + a * n + (c + 1)) all b' w') := fun b' w' k hw v4 bl =>
                        ⟨v4, E3.out.ei.step hs han hcl rfl k hw, by rw [k.tt]; exact E3.out.tt, bl⟩
                      go_wp2_with fail
                      go_loopw [13] (fun v wr => ∃ (k : Nat) (b' : M.Bk), v = .int .i64 k ∧ k ≤ 9 ∧ Hid (a ≠ c → (b'.wy a c).length + k ≤ 9) ∧ Hid (M.Cms n b4 b') ∧ Hid (BV (fun k => w.heap.size ≤ k) S n b' wr) ∧ Hid (Below w.heap.size w wr)) (fun v _ => 9 - (intOf v).toNat)
                      case atStart => exact ⟨0, b4, rfl, Nat.zero_le _, (fun _ => by have := E3.out.ei.bg.cnt a c; omega : a ≠ c → _), M.Cms.refl E3.out.ei.bg, E3.out.bv, E3.out.bl⟩
                      case round =>
                        clear E3
                        obtain ⟨k, b5, rfl, hk9, hlen, hcm, hbv, hbl⟩ := hrel
                        have hk20 : (k : Int) < 20 := by omega
                        by_cases hac : a = c
                        · subst hac
                          have FIN : Hid (ES w S n s (r * (n * n) + a * n + (a + 1)) all b5 wr) := NX.out b5 wr hcm.out (fun x => absurd rfl x) hbv.out hbl.out
                          clear NX hlen hcm hbv hbl
                          go_wp2_with fail
                          go_roundw
                          case rel => exact ⟨a + 1, b5, by go_num, by omega, FIN⟩
                          case measure => simp [intOf]; omega
                        · have hne : ((a : Int) != (c : Int)) = true := by simp; omega
                          have hne' : (a != c) = true := by simp; omega
                          have HAC : Hid (a ≠ c) := hac
                          clear hac
                          go_wp2_with fail
                          refine (way_ok a c wr hbv.out hcm.out.bg han hcl).mono ?_
                          rintro e w5 ⟨ad, cc, rfl, _, hB5⟩
                          have V5 : Hid (BV (fun k => w.heap.size ≤ k) S n b5 w5) := hbv.out.below hB5
                          have B5 : Hid (Below w.heap.size w w5) := bel_on hbl.out hB5
                          have HL : Hid ((b5.wy a c).length + k ≤ 9) := hlen.out HAC.out
                          cases hw : b5.wy a c with
                          | nil =>
                            have FIN : Hid (ES w S n s (r * (n * n) + a * n + (c + 1)) all b5 w5) := NX.out b5 w5 hcm.out (fun _ => hw) V5.out B5.out
                            rw [List.length_nil]
                            clear NX hlen hcm hbv hbl hB5 V5 B5 HL hw
                            go_wp2_with fail
                            go_roundw
                            case rel => exact ⟨c + 1, b5, by go_num, by omega, FIN⟩
                            case measure => simp [intOf]; omega
                          | cons x rr =>
                            obtain ⟨s1, s2, s3⟩ := hcm.out.step han hcl HAC.out hw 0
                            obtain ⟨L, hL⟩ : ∃ L, (x :: rr).length = L := ⟨_, rfl⟩
                            have hL0 : 0 < L := by rw [← hL]; simp
                            have hL9 : L + k ≤ 9 := by have := HL.out; rw [hw, hL] at this; exact this
                            have hLr : rr.length + 1 = L := by rw [← hL]; simp
                            rw [hL]
                            have hL0' : (0 : Int) < (L : Int) := by omega
                            have CM : Hid (M.Cms n b4 (M.mvB n b5 1 (a : Int) (c : Int) 0).1) := s1
                            have LN : Hid (a ≠ c → ((M.mvB n b5 1 (a : Int) (c : Int) 0).1.wy a c).length + (k + 1) ≤ 9) := fun _ => by rw [s2]; omega
                            have GG : Hid (M.BG n b5) := hcm.out.bg
                            clear NX hlen hcm hbv hbl hB5 HL hw s1 s2 hL hLr
                            go_wp2_with fail
                            refine (do_ok 1 (a : Int) (c : Int) 0 w5 V5.out (fun k hk => Nat.le_trans B5.out.size hk) GG.out).mono ?_
                            rw [s3, terr_zero]
                            rintro e w6 ⟨rfl, hV6, hF6⟩
                            have V6 : Hid (BV (fun k => w.heap.size ≤ k) S n (M.mvB n b5 1 (a : Int) (c : Int) 0).1 w6) := hV6
                            have B6 : Hid (Below w.heap.size w w6) := B5.out.trans (frm_below hF6 B5.out.size)
                            clear s3 hV6 hF6 V5 B5 GG
                            go_wp2_with fail
                            go_roundw
                            case rel => exact ⟨k + 1, _, by go_num, by omega, LN, CM, V6, B6⟩
                            case measure => simp [intOf]; omega
                    · obtain rfl : n = c := by omega
                      have FIN : Hid (ES w S n s (r * (n * n) + (a + 1) * n) all b4 wr) := by rw [Nat.succ_mul, ← Nat.add_assoc]; exact E3
                      clear E3
                      go_wp2_with fail
                      go_roundw
                      case rel => exact ⟨a + 1, b4, by go_num, by omega, FIN⟩
                      case measure => simp [intOf]; omega
                · obtain rfl : n = a := by omega
                  have FIN : Hid (ES w S n s ((r + 1) * (n * n)) all b3 wr) := by rw [Nat.succ_mul]; exact E2
                  clear E2
                  go_wp2_with fail
                  go_roundw
                  case rel => exact ⟨r + 1, b3, by go_num, by omega, FIN⟩
                  case measure => simp [intOf]; omega
            · obtain rfl : r = 5 := by omega
              obtain ⟨AL, TT⟩ := E1.out.ei.end_ hs
              have HS : Hid (M.suml (M.mol n b2) = all) := by rw [M.suml_mol, ← TT]; exact E1.out.tt
              have E2 : Hid (ES w S n s (5 * (n * n)) all b2 wr) := E1
              clear E1 TT
              go_wp2_with fail
              refine (noted_yes wr E2.out.bv h5 AL).mono ?_
              rintro e w5 ⟨p1, d1, p2, d2, rfl, _, _, hB5⟩
              have V5 : Hid (BV (fun k => w.heap.size ≤ k) S n b2 w5) := E2.out.bv.below hB5
              have B5 : Hid (Below w.heap.size w w5) := bel_on E2.out.bl hB5
              have GG : Hid (M.BG n b2) := E2.out.ei.bg
              clear hB5 E2 AL
              go_wp2_with fail
              refine (money_ok w5 V5.out h5).mono ?_
              rintro e w6 ⟨ad, rfl, hI6, hB6⟩
              have B6 : Hid (Below w.heap.size w w6) := bel_on B5.out hB6
              clear V5 B5 hB6
              go_wp2_with fail
              refine (sum_ok (M.mol n b2) ad n n w6 (M.mol_length n b2) (by omega) (mol_bound GG.out) hI6).mono ?_
              rw [HS.out]
              rintro e w7 ⟨rfl, rfl⟩
              clear hI6
              go_wp2_with fail
              refine (sum_ok zs p n cap w6 hl (by omega) HZ.out (HC.out.later B6.out)).mono ?_
              rw [HA.out]
              rintro e w7 ⟨rfl, rfl⟩
              go_wp2_with fail
              go_ret
              exact ⟨rfl, B6.out⟩
  · refine (new_err zs p n cap w1 hl hmax (hc.later hB1) h0).mono ?_
    rintro e w2 ⟨rfl, hB2⟩
    have FIN : Hid (Below w.heap.size w w2) := bel_on hB1 hB2
    rw [terr_ne h0]
    clear hB1 hB2 h0
    go_wp2_with fail
    go_ret
    exact ⟨rfl, FIN.out⟩
end Go.Proofs.Ytplplgpfglaajaa
