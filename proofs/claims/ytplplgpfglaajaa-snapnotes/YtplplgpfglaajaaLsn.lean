/- CHANDY, LAMPORT: WHAT IS NOTED COULD HAVE BEEN (law SnapNotes), the walk. -/
import Derived.Test.YtplplgpfglaajaaHsm4
namespace Go.Proofs.Ytplplgpfglaajaa
open Go.RowKit
namespace M
/-- what the first p noted, with what was on the ways to them -/
def N1 (n : Nat) (b : Bk) (p : Nat) : Int := sumN b.no p + sumN (fun a => sumN (b.ca a) n) p
def N2 (n : Nat) (b : Bk) (p q : Nat) : Int := N1 n b p + b.no p + sumN (b.ca p) q
theorem N1_zero (n : Nat) (b : Bk) : N1 n b 0 = 0 := rfl
theorem N2_zero (n : Nat) (b : Bk) (p : Nat) : N2 n b p 0 = N1 n b p + b.no p := by unfold N2; simp [sumN]
theorem N2_step (n : Nat) (b : Bk) (p q : Nat) : N2 n b p (q + 1) = N2 n b p q + b.ca p q := by unfold N2; simp only [sumN]; omega
theorem N2_end (n : Nat) (b : Bk) (p : Nat) : N2 n b p n = N1 n b (p + 1) := by unfold N2 N1; simp only [sumN]; omega
theorem N1_end {n : Nat} {b : Bk} (h : BOk n b) (ha : AllN n b) : N1 n b n = snp n b := by
  rw [← all_snp h ha]
  unfold N1
  rw [sum2_swap]
  rfl
theorem N_bounds {n : Nat} {b : Bk} (h : BG n b) (ha : AllN n b) {p q : Nat} (hp : p < n) (hq : q ≤ n) : 0 ≤ N1 n b p ∧ 0 ≤ b.no p ∧ 0 ≤ N2 n b p q ∧ N2 n b p q ≤ 5000 ∧ N1 n b p ≤ 5000 ∧ b.no p ≤ 5000 := by
  have h1 : 0 ≤ sumN b.no p := sumN_nonneg fun i hi => ha.1 i (by omega)
  have h2 : 0 ≤ sumN (fun a => sumN (b.ca a) n) p := sumN_nonneg fun a _ => sumN_nonneg fun c _ => h.ca0 c a
  have h3 : 0 ≤ sumN (b.ca p) q := sumN_nonneg fun c _ => h.ca0 c p
  have h4 := ha.1 p hp
  have h5 : sumN (b.ca p) q ≤ sumN (b.ca p) n := sumN_part (fun c _ => h.ca0 c p) hq
  have h6 : sumN b.no (p + 1) ≤ sumN b.no n := sumN_part (fun i hi => ha.1 i hi) (by omega)
  have h7 : sumN (fun a => sumN (b.ca a) n) (p + 1) ≤ sumN (fun a => sumN (b.ca a) n) n := sumN_part (fun a _ => sumN_nonneg fun c _ => h.ca0 c a) (by omega)
  have h8 := N1_end h.ok ha
  have h9 := h.sn
  have h10 := h.no_le hp
  unfold N1 at h8
  simp only [sumN] at h6 h7
  unfold N2 N1
  omega
end M
set_option maxRecDepth 100000 in
set_option maxHeartbeats 4000000 in
theorem sn_walk (zs : List Int) (p : Option Addr) (n cap : Nat) (ms : List Mv) (q : Option Addr) (m cap2 : Nat) (w : World) (hl : zs.length = n) (hmax : n ≤ maxLen) (hc : HasI zs p w) (_ : ∀ k : Nat, zs[k]?.getD 0 < 9223372036854775808) (hl2 : ms.length = m) (hmax2 : m ≤ maxLen) (hm : HasM ms q w) :
    Calls Try.prog 4 #[.slice p n cap, .slice q m cap2] w fun e w' => e = .returned (.bool true) ∧ Below w.heap.size w w' := by
  go_enter Try.func4, Try.ntmps4
  go_wp2_with fail
  refine (snapFact_ok w).mono ?_
  rintro e w1 ⟨rfl, hB1⟩
  go_wp2_with fail
  by_cases h0 : M.newC zs = 0
  · refine (new_ok zs p n cap w1 hl hmax (hc.later hB1) h0 (O := fun k => w.heap.size ≤ k) (fun k hk => Nat.le_trans hB1.size hk)).mono ?_
    rintro e w2 ⟨S, rfl, hV2, hB2⟩
    obtain ⟨z1, z2, z3⟩ := M.newC_zero h0
    have hC2 := bel_on hB1 hB2
    have G0 : M.BG n (M.newB (M.mof zs)) := M.BG.new (by omega) (by omega) (fun i hi => z3 i (by omega))
    have HV : Hid (BV (fun k => w.heap.size ≤ k) S n (M.newB (M.mof zs)) w2) := hV2
    have HG : Hid (M.BG n (M.newB (M.mof zs))) := G0
    have HT : Hid (M.snp n (M.newB (M.mof zs)) = M.suml zs) := by rw [M.snp_new]; unfold M.suml; rw [hl]; rfl
    have HZ : Hid (∀ i, i < n → 0 ≤ M.mof zs i ∧ M.mof zs i ≤ 10000) := fun i hi => by have := z3 i (by omega); omega
    have h5 : n ≤ 5 := by omega
    have hn0 : 0 < n := by omega
    clear hV2 hB2 G0 z1 z2 z3 h0 hB1
    go_wp2_with fail
    refine (sum_ok zs p n cap w2 hl (by omega) HZ.out (hc.later hC2)).mono ?_
    rintro e w3 ⟨rfl, rfl⟩
    obtain ⟨all, hall⟩ : ∃ all, M.suml zs = all := ⟨_, rfl⟩
    rw [hall] at HT ⊢
    have H2 : Hid (Below w.heap.size w w2) := hC2
    have HM : Hid (HasM ms q w) := hm
    unfold maxLen at hmax2
    clear hall hC2 hc hm HZ
    go_wp2_with fail
    go_loopw [9, 10] (fun u v wr => ∃ (i : Nat) (b : M.Bk) (was : Int), u = .int .i64 was ∧ v = .int .i64 i ∧ i ≤ m ∧ i ≤ 100 ∧ Hid (was = -1 ∨ (M.AllN n b ∧ was = b.no 0)) ∧ Hid (BV (fun k => w.heap.size ≤ k) S n b wr) ∧ Hid (M.BG n b) ∧ Hid (M.snp n b = all) ∧ Hid (Below w.heap.size w wr)) (fun _ v _ => 100 - (intOf v).toNat)
    case atStart => exact ⟨0, _, -1, rfl, rfl, Nat.zero_le _, Nat.zero_le _, (Or.inl rfl : (-1 : Int) = -1 ∨ _), HV, HG, HT, H2⟩
    case round =>
      clear HV HG HT H2
      obtain ⟨i, b, was, rfl, rfl, hi, hi2, HW, HV, HG, HT, HB⟩ := hrel
      by_cases hlt : i < m
      · by_cases hlt2 : i < 100
        · obtain ⟨b', off, rfl, hb, c0, c1, c2, c3⟩ := (HM.out.later HB.out) i (by omega)
          obtain ⟨⟨k, f, t, s⟩, hmv⟩ : ∃ mv, mvAt ms i = mv := ⟨_, rfl⟩
          rw [hmv] at c0 c1 c2 c3
          simp only at c0 c1 c2 c3
          have hii : (i : Int) < m := by omega
          have hi100 : (i : Int) < 100 := by omega
          clear hmv
          go_wp2_with fail
          refine (do_ok k f t s wr HV.out (fun k hk => Nat.le_trans HB.out.size hk) HG.out).mono ?_
          rintro e w4 ⟨rfl, hV4, hF4⟩
          obtain ⟨c, hcB⟩ : ∃ c, (M.mvB n b k f t s).1 = c := ⟨_, rfl⟩
          have V4 : Hid (BV (fun k => w.heap.size ≤ k) S n c w4) := by rw [← hcB]; exact hV4
          have G4 : Hid (M.BG n c) := by rw [← hcB]; exact HG.out.mv k f t s
          have T4 : Hid (M.snp n c = all) := by rw [← hcB, (M.mv_all HG.out.ok k f t s).2.2.1]; exact HT
          have L4 : Hid (M.Lat2 n b c) := by rw [← hcB]; exact (M.mv_all HG.out.ok k f t s).2.2.2
          have B4 : Hid (Below w.heap.size w w4) := HB.out.trans (frm_below hF4 HB.out.size)
          have W4 : Hid (was = -1 ∨ (M.AllN n c ∧ was = c.no 0)) := by
            rcases HW.out with x | ⟨x, y⟩
            · exact .inl x
            · exact .inr ⟨x.later L4.out, by rw [L4.out.no 0 hn0 (x.1 0 hn0)]; exact y⟩
          clear hV4 hF4 HV HG HT HB c0 c1 c2 c3 hb hcB HW L4
          go_wp2_with fail
          by_cases hA : M.AllN n c
          · refine (noted_yes w4 V4.out h5 hA).mono ?_
            rintro e w5 ⟨p1, d1, p2, d2, rfl, hI5, hR5, hB5⟩
            have V5 : Hid (BV (fun k => w.heap.size ≤ k) S n c w5) := V4.out.below hB5
            have B5 : Hid (Below w.heap.size w w5) := bel_on B4.out hB5
            have I5 : Hid (HasI (M.nol n c) p1 w5) := hI5
            have R5 : Hid (HasRZ (M.cal n c) n p2 w5) := hR5
            have A5 : Hid (M.AllN n c) := hA
            clear V4 B4 hB5 hI5 hR5 hA
            go_wp2_with fail
            go_loopw [14, 15] (fun u v wr => ∃ (a : Nat) (s : Int), u = .int .i64 s ∧ v = .int .i64 a ∧ a ≤ n ∧ Hid (s = M.N1 n c a) ∧ w5 = wr) (fun _ v _ => n - (intOf v).toNat)
            case atStart => exact ⟨0, 0, rfl, rfl, Nat.zero_le _, (rfl : (0 : Int) = M.N1 n c 0), rfl⟩
            case round =>
              obtain ⟨a, s1, rfl, rfl, ha, hs, rfl⟩ := hrel
              by_cases hlta : a < n
              · have hai : (a : Int) < n := by omega
                obtain ⟨ba, oa, rfl, hba, ca0⟩ := I5.out a (by rw [M.nol_length]; exact hlta)
                rw [M.nol_at c hlta] at ca0
                obtain ⟨bb, ob, qa, da, rfl, hbb, cb0, hIa⟩ := R5.out a hlta
                rw [M.cal_length] at cb0
                obtain ⟨u1, u2, u3, u4, u5, u6⟩ := M.N_bounds G4.out A5.out hlta (Nat.le_refl n)
                have IA : Hid (HasI (M.cal n c a) qa w5) := hIa
                have e1 := M.N2_zero n c a
                rw [← (show s1 = M.N1 n c a from hs)] at e1 u1 u5
                obtain ⟨no, hno⟩ : ∃ no, c.no a = no := ⟨_, rfl⟩
                rw [hno] at ca0 e1 u2 u6
                have HS : Hid (s1 + no = M.N2 n c a 0) := e1.symm
                have k1 : decide (no < 0) = false := decide_eq_false (by omega)
                have k2 : decide ((n : Int) ≤ (a : Int)) = false := decide_eq_false (by omega)
                have k3 : decide (n ≤ a) = false := decide_eq_false (by omega)
                clear hIa hs hno e1 u3 u4
                go_wp2_with fail
                go_loopw [14, 16] (fun u v wr => ∃ (d : Nat) (s : Int), u = .int .i64 s ∧ v = .int .i64 d ∧ d ≤ n ∧ Hid (s = M.N2 n c a d) ∧ w5 = wr) (fun _ v _ => n - (intOf v).toNat)
                case atStart => exact ⟨0, s1 + no, rfl, rfl, Nat.zero_le _, HS, rfl⟩
                case round =>
                  clear HS
                  obtain ⟨d, s2, rfl, rfl, hd, hs, rfl⟩ := hrel
                  by_cases hltd : d < n
                  · have hdi : (d : Int) < n := by omega
                    obtain ⟨bd, od, rfl, hbd, cd0⟩ := IA.out d (by rw [M.cal_length]; exact hltd)
                    rw [M.cal_at c a hltd] at cd0
                    obtain ⟨u1, u2, u3, u4, u5, u6⟩ := M.N_bounds G4.out A5.out hlta hd
                    have v0 := G4.out.ca0 d a
                    have v5 := G4.out.ca_le d a
                    have e1 := M.N2_step n c a d
                    rw [← (show s2 = M.N2 n c a d from hs)] at e1 u3 u4
                    by_cases ead : a = d
                    · subst ead
                      have ez := G4.out.ok.cad a hlta
                      rw [ez] at cd0 e1
                      have HS : Hid (s2 + 0 = M.N2 n c a (a + 1)) := e1.symm
                      clear hs e1 ez v0 v5 u1 u2 u5 u6
                      go_wp2_with fail
                      go_roundw
                      case rel => exact ⟨a + 1, s2, rfl, by go_num, by omega, by rw [Int.add_zero] at HS; exact HS, by trivial⟩
                      case measure => simp [intOf]; omega
                    · have hne : ((a : Int) == (d : Int)) = false := by simp; omega
                      have hne' : (a == d) = false := by simp; omega
                      obtain ⟨x, hx⟩ : ∃ x, c.ca a d = x := ⟨_, rfl⟩
                      rw [hx] at cd0 e1 v0 v5
                      have HS : Hid (s2 + x = M.N2 n c a (d + 1)) := e1.symm
                      have k4 : decide (x < 0) = false := decide_eq_false (by omega)
                      clear hs e1 hx ead u1 u2 u5 u6
                      go_wp2_with fail
                      go_roundw
                      case rel => exact ⟨d + 1, s2 + x, rfl, by go_num, by omega, HS, by trivial⟩
                      case measure => simp [intOf]; omega
                  · obtain rfl : n = d := by omega
                    have HS : Hid (s2 = M.N1 n c (a + 1)) := by rw [hs.out, M.N2_end]; rfl
                    clear hs
                    go_wp2_with fail
                    go_roundw
                    case rel => exact ⟨a + 1, s2, rfl, by go_num, by omega, HS, by trivial⟩
                    case measure => simp [intOf]; omega
              · obtain rfl : n = a := by omega
                obtain rfl : s1 = all := by rw [hs.out, M.N1_end G4.out.ok A5.out]; exact T4.out
                obtain ⟨ba, oa, rfl, hba, ca0⟩ := I5.out 0 (by rw [M.nol_length]; exact hn0)
                rw [M.nol_at c hn0, Nat.add_zero] at ca0
                have hno0 := A5.out.1 0 hn0
                have hnn : (0 : Int) < n := by omega
                have WF : Hid (c.no 0 = -1 ∨ (M.AllN n c ∧ c.no 0 = c.no 0)) := .inr ⟨A5.out, rfl⟩
                rcases W4.out with hw | ⟨_, hw⟩
                · subst hw
                  obtain ⟨no, hno⟩ : ∃ no, c.no 0 = no := ⟨_, rfl⟩
                  have WN : Hid (no = -1 ∨ (M.AllN n c ∧ no = c.no 0)) := .inr ⟨A5.out, hno.symm⟩
                  rw [hno] at ca0 hno0
                  clear hs hno W4 WF
                  go_wp2_with fail
                  go_roundw
                  case rel => exact ⟨i + 1, c, no, rfl, by go_num, by omega, by omega, WN, V5, G4, T4, B5⟩
                  case measure => simp [intOf]; omega
                · obtain ⟨no, hno⟩ : ∃ no, c.no 0 = no := ⟨_, rfl⟩
                  have WN : Hid (no = -1 ∨ (M.AllN n c ∧ no = c.no 0)) := .inr ⟨A5.out, hno.symm⟩
                  rw [hno] at ca0 hno0 hw
                  subst hw
                  clear hs hno W4 WF
                  go_wp2_with fail
                  go_roundw
                  case rel => exact ⟨i + 1, c, was, rfl, by go_num, by omega, by omega, WN, V5, G4, T4, B5⟩
                  case measure => simp [intOf]; omega
          · refine (noted_no w4 V4.out h5 hA).mono ?_
            rintro e w5 ⟨rfl, hB5⟩
            obtain rfl : was = -1 := by
              rcases W4.out with x | ⟨x, _⟩
              · exact x
              · exact absurd x hA
            have V5 : Hid (BV (fun k => w.heap.size ≤ k) S n c w5) := V4.out.below hB5
            have B5 : Hid (Below w.heap.size w w5) := bel_on B4.out hB5
            clear V4 B4 hB5 hA W4
            go_wp2_with fail
            go_roundw
            case rel => exact ⟨i + 1, c, -1, rfl, by go_num, by omega, by omega, (Or.inl rfl : (-1 : Int) = -1 ∨ _), V5, G4, T4, B5⟩
            case measure => simp [intOf]; omega
        · obtain rfl : i = 100 := by omega
          have hii : (100 : Int) < m := by omega
          go_wp2_with fail
          go_ret
          exact ⟨rfl, HB.out⟩
      · obtain rfl : m = i := by omega
        go_wp2_with fail
        go_ret
        exact ⟨rfl, HB.out⟩
  · refine (new_err zs p n cap w1 hl hmax (hc.later hB1) h0).mono ?_
    rintro e w2 ⟨rfl, hB2⟩
    have FIN : Hid (Below w.heap.size w w2) := bel_on hB1 hB2
    rw [terr_ne h0]
    clear hB1 hB2 h0
    go_wp2_with fail
    go_ret
    exact ⟨rfl, FIN.out⟩
end Go.Proofs.Ytplplgpfglaajaa
