/- NO MONEY IS LOST OR MADE (law SnapKeeps), the walk. -/
import Derived.Test.YtplplgpfglaajaaHsm4
namespace Go.Proofs.Ytplplgpfglaajaa
open Go.RowKit
set_option maxRecDepth 100000 in
set_option maxHeartbeats 2000000 in
theorem sk_walk (zs : List Int) (p : Option Addr) (n cap : Nat) (ms : List Mv) (q : Option Addr) (m cap2 : Nat) (w : World) (hl : zs.length = n) (hmax : n ≤ maxLen) (hc : HasI zs p w) (_ : ∀ k : Nat, zs[k]?.getD 0 < 9223372036854775808) (hl2 : ms.length = m) (hmax2 : m ≤ maxLen) (hm : HasM ms q w) :
    Calls Try.prog 3 #[.slice p n cap, .slice q m cap2] w fun e w' => e = .returned (.bool true) ∧ Below w.heap.size w w' := by
  go_enter Try.func3, Try.ntmps3
  go_wp2_with fail
  refine (snapFact_ok w).mono ?_
  rintro e w1 ⟨rfl, hB1⟩
  go_wp2_with fail
  by_cases h0 : M.newC zs = 0
  · refine (new_ok zs p n cap w1 hl hmax (hc.later hB1) h0 (O := fun k => w.heap.size ≤ k) (fun k hk => Nat.le_trans hB1.size hk)).mono ?_
    rintro e w2 ⟨S, rfl, hV2, hB2⟩
    obtain ⟨z1, z2, z3⟩ := M.newC_zero h0
    have hC2 := bel_on hB1 hB2
    have G0 : M.BG n (M.newB (M.mof zs)) := M.BG.new (by omega) (by omega) (fun i hi => z3 i (by omega))
    have HV : Hid (BV (fun k => w.heap.size ≤ k) S n (M.newB (M.mof zs)) w2) := hV2
    have HG : Hid (M.BG n (M.newB (M.mof zs))) := G0
    have HT : Hid (M.tot n (M.newB (M.mof zs)) = M.suml zs) := by rw [M.tot_new]; unfold M.suml; rw [hl]; rfl
    have HZ : Hid (∀ i, i < n → 0 ≤ M.mof zs i ∧ M.mof zs i ≤ 10000) := fun i hi => by have := z3 i (by omega); omega
    have h5 : n ≤ 5 := by omega
    clear hV2 hB2 G0 z1 z2 z3 h0 hB1
    go_wp2_with fail
    refine (sum_ok zs p n cap w2 hl (by omega) HZ.out (hc.later hC2)).mono ?_
    rintro e w3 ⟨rfl, rfl⟩
    obtain ⟨all, hall⟩ : ∃ all, M.suml zs = all := ⟨_, rfl⟩
    rw [hall] at HT ⊢
    have H2 : Hid (Below w.heap.size w w2) := hC2
    have HM : Hid (HasM ms q w) := hm
    unfold maxLen at hmax2
    clear hall hC2 hc hm HZ
    go_wp2_with fail
    go_loopw [9] (fun v wr => ∃ (i : Nat) (b : M.Bk), v = .int .i64 i ∧ i ≤ m ∧ i ≤ 100 ∧ Hid (BV (fun k => w.heap.size ≤ k) S n b wr) ∧ Hid (M.BG n b) ∧ Hid (M.tot n b = all) ∧ Hid (Below w.heap.size w wr)) (fun v _ => 100 - (intOf v).toNat)
    case atStart => exact ⟨0, _, rfl, Nat.zero_le _, Nat.zero_le _, HV, HG, HT, H2⟩
    case round =>
      clear HV HG HT H2
      obtain ⟨i, b, rfl, hi, hi2, HV, HG, HT, HB⟩ := hrel
      by_cases hlt : i < m
      · by_cases hlt2 : i < 100
        · obtain ⟨b', off, rfl, hb, c0, c1, c2, c3⟩ := (HM.out.later HB.out) i (by omega)
          obtain ⟨⟨k, f, t, s⟩, hmv⟩ : ∃ mv, mvAt ms i = mv := ⟨_, rfl⟩
          rw [hmv] at c0 c1 c2 c3
          simp only at c0 c1 c2 c3
          have hii : (i : Int) < m := by omega
          have hi100 : (i : Int) < 100 := by omega
          clear hmv
          go_wp2_with fail
          refine (do_ok k f t s wr HV.out (fun k hk => Nat.le_trans HB.out.size hk) HG.out).mono ?_
          rintro e w4 ⟨rfl, hV4, hF4⟩
          have V4 : Hid (BV (fun k => w.heap.size ≤ k) S n (M.mvB n b k f t s).1 w4) := hV4
          have G4 : Hid (M.BG n (M.mvB n b k f t s).1) := HG.out.mv k f t s
          have T4 : Hid (M.tot n (M.mvB n b k f t s).1 = all) := by rw [(M.mv_all HG.out.ok k f t s).2.1]; exact HT
          have B4 : Hid (Below w.heap.size w w4) := HB.out.trans (frm_below hF4 HB.out.size)
          clear hV4 hF4 HV HG HT HB c0 c1 c2 c3 hb
          go_wp2_with fail
          refine (whole_ok w4 V4.out G4.out).mono ?_
          rw [T4.out]
          rintro e w5 ⟨rfl, hB5⟩
          have V5 : Hid (BV (fun k => w.heap.size ≤ k) S n (M.mvB n b k f t s).1 w5) := V4.out.below hB5
          have B5 : Hid (Below w.heap.size w w5) := bel_on B4.out hB5
          clear V4 B4 hB5
          go_wp2_with fail
          go_roundw
          case rel => exact ⟨i + 1, _, by go_num, by omega, by omega, V5, G4, T4, B5⟩
          case measure => simp [intOf]; omega
        · obtain rfl : i = 100 := by omega
          have hii : (100 : Int) < m := by omega
          go_wp2_with fail
          go_ret
          exact ⟨rfl, HB.out⟩
      · obtain rfl : m = i := by omega
        go_wp2_with fail
        go_ret
        exact ⟨rfl, HB.out⟩
  · refine (new_err zs p n cap w1 hl hmax (hc.later hB1) h0).mono ?_
    rintro e w2 ⟨rfl, hB2⟩
    have FIN : Hid (Below w.heap.size w w2) := bel_on hB1 hB2
    rw [terr_ne h0]
    clear hB1 hB2 h0
    go_wp2_with fail
    go_ret
    exact ⟨rfl, FIN.out⟩
end Go.Proofs.Ytplplgpfglaajaa
