/- Without danger all is well (law ViewDanger), the walk. -/
import Derived.Test.YtajiichehffaaaaDoorVfc
namespace Go.Proofs.YtajiichehffaaaaDoor
open Go.RowKit
set_option maxRecDepth 100000 in
set_option maxHeartbeats 4000000 in
theorem vd_walk (zs : List Dz) (p : Option Addr) (n cap : Nat) (w : World) (he : Env w) (hl : zs.length = n) (_ : n ≤ maxLen) (hc : HasD zs p w) :
    Calls Tryd.prog 3 #[.slice p n cap] w fun e w' => e = .returned (.bool true) ∧ Below w.heap.size w w' := by
  have hf := viewFact_ok w he
  have HE : Hid (Env w) := he
  have HC : Hid (HasD zs p w) := hc
  clear he hc
  go_enter Tryd.func3, Tryd.ntmps3
  go_wp2_with fail
  refine hf.mono ?_
  rintro e w1 ⟨rfl, hB1⟩
  have H1 : Hid (Below w.heap.size w w1) := hB1
  clear hf hB1
  go_wp2_with fail
  refine (vnew_ok (O := fun k => w.heap.size ≤ k) w1 H1.out.size).mono ?_
  rintro e w2 ⟨S, hS, rfl, hT2, hB2⟩
  have H2 : Hid (VV (fun k => w.heap.size ≤ k) S M.vw0 w2 ∧ Below w.heap.size w w2) := ⟨hT2, H1.out.trans (hB2.mono H1.out.size)⟩
  clear hT2 hB2 hS H1
  go_wp2_with fail
  go_loopw [5] (fun u wr => ∃ (i : Nat) (s : M.Vw), u = .int .i64 (i : Nat) ∧ i ≤ n ∧ i ≤ 60 ∧ Hid (VV (fun k => w.heap.size ≤ k) S s wr ∧ M.VI s ∧ Below w.heap.size w wr)) (fun u _ => 60 - (intOf u).toNat)
  case atStart => exact ⟨0, _, rfl, Nat.zero_le _, Nat.zero_le _, ⟨H2.out.1, M.VI.zero, H2.out.2⟩⟩
  case round =>
    clear H2
    obtain ⟨i, s, rfl, hi, hi2, HP⟩ := hrel
    by_cases hlt : i < n ∧ i < 60
    · obtain ⟨h1, h2⟩ := hlt
      have h1i : (i : Int) < n := by omega
      have h2i : (i : Int) < 60 := by omega
      obtain ⟨b, off, rfl, hd⟩ := (HC.out.later HP.out.2.2) i (by omega)
      obtain ⟨⟨k, t, o, x⟩, hz⟩ : ∃ d, dAt zs i = d := ⟨_, rfl⟩
      rw [hz] at hd
      have c0 := hd.c0
      have c1 := hd.c1
      have c2 := hd.c2
      have c3 := hd.c3
      have hb := hd.lt
      simp only at c0 c1 c2 c3
      have dd := vdo_ok k t o x wr HP.out.1 (fun k hk => Nat.le_trans HP.out.2.2.size hk) HP.out.2.1
      have HN : Hid (∀ w', VV (fun k => w.heap.size ≤ k) S (vwZ s k t o x).1 w' → Frm (fun k => w.heap.size ≤ k) wr w' → VV (fun k => w.heap.size ≤ k) S (vwZ s k t o x).1 w' ∧ M.VI (vwZ s k t o x).1 ∧ Below w.heap.size w w') := fun w' h1 h2 => ⟨h1, HP.out.2.1.z k t o x, HP.out.2.2.trans (h2.below HP.out.2.2.size (fun k hk h => by omega))⟩
      obtain ⟨q1, hq1⟩ : ∃ q, (vwZ s k t o x).2.1 = q := ⟨_, rfl⟩
      obtain ⟨q2, hq2⟩ : ∃ q, terr (vwZ s k t o x).2.2 = q := ⟨_, rfl⟩
      obtain ⟨s', hs'⟩ : ∃ s', (vwZ s k t o x).1 = s' := ⟨_, rfl⟩
      rw [hq1, hq2, hs'] at dd
      rw [hs'] at HN
      clear hz hd HP hq1 hq2 hs'
      go_wp2_with fail
      refine dd.mono ?_
      rintro e w3 ⟨rfl, h3, h4⟩
      have H3 : Hid _ := HN.out w3 h3 h4
      clear dd h3 h4 HN c0 c1 c2 c3
      go_wp2_with fail
      go_roundw
      case rel => exact ⟨i + 1, _, by go_num, by omega, by omega, H3⟩
      case measure => simp [intOf]; omega
    · have hdec : (n : Int) ≤ (i : Int) ∨ ((i : Int) < (n : Int) ∧ (60 : Int) ≤ (i : Int)) := by
        by_cases hn : i < n
        · exact .inr ⟨by omega, by omega⟩
        · exact .inl (by omega)
      clear hlt
      by_cases hr : M.Ring (M.behR s)
      · have hsr := vserial_ring wr (HE.out.later HP.out.2.2) HP.out.1 HP.out.2.1 hr
        have hdg : M.dgr s = true := by
          cases c : M.dgr s with
          | true => rfl
          | false => exact absurd hr (M.no_ring HP.out.2.1 c)
        have HD : Hid (M.dgr s = true) := hdg
        clear hr hdg
        rcases hdec with hd1 | ⟨hd1, hd2⟩
        all_goals
          go_wp2_with fail
          refine hsr.mono ?_
          rintro e w3 ⟨rfl, hB3⟩
          have hdn := vdanger_ok w3 ((HE.out.later HP.out.2.2).later hB3) (HP.out.1.below hB3) HP.out.2.1
          rw [HD.out] at hdn
          have H3 : Hid (Below w.heap.size w w3) := HP.out.2.2.trans (hB3.mono HP.out.2.2.size)
          clear hsr hB3
          go_wp2_with fail
          refine hdn.mono ?_
          rintro e w4 ⟨rfl, hB4⟩
          have H4 : Hid (Below w.heap.size w w4) := H3.out.trans (hB4.mono H3.out.size)
          clear hdn hB4
          go_wp2_with fail
          go_ret
          exact ⟨rfl, H4.out⟩
      · have hsr := vserial_ok wr (HE.out.later HP.out.2.2) HP.out.1 HP.out.2.1 hr
        clear hr
        rcases hdec with hd1 | ⟨hd1, hd2⟩
        all_goals
          go_wp2_with fail
          refine hsr.mono ?_
          rintro e w3 ⟨A, rfl, _, _, hB3⟩
          have H3 : Hid (Below w.heap.size w w3) := HP.out.2.2.trans (hB3.mono HP.out.2.2.size)
          clear hsr hB3
          go_wp2_with fail
          go_ret
          exact ⟨rfl, H3.out⟩
end Go.Proofs.YtajiichehffaaaaDoor
