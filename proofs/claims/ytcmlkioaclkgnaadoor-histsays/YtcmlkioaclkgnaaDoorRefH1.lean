/- The document's answer: what is wrong with a history (whensteadref3.Hist, in). -/
import Derived.Test.YtcmlkioaclkgnaaDoorHi1
namespace Go.Proofs.YtcmlkioaclkgnaaDoor
open Go.RowKit

/-- does a number lie between two others? -/
def inZ (n lo hi : Int) : Bool := decide (lo ≤ n ∧ n ≤ hi)
set_option maxHeartbeats 400000 in
theorem in3_ok (n lo hi : Int) (w : World) :
    Calls Tryd.prog 11 #[.int .i64 n, .int .i64 lo, .int .i64 hi] w fun e w' => e = .returned (.bool (inZ n lo hi)) ∧ w = w' := by
  by_cases hz : lo ≤ n
  · go_enter Tryd.func11, Tryd.ntmps11
    go_wp2
    go_ret
    exact ⟨bool_ret (by unfold inZ; rw [Bool.eq_iff_iff]; simp [hz]), rfl⟩
  · go_enter Tryd.func11, Tryd.ntmps11
    go_wp2
    go_ret
    exact ⟨bool_ret (by unfold inZ; rw [eq_comm, decide_eq_false_iff_not]; omega), rfl⟩
theorem in_thing (n k : Int) : inZ n 0 k = thingZ n (k + 1) := by
  unfold inZ thingZ
  rw [Bool.eq_iff_iff, decide_eq_true_eq, decide_eq_true_eq]
  omega
theorem oIn_in (o : Oz) : oIn o = (inZ o.pr 0 4 && inZ o.ob 0 2 && inZ o.wr 0 1 && inZ o.va 0 1000000 && inZ o.fr 0 1000000 && inZ o.to 0 1000000) := by
  unfold oIn
  simp only [in_thing]
  rfl
set_option maxRecDepth 100000 in
set_option maxHeartbeats 8000000 in
theorem refHist_ok (zs : List Oz) (p : Option Addr) (n cap : Nat) (w : World) (hl : zs.length = n) (hmax : n ≤ maxLen) (hc : HasO zs p w) :
    Calls Tryd.prog 4 #[.slice p n cap] w fun e w' => e = .returned (.int .i64 ((hcd zs : Nat) : Int)) ∧ Below w.heap.size w w' := by
  unfold maxLen at hmax
  by_cases h10 : 10 < n
  · have e : hcd zs = 4 := by unfold hcd; rw [if_pos (by omega)]
    rw [e]
    go_enter Tryd.func4, Tryd.ntmps4
    go_wp2_with fail
    go_ret
    exact ⟨rfl, Below.refl _ _⟩
  have HE : Hid (hcd zs = hTo zs n) := by show _ = _; unfold hcd; rw [if_neg (by omega), hl]
  have hn10 : decide ((10 : Int) < (n : Int)) = false := decide_eq_false (by omega)
  go_enter Tryd.func4, Tryd.ntmps4
  go_wp2_with fail
  go_loopw [3] (fun v wr => ∃ i : Nat, v = .int .i64 i ∧ i ≤ n ∧ Hid (hTo zs i = 0) ∧ Below w.heap.size w wr) (fun v _ => n - (intOf v).toNat)
  case atStart => exact ⟨0, rfl, Nat.zero_le _, show hTo zs 0 = 0 from rfl, Below.refl _ _⟩
  case round =>
    obtain ⟨i, rfl, hi, hz, hB⟩ := hrel
    obtain ⟨wo, hwo⟩ : ∃ wo, wo = wr := ⟨_, rfl⟩
    subst hwo
    by_cases hlt : i < n
    · obtain ⟨b, off, rfl, hop⟩ := (hc.later hB) i (by omega)
      obtain ⟨o, ho⟩ : ∃ o, oAt zs i = o := ⟨_, rfl⟩
      rw [ho] at hop
      have HO : Hid (oAt zs i = o) := ho
      obtain ⟨hb, k0, k1, k2, k3, k4, k5⟩ := hop
      have hin : (i : Int) < (n : Int) := by omega
      have hcb : HasO zs (some ⟨b, off, none⟩) wo := hc.later hB
      obtain ⟨wa, hwa⟩ : ∃ wa, (wo.alloc (.cells #[.int .i64 o.pr, .int .i64 o.ob, .int .i64 o.wr, .int .i64 o.va, .int .i64 o.fr, .int .i64 o.to] 36)) = wa := ⟨_, rfl⟩
      have hoa : OpAt o wo.heap.size 0 wa := hwa ▸ opAt_new wo o
      have hBa : Below w.heap.size w wa := hwa ▸ bel_al hB _
      have hBoa : Below wo.heap.size wo wa := hwa ▸ bel_al (Below.refl _ _) _
      have hca := hcb.later hBoa
      have HBA : Hid (Below w.heap.size w wa) := hBa
      have HCA : Hid (HasO zs (some ⟨b, off, none⟩) wa) := hca
      have HOA : Hid (OpAt o wo.heap.size 0 wa) := hoa
      have hall := oIn_in o
      clear ho hc hBa hBoa hca hcb
      cases hr : oIn o with
      | false =>
        have HC : Hid (hcd zs = 1) := by
          have e : oC zs i = 1 := oC_range (by rw [HO.out]; exact hr)
          show _ = _
          rw [HE.out, hTo_first hz.out hlt (by rw [e]; omega), e]
        rw [hr] at hall
        have HALL : Hid _ := hall
        obtain ⟨g0, e0, e1, e2, e3, e4, e5⟩ := hoa
        clear hr hall
        cases hi0 : inZ o.pr 0 4 with
        | false =>
          go_wp2_with (go_at_call 11; refine (in3_ok _ _ _ _).mono ?_; rintro e w' ⟨rfl, rfl⟩)
          go_ret
          exact ⟨by rw [HC.out]; rfl, HBA.out⟩
        | true =>
        cases hi1 : inZ o.ob 0 2 with
        | false =>
          go_wp2_with (go_at_call 11; refine (in3_ok _ _ _ _).mono ?_; rintro e w' ⟨rfl, rfl⟩)
          go_ret
          exact ⟨by rw [HC.out]; rfl, HBA.out⟩
        | true =>
        cases hi2 : inZ o.wr 0 1 with
        | false =>
          go_wp2_with (go_at_call 11; refine (in3_ok _ _ _ _).mono ?_; rintro e w' ⟨rfl, rfl⟩)
          go_ret
          exact ⟨by rw [HC.out]; rfl, HBA.out⟩
        | true =>
        cases hi3 : inZ o.va 0 1000000 with
        | false =>
          go_wp2_with (go_at_call 11; refine (in3_ok _ _ _ _).mono ?_; rintro e w' ⟨rfl, rfl⟩)
          go_ret
          exact ⟨by rw [HC.out]; rfl, HBA.out⟩
        | true =>
        cases hi4 : inZ o.fr 0 1000000 with
        | false =>
          go_wp2_with (go_at_call 11; refine (in3_ok _ _ _ _).mono ?_; rintro e w' ⟨rfl, rfl⟩)
          go_ret
          exact ⟨by rw [HC.out]; rfl, HBA.out⟩
        | true =>
        cases hi5 : inZ o.to 0 1000000 with
        | false =>
          go_wp2_with (go_at_call 11; refine (in3_ok _ _ _ _).mono ?_; rintro e w' ⟨rfl, rfl⟩)
          go_ret
          exact ⟨by rw [HC.out]; rfl, HBA.out⟩
        | true =>
          have := HALL.out
          rw [hi0, hi1, hi2, hi3, hi4, hi5] at this
          cases this
      | true =>
        have hall2 := hall
        rw [hr] at hall
        have hh := hall.symm
        simp only [Bool.and_eq_true] at hh
        obtain ⟨⟨⟨⟨⟨hi0, hi1⟩, hi2⟩, hi3⟩, hi4⟩, hi5⟩ := hh
        obtain ⟨g0, e0, e1, e2, e3, e4, e5⟩ := hoa
        clear hall hall2
        by_cases hft : o.to ≤ o.fr
        · have HC : Hid (hcd zs = 3) := by
            have e : oC zs i = 3 := oC_shape (by rw [HO.out]; exact hr) (by rw [HO.out]; exact hft)
            show _ = _
            rw [HE.out, hTo_first hz.out hlt (by rw [e]; omega), e]
          clear hr
          go_wp2_with (go_at_call 11; refine (in3_ok _ _ _ _).mono ?_; rintro e w' ⟨rfl, rfl⟩)
          go_ret
          exact ⟨by rw [HC.out]; rfl, HBA.out⟩
        · have hft' : decide (o.to ≤ o.fr) = false := decide_eq_false hft
          have HN : Hid ((∀ j, j < i → clB (oAt zs j) o = false) → hTo zs (i + 1) = 0) := fun h => hTo_next hz.out (oC_fine (by rw [HO.out]; exact hr) (by rw [HO.out]; exact hft) (by rw [HO.out]; exact h))
          have HC : Hid (∀ j, j < i → clB (oAt zs j) o = true → hcd zs = 6) := fun j hj h => by
            have e : oC zs i = 6 := oC_clash (by rw [HO.out]; exact hr) (by rw [HO.out]; exact hft) hj (by rw [HO.out]; exact h)
            rw [HE.out, hTo_first hz.out hlt (by rw [e]; omega), e]
          clear hft hr
          go_wp2_with (go_at_call 11; refine (in3_ok _ _ _ _).mono ?_; rintro e w' ⟨rfl, rfl⟩)
          clear e0 e1 e2 e3 e4 e5 g0 k0 k1 k2 k3 k4 k5 hwa
          go_loopw [5] (fun v wr => ∃ j : Nat, v = .int .i64 j ∧ j ≤ i ∧ Hid (∀ j', j' < j → clB (oAt zs j') o = false) ∧ Below wa.heap.size wa wr) (fun v _ => i - (intOf v).toNat)
          case atStart => exact ⟨0, rfl, Nat.zero_le _, fun j' h => absurd h (Nat.not_lt_zero _), Below.refl _ _⟩
          case round =>
            obtain ⟨j, rfl, hj, hzj, hBj⟩ := hrel
            have HB3 : Hid (Below w.heap.size w wr) := bel_on HBA.out hBj
            by_cases hji : j < i
            · obtain ⟨_, _, e0, hop2⟩ := (HCA.out.later hBj) j (by omega)
              cases e0
              obtain ⟨q, hq⟩ : ∃ q, oAt zs j = q := ⟨_, rfl⟩
              rw [hq] at hop2
              have HQ : Hid (oAt zs j = q) := hq
              obtain ⟨hb9, k0, k1, k2, k3, k4, k5⟩ := hop2
              obtain ⟨g0, e0, e1, e2, e3, e4, e5⟩ := HOA.out.later hBj HOA.out.lt
              have hjin : (j : Int) < (i : Int) := by omega
              have hjn : (j : Int) < (n : Int) := by omega
              have HNO : Hid (clB q o = false → ∀ j', j' < j + 1 → clB (oAt zs j') o = false) := fun hcl j' hj' => by
                by_cases e : j' = j
                · subst e; rw [HQ.out]; exact hcl
                · exact hzj.out j' (by omega)
              clear hq
              cases hp : (q.pr == o.pr) with
              | false =>
                have HZ : Hid (∀ j', j' < j + 1 → clB (oAt zs j') o = false) := HNO.out (by unfold clB; rw [hp, Bool.false_and])
                go_wp2_with fail
                go_big_quiet (fail)
                go_wp2_with fail
                go_roundw
                case rel => exact ⟨j + 1, by go_num, by omega, HZ, bel_drN hBj _⟩
                case measure => simp [intOf]; omega
              | true =>
                cases h1 : decide (q.fr < o.to) with
                | false =>
                  have HZ : Hid (∀ j', j' < j + 1 → clB (oAt zs j') o = false) := HNO.out (by unfold clB shB; rw [h1, Bool.false_and, Bool.and_false])
                  go_wp2_with fail
                  go_big_quiet (fail)
                  go_wp2_with fail
                  go_roundw
                  case rel => exact ⟨j + 1, by go_num, by omega, HZ, bel_drN hBj _⟩
                  case measure => simp [intOf]; omega
                | true =>
                  cases h2 : decide (o.fr < q.to) with
                  | false =>
                    have HZ : Hid (∀ j', j' < j + 1 → clB (oAt zs j') o = false) := HNO.out (by unfold clB shB; rw [h2, Bool.and_false, Bool.and_false])
                    go_wp2_with fail
                    go_big_quiet (fail)
                    go_wp2_with fail
                    go_roundw
                    case rel => exact ⟨j + 1, by go_num, by omega, HZ, bel_drN hBj _⟩
                    case measure => simp [intOf]; omega
                  | true =>
                    have HF : Hid (hcd zs = 6) := HC.out j hji (by rw [HQ.out]; unfold clB shB; rw [hp, h1, h2]; rfl)
                    go_wp2_with fail
                    go_big_quiet (fail)
                    go_wp2_with fail
                    go_ret
                    exact ⟨by rw [HF.out]; rfl, bel_drN HB3.out _⟩
            · obtain rfl : j = i := by omega
              go_wp2_with fail
              go_roundw
              case rel => exact ⟨j + 1, by go_num, by omega, HN.out hzj.out, HB3.out⟩
              case measure => simp [intOf]; omega
    · obtain rfl : i = n := by omega
      have HF : Hid (hcd zs = 0) := by show _ = _; rw [HE.out]; exact hz.out
      go_wp2_with fail
      go_ret
      exact ⟨by rw [HF.out]; rfl, hB⟩
end Go.Proofs.YtcmlkioaclkgnaaDoor
