/- What is wrong with a history (package hist, Check); what lay in memory lies as it lay. -/
import Derived.Test.YtdbejgidgajhlaaHi1
namespace Go.Proofs.Ytdbejgidgajhlaa
open Go.RowKit

theorem bel_of {N : Nat} {w v : World} (h : Below N w v) : w.heap.size ≤ v.heap.size := h.size
set_option maxRecDepth 100000 in
set_option maxHeartbeats 4000000 in
theorem hcheck_ok (zs : List Oz) (p : Option Addr) (n cap : Nat) (w : World) (hl : zs.length = n) (hmax : n ≤ maxLen) (hcap : n ≤ cap) (hc : HasO zs p w) :
    Calls Try.prog 14 #[.slice p n cap] w fun e w' => e = .returned (terr (hcd zs)) ∧ Below w.heap.size w w' := by
  unfold maxLen at hmax
  by_cases h10 : 10 < n
  · have e : hcd zs = 4 := by unfold hcd; rw [if_pos (by omega)]
    rw [e]
    go_enter Try.func14, Try.ntmps14
    go_wp2_with fail
    go_ret
    exact ⟨rfl, Below.refl _ _⟩
  have e : hcd zs = hTo zs n := by unfold hcd; rw [if_neg (by omega), hl]
  rw [e]
  clear e
  have hn10 : decide ((10 : Int) < (n : Int)) = false := decide_eq_false (by omega)
  go_enter Try.func14, Try.ntmps14
  go_wp2_with fail
  go_loopw [13] (fun v wr => ∃ i : Nat, v = .int .i64 i ∧ i ≤ n ∧ Hid (hTo zs i = 0) ∧ Below w.heap.size w wr) (fun v _ => n - (intOf v).toNat)
  case atStart => exact ⟨0, rfl, Nat.zero_le _, show hTo zs 0 = 0 from rfl, Below.refl _ _⟩
  case round =>
    obtain ⟨i, rfl, hi, hz, hB⟩ := hrel
    obtain ⟨wo, hwo⟩ : ∃ wo, wo = wr := ⟨_, rfl⟩
    subst hwo
    by_cases hlt : i < n
    · obtain ⟨b, off, rfl, hop⟩ := (hc.later hB) i (by omega)
      obtain ⟨o, ho⟩ : ∃ o, oAt zs i = o := ⟨_, rfl⟩
      rw [ho] at hop
      have HO : Hid (oAt zs i = o) := ho
      obtain ⟨hb, k0, k1, k2, k3, k4, k5⟩ := hop
      have hin : (i : Int) < (n : Int) := by omega
      have hcb : HasO zs (some ⟨b, off, none⟩) wo := hc.later hB
      clear ho hc
      cases hr : oIn o with
      | false =>
        have HC : Hid (hTo zs n = 1) := by
          have e : oC zs i = 1 := oC_range (by rw [HO.out]; exact hr)
          show _ = _
          rw [hTo_first hz.out hlt (by rw [e]; omega), e]
        go_wp2_with fail
        refine (inRange_ok o _).mono ?_
        rw [hr]
        rintro e w2 ⟨rfl, hB2⟩
        have hC2 : Below w.heap.size w w2 := bel_on (bel_al hB _) hB2
        clear hr
        go_wp2_with fail
        go_ret
        exact ⟨by rw [HC.out]; rfl, hC2⟩
      | true =>
        by_cases hft : o.to ≤ o.fr
        · have HC : Hid (hTo zs n = 3) := by
            have e : oC zs i = 3 := oC_shape (by rw [HO.out]; exact hr) (by rw [HO.out]; exact hft)
            show _ = _
            rw [hTo_first hz.out hlt (by rw [e]; omega), e]
          go_wp2_with fail
          obtain ⟨wa, hwa⟩ : ∃ wa, (wo.alloc (.cells #[.int .i64 o.pr, .int .i64 o.ob, .int .i64 o.wr, .int .i64 o.va, .int .i64 o.fr, .int .i64 o.to] 33)) = wa := ⟨_, rfl⟩
          have hoa : OpAt o wo.heap.size 0 wa := hwa ▸ opAt_new wo o
          have hBa : Below w.heap.size w wa := hwa ▸ bel_al hB _
          refine (inRange_ok o _).mono ?_
          rw [hr]
          simp only [hwa]
          rintro e w2 ⟨rfl, hB2⟩
          have hC2 : Below w.heap.size w w2 := bel_on hBa hB2
          obtain ⟨g0, e0, e1, e2, e3, e4, e5⟩ := hoa.later hB2 hoa.lt
          clear hr hwa hoa k0 k1 k2 k3 k4 k5
          go_wp2_with fail
          go_ret
          exact ⟨by rw [HC.out]; rfl, hC2⟩
        · have hft' : decide (o.to ≤ o.fr) = false := decide_eq_false hft
          have HN : Hid ((∀ j, j < i → clB (oAt zs j) o = false) → hTo zs (i + 1) = 0) := fun h => hTo_next hz.out (oC_fine (by rw [HO.out]; exact hr) (by rw [HO.out]; exact hft) (by rw [HO.out]; exact h))
          have HC : Hid (∀ j, j < i → clB (oAt zs j) o = true → hTo zs n = 6) := fun j hj h => by
            have e : oC zs i = 6 := oC_clash (by rw [HO.out]; exact hr) (by rw [HO.out]; exact hft) hj (by rw [HO.out]; exact h)
            rw [hTo_first hz.out hlt (by rw [e]; omega), e]
          clear hft
          go_wp2_with fail
          obtain ⟨wa, hwa⟩ : ∃ wa, (wo.alloc (.cells #[.int .i64 o.pr, .int .i64 o.ob, .int .i64 o.wr, .int .i64 o.va, .int .i64 o.fr, .int .i64 o.to] 33)) = wa := ⟨_, rfl⟩
          have hoa : OpAt o wo.heap.size 0 wa := hwa ▸ opAt_new wo o
          have hBa : Below w.heap.size w wa := hwa ▸ bel_al hB _
          have hBoa : Below wo.heap.size wo wa := hwa ▸ bel_al (Below.refl _ _) _
          refine (inRange_ok o _).mono ?_
          rw [hr]
          simp only [hwa]
          rintro e w2 ⟨rfl, hB2⟩
          have hC2 : Below w.heap.size w w2 := bel_on hBa hB2
          have hco2 : HasO zs (some ⟨b, off, none⟩) w2 := (hcb.later hBoa).later hB2
          have ho2 : OpAt o wo.heap.size 0 w2 := hoa.later hB2 hoa.lt
          obtain ⟨g0, e0, e1, e2, e3, e4, e5⟩ := ho2
          have ho2 : OpAt o wo.heap.size 0 w2 := ⟨g0, e0, e1, e2, e3, e4, e5⟩
          have hi0 : (cap = 0) = False := by simp; omega
          have hci : decide ((i : Int) ≤ (cap : Int)) = true := decide_eq_true (by omega)
          have hci' : i ≤ cap := by omega
          clear hr hwa hoa k0 k1 k2 k3 k4 k5 hcb hBa hB2 hBoa
          go_wp2_with fail
          clear e0 e1 e2 e3 e4 e5 g0
          go_loopw [32] (fun v wr => ∃ j : Nat, v = .int .i64 j ∧ j ≤ i ∧ Hid (∀ j', j' < j → clB (oAt zs j') o = false) ∧ Below w2.heap.size w2 wr) (fun v _ => i - (intOf v).toNat)
          case atStart => exact ⟨0, rfl, Nat.zero_le _, fun j' h => absurd h (Nat.not_lt_zero _), Below.refl _ _⟩
          case round =>
            obtain ⟨j, rfl, hj, hzj, hBj⟩ := hrel
            have hC3 : Below w.heap.size w wr := bel_on hC2 hBj
            by_cases hji : j < i
            · obtain ⟨_, _, e0, hop2⟩ := (hco2.later hBj) j (by omega)
              cases e0
              obtain ⟨q, hq⟩ : ∃ q, oAt zs j = q := ⟨_, rfl⟩
              rw [hq] at hop2
              have HQ : Hid (oAt zs j = q) := hq
              obtain ⟨hb9, k0, k1, k2, k3, k4, k5⟩ := hop2
              obtain ⟨g0, e0, e1, e2, e3, e4, e5⟩ := ho2.later hBj ho2.lt
              have hjin : (j : Int) < (i : Int) := by omega
              have hjn : (j : Int) < (n : Int) := by omega
              clear hq
              cases hp : (q.pr == o.pr) with
              | false =>
                have HZ : Hid (∀ j', j' < j + 1 → clB (oAt zs j') o = false) := fun j' hj' => by
                  by_cases e : j' = j
                  · subst e; rw [HQ.out]; unfold clB; rw [hp, Bool.false_and]
                  · exact hzj.out j' (by omega)
                go_wp2_with fail
                go_roundw
                case rel => exact ⟨j + 1, by go_num, by omega, HZ, (by repeat first | exact hBj | apply bel_al | apply Below.drew)⟩
                case measure => simp [intOf]; omega
              | true =>
                cases hsh : shB q o with
                | false =>
                  have HZ : Hid (∀ j', j' < j + 1 → clB (oAt zs j') o = false) := fun j' hj' => by
                    by_cases e : j' = j
                    · subst e; rw [HQ.out]; unfold clB; rw [hsh, Bool.and_false]
                    · exact hzj.out j' (by omega)
                  go_wp2_with fail
                  refine (shareTime_ok q o _).mono ?_
                  rw [hsh]
                  rintro e w4 ⟨rfl, hB4⟩
                  have hC4 := bel_on (bel_al hBj (.cells #[.int .i64 q.pr, .int .i64 q.ob, .int .i64 q.wr, .int .i64 q.va, .int .i64 q.fr, .int .i64 q.to] 33)) hB4
                  clear hsh
                  go_wp2_with fail
                  go_roundw
                  case rel => exact ⟨j + 1, by go_num, by omega, HZ, hC4⟩
                  case measure => simp [intOf]; omega
                | true =>
                  have HZ : Hid (hTo zs n = 6) := HC.out j hji (by rw [HQ.out]; unfold clB; rw [hp, hsh]; rfl)
                  go_wp2_with fail
                  refine (shareTime_ok q o _).mono ?_
                  rw [hsh]
                  rintro e w4 ⟨rfl, hB4⟩
                  have hC4 := bel_on (bel_al hC3 (.cells #[.int .i64 q.pr, .int .i64 q.ob, .int .i64 q.wr, .int .i64 q.va, .int .i64 q.fr, .int .i64 q.to] 33)) hB4
                  clear hsh
                  go_wp2_with fail
                  go_ret
                  exact ⟨by rw [HZ.out]; rfl, hC4⟩
            · obtain rfl : j = i := by omega
              go_wp2_with fail
              go_roundw
              case rel => exact ⟨j + 1, by go_num, by omega, HN.out hzj.out, hC3⟩
              case measure => simp [intOf]; omega
    · obtain rfl : i = n := by omega
      go_wp2_with fail
      go_ret
      exact ⟨by rw [hz.out]; rfl, hB⟩
end Go.Proofs.Ytdbejgidgajhlaa
