/- Package sched: what is wrong with a row of all transactions (checkRow); memory is left alone. -/
import Derived.Test.YtkkccafobfdjbaaDoorSc1
import Derived.Test.YtkkccafobfdjbaaDoorTurn
namespace Go.Proofs.YtkkccafobfdjbaaDoor
open Go.RowKit

set_option maxRecDepth 100000 in
set_option maxHeartbeats 2000000 in
theorem checkRow_ok (zs : List Int) (p : Option Addr) (n cap : Nat) (w : World) (hl : zs.length = n) (hmax : n ≤ maxLen) (hc : HasI zs p w) :
    Calls Tryd.prog 32 #[.slice p n cap] w fun e w' => e = .returned (terr (kcd zs)) ∧ w = w' := by
  unfold maxLen at hmax
  by_cases h5 : n = 5
  · subst h5
    have HK : Hid (kcd zs = kTo zs 5) := if_pos hl
    go_enter Tryd.func32, Tryd.ntmps32
    go_wp2_with fail
    go_loop [3, 12] (fun m v => ∃ k d : Nat, v = .int .i64 k ∧ m = .int .i64 d ∧ k ≤ 5 ∧ d < 32 ∧ Hid (kTo zs k = 0) ∧ Hid (∀ x : Nat, d.testBit x = true ↔ ∃ j, j < k ∧ zs[j]?.getD 0 = (x : Int))) (fun _ v => 5 - (intOf v).toNat)
    case atStart => exact ⟨0, 0, rfl, rfl, Nat.zero_le _, by omega, (rfl : kTo zs 0 = 0), fun x => ⟨fun h => (by rw [Nat.zero_testBit] at h; cases h), fun ⟨j, h, _⟩ => absurd h (Nat.not_lt_zero _)⟩⟩
    case round =>
      obtain ⟨k, d, rfl, rfl, hk, hd, hz, hbit⟩ := hrel
      by_cases hlt : k < 5
      · obtain ⟨b, off, rfl, hb, hcell⟩ := hc k (by omega)
        obtain ⟨z, hzd⟩ : ∃ z, zs[k]?.getD 0 = z := ⟨_, rfl⟩
        rw [hzd] at hcell
        have HZ : Hid (zs[k]?.getD 0 = z) := hzd
        have hk5 : (k : Int) < 5 := by omega
        clear hc hzd
        cases ht : thingZ z 5 with
        | false =>
          have HC : Hid (kTo zs 5 = 1) := by
            have e : kC zs k = 1 := kC_range (by rw [HZ.out]; exact ht)
            show _ = _
            rw [kTo_first hz.out hlt (by rw [e]; omega), e]
          go_wp2_with (go_at_call 25; refine (isThing_z _ _ _).mono ?_; rintro e w' ⟨rfl, rfl⟩)
          go_ret
          exact ⟨by rw [HK.out, HC.out]; rfl, rfl⟩
        | true =>
          have hzz : 0 ≤ z ∧ z < 5 := by unfold thingZ at ht; simpa using ht
          obtain ⟨x, rfl⟩ : ∃ x : Nat, z = (x : Int) := ⟨z.toNat, by omega⟩
          have hx5 : x < 5 := by omega
          have hh := has_any d x w (by omega) (by omega)
          cases hb2 : d.testBit x with
          | true =>
            have HC : Hid (kTo zs 5 = 6) := by
              obtain ⟨j, hj, he⟩ := (hbit.out x).1 hb2
              have e : kC zs k = 6 := kC_clash (by rw [HZ.out]; exact ht) hj (by rw [he, HZ.out])
              show _ = _
              rw [kTo_first hz.out hlt (by rw [e]; omega), e]
            rw [hb2] at hh
            clear hb2 hzz
            go_wp2_with fail
            refine (isThing_z _ _ _).mono ?_
            rw [ht]
            rintro e w' ⟨rfl, rfl⟩
            go_wp2_with fail
            refine hh.mono ?_
            rintro e w' ⟨rfl, rfl⟩
            go_wp2_with fail
            go_ret
            exact ⟨by rw [HK.out, HC.out]; rfl, rfl⟩
          | false =>
            rw [hb2] at hh
            have HN : Hid (kTo zs (k + 1) = 0) := kTo_next hz.out (kC_fine (by rw [HZ.out]; exact ht) (fun j hj e => by
              rw [HZ.out] at e
              have := (hbit.out x).2 ⟨j, hj, e⟩
              rw [hb2] at this; cases this))
            have hd2 : d ||| 1 <<< x < 32 := by
              refine Nat.or_lt_two_pow (n := 5) hd ?_
              rw [Nat.shiftLeft_eq, Nat.one_mul]
              exact Nat.pow_lt_pow_right (by omega) hx5
            have HBT : Hid (∀ y : Nat, (d ||| 1 <<< x).testBit y = true ↔ ∃ j, j < k + 1 ∧ zs[j]?.getD 0 = (y : Int)) := fun y => by
              rw [Nat.testBit_or, Bool.or_eq_true, hbit.out y]
              have e2 : (1 <<< x).testBit y = true ↔ y = x := by
                rw [Nat.shiftLeft_eq, Nat.one_mul, Nat.testBit_two_pow]
                simp [eq_comm]
              rw [e2]
              constructor
              · rintro (⟨j, hj, he⟩ | rfl)
                · exact ⟨j, by omega, he⟩
                · exact ⟨k, by omega, HZ.out⟩
              · rintro ⟨j, hj, he⟩
                by_cases ej : j = k
                · subst ej; rw [HZ.out] at he; right; omega
                · exact .inl ⟨j, by omega, he⟩
            have hsh : IntKind.i64.wrap (2 ^ x) = ((1 <<< x : Nat) : Int) := i64_shl x (by omega)
            have hjp : 1 <<< x < 65536 := by rw [Nat.shiftLeft_eq, Nat.one_mul]; have := pow_lt x (by omega); omega
            have hor := i64_or_nat d (1 <<< x) (by omega) hjp
            obtain ⟨y, hy⟩ : ∃ y : Nat, 1 <<< x = y := ⟨_, rfl⟩
            rw [hy] at hsh hor hd2 HBT
            obtain ⟨q, hq⟩ : ∃ q : Nat, d ||| y = q := ⟨_, rfl⟩
            rw [hq] at hor hd2 HBT
            clear hq hy hjp hb2 hzz
            go_wp2_with fail
            refine (isThing_z _ _ _).mono ?_
            rw [ht]
            rintro e w' ⟨rfl, rfl⟩
            go_wp2_with fail
            refine hh.mono ?_
            rintro e w' ⟨rfl, rfl⟩
            go_wp2_with fail
            go_round
            case rel => exact ⟨k + 1, q, by go_num, rfl, by omega, hd2, HN, HBT⟩
            case measure => simp [intOf]; omega
      · obtain rfl : k = 5 := by omega
        go_wp2_with fail
        go_ret
        exact ⟨by rw [HK.out, hz.out]; rfl, rfl⟩
  · have HK : Hid (kcd zs = 3) := if_neg (by omega)
    have hne : ((n : Int) != 5) = true := by simp; omega
    clear h5
    go_enter Tryd.func32, Tryd.ntmps32
    go_wp2_with fail
    go_ret
    exact ⟨by rw [HK.out]; rfl, rfl⟩
end Go.Proofs.YtkkccafobfdjbaaDoor
