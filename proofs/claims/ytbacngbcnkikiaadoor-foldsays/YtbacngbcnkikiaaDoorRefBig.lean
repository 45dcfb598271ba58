/- The document's own answers on sets (package whensteadref1: Bit, Within, Pow2, Mask, Both, Either, With) at sets of at most thirty things (Bit, Within: of at most sixty-three); memory is left alone. -/
import Derived.Test.YtbacngbcnkikiaaDoorRefSet
import Derived.Test.YtbacngbcnkikiaaDoorRefWit
namespace Go.Proofs.YtbacngbcnkikiaaDoor
open Go.RowKit

theorem pow_big (n : Nat) (hn : n ≤ 30) : 2 ^ n ≤ 1073741824 := Nat.pow_le_pow_right (n := 2) (by omega) hn
set_option maxHeartbeats 1000000 in
theorem bit_big (s i : Nat) (w : World) (hs : s < 9223372036854775808) (hi : i ≤ 4611686018427387904) :
    Calls Tryd.prog 23 #[.int .i64 s, .int .i64 i] w fun e w' => e = .returned (.bool (s.testBit i)) ∧ w = w' := by
  go_enter Tryd.func23, Tryd.ntmps23
  go_wp2
  go_loop [0, 5] (fun v c => ∃ (k t : Nat), k ≤ i ∧ Hid (t = s / 2 ^ k) ∧ t ≤ s ∧ v = .int .i64 t ∧ c = .int .i64 k) (fun _ c => i - (intOf c).toNat)
  case atStart => exact ⟨0, s, Nat.zero_le _, show s = s / 2 ^ 0 by simp, Nat.le_refl _, rfl, rfl⟩
  case round =>
    obtain ⟨k, t, hk, ht, hle, rfl, rfl⟩ := hrel
    by_cases hki : k < i
    · by_cases h0 : t = 0
      · subst h0
        go_wp2
        go_ret
        exact ⟨bool_ret (by rw [testBit_zero_above ht.out.symm (by omega)]), rfl⟩
      · have hne : ((t : Int) != 0) = true := by simp; omega
        go_wp2
        go_round
        case rel => exact ⟨k + 1, t / 2, by omega, (by rw [div_succ, ← ht.out] : t / 2 = s / 2 ^ (k + 1)), by omega, by go_num, by go_num⟩
        case measure => simp [intOf]; omega
    · obtain rfl : k = i := by omega
      go_wp2
      go_ret
      exact ⟨bool_ret (by rw [testBit_div, ← ht.out]; rw [Bool.eq_iff_iff]; simp; omega), rfl⟩
set_option maxHeartbeats 1000000 in
theorem pow2_big (n p : Nat) (w : World) (hn : n ≤ 30) (hp : Hid (2 ^ n = p)) :
    Calls Tryd.prog 35 #[.int .i64 n] w fun e w' => e = .returned (.int .i64 (p : Nat)) ∧ w = w' := by
  go_enter Tryd.func35, Tryd.ntmps35
  go_wp2
  go_loop [3, 4] (fun v c => ∃ (k q : Nat), k ≤ n ∧ Hid (q = 2 ^ k) ∧ q ≤ 1073741824 ∧ v = .int .i64 q ∧ c = .int .i64 k) (fun _ c => n - (intOf c).toNat)
  case atStart => exact ⟨0, 1, Nat.zero_le _, show 1 = 2 ^ 0 by rfl, by omega, rfl, rfl⟩
  case round =>
    obtain ⟨k, q, hk, hq, hle, rfl, rfl⟩ := hrel
    by_cases hlt : k < n
    · have hq2 : Hid (q * 2 = 2 ^ (k + 1)) := by show _ = _; rw [Nat.pow_succ, ← hq.out]
      have hle2 : q * 2 ≤ 1073741824 := by rw [hq2.out]; exact pow_big (k + 1) (by omega)
      go_wp2
      go_round
      case rel => exact ⟨k + 1, q * 2, by omega, hq2, hle2, by go_num, by go_num⟩
      case measure => simp [intOf]; omega
    · obtain rfl : k = n := by omega
      go_wp2
      go_ret
      exact ⟨int_ret (by rw [hq.out, hp.out]), rfl⟩
set_option maxHeartbeats 400000 in
theorem mask_big (z : Int) (n : Nat) (w : World) (hn : n ≤ 30) :
    Calls Tryd.prog 31 #[.int .i64 z, .int .i64 n] w fun e w' => e = .returned (.bool (setB z n)) ∧ w = w' := by
  by_cases hz : z < 0
  · go_enter Tryd.func31, Tryd.ntmps31
    go_wp2
    go_ret
    exact ⟨bool_ret (setB_neg hz).symm, rfl⟩
  · have hz' : 0 ≤ z := by omega
    obtain ⟨q, hq⟩ : ∃ q, 2 ^ n = q := ⟨_, rfl⟩
    have HQ : Hid (2 ^ n = q) := hq
    have HZ : Hid (setB z n = decide (z < (q : Int))) := by show _ = _; rw [setB_nn hz', ← hq]; simp
    clear hq
    go_enter Tryd.func31, Tryd.ntmps31
    go_wp2_with (go_at_call 35; refine (pow2_big n q _ hn HQ).mono ?_; rintro e w' ⟨rfl, rfl⟩)
    go_ret
    exact ⟨bool_ret HZ.out.symm, rfl⟩
set_option maxHeartbeats 400000 in
theorem with_big (s i : Nat) (w : World) (hs : s < 1073741824) (hi : i ≤ 30) :
    Calls Tryd.prog 34 #[.int .i64 s, .int .i64 i] w fun e w' => e = .returned (.int .i64 ((s ||| 1 <<< i : Nat) : Int)) ∧ w = w' := by
  have hp := pow_big i hi
  cases hb : s.testBit i with
  | true =>
    have e : s ||| 1 <<< i = s := by
      apply Nat.eq_of_testBit_eq
      intro j
      rw [Nat.testBit_or, Nat.shiftLeft_eq, Nat.one_mul, Nat.testBit_two_pow]
      by_cases h : i = j
      · subst h; rw [hb]; rfl
      · simp [h]
    rw [e]
    go_enter Tryd.func34, Tryd.ntmps34
    go_wp2_with (go_at_call 23; refine (bit_big _ _ _ (by omega) (by omega)).mono ?_; rintro e w' ⟨rfl, rfl⟩)
    go_ret
    exact ⟨rfl, rfl⟩
  | false =>
    have e := add_pow_or s i hb
    rw [← e]
    obtain ⟨q, hq⟩ : ∃ q, 2 ^ i = q := ⟨_, rfl⟩
    have HQ : Hid (2 ^ i = q) := hq
    rw [hq] at hp ⊢
    clear hq e
    go_enter Tryd.func34, Tryd.ntmps34
    go_wp2_with (first | (go_at_call 23; refine (bit_big _ _ _ (by omega) (by omega)).mono ?_; rintro e w' ⟨rfl, rfl⟩) | (go_at_call 35; refine (pow2_big i q _ hi HQ).mono ?_; rintro e w' ⟨rfl, rfl⟩))
    go_ret
    exact ⟨intz_ret (by omega), rfl⟩
end Go.Proofs.YtbacngbcnkikiaaDoor
