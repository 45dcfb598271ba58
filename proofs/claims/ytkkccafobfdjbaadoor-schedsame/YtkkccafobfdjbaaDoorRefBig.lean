/- The document's own answers on sets (package whensteadref1: Bit, Within, Pow2, Mask, Both, Either, With) at sets of at most thirty things (Bit, Within: of at most sixty-three); memory is left alone. -/
import Derived.Test.YtkkccafobfdjbaaDoorRefSet
import Derived.Test.YtkkccafobfdjbaaDoorRefWit
namespace Go.Proofs.YtkkccafobfdjbaaDoor
open Go.RowKit

theorem pow_big (n : Nat) (hn : n ≤ 30) : 2 ^ n ≤ 1073741824 := Nat.pow_le_pow_right (n := 2) (by omega) hn
set_option maxHeartbeats 1000000 in
theorem bit_big (s i : Nat) (w : World) (hs : s < 9223372036854775808) (hi : i ≤ 4611686018427387904) :
    Calls Tryd.prog 20 #[.int .i64 s, .int .i64 i] w fun e w' => e = .returned (.bool (s.testBit i)) ∧ w = w' := by
  go_enter Tryd.func20, Tryd.ntmps20
  go_wp2
  go_loop [0, 5] (fun v c => ∃ (k t : Nat), k ≤ i ∧ Hid (t = s / 2 ^ k) ∧ t ≤ s ∧ v = .int .i64 t ∧ c = .int .i64 k) (fun _ c => i - (intOf c).toNat)
  case atStart => exact ⟨0, s, Nat.zero_le _, show s = s / 2 ^ 0 by simp, Nat.le_refl _, rfl, rfl⟩
  case round =>
    obtain ⟨k, t, hk, ht, hle, rfl, rfl⟩ := hrel
    by_cases hki : k < i
    · by_cases h0 : t = 0
      · subst h0
        go_wp2
        go_ret
        exact ⟨bool_ret (by rw [testBit_zero_above ht.out.symm (by omega)]), rfl⟩
      · have hne : ((t : Int) != 0) = true := by simp; omega
        go_wp2
        go_round
        case rel => exact ⟨k + 1, t / 2, by omega, (by rw [div_succ, ← ht.out] : t / 2 = s / 2 ^ (k + 1)), by omega, by go_num, by go_num⟩
        case measure => simp [intOf]; omega
    · obtain rfl : k = i := by omega
      go_wp2
      go_ret
      exact ⟨bool_ret (by rw [testBit_div, ← ht.out]; rw [Bool.eq_iff_iff]; simp; omega), rfl⟩
set_option maxHeartbeats 1000000 in
theorem pow2_big (n p : Nat) (w : World) (hn : n ≤ 30) (hp : Hid (2 ^ n = p)) :
    Calls Tryd.prog 21 #[.int .i64 n] w fun e w' => e = .returned (.int .i64 (p : Nat)) ∧ w = w' := by
  go_enter Tryd.func21, Tryd.ntmps21
  go_wp2
  go_loop [3, 4] (fun v c => ∃ (k q : Nat), k ≤ n ∧ Hid (q = 2 ^ k) ∧ q ≤ 1073741824 ∧ v = .int .i64 q ∧ c = .int .i64 k) (fun _ c => n - (intOf c).toNat)
  case atStart => exact ⟨0, 1, Nat.zero_le _, show 1 = 2 ^ 0 by rfl, by omega, rfl, rfl⟩
  case round =>
    obtain ⟨k, q, hk, hq, hle, rfl, rfl⟩ := hrel
    by_cases hlt : k < n
    · have hq2 : Hid (q * 2 = 2 ^ (k + 1)) := by show _ = _; rw [Nat.pow_succ, ← hq.out]
      have hle2 : q * 2 ≤ 1073741824 := by rw [hq2.out]; exact pow_big (k + 1) (by omega)
      go_wp2
      go_round
      case rel => exact ⟨k + 1, q * 2, by omega, hq2, hle2, by go_num, by go_num⟩
      case measure => simp [intOf]; omega
    · obtain rfl : k = n := by omega
      go_wp2
      go_ret
      exact ⟨int_ret (by rw [hq.out, hp.out]), rfl⟩
set_option maxHeartbeats 2000000 in
theorem both_big (a b : Nat) (w : World) (ha : a < 1073741824) (hb : b < 1073741824) :
    Calls Tryd.prog 40 #[.int .i64 a, .int .i64 b] w fun e w' => e = .returned (.int .i64 ((a &&& b : Nat) : Int)) ∧ w = w' := by
  go_enter Tryd.func40, Tryd.ntmps40
  go_wp2
  go_loop [0, 1, 5, 6] (fun u v o q => ∃ (k x y r t : Nat), Hid (x = a / 2 ^ k) ∧ Hid (y = b / 2 ^ k) ∧ Hid (r = (a &&& b) % 2 ^ k) ∧ Hid (t = 2 ^ k) ∧ (x = 0 ∨ k ≤ 30) ∧ x ≤ a ∧ y ≤ b ∧ r ≤ a ∧ t ≤ 2147483648 ∧ u = .int .i64 x ∧ v = .int .i64 y ∧ o = .int .i64 r ∧ q = .int .i64 t) (fun u _ _ _ => (intOf u).toNat)
  case atStart => exact ⟨0, a, b, 0, 1, show a = a / 2 ^ 0 by simp, show b = b / 2 ^ 0 by simp, show 0 = (a &&& b) % 2 ^ 0 by rw [Nat.pow_zero, Nat.mod_one], show 1 = 2 ^ 0 by rfl, .inr (by omega), Nat.le_refl _, Nat.le_refl _, Nat.zero_le _, by omega, rfl, rfl, rfl, rfl⟩
  case round =>
    obtain ⟨k, x, y, r, t, hx, hy, hr, ht, hk, hxa, hyb, hra, hte, rfl, rfl, rfl, rfl⟩ := hrel
    by_cases hx0 : x = 0
    · subst hx0
      go_wp2
      go_ret
      exact ⟨int_ret (by rw [hr.out, and_end a b k (.inl hx.out.symm)]), rfl⟩
    · have hxp : 0 < x := by omega
      by_cases hy0 : y = 0
      · subst hy0
        go_wp2
        go_ret
        exact ⟨int_ret (by rw [hr.out, and_end a b k (.inr hy.out.symm)]), rfl⟩
      · have hyp : 0 < y := by omega
        have hk12 : k < 30 := by
          have hlt : 2 ^ k ≤ a := by
            have h1 := hx.out
            have h2 := Nat.div_mul_le_self a (2 ^ k)
            have h3 : 1 * 2 ^ k ≤ a / 2 ^ k * 2 ^ k := Nat.mul_le_mul_right _ (by omega)
            omega
          apply Classical.byContradiction
          intro hn
          have h4 : 2 ^ 30 ≤ 2 ^ k := Nat.pow_le_pow_right (by omega) (by omega)
          omega
        have ht2 : t ≤ 536870912 := by
          rw [ht.out]
          exact (Nat.pow_le_pow_right (by omega) (by omega : k ≤ 29) : 2 ^ k ≤ 2 ^ 29)
        have n1 : Hid (x / 2 = a / 2 ^ (k + 1)) := by show _ = _; rw [div_succ, ← hx.out]
        have n2 : Hid (y / 2 = b / 2 ^ (k + 1)) := by show _ = _; rw [div_succ, ← hy.out]
        have n3 : Hid ((a &&& b) % 2 ^ (k + 1) = r + (if x % 2 = 1 ∧ y % 2 = 1 then t else 0)) := by show _ = _; rw [and_step, ← hr.out, ← hx.out, ← hy.out, ← ht.out]
        have n4 : Hid (t * 2 = 2 ^ (k + 1)) := by show _ = _; rw [Nat.pow_succ, ← ht.out]
        have n5 : (a &&& b) % 2 ^ (k + 1) ≤ a := Nat.le_trans (Nat.mod_le _ _) Nat.and_le_left
        have N5 : Hid ((a &&& b) % 2 ^ (k + 1) ≤ a) := n5
        clear n5
        by_cases hx1 : x % 2 = 1
        · have e1 : ((x : Int) % 2 == 1) = true := by simp; omega
          by_cases hy1 : y % 2 = 1
          · have e2 : ((y : Int) % 2 == 1) = true := by simp; omega
            have n6 : (a &&& b) % 2 ^ (k + 1) = r + t := by rw [n3.out, if_pos ⟨hx1, hy1⟩]
            have N6 : Hid ((a &&& b) % 2 ^ (k + 1) = r + t) := n6
            clear n6 hx1 hy1
            go_wp2
            go_round
            case rel => exact ⟨k + 1, x / 2, y / 2, r + t, t * 2, n1, n2, N6.out.symm, n4, .inr (by omega), by omega, by omega, by rw [← N6.out]; exact N5.out, by omega, by go_num, by go_num, by go_num, by go_num⟩
            case measure => simp [intOf]; omega
          · have e2 : ((y : Int) % 2 == 1) = false := by simp; omega
            have n6 : (a &&& b) % 2 ^ (k + 1) = r := by rw [n3.out, if_neg (fun h => hy1 h.2)]; rfl
            have N6 : Hid ((a &&& b) % 2 ^ (k + 1) = r) := n6
            clear n6 hx1 hy1
            go_wp2
            go_round
            case rel => exact ⟨k + 1, x / 2, y / 2, r, t * 2, n1, n2, N6.out.symm, n4, .inr (by omega), by omega, by omega, hra, by omega, by go_num, by go_num, by go_num, by go_num⟩
            case measure => simp [intOf]; omega
        · have e1 : ((x : Int) % 2 == 1) = false := by simp; omega
          have n6 : (a &&& b) % 2 ^ (k + 1) = r := by rw [n3.out, if_neg (fun h => hx1 h.1)]; rfl
          have N6 : Hid ((a &&& b) % 2 ^ (k + 1) = r) := n6
          clear n6 hx1
          go_wp2
          go_round
          case rel => exact ⟨k + 1, x / 2, y / 2, r, t * 2, n1, n2, N6.out.symm, n4, .inr (by omega), by omega, by omega, hra, by omega, by go_num, by go_num, by go_num, by go_num⟩
          case measure => simp [intOf]; omega
set_option maxHeartbeats 400000 in
theorem either_big (a b : Nat) (w : World) (ha : a < 1073741824) (hb : b < 1073741824) :
    Calls Tryd.prog 34 #[.int .i64 a, .int .i64 b] w fun e w' => e = .returned (.int .i64 ((a ||| b : Nat) : Int)) ∧ w = w' := by
  have h1 := or_add_and a b
  have h2 : a &&& b ≤ a := Nat.and_le_left
  obtain ⟨q, hq⟩ : ∃ q, a &&& b = q := ⟨_, rfl⟩
  obtain ⟨s, hs⟩ : ∃ s, a ||| b = s := ⟨_, rfl⟩
  have hc := fun W => both_big a b W ha hb
  rw [hq] at h1 h2 hc
  rw [hs] at h1 ⊢
  have H1 : Hid (s + q = a + b) := h1
  clear hq hs h1
  go_enter Tryd.func34, Tryd.ntmps34
  go_wp2_with (go_at_call 40; refine (hc _).mono ?_; rintro e w' ⟨rfl, rfl⟩)
  go_ret
  exact ⟨intz_ret (by have := H1.out; omega), rfl⟩
set_option maxHeartbeats 400000 in
theorem with_big (s i : Nat) (w : World) (hs : s < 1073741824) (hi : i ≤ 30) :
    Calls Tryd.prog 26 #[.int .i64 s, .int .i64 i] w fun e w' => e = .returned (.int .i64 ((s ||| 1 <<< i : Nat) : Int)) ∧ w = w' := by
  have hp := pow_big i hi
  cases hb : s.testBit i with
  | true =>
    have e : s ||| 1 <<< i = s := by
      apply Nat.eq_of_testBit_eq
      intro j
      rw [Nat.testBit_or, Nat.shiftLeft_eq, Nat.one_mul, Nat.testBit_two_pow]
      by_cases h : i = j
      · subst h; rw [hb]; rfl
      · simp [h]
    rw [e]
    go_enter Tryd.func26, Tryd.ntmps26
    go_wp2_with (go_at_call 20; refine (bit_big _ _ _ (by omega) (by omega)).mono ?_; rintro e w' ⟨rfl, rfl⟩)
    go_ret
    exact ⟨rfl, rfl⟩
  | false =>
    have e := add_pow_or s i hb
    rw [← e]
    obtain ⟨q, hq⟩ : ∃ q, 2 ^ i = q := ⟨_, rfl⟩
    have HQ : Hid (2 ^ i = q) := hq
    rw [hq] at hp ⊢
    clear hq e
    go_enter Tryd.func26, Tryd.ntmps26
    go_wp2_with (first | (go_at_call 20; refine (bit_big _ _ _ (by omega) (by omega)).mono ?_; rintro e w' ⟨rfl, rfl⟩) | (go_at_call 21; refine (pow2_big i q _ hi HQ).mono ?_; rintro e w' ⟨rfl, rfl⟩))
    go_ret
    exact ⟨intz_ret (by omega), rfl⟩
end Go.Proofs.YtkkccafobfdjbaaDoor
