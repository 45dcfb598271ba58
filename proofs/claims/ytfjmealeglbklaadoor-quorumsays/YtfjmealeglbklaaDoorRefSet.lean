/- The document's own answers on sets (package whensteadref1): two to a power (Pow2), whether a number is a set (Mask), what two sets have (Both), what one of two has (Either), and a set with a thing more (With); at sets below 4096; memory is left alone. -/
import Derived.Test.YtfjmealeglbklaaDoorRefBit
namespace Go.Proofs.YtfjmealeglbklaaDoor
open Go.RowKit

theorem or_add_and (a b : Nat) : (a ||| b) + (a &&& b) = a + b := by
  induction a using Nat.strongRecOn generalizing b with
  | _ a ih =>
    by_cases h0 : a = 0
    · subst h0; simp
    · have h := ih (a / 2) (by omega) (b / 2)
      rw [← Nat.or_div_two, ← Nat.and_div_two] at h
      have h1 : (a ||| b) % 2 + (a &&& b) % 2 = a % 2 + b % 2 := by
        have e1 : (a ||| b) % 2 = (a % 2 ||| b % 2) := by rw [Nat.or_mod_two_pow (n := 1)]
        have e2 : (a &&& b) % 2 = (a % 2 &&& b % 2) := by rw [Nat.and_mod_two_pow (n := 1)]
        rw [e1, e2]
        rcases Nat.mod_two_eq_zero_or_one a with x | x <;> rcases Nat.mod_two_eq_zero_or_one b with y | y <;> rw [x, y] <;> rfl
      omega
theorem add_pow_or (s i : Nat) (h : s.testBit i = false) : s + 2 ^ i = s ||| 1 <<< i := by
  have h1 := or_add_and s (2 ^ i)
  have h2 : s &&& 2 ^ i = 0 := by
    apply Nat.eq_of_testBit_eq
    intro j
    rw [Nat.testBit_and, Nat.testBit_two_pow, Nat.zero_testBit]
    by_cases e : i = j
    · subst e; rw [h]; rfl
    · simp [e]
  rw [h2, Nat.add_zero] at h1
  rw [Nat.shiftLeft_eq, Nat.one_mul]
  exact h1.symm
theorem int_ret {a b : Nat} (h : a = b) : Ending.returned (.int .i64 ((a : Nat) : Int)) = .returned (.int .i64 ((b : Nat) : Int)) := by rw [h]
theorem intz_ret {a b : Int} (h : a = b) : Ending.returned (.int .i64 a) = .returned (.int .i64 b) := by rw [h]
theorem and_step (a b k : Nat) : (a &&& b) % 2 ^ (k + 1) = (a &&& b) % 2 ^ k + (if a / 2 ^ k % 2 = 1 ∧ b / 2 ^ k % 2 = 1 then 2 ^ k else 0) := by
  rw [Nat.pow_succ, Nat.mod_mul]
  congr 1
  have e : ((a &&& b) / 2 ^ k % 2 = 1) ↔ (a / 2 ^ k % 2 = 1 ∧ b / 2 ^ k % 2 = 1) := by
    have h := Nat.testBit_and a b k
    rw [testBit_div, testBit_div, testBit_div, Bool.eq_iff_iff, Bool.and_eq_true] at h
    simpa using h
  by_cases h : a / 2 ^ k % 2 = 1 ∧ b / 2 ^ k % 2 = 1
  · rw [if_pos h, e.2 h]; simp
  · rw [if_neg h]
    have : (a &&& b) / 2 ^ k % 2 ≠ 1 := fun h1 => h (e.1 h1)
    have : (a &&& b) / 2 ^ k % 2 = 0 := by omega
    rw [this]; simp
theorem and_end (a b k : Nat) (h : a / 2 ^ k = 0 ∨ b / 2 ^ k = 0) : (a &&& b) % 2 ^ k = a &&& b := by
  apply Nat.mod_eq_of_lt
  rcases h with h | h
  · exact Nat.lt_of_le_of_lt Nat.and_le_left ((Nat.div_eq_zero_iff_lt (Nat.two_pow_pos k)).1 h)
  · exact Nat.lt_of_le_of_lt Nat.and_le_right ((Nat.div_eq_zero_iff_lt (Nat.two_pow_pos k)).1 h)

set_option maxHeartbeats 1000000 in
theorem pow2_any (n p : Nat) (w : World) (hn : n ≤ 12) (hp : Hid (2 ^ n = p)) :
    Calls Tryd.prog 24 #[.int .i64 n] w fun e w' => e = .returned (.int .i64 (p : Nat)) ∧ w = w' := by
  go_enter Tryd.func24, Tryd.ntmps24
  go_wp2
  go_loop [3, 4] (fun v c => ∃ (k q : Nat), k ≤ n ∧ Hid (q = 2 ^ k) ∧ q ≤ 4096 ∧ v = .int .i64 q ∧ c = .int .i64 k) (fun _ c => n - (intOf c).toNat)
  case atStart => exact ⟨0, 1, Nat.zero_le _, show 1 = 2 ^ 0 by rfl, by omega, rfl, rfl⟩
  case round =>
    obtain ⟨k, q, hk, hq, hle, rfl, rfl⟩ := hrel
    by_cases hlt : k < n
    · have hq2 : Hid (q * 2 = 2 ^ (k + 1)) := by show _ = _; rw [Nat.pow_succ, ← hq.out]
      have hle2 : q * 2 ≤ 4096 := by rw [hq2.out]; exact pow_lt (k + 1) (by omega)
      go_wp2
      go_round
      case rel => exact ⟨k + 1, q * 2, by omega, hq2, hle2, by go_num, by go_num⟩
      case measure => simp [intOf]; omega
    · obtain rfl : k = n := by omega
      go_wp2
      go_ret
      exact ⟨int_ret (by rw [hq.out, hp.out]), rfl⟩
set_option maxHeartbeats 400000 in
theorem mask_any (z : Int) (n : Nat) (w : World) (hn : n ≤ 12) :
    Calls Tryd.prog 18 #[.int .i64 z, .int .i64 n] w fun e w' => e = .returned (.bool (setB z n)) ∧ w = w' := by
  by_cases hz : z < 0
  · go_enter Tryd.func18, Tryd.ntmps18
    go_wp2
    go_ret
    exact ⟨bool_ret (setB_neg hz).symm, rfl⟩
  · have hz' : 0 ≤ z := by omega
    obtain ⟨q, hq⟩ : ∃ q, 2 ^ n = q := ⟨_, rfl⟩
    have HQ : Hid (2 ^ n = q) := hq
    have HZ : Hid (setB z n = decide (z < (q : Int))) := by show _ = _; rw [setB_nn hz', ← hq]; simp
    clear hq
    go_enter Tryd.func18, Tryd.ntmps18
    go_wp2_with (go_at_call 24; refine (pow2_any n q _ hn HQ).mono ?_; rintro e w' ⟨rfl, rfl⟩)
    go_ret
    exact ⟨bool_ret HZ.out.symm, rfl⟩
set_option maxHeartbeats 2000000 in
theorem both_any (a b : Nat) (w : World) (ha : a < 4096) (hb : b < 4096) :
    Calls Tryd.prog 25 #[.int .i64 a, .int .i64 b] w fun e w' => e = .returned (.int .i64 ((a &&& b : Nat) : Int)) ∧ w = w' := by
  go_enter Tryd.func25, Tryd.ntmps25
  go_wp2
  go_loop [0, 1, 5, 6] (fun u v o q => ∃ (k x y r t : Nat), Hid (x = a / 2 ^ k) ∧ Hid (y = b / 2 ^ k) ∧ Hid (r = (a &&& b) % 2 ^ k) ∧ Hid (t = 2 ^ k) ∧ (x = 0 ∨ k ≤ 12) ∧ x ≤ a ∧ y ≤ b ∧ r ≤ a ∧ t ≤ 8192 ∧ u = .int .i64 x ∧ v = .int .i64 y ∧ o = .int .i64 r ∧ q = .int .i64 t) (fun u _ _ _ => (intOf u).toNat)
  case atStart => exact ⟨0, a, b, 0, 1, show a = a / 2 ^ 0 by simp, show b = b / 2 ^ 0 by simp, show 0 = (a &&& b) % 2 ^ 0 by rw [Nat.pow_zero, Nat.mod_one], show 1 = 2 ^ 0 by rfl, .inr (by omega), Nat.le_refl _, Nat.le_refl _, Nat.zero_le _, by omega, rfl, rfl, rfl, rfl⟩
  case round =>
    obtain ⟨k, x, y, r, t, hx, hy, hr, ht, hk, hxa, hyb, hra, hte, rfl, rfl, rfl, rfl⟩ := hrel
    by_cases hx0 : x = 0
    · subst hx0
      go_wp2
      go_ret
      exact ⟨int_ret (by rw [hr.out, and_end a b k (.inl hx.out.symm)]), rfl⟩
    · have hxp : 0 < x := by omega
      by_cases hy0 : y = 0
      · subst hy0
        go_wp2
        go_ret
        exact ⟨int_ret (by rw [hr.out, and_end a b k (.inr hy.out.symm)]), rfl⟩
      · have hyp : 0 < y := by omega
        have hk12 : k < 12 := by
          have hlt : 2 ^ k ≤ a := by
            have h1 := hx.out
            have h2 := Nat.div_mul_le_self a (2 ^ k)
            have h3 : 1 * 2 ^ k ≤ a / 2 ^ k * 2 ^ k := Nat.mul_le_mul_right _ (by omega)
            omega
          apply Classical.byContradiction
          intro hn
          have h4 : 2 ^ 12 ≤ 2 ^ k := Nat.pow_le_pow_right (by omega) (by omega)
          omega
        have ht2 : t ≤ 2048 := by
          rw [ht.out]
          exact (Nat.pow_le_pow_right (by omega) (by omega : k ≤ 11) : 2 ^ k ≤ 2 ^ 11)
        have n1 : Hid (x / 2 = a / 2 ^ (k + 1)) := by show _ = _; rw [div_succ, ← hx.out]
        have n2 : Hid (y / 2 = b / 2 ^ (k + 1)) := by show _ = _; rw [div_succ, ← hy.out]
        have n3 : Hid ((a &&& b) % 2 ^ (k + 1) = r + (if x % 2 = 1 ∧ y % 2 = 1 then t else 0)) := by show _ = _; rw [and_step, ← hr.out, ← hx.out, ← hy.out, ← ht.out]
        have n4 : Hid (t * 2 = 2 ^ (k + 1)) := by show _ = _; rw [Nat.pow_succ, ← ht.out]
        have n5 : (a &&& b) % 2 ^ (k + 1) ≤ a := Nat.le_trans (Nat.mod_le _ _) Nat.and_le_left
        have N5 : Hid ((a &&& b) % 2 ^ (k + 1) ≤ a) := n5
        clear n5
        by_cases hx1 : x % 2 = 1
        · have e1 : ((x : Int) % 2 == 1) = true := by simp; omega
          by_cases hy1 : y % 2 = 1
          · have e2 : ((y : Int) % 2 == 1) = true := by simp; omega
            have n6 : (a &&& b) % 2 ^ (k + 1) = r + t := by rw [n3.out, if_pos ⟨hx1, hy1⟩]
            have N6 : Hid ((a &&& b) % 2 ^ (k + 1) = r + t) := n6
            clear n6 hx1 hy1
            go_wp2
            go_round
            case rel => exact ⟨k + 1, x / 2, y / 2, r + t, t * 2, n1, n2, N6.out.symm, n4, .inr (by omega), by omega, by omega, by rw [← N6.out]; exact N5.out, by omega, by go_num, by go_num, by go_num, by go_num⟩
            case measure => simp [intOf]; omega
          · have e2 : ((y : Int) % 2 == 1) = false := by simp; omega
            have n6 : (a &&& b) % 2 ^ (k + 1) = r := by rw [n3.out, if_neg (fun h => hy1 h.2)]; rfl
            have N6 : Hid ((a &&& b) % 2 ^ (k + 1) = r) := n6
            clear n6 hx1 hy1
            go_wp2
            go_round
            case rel => exact ⟨k + 1, x / 2, y / 2, r, t * 2, n1, n2, N6.out.symm, n4, .inr (by omega), by omega, by omega, hra, by omega, by go_num, by go_num, by go_num, by go_num⟩
            case measure => simp [intOf]; omega
        · have e1 : ((x : Int) % 2 == 1) = false := by simp; omega
          have n6 : (a &&& b) % 2 ^ (k + 1) = r := by rw [n3.out, if_neg (fun h => hx1 h.1)]; rfl
          have N6 : Hid ((a &&& b) % 2 ^ (k + 1) = r) := n6
          clear n6 hx1
          go_wp2
          go_round
          case rel => exact ⟨k + 1, x / 2, y / 2, r, t * 2, n1, n2, N6.out.symm, n4, .inr (by omega), by omega, by omega, hra, by omega, by go_num, by go_num, by go_num, by go_num⟩
          case measure => simp [intOf]; omega
end Go.Proofs.YtfjmealeglbklaaDoor
