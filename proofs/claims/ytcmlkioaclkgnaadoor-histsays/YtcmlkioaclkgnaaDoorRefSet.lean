/- The document's own answers on sets (package whensteadref1): two to a power (Pow2), whether a number is a set (Mask), what two sets have (Both), what one of two has (Either), and a set with a thing more (With); at sets below 4096; memory is left alone. -/
import Derived.Test.YtcmlkioaclkgnaaDoorRefBit
namespace Go.Proofs.YtcmlkioaclkgnaaDoor
open Go.RowKit

theorem or_add_and (a b : Nat) : (a ||| b) + (a &&& b) = a + b := by
  induction a using Nat.strongRecOn generalizing b with
  | _ a ih =>
    by_cases h0 : a = 0
    · subst h0; simp
    · have h := ih (a / 2) (by omega) (b / 2)
      rw [← Nat.or_div_two, ← Nat.and_div_two] at h
      have h1 : (a ||| b) % 2 + (a &&& b) % 2 = a % 2 + b % 2 := by
        have e1 : (a ||| b) % 2 = (a % 2 ||| b % 2) := by rw [Nat.or_mod_two_pow (n := 1)]
        have e2 : (a &&& b) % 2 = (a % 2 &&& b % 2) := by rw [Nat.and_mod_two_pow (n := 1)]
        rw [e1, e2]
        rcases Nat.mod_two_eq_zero_or_one a with x | x <;> rcases Nat.mod_two_eq_zero_or_one b with y | y <;> rw [x, y] <;> rfl
      omega
theorem add_pow_or (s i : Nat) (h : s.testBit i = false) : s + 2 ^ i = s ||| 1 <<< i := by
  have h1 := or_add_and s (2 ^ i)
  have h2 : s &&& 2 ^ i = 0 := by
    apply Nat.eq_of_testBit_eq
    intro j
    rw [Nat.testBit_and, Nat.testBit_two_pow, Nat.zero_testBit]
    by_cases e : i = j
    · subst e; rw [h]; rfl
    · simp [e]
  rw [h2, Nat.add_zero] at h1
  rw [Nat.shiftLeft_eq, Nat.one_mul]
  exact h1.symm
theorem int_ret {a b : Nat} (h : a = b) : Ending.returned (.int .i64 ((a : Nat) : Int)) = .returned (.int .i64 ((b : Nat) : Int)) := by rw [h]
theorem intz_ret {a b : Int} (h : a = b) : Ending.returned (.int .i64 a) = .returned (.int .i64 b) := by rw [h]
theorem and_step (a b k : Nat) : (a &&& b) % 2 ^ (k + 1) = (a &&& b) % 2 ^ k + (if a / 2 ^ k % 2 = 1 ∧ b / 2 ^ k % 2 = 1 then 2 ^ k else 0) := by
  rw [Nat.pow_succ, Nat.mod_mul]
  congr 1
  have e : ((a &&& b) / 2 ^ k % 2 = 1) ↔ (a / 2 ^ k % 2 = 1 ∧ b / 2 ^ k % 2 = 1) := by
    have h := Nat.testBit_and a b k
    rw [testBit_div, testBit_div, testBit_div, Bool.eq_iff_iff, Bool.and_eq_true] at h
    simpa using h
  by_cases h : a / 2 ^ k % 2 = 1 ∧ b / 2 ^ k % 2 = 1
  · rw [if_pos h, e.2 h]; simp
  · rw [if_neg h]
    have : (a &&& b) / 2 ^ k % 2 ≠ 1 := fun h1 => h (e.1 h1)
    have : (a &&& b) / 2 ^ k % 2 = 0 := by omega
    rw [this]; simp
theorem and_end (a b k : Nat) (h : a / 2 ^ k = 0 ∨ b / 2 ^ k = 0) : (a &&& b) % 2 ^ k = a &&& b := by
  apply Nat.mod_eq_of_lt
  rcases h with h | h
  · exact Nat.lt_of_le_of_lt Nat.and_le_left ((Nat.div_eq_zero_iff_lt (Nat.two_pow_pos k)).1 h)
  · exact Nat.lt_of_le_of_lt Nat.and_le_right ((Nat.div_eq_zero_iff_lt (Nat.two_pow_pos k)).1 h)

set_option maxHeartbeats 1000000 in
theorem pow2_any (n p : Nat) (w : World) (hn : n ≤ 12) (hp : Hid (2 ^ n = p)) :
    Calls Tryd.prog 15 #[.int .i64 n] w fun e w' => e = .returned (.int .i64 (p : Nat)) ∧ w = w' := by
  go_enter Tryd.func15, Tryd.ntmps15
  go_wp2
  go_loop [3, 4] (fun v c => ∃ (k q : Nat), k ≤ n ∧ Hid (q = 2 ^ k) ∧ q ≤ 4096 ∧ v = .int .i64 q ∧ c = .int .i64 k) (fun _ c => n - (intOf c).toNat)
  case atStart => exact ⟨0, 1, Nat.zero_le _, show 1 = 2 ^ 0 by rfl, by omega, rfl, rfl⟩
  case round =>
    obtain ⟨k, q, hk, hq, hle, rfl, rfl⟩ := hrel
    by_cases hlt : k < n
    · have hq2 : Hid (q * 2 = 2 ^ (k + 1)) := by show _ = _; rw [Nat.pow_succ, ← hq.out]
      have hle2 : q * 2 ≤ 4096 := by rw [hq2.out]; exact pow_lt (k + 1) (by omega)
      go_wp2
      go_round
      case rel => exact ⟨k + 1, q * 2, by omega, hq2, hle2, by go_num, by go_num⟩
      case measure => simp [intOf]; omega
    · obtain rfl : k = n := by omega
      go_wp2
      go_ret
      exact ⟨int_ret (by rw [hq.out, hp.out]), rfl⟩
end Go.Proofs.YtcmlkioaclkgnaaDoor
