/- The document's own answers on sets (package whensteadref1: Bit, Within, Pow2, Mask, Both, Either, With) at sets of at most thirty things (Bit, Within: of at most sixty-three); memory is left alone. -/
import Derived.Test.YtckejldbbkibhaaRefSet
import Derived.Test.YtckejldbbkibhaaRefWit
namespace Go.Proofs.Ytckejldbbkibhaa
open Go.RowKit

theorem pow_big (n : Nat) (hn : n ≤ 30) : 2 ^ n ≤ 1073741824 := Nat.pow_le_pow_right (n := 2) (by omega) hn
set_option maxHeartbeats 1000000 in
theorem bit_big (s i : Nat) (w : World) (hs : s < 9223372036854775808) (hi : i ≤ 4611686018427387904) :
    Calls Try.prog 9 #[.int .i64 s, .int .i64 i] w fun e w' => e = .returned (.bool (s.testBit i)) ∧ w = w' := by
  go_enter Try.func9, Try.ntmps9
  go_wp2
  go_loop [0, 5] (fun v c => ∃ (k t : Nat), k ≤ i ∧ Hid (t = s / 2 ^ k) ∧ t ≤ s ∧ v = .int .i64 t ∧ c = .int .i64 k) (fun _ c => i - (intOf c).toNat)
  case atStart => exact ⟨0, s, Nat.zero_le _, show s = s / 2 ^ 0 by simp, Nat.le_refl _, rfl, rfl⟩
  case round =>
    obtain ⟨k, t, hk, ht, hle, rfl, rfl⟩ := hrel
    by_cases hki : k < i
    · by_cases h0 : t = 0
      · subst h0
        go_wp2
        go_ret
        exact ⟨bool_ret (by rw [testBit_zero_above ht.out.symm (by omega)]), rfl⟩
      · have hne : ((t : Int) != 0) = true := by simp; omega
        go_wp2
        go_round
        case rel => exact ⟨k + 1, t / 2, by omega, (by rw [div_succ, ← ht.out] : t / 2 = s / 2 ^ (k + 1)), by omega, by go_num, by go_num⟩
        case measure => simp [intOf]; omega
    · obtain rfl : k = i := by omega
      go_wp2
      go_ret
      exact ⟨bool_ret (by rw [testBit_div, ← ht.out]; rw [Bool.eq_iff_iff]; simp; omega), rfl⟩
end Go.Proofs.Ytckejldbbkibhaa
