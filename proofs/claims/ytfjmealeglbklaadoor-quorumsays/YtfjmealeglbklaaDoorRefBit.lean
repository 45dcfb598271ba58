/- The document's own answers on sets (package whensteadref1): whether a thing is in a set (Bit), and whether a set is in another one (Within); at sets below 65536; memory is left alone. -/
import Derived.Test.YtfjmealeglbklaaDoorBits
import Derived.LoopTactic
import Derived.Below
namespace Go.Proofs.YtfjmealeglbklaaDoor
open Go.RowKit

theorem testBit_div (s k : Nat) : s.testBit k = (s / 2 ^ k % 2 == 1) := by
  rw [Nat.testBit_eq_decide_div_mod_eq]
  rw [Bool.eq_iff_iff]; simp
theorem div_succ (s k : Nat) : s / 2 ^ (k + 1) = s / 2 ^ k / 2 := by rw [Nat.pow_succ, Nat.div_div_eq_div_mul]
theorem testBit_zero_above {s k i : Nat} (h : s / 2 ^ k = 0) (hk : k ≤ i) : s.testBit i = false := by
  rw [Nat.testBit_eq_decide_div_mod_eq]
  have e : s / 2 ^ i = 0 := by
    have : 2 ^ i = 2 ^ k * 2 ^ (i - k) := by rw [← Nat.pow_add]; congr 1; omega
    rw [this, ← Nat.div_div_eq_div_mul, h, Nat.zero_div]
  rw [e]; simp
set_option maxHeartbeats 1000000 in
theorem bit_any (s i : Nat) (w : World) (hs : s < 65536) (hi : i ≤ 4611686018427387904) :
    Calls Tryd.prog 51 #[.int .i64 s, .int .i64 i] w fun e w' => e = .returned (.bool (s.testBit i)) ∧ w = w' := by
  go_enter Tryd.func51, Tryd.ntmps51
  go_wp2
  go_loop [0, 5] (fun v c => ∃ (k t : Nat), k ≤ i ∧ Hid (t = s / 2 ^ k) ∧ t ≤ s ∧ v = .int .i64 t ∧ c = .int .i64 k) (fun _ c => i - (intOf c).toNat)
  case atStart => exact ⟨0, s, Nat.zero_le _, show s = s / 2 ^ 0 by simp, Nat.le_refl _, rfl, rfl⟩
  case round =>
    obtain ⟨k, t, hk, ht, hle, rfl, rfl⟩ := hrel
    by_cases hki : k < i
    · by_cases h0 : t = 0
      · subst h0
        go_wp2
        go_ret
        exact ⟨bool_ret (by rw [testBit_zero_above ht.out.symm (by omega)]), rfl⟩
      · have hne : ((t : Int) != 0) = true := by simp; omega
        go_wp2
        go_round
        case rel => exact ⟨k + 1, t / 2, by omega, (by rw [div_succ, ← ht.out] : t / 2 = s / 2 ^ (k + 1)), by omega, by go_num, by go_num⟩
        case measure => simp [intOf]; omega
    · obtain rfl : k = i := by omega
      go_wp2
      go_ret
      exact ⟨bool_ret (by rw [testBit_div, ← ht.out]; rw [Bool.eq_iff_iff]; simp; omega), rfl⟩
theorem within_bit {a b k x y : Nat} (h : ∀ j, a.testBit j = true → b.testBit j = true) (hx : x = a / 2 ^ k) (hy : y = b / 2 ^ k) (h1 : x % 2 = 1) : y % 2 = 1 := by
  have ha : a.testBit k = true := by rw [testBit_div, ← hx, h1]; rfl
  have hb := h k ha
  rw [testBit_div, ← hy] at hb
  simpa using hb
set_option maxHeartbeats 1000000 in
theorem within_true (a b : Nat) (w : World) (ha : a < 65536) (hb : b < 65536) (h : ∀ j, a.testBit j = true → b.testBit j = true) :
    Calls Tryd.prog 26 #[.int .i64 a, .int .i64 b] w fun e w' => e = .returned (.bool true) ∧ w = w' := by
  have H : Hid (∀ j, a.testBit j = true → b.testBit j = true) := h
  clear h
  go_enter Tryd.func26, Tryd.ntmps26
  go_wp2
  go_loop [0, 1] (fun u v => ∃ (k x y : Nat), Hid (x = a / 2 ^ k) ∧ Hid (y = b / 2 ^ k) ∧ x ≤ a ∧ y ≤ b ∧ u = .int .i64 x ∧ v = .int .i64 y) (fun u _ => (intOf u).toNat)
  case atStart => exact ⟨0, a, b, show a = a / 2 ^ 0 by simp, show b = b / 2 ^ 0 by simp, Nat.le_refl _, Nat.le_refl _, rfl, rfl⟩
  case round =>
    obtain ⟨k, x, y, hx, hy, hxa, hyb, rfl, rfl⟩ := hrel
    by_cases h0 : x = 0
    · subst h0
      go_wp2
      go_ret
      exact ⟨rfl, rfl⟩
    · have hpos : 0 < x := by omega
      have hn1 : x / 2 = a / 2 ^ (k + 1) := by rw [div_succ, ← hx.out]
      have hn2 : y / 2 = b / 2 ^ (k + 1) := by rw [div_succ, ← hy.out]
      have N1 : Hid (x / 2 = a / 2 ^ (k + 1)) := hn1
      have N2 : Hid (y / 2 = b / 2 ^ (k + 1)) := hn2
      clear hn1 hn2
      by_cases h1 : x % 2 = 1
      · have h2 := within_bit H.out hx.out hy.out h1
        have e1 : ((x : Int) % 2 == 1) = true := by simp; omega
        have e2 : ((y : Int) % 2 == 0) = false := by simp; omega
        clear h1 h2
        go_wp2
        go_round
        case rel => exact ⟨k + 1, x / 2, y / 2, N1, N2, by omega, by omega, by go_num, by go_num⟩
        case measure => simp [intOf]; omega
      · have e1 : ((x : Int) % 2 == 1) = false := by simp; omega
        clear h1
        go_wp2
        go_round
        case rel => exact ⟨k + 1, x / 2, y / 2, N1, N2, by omega, by omega, by go_num, by go_num⟩
        case measure => simp [intOf]; omega
end Go.Proofs.YtfjmealeglbklaaDoor
