/- The document's Within (package whensteadref1): whether a set is in another one, at whatever sets of at most sixteen things; memory is left alone. -/
import Derived.Test.YtfjmealeglbklaaDoorRefBit
import Derived.Test.YtfjmealeglbklaaDoorFst
namespace Go.Proofs.YtfjmealeglbklaaDoor
open Go.RowKit

set_option maxHeartbeats 1000000 in
theorem within_false (a b : Nat) (w : World) (ha : a < 65536) (hb : b < 65536) (h : M.subB a b = false) :
    Calls Tryd.prog 26 #[.int .i64 a, .int .i64 b] w fun e w' => e = .returned (.bool false) ∧ w = w' := by
  have H : Hid (¬ ∀ j, a.testBit j = true → b.testBit j = true) := ((fun h' => absurd (M.subB_iff.2 h') (by rw [h]; exact Bool.false_ne_true)) : ¬ ∀ j, a.testBit j = true → b.testBit j = true)
  clear h
  go_enter Tryd.func26, Tryd.ntmps26
  go_wp2
  go_loop [0, 1] (fun u v => ∃ (k x y : Nat), Hid (x = a / 2 ^ k) ∧ Hid (y = b / 2 ^ k) ∧ Hid (∀ j, j < k → a.testBit j = true → b.testBit j = true) ∧ x ≤ a ∧ y ≤ b ∧ u = .int .i64 x ∧ v = .int .i64 y) (fun u _ => (intOf u).toNat)
  case atStart => exact ⟨0, a, b, show a = a / 2 ^ 0 by simp, show b = b / 2 ^ 0 by simp, (fun j hj => by omega : ∀ j, j < 0 → a.testBit j = true → b.testBit j = true), Nat.le_refl _, Nat.le_refl _, rfl, rfl⟩
  case round =>
    obtain ⟨k, x, y, hx, hy, hlow, hxa, hyb, rfl, rfl⟩ := hrel
    by_cases h0 : x = 0
    · exfalso
      subst h0
      refine H.out (fun j hj => ?_)
      by_cases hjk : j < k
      · exact hlow.out j hjk hj
      · rw [testBit_zero_above hx.out.symm (by omega)] at hj; cases hj
    · have hpos : 0 < x := by omega
      have hn1 : x / 2 = a / 2 ^ (k + 1) := by rw [div_succ, ← hx.out]
      have hn2 : y / 2 = b / 2 ^ (k + 1) := by rw [div_succ, ← hy.out]
      have N1 : Hid (x / 2 = a / 2 ^ (k + 1)) := hn1
      have N2 : Hid (y / 2 = b / 2 ^ (k + 1)) := hn2
      clear hn1 hn2
      have hnl : Hid ((x % 2 = 1 → y % 2 = 1) → ∀ j, j < k + 1 → a.testBit j = true → b.testBit j = true) := (fun hxy j hj hja => by
        by_cases e : j = k
        · subst e
          rw [testBit_div, ← hx.out] at hja
          rw [testBit_div, ← hy.out]
          have : x % 2 = 1 := by simpa using hja
          rw [hxy this]; rfl
        · exact hlow.out j (by omega) hja : (x % 2 = 1 → y % 2 = 1) → ∀ j, j < k + 1 → a.testBit j = true → b.testBit j = true)
      by_cases h1 : x % 2 = 1
      · by_cases h2 : y % 2 = 1
        · have e1 : ((x : Int) % 2 == 1) = true := by simp; omega
          have e2 : ((y : Int) % 2 == 0) = false := by simp; omega
          have HL : Hid (∀ j, j < k + 1 → a.testBit j = true → b.testBit j = true) := hnl.out (fun _ => h2)
          clear h1 h2
          go_wp2
          go_round
          case rel => exact ⟨k + 1, x / 2, y / 2, N1, N2, HL, by omega, by omega, by go_num, by go_num⟩
          case measure => simp [intOf]; omega
        · have e1 : ((x : Int) % 2 == 1) = true := by simp; omega
          have e2 : ((y : Int) % 2 == 0) = true := by simp; omega
          clear h1 h2
          go_wp2
          go_ret
          exact ⟨rfl, rfl⟩
      · have e1 : ((x : Int) % 2 == 1) = false := by simp; omega
        have HL : Hid (∀ j, j < k + 1 → a.testBit j = true → b.testBit j = true) := hnl.out (fun h => absurd h h1)
        clear h1
        go_wp2
        go_round
        case rel => exact ⟨k + 1, x / 2, y / 2, N1, N2, HL, by omega, by omega, by go_num, by go_num⟩
        case measure => simp [intOf]; omega
theorem within_any (a b : Nat) (w : World) (ha : a < 65536) (hb : b < 65536) :
    Calls Tryd.prog 26 #[.int .i64 a, .int .i64 b] w fun e w' => e = .returned (.bool (M.subB a b)) ∧ w = w' := by
  cases h : M.subB a b with
  | false => exact within_false a b w ha hb h
  | true => exact within_true a b w ha hb (M.subB_iff.1 h)
end Go.Proofs.YtfjmealeglbklaaDoor
