/- The document's own answers on sets (package whensteadref1): whether a thing is in a set (Bit), and whether a set is in another one (Within); at sets below 65536; memory is left alone. -/
import Derived.Test.YtjannokbdjjejabDoorBits
import Derived.LoopTactic
import Derived.Below
namespace Go.Proofs.YtjannokbdjjejabDoor
open Go.RowKit

theorem testBit_div (s k : Nat) : s.testBit k = (s / 2 ^ k % 2 == 1) := by
  rw [Nat.testBit_eq_decide_div_mod_eq]
  rw [Bool.eq_iff_iff]; simp
theorem div_succ (s k : Nat) : s / 2 ^ (k + 1) = s / 2 ^ k / 2 := by rw [Nat.pow_succ, Nat.div_div_eq_div_mul]
theorem testBit_zero_above {s k i : Nat} (h : s / 2 ^ k = 0) (hk : k ≤ i) : s.testBit i = false := by
  rw [Nat.testBit_eq_decide_div_mod_eq]
  have e : s / 2 ^ i = 0 := by
    have : 2 ^ i = 2 ^ k * 2 ^ (i - k) := by rw [← Nat.pow_add]; congr 1; omega
    rw [this, ← Nat.div_div_eq_div_mul, h, Nat.zero_div]
  rw [e]; simp
theorem within_bit {a b k x y : Nat} (h : ∀ j, a.testBit j = true → b.testBit j = true) (hx : x = a / 2 ^ k) (hy : y = b / 2 ^ k) (h1 : x % 2 = 1) : y % 2 = 1 := by
  have ha : a.testBit k = true := by rw [testBit_div, ← hx, h1]; rfl
  have hb := h k ha
  rw [testBit_div, ← hy] at hb
  simpa using hb
end Go.Proofs.YtjannokbdjjejabDoor
