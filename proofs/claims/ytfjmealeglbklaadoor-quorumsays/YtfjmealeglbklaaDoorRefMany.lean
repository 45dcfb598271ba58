/- The document's own count of a set's things (package whensteadref1, Many), at sets of at most twelve things; memory is left alone. -/
import Derived.Test.YtfjmealeglbklaaDoorRefSet
import Derived.Test.YtfjmealeglbklaaDoorChn
namespace Go.Proofs.YtfjmealeglbklaaDoor
open Go.RowKit

theorem cnt_step (s k x : Nat) (hx : x = s / 2 ^ k) : M.cnt (k + 1) s = M.cnt k s + x % 2 := by
  simp only [M.cnt]
  rw [testBit_div, ← hx]
  have : x % 2 = 0 ∨ x % 2 = 1 := by omega
  rcases this with h | h <;> simp [h]
set_option maxHeartbeats 1000000 in
theorem many_any (s : Nat) (w : World) (hs : s < 4096) :
    Calls Tryd.prog 28 #[.int .i64 s] w fun e w' => e = .returned (.int .i64 (M.pc s : Nat)) ∧ w = w' := by
  go_enter Tryd.func28, Tryd.ntmps28
  go_wp2
  go_loop [0, 3] (fun u v => ∃ (k x c : Nat), Hid (x = s / 2 ^ k) ∧ k ≤ 12 ∧ x ≤ s ∧ c ≤ 12 ∧ Hid (c = M.cnt k s) ∧ u = .int .i64 x ∧ v = .int .i64 c) (fun u _ => (intOf u).toNat)
  case atStart => exact ⟨0, s, 0, (by simp : s = s / 2 ^ 0), by omega, Nat.le_refl _, by omega, (rfl : 0 = M.cnt 0 s), rfl, rfl⟩
  case round =>
    obtain ⟨k, x, c, hx, hk, hxs, hc12, hc, rfl, rfl⟩ := hrel
    by_cases h0 : x = 0
    · subst h0
      have hlt : s < 2 ^ k := (Nat.div_eq_zero_iff_lt (Nat.two_pow_pos k)).1 hx.out.symm
      have hpc : Hid (c = M.pc s) := (by rw [hc.out, M.pc_cnt hk hlt] : c = M.pc s)
      clear hlt
      go_wp2
      go_ret
      exact ⟨(by rw [← hpc.out]; rfl), rfl⟩
    · have hpos : 0 < x := by omega
      have hk12 : k < 12 := by
        rcases Nat.lt_or_ge k 12 with h | h
        · exact h
        · have : s / 2 ^ k = 0 := Nat.div_eq_of_lt (Nat.lt_of_lt_of_le hs (Nat.pow_le_pow_right (n := 2) (by omega) h))
          rw [← hx.out] at this; omega
      have hn1 : Hid (x / 2 = s / 2 ^ (k + 1)) := (by rw [div_succ, ← hx.out] : x / 2 = s / 2 ^ (k + 1))
      have hn2 : Hid (c + x % 2 = M.cnt (k + 1) s) := (by rw [cnt_step s k x hx.out, ← hc.out] : c + x % 2 = M.cnt (k + 1) s)
      have hle : c + x % 2 ≤ 12 := by have := M.cnt_le (k + 1) s; rw [← hn2.out] at this; omega
      go_wp2
      go_round
      case rel => exact ⟨k + 1, x / 2, c + x % 2, hn1, by omega, by omega, hle, hn2, by go_num, by go_num⟩
      case measure => simp [intOf]; omega
end Go.Proofs.YtfjmealeglbklaaDoor
