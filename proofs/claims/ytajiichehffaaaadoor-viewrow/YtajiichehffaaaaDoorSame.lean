/- Two lists of numbers that are the same are told to be so (package whensteadsame, Ints); and the closed fact on three things in a row (orderFact); what lay in memory lies as it lay. -/
import Derived.Test.YtajiichehffaaaaDoorBFt
import Derived.BigQuiet
import Derived.Deep.QuietTactic
namespace Go.Proofs.YtajiichehffaaaaDoor
open Go.RowKit

theorem below_drewS (w : World) (k : Nat) : Below w.heap.size w (w.drewN k) := by
  induction k with
  | zero => exact Below.refl _ _
  | succ k ih => exact ih.drew
set_option maxHeartbeats 1000000 in
theorem same_ints (zs : List Int) (p q : Option Addr) (n cap cap' : Nat) (w : World) (hl : zs.length = n) (hmax : n ≤ maxLen) (hp : Has zs p w) (hq : Has zs q w) :
    Calls Tryd.prog 21 #[.slice p n cap, .slice q n cap'] w fun e w' => e = .returned (.bool true) ∧ Below w.heap.size w w' := by
  unfold maxLen at hmax
  go_enter Tryd.func21, Tryd.ntmps21
  go_wp2
  go_loopw [5] (fun i wr => ∃ k : Nat, k ≤ n ∧ i = .int .i64 k ∧ Below w.heap.size w wr) (fun i _ => n - (intOf i).toNat)
  case atStart => exact ⟨0, Nat.zero_le _, rfl, Below.refl _ _⟩
  case round =>
    obtain ⟨k, hk, rfl, hB⟩ := hrel
    by_cases hlt : k < n
    · obtain ⟨b, off, rfl, hb, hcell⟩ := hp.later hB k (by omega)
      obtain ⟨b', off', rfl, hb', hcell'⟩ := hq.later hB k (by omega)
      obtain ⟨z, hz⟩ : ∃ z, zs[k]?.getD 0 = z := ⟨_, rfl⟩
      rw [hz] at hcell hcell'
      clear hz hp hq
      go_wp2
      go_quiet (fail)
      go_wp2
      go_roundw
      case rel => exact ⟨k + 1, by omega, by go_num, hB.trans ((below_drewS _ _).mono hB.size)⟩
      case measure => simp [intOf]; omega
    · clear hp hq
      go_wp2
      go_ret
      exact ⟨rfl, hB⟩
end Go.Proofs.YtajiichehffaaaaDoor
