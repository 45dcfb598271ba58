/- Package down's aheadOf, at whatever numbers: it tells what is wrong as the document has it, else all that stand ahead of any of a set; what lay in memory lies as it lay. -/
import Derived.Test.YtkojkiggdbffhaaDoorBFt
import Derived.Test.YtkojkiggdbffhaaDoorDmt
import Derived.Test.YtkojkiggdbffhaaDoorIterP
namespace Go.Proofs.YtkojkiggdbffhaaDoor
open Go.RowKit Go.Shelf
attribute [local go_sem] Oper.semAt_some

theorem setB_nat {s n : Nat} (h : s < 2 ^ n) : setB (s : Int) n = true := by
  unfold setB
  refine decide_eq_true ⟨by omega, ?_⟩
  have : ((2 ^ n : Nat) : Int) = (2 : Int) ^ n := by simp
  rw [← this]; omega
theorem nat_setB {z : Int} {n : Nat} (h : setB z n = true) : ∃ s : Nat, z = s ∧ s < 2 ^ n := by
  unfold setB at h
  obtain ⟨h1, h2⟩ := of_decide_eq_true h
  refine ⟨z.toNat, by omega, ?_⟩
  have : ((2 ^ n : Nat) : Int) = (2 : Int) ^ n := by simp
  rw [← this] at h2; omega

end Go.Proofs.YtkojkiggdbffhaaDoor
