/- The document's own answer on what is wrong with a trace (package whensteadref2, Trace); what lay in memory lies as it lay. -/
import Derived.Test.YtlkdclifcmohlaaDoorBTr
namespace Go.Proofs.YtlkdclifcmohlaaDoor
open Go.RowKit

def inB (z lo hi : Int) : Bool := decide (lo ≤ z ∧ z ≤ hi)
theorem inB_true {z lo hi : Int} (h0 : lo ≤ z) (h1 : z ≤ hi) : inB z lo hi = true := decide_eq_true ⟨h0, h1⟩
theorem inB_false {z lo hi : Int} (h : ¬ (lo ≤ z ∧ z ≤ hi)) : inB z lo hi = false := decide_eq_false h
theorem evZ_range {P : Int} {T : List (Int × Int)} {i n : Nat} {a f : Int} (hz : M.evTo P T i = 0) (hi : i < n) (ha : M.pr T i = a) (hf : M.fm T i = f) (h : inB a 0 (P - 1) = false ∨ inB f (-1) ((i : Int) - 1) = false) : M.evTo P T n = 1 := by
  have e : M.evC P T i = 1 := by
    unfold M.evC; rw [ha, hf, if_neg]
    intro hh
    rcases h with h | h
    · rw [inB_true hh.1 hh.2.1] at h; cases h
    · rw [inB_true hh.2.2.1 hh.2.2.2] at h; cases h
  rw [M.evTo_first hz hi (by rw [e]; omega), e]
end Go.Proofs.YtlkdclifcmohlaaDoor
