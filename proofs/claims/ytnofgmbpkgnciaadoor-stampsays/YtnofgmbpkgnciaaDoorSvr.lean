/- The vectors that are told, as a list of lists. No walk. -/
import Derived.Test.YtnofgmbpkgnciaaDoorSvc
import Derived.Test.YtnofgmbpkgnciaaDoorSrs
namespace Go.Proofs.YtnofgmbpkgnciaaDoor
open Go.RowKit

theorem VRows.hasR {T : List (Int × Int)} {P n N A : Nat} {w : World} (h : VRows T P n n N A w) (hP : P ≤ 5) : HasR ((List.range n).map fun j => ints (M.vcs T j P)) (some ⟨A, 0, none⟩) w := fun j hj => by
  have hlt := h.lt
  obtain ⟨cs, h1, h2, h3⟩ := h
  have hj' : j < n := by simpa using hj
  obtain ⟨v, hv, ho⟩ := h3 j hj'
  obtain ⟨p, c, rfl⟩ := owns_slice ho
  have e : ((List.range n).map fun j => ints (M.vcs T j P))[j]?.getD [] = ints (M.vcs T j P) := by simp [hj']
  have hl : (ints (M.vcs T j P)).length = P := by rw [ints_length, M.vcs_length T j hP]
  refine ⟨A, 0, rfl, hlt, p, c, ?_, ?_⟩
  · rw [e, hl, Nat.zero_add]
    simp [World.cell?, h1, hv]
  · rw [e]; exact hasI_of_owns (M.vcs_length T j hP) ho
end Go.Proofs.YtnofgmbpkgnciaaDoor
