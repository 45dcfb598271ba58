/- The closed fact on traces (traceFact): it returns true; what lay in memory lies as it lay. -/
import Derived.Test.YtkojkiggdbffhaaDoorBTr
namespace Go.Proofs.YtkojkiggdbffhaaDoor
open Go.RowKit

abbrev talkT : List (Int × Int) := [(0, -1), (1, 0), (0, -1)]
theorem talk_has (w : World) (N : Nat) (h : w.heap.size = N) : HasE talkT (some ⟨N, 0, none⟩) (w.alloc (.cells #[.int .i64 0, .int .i64 (-1), .int .i64 1, .int .i64 0, .int .i64 0, .int .i64 (-1)] 53)) := fun j hj => by
  subst h
  refine ⟨w.heap.size, 0, rfl, by simp, ?_⟩
  have hj3 : j < 3 := hj
  rcases j with _ | _ | _ | j
  · simp [M.pr, M.fm]
  · simp [M.pr, M.fm]
  · simp [M.pr, M.fm]
  · omega
theorem talk_code : M.tcode 2 talkT = 0 := by decide +kernel
theorem talk_before : M.before talkT = [0, 1, 1] := by decide +kernel
theorem hasI3 (w : World) (x y z : Int) : HasI [x, y, z] (some ⟨w.heap.size, 0, none⟩) (w.alloc (.cells #[.int .i64 x, .int .i64 y, .int .i64 z] 3)) := fun j hj => by
  refine ⟨w.heap.size, 0, rfl, by simp, ?_⟩
  have hj3 : j < 3 := hj
  rcases j with _ | _ | _ | j
  · simp
  · simp
  · simp
  · omega
end Go.Proofs.YtkojkiggdbffhaaDoor
