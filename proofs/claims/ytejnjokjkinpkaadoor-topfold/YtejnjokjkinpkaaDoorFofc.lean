/- The closed fact on words (foldFact): it returns true; what lay in memory lies as it lay. -/
import Derived.Test.YtejnjokjkinpkaaDoorFo4
import Derived.Test.YtejnjokjkinpkaaDoorFo6
namespace Go.Proofs.YtejnjokjkinpkaaDoor
open Go.RowKit

theorem fok_of {F : List Nat} (h : frcode (ints F) = 0) : FOk F := by
  obtain ⟨G, e, hG⟩ := frcode_get h
  rw [ints_inj e]; exact hG
theorem wok_of {F u : List Nat} (h : wcode (ints F) (ints u) = 0) : WOk F u := by
  obtain ⟨G, v, e, e2, _, hv⟩ := wcode_get h
  rw [ints_inj e, ints_inj e2]; exact hv
theorem hasIn3 (w : World) (x y z : Nat) : HasI (ints [x, y, z]) (some ⟨w.heap.size, 0, none⟩) (w.alloc (.cells #[.int .i64 (x : Nat), .int .i64 (y : Nat), .int .i64 (z : Nat)] 3)) := fun j hj => by
  refine ⟨w.heap.size, 0, rfl, by simp, ?_⟩
  have hj3 : j < 3 := hj
  rcases j with _ | _ | _ | j
  · simp [ints]
  · simp [ints]
  · simp [ints]
  · omega
theorem hasIn2 (w : World) (x y : Nat) : HasI (ints [x, y]) (some ⟨w.heap.size, 0, none⟩) (w.alloc (.cells #[.int .i64 (x : Nat), .int .i64 (y : Nat)] 3)) := fun j hj => by
  refine ⟨w.heap.size, 0, rfl, by simp, ?_⟩
  have hj3 : j < 2 := hj
  rcases j with _ | _ | j
  · simp [ints]
  · simp [ints]
  · omega
theorem fact_F : FOk [2, 1, 0] := fok_of (by decide +kernel)
theorem fact_u : WOk [2, 1, 0] [1, 0, 2] := wok_of (by decide +kernel)
theorem fact_v : WOk [2, 1, 0] [0, 1, 2] := wok_of (by decide +kernel)
theorem fact_steps : stR [2, 1, 0] [1, 0, 2] 3 = [3, 4] := by decide +kernel
theorem fact_same : sameW [2, 1, 0] [1, 0, 2] [0, 1, 2] = true := by decide +kernel
end Go.Proofs.YtejnjokjkinpkaaDoor
