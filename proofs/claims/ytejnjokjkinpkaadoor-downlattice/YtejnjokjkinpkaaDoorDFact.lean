/- The closed fact on closed sets (downFact): it returns true; what lay in memory lies as it lay. -/
import Derived.Test.YtejnjokjkinpkaaDoorDfc
import Derived.Test.YtejnjokjkinpkaaDoorDct
namespace Go.Proofs.YtejnjokjkinpkaaDoor
open Go.RowKit

theorem dhas3 (w : World) (x y z : Int) : Has [x, y, z] (some ⟨w.heap.size, 0, none⟩) (w.alloc (.cells #[.int .i64 x, .int .i64 y, .int .i64 z] 3)) := fun j hj => by
  refine ⟨w.heap.size, 0, rfl, by simp, ?_⟩
  have hj3 : j < 3 := hj
  rcases j with _ | _ | _ | j
  · simp
  · simp
  · simp
  · omega
theorem dfact_code : code [2, 4, 0] = 0 := by decide +kernel
theorem dfact_down : M.down (M.turned (nats [2, 4, 0])) 4 = 7 := by decide +kernel
theorem dfact_downs : M.downs (M.turned (nats [2, 4, 0])) = 4 := by decide +kernel
set_option maxHeartbeats 1000000 in
theorem dfact_any (w : World) (he : Env w) : Calls Tryd.prog 19 #[] w fun e w' => e = .returned (.bool true) ∧ Below w.heap.size w w' := by
  have hB1 : Below w.heap.size w (w.alloc (.cells #[.int .i64 2, .int .i64 4, .int .i64 0] 3)) := (Below.refl _ _).alloc (Nat.le_refl _) _
  have h1 := dhas3 w 2 4 0
  go_enter Tryd.func19, Tryd.ntmps19
  go_wp2_with fail
  refine (close_ok [2, 4, 0] 4 _ 3 3 _ rfl (he.later hB1) (by unfold maxLen; omega) h1 dfact_code (by omega)).mono ?_
  rw [dfact_down]
  rintro e w2 ⟨rfl, hB2⟩
  have hC2 := hB1.trans (hB2.mono hB1.size)
  have h2 := dhas3 w2 2 4 0
  have hB3 : Below w2.heap.size w2 (w2.alloc (.cells #[.int .i64 2, .int .i64 4, .int .i64 0] 3)) := (Below.refl _ _).alloc (Nat.le_refl _) _
  have hC3 := hC2.trans (hB3.mono hC2.size)
  go_wp2_with fail
  refine (dcount_ok [2, 4, 0] _ 3 3 _ rfl (he.later hC3) (by unfold maxLen; omega) h2 dfact_code).mono ?_
  rw [dfact_downs]
  rintro e w4 ⟨rfl, hB4⟩
  have hC4 := hC3.trans (hB4.mono hC3.size)
  go_wp2_with fail
  go_ret
  exact ⟨rfl, hC4⟩
end Go.Proofs.YtejnjokjkinpkaaDoor
