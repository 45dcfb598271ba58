/- The closed fact on rows and ranks (chainFact): it returns true; what lay in memory lies as it lay. -/
import Derived.Test.YtedmpcadinjjdaaDoorSame
import Derived.Test.YtedmpcadinjjdaaDoorRank
import Derived.Test.YtedmpcadinjjdaaDoorWide
namespace Go.Proofs.YtedmpcadinjjdaaDoor
open Go.RowKit

theorem hasNew3 (w : World) (x y z : Int) : Has [x, y, z] (some ⟨w.heap.size, 0, none⟩) (w.alloc (.cells #[.int .i64 x, .int .i64 y, .int .i64 z] 3)) := fun j hj => by
  refine ⟨w.heap.size, 0, rfl, by simp, ?_⟩
  have hj3 : j < 3 := hj
  rcases j with _ | _ | _ | j
  · simp
  · simp
  · simp
  · omega
theorem cfact_code : code [6, 0, 0] = 0 := by decide +kernel
theorem cfact_ranks : ints (M.ranks (M.turned (nats [6, 0, 0]))) = [0, 1, 1] := by decide +kernel
theorem cfact_wide : M.widest (M.clo (nats [6, 0, 0])) = 6 := by decide +kernel
set_option maxHeartbeats 1000000 in
theorem cfact_any (w : World) (he : Env w) : Calls Tryd.prog 29 #[] w fun e w' => e = .returned (.bool true) ∧ Below w.heap.size w w' := by
  have hB1 : Below w.heap.size w (w.alloc (.cells #[.int .i64 6, .int .i64 0, .int .i64 0] 3)) := (Below.refl _ _).alloc (Nat.le_refl _) _
  have h1 := hasNew3 w 6 0 0
  go_enter Tryd.func29, Tryd.ntmps29
  go_wp2_with fail
  refine (ranks_ok [6, 0, 0] _ 3 3 _ rfl (he.later hB1) (by unfold maxLen; omega) h1 cfact_code).mono ?_
  rintro e w2 ⟨A, rfl, hr, hA, hB2⟩
  have hC2 := hB1.trans (hB2.mono hB1.size)
  have hr' := hr.has
  rw [cfact_ranks] at hr'
  have h2 := hasNew3 w2 6 0 0
  have hB3 : Below w2.heap.size w2 (w2.alloc (.cells #[.int .i64 6, .int .i64 0, .int .i64 0] 3)) := (Below.refl _ _).alloc (Nat.le_refl _) _
  have hC3 := hC2.trans (hB3.mono hC2.size)
  go_wp2_with fail
  refine (widest_ok [6, 0, 0] _ 3 3 _ rfl (he.later hC3) (by unfold maxLen; omega) h2 cfact_code).mono ?_
  rw [cfact_wide]
  rintro e w4 ⟨rfl, hB4⟩
  have hC4 := hC3.trans (hB4.mono hC3.size)
  have h4 := (hr'.later hB3).later hB4
  have h5 := hasNew3 w4 0 1 1
  have hB5 : Below w4.heap.size w4 (w4.alloc (.cells #[.int .i64 0, .int .i64 1, .int .i64 1] 3)) := (Below.refl _ _).alloc (Nat.le_refl _) _
  have hC5 := hC4.trans (hB5.mono hC4.size)
  go_wp2_with fail
  refine (same_ints [0, 1, 1] _ _ 3 3 3 _ rfl (by unfold maxLen; omega) (h4.later hB5) h5).mono ?_
  rintro e w6 ⟨rfl, hB6⟩
  go_wp2_with fail
  go_ret
  exact ⟨rfl, hC5.trans (hB6.mono hC5.size)⟩
end Go.Proofs.YtedmpcadinjjdaaDoor
