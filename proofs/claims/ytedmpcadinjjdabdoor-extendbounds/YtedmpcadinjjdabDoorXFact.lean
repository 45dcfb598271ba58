/- The closed fact on rows of all things (extendFact): it returns true; what lay in memory lies as it lay. -/
import Derived.Test.YtedmpcadinjjdabDoorSame
import Derived.Test.YtedmpcadinjjdabDoorCnt
namespace Go.Proofs.YtedmpcadinjjdabDoor
open Go.RowKit

theorem xhas3 (w : World) (x y z : Int) : Has [x, y, z] (some ⟨w.heap.size, 0, none⟩) (w.alloc (.cells #[.int .i64 x, .int .i64 y, .int .i64 z] 3)) := fun j hj => by
  refine ⟨w.heap.size, 0, rfl, by simp, ?_⟩
  have hj3 : j < 3 := hj
  rcases j with _ | _ | _ | j
  · simp
  · simp
  · simp
  · omega
theorem xfact_code1 : code [4, 4, 0] = 0 := by decide +kernel
theorem xfact_code2 : code [0, 0, 2] = 0 := by decide +kernel
theorem xfact_count : M.count (M.clo (nats [4, 4, 0])) = 2 := by decide +kernel
theorem xfact_first : ints (M.firstR (M.turned (nats [0, 0, 2]))) = [0, 2, 1] := by decide +kernel
set_option maxHeartbeats 1000000 in
theorem xfact_any (w : World) (he : Env w) : Calls Tryd.prog 22 #[] w fun e w' => e = .returned (.bool true) ∧ Below w.heap.size w w' := by
  have hB1 : Below w.heap.size w (w.alloc (.cells #[.int .i64 4, .int .i64 4, .int .i64 0] 3)) := (Below.refl _ _).alloc (Nat.le_refl _) _
  have h1 := xhas3 w 4 4 0
  go_enter Tryd.func22, Tryd.ntmps22
  go_wp2_with fail
  refine (count_ok [4, 4, 0] _ 3 3 _ rfl (he.later hB1) (by unfold maxLen; omega) h1 xfact_code1).mono ?_
  rw [xfact_count]
  rintro e w2 ⟨rfl, hB2⟩
  have hC2 := hB1.trans (hB2.mono hB1.size)
  have h2 := xhas3 w2 0 0 2
  have hB3 : Below w2.heap.size w2 (w2.alloc (.cells #[.int .i64 0, .int .i64 0, .int .i64 2] 3)) := (Below.refl _ _).alloc (Nat.le_refl _) _
  have hC3 := hC2.trans (hB3.mono hC2.size)
  go_wp2_with fail
  refine (first_ok [0, 0, 2] _ 3 3 _ rfl (he.later hC3) (by unfold maxLen; omega) h2 xfact_code2).mono ?_
  rintro e w4 ⟨A, rfl, hr, hA, hB4⟩
  have hC4 := hC3.trans (hB4.mono hC3.size)
  have h4 := hr.has
  rw [xfact_first] at h4
  have h5 := xhas3 w4 0 2 1
  have hB5 : Below w4.heap.size w4 (w4.alloc (.cells #[.int .i64 0, .int .i64 2, .int .i64 1] 3)) := (Below.refl _ _).alloc (Nat.le_refl _) _
  have hC5 := hC4.trans (hB5.mono hC4.size)
  go_wp2_with fail
  refine (same_ints [0, 2, 1] _ _ 3 3 3 _ rfl (by unfold maxLen; omega) (h4.later hB5) h5).mono ?_
  rintro e w6 ⟨rfl, hB6⟩
  go_wp2_with fail
  go_ret
  exact ⟨rfl, hC5.trans (hB6.mono hC5.size)⟩
end Go.Proofs.YtedmpcadinjjdabDoor
