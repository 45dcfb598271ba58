/- The closed fact on hybrid clocks (hybridFact): it returns true; what lay in memory lies as it lay. -/
import Derived.Test.YtckejldbbkibhaaTfc
import Derived.Test.YtckejldbbkibhaaHst
import Derived.Test.YtckejldbbkibhaaHsm
namespace Go.Proofs.Ytckejldbbkibhaa
open Go.RowKit

theorem talk_hok : M.HOk 2 talkT [5, 3, 9] := ⟨M.tcode_zero.1 talk_code, rfl, (M.tmTo_iff [5, 3, 9] 3).1 (by decide +kernel)⟩
theorem talk_stamps : M.stl talkT (M.tm [5, 3, 9]) 3 3 = [5, 0, 5, 1, 9, 0] := by decide +kernel
theorem hasI6 (w : World) (a b c d e f : Int) (t : TypeId) : HasI [a, b, c, d, e, f] (some ⟨w.heap.size, 0, none⟩) (w.alloc (.cells #[.int .i64 a, .int .i64 b, .int .i64 c, .int .i64 d, .int .i64 e, .int .i64 f] t)) := fun j hj => by
  refine ⟨w.heap.size, 0, rfl, by simp, ?_⟩
  have hj6 : j < 6 := hj
  rcases j with _ | _ | _ | _ | _ | _ | j
  · simp
  · simp
  · simp
  · simp
  · simp
  · simp
  · omega
set_option maxHeartbeats 1000000 in
theorem hybridFact_ok (w : World) : Calls Try.prog 6 #[] w fun e w' => e = .returned (.bool true) ∧ Below w.heap.size w w' := by
  go_enter Try.func6, Try.ntmps6
  go_wp2_with fail
  refine (talk_ok _).mono ?_
  rintro e w1 ⟨p, rfl, hc, hB1⟩
  have hB2 : Below w1.heap.size w1 (w1.alloc (.cells #[.int .i64 5, .int .i64 3, .int .i64 9] 3)) := bel_al (Below.refl _ _) _
  have h2 := hasI3 w1 5 3 9
  have hc2 := hc.later hB2
  have hC2 := bel_on hB1 hB2
  go_wp2_with fail
  refine (stamps_ok 2 talkT p 3 3 [5, 3, 9] _ 3 _ rfl (by unfold maxLen; omega) hc2 h2 talk_hok).mono ?_
  rw [talk_stamps]
  rintro e w3 ⟨A, rfl, hr, hA, hB3⟩
  have hC3 := bel_on hC2 hB3
  have hB4 : Below w3.heap.size w3 (w3.alloc (.cells #[.int .i64 5, .int .i64 0, .int .i64 5, .int .i64 1, .int .i64 9, .int .i64 0] 36)) := bel_al (Below.refl _ _) _
  have h4 := hasI6 w3 5 0 5 1 9 0 36
  have h5 := hr.hasI.later hB4
  have hC4 := bel_on hC3 hB4
  go_wp2_with fail
  refine (same_stamps [5, 0, 5, 1, 9, 0] _ _ 3 3 3 _ rfl (by unfold maxLen; omega) h5 h4).mono ?_
  rintro e w5 ⟨rfl, m, rfl⟩
  go_wp2_with fail
  go_ret
  exact ⟨rfl, bel_drN hC4 m⟩
end Go.Proofs.Ytckejldbbkibhaa
