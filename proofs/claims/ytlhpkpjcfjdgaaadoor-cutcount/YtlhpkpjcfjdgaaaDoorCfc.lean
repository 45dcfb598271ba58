/- The closed fact on cuts (cutFact): it returns true; what lay in memory lies as it lay. -/
import Derived.Test.YtlhpkpjcfjdgaaaDoorTfc
import Derived.Test.YtlhpkpjcfjdgaaaDoorCt5
namespace Go.Proofs.YtlhpkpjcfjdgaaaDoor
open Go.RowKit

theorem hasI2 (w : World) (x y : Int) : HasI [x, y] (some ⟨w.heap.size, 0, none⟩) (w.alloc (.cells #[.int .i64 x, .int .i64 y] 3)) := fun j hj => by
  refine ⟨w.heap.size, 0, rfl, by simp, ?_⟩
  have hj2 : j < 2 := hj
  rcases j with _ | _ | j
  · simp
  · simp
  · omega
theorem talk_cut0 : M.ccode 2 talkT [0, 1] = 0 := by decide +kernel
theorem talk_cut1 : M.ccode 2 talkT [1, 1] = 0 := by decide +kernel
theorem talk_whole0 : M.whB talkT (M.cof0 [0, 1]) = false := by decide +kernel
theorem talk_whole1 : M.whB talkT (M.cof0 [1, 1]) = true := by decide +kernel
set_option maxHeartbeats 1000000 in
theorem cutFact_ok (w : World) (he : Env w) : Calls Tryd.prog 21 #[] w fun e w' => e = .returned (.bool true) ∧ Below w.heap.size w w' := by
  go_enter Tryd.func21, Tryd.ntmps21
  go_wp2_with fail
  refine (talk_ok _).mono ?_
  rintro e w1 ⟨p, rfl, hc, hB1⟩
  have hB2 : Below w1.heap.size w1 (w1.alloc (.cells #[.int .i64 0, .int .i64 1] 3)) := bel_al (Below.refl _ _) _
  have h2 := hasI2 w1 0 1
  have hc2 := hc.later hB2
  have hC2 := bel_on hB1 hB2
  go_wp2_with fail
  refine (cis_ok 2 talkT p 3 3 [0, 1] _ 2 _ _ rfl (he.later hC2) (by unfold maxLen; omega) hc2 rfl (by unfold maxLen; omega) h2 talk_cut0).mono ?_
  rw [talk_whole0]
  rintro e w3 ⟨rfl, hB3⟩
  have hC3 := bel_on hC2 hB3
  clear hB2 hB3 hB1 hc h2 hc2 hC2
  go_wp2_with fail
  refine (talk_ok _).mono ?_
  rintro e w4 ⟨p, rfl, hc, hB4⟩
  have hB5 : Below w4.heap.size w4 (w4.alloc (.cells #[.int .i64 1, .int .i64 1] 3)) := bel_al (Below.refl _ _) _
  have h5 := hasI2 w4 1 1
  have hc5 := hc.later hB5
  have hC5 := bel_on (bel_on hC3 hB4) hB5
  go_wp2_with fail
  refine (cis_ok 2 talkT p 3 3 [1, 1] _ 2 _ _ rfl (he.later hC5) (by unfold maxLen; omega) hc5 rfl (by unfold maxLen; omega) h5 talk_cut1).mono ?_
  rw [talk_whole1]
  rintro e w6 ⟨rfl, hB6⟩
  have HB : Hid (Below _ _ _) := bel_on hC5 hB6
  clear hB5 hB6 hB4 hc h5 hc5 hC5 hC3
  go_wp2_with fail
  go_ret
  exact ⟨rfl, HB.out⟩
end Go.Proofs.YtlhpkpjcfjdgaaaDoor
