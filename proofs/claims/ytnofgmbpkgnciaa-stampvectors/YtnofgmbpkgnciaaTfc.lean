/- The closed fact on traces (traceFact): it returns true; what lay in memory lies as it lay. -/
import Derived.Test.YtnofgmbpkgnciaaSin
namespace Go.Proofs.Ytnofgmbpkgnciaa
open Go.RowKit

abbrev talkT : List (Int × Int) := [(0, -1), (1, 0), (0, -1)]
theorem talk_has (w : World) (N : Nat) (h : w.heap.size = N) : HasE talkT (some ⟨N, 0, none⟩) (w.alloc (.cells #[.int .i64 0, .int .i64 (-1), .int .i64 1, .int .i64 0, .int .i64 0, .int .i64 (-1)] 33)) := fun j hj => by
  subst h
  refine ⟨w.heap.size, 0, rfl, by simp, ?_⟩
  have hj3 : j < 3 := hj
  rcases j with _ | _ | _ | j
  · simp [M.pr, M.fm]
  · simp [M.pr, M.fm]
  · simp [M.pr, M.fm]
  · omega
set_option maxHeartbeats 1000000 in
theorem talk_ok (w : World) : Calls Try.prog 17 #[] w fun e w' => ∃ p, e = .returned (trV 2 p 3 3) ∧ HasE talkT p w' ∧ Below w.heap.size w w' := by
  go_enter Try.func17, Try.ntmps17
  go_wp2_with fail
  refine bodyPost_ret (v := trV 2 (some ⟨w.heap.size + 1, 0, none⟩) 3 3) (by simp [results, Try.results17, go_sem]) rfl ⟨_, rfl, talk_has _ _ (by simp), bel_al (bel_al (Below.refl _ _) _) _⟩
theorem talk_code : M.tcode 2 talkT = 0 := by decide +kernel
theorem talk_before : M.before talkT = [0, 1, 1] := by decide +kernel
theorem hasI3 (w : World) (x y z : Int) : HasI [x, y, z] (some ⟨w.heap.size, 0, none⟩) (w.alloc (.cells #[.int .i64 x, .int .i64 y, .int .i64 z] 3)) := fun j hj => by
  refine ⟨w.heap.size, 0, rfl, by simp, ?_⟩
  have hj3 : j < 3 := hj
  rcases j with _ | _ | _ | j
  · simp
  · simp
  · simp
  · omega
set_option maxHeartbeats 1000000 in
theorem traceFact_ok (w : World) : Calls Try.prog 7 #[] w fun e w' => e = .returned (.bool true) ∧ Below w.heap.size w w' := by
  go_enter Try.func7, Try.ntmps7
  go_wp2_with fail
  refine (talk_ok _).mono ?_
  rintro e w1 ⟨p, rfl, hc, hB1⟩
  go_wp2_with fail
  refine (before_ok 2 talkT p 3 3 _ rfl (by unfold maxLen; omega) hc talk_code).mono ?_
  rw [talk_before]
  rintro e w2 ⟨A, rfl, hr, hA, hB2⟩
  have hC2 := bel_on hB1 hB2
  have hB3 : Below w2.heap.size w2 (w2.alloc (.cells #[.int .i64 0, .int .i64 1, .int .i64 1] 3)) := bel_al (Below.refl _ _) _
  have h3 := hasI3 w2 0 1 1
  have h4 : HasI [0, 1, 1] (some ⟨A, 0, none⟩) (w2.alloc (.cells #[.int .i64 0, .int .i64 1, .int .i64 1] 3)) := (RowAt.hasI hr).later hB3
  have hC3 := bel_on hC2 hB3
  go_wp2_with fail
  refine (same_intsI [0, 1, 1] _ _ 3 3 3 _ rfl (by unfold maxLen; omega) h4 h3).mono ?_
  rintro e w4 ⟨rfl, hB4⟩
  go_wp2_with fail
  go_ret
  exact ⟨rfl, bel_on hC3 hB4⟩
end Go.Proofs.Ytnofgmbpkgnciaa
