/- The closed fact on traces (traceFact): it returns true; what lay in memory lies as it lay. -/
import Derived.Test.YtlhpkpjcfjdgaaaDoorBTr
namespace Go.Proofs.YtlhpkpjcfjdgaaaDoor
open Go.RowKit

abbrev talkT : List (Int × Int) := [(0, -1), (1, 0), (0, -1)]
theorem talk_has (w : World) (N : Nat) (h : w.heap.size = N) : HasE talkT (some ⟨N, 0, none⟩) (w.alloc (.cells #[.int .i64 0, .int .i64 (-1), .int .i64 1, .int .i64 0, .int .i64 0, .int .i64 (-1)] 62)) := fun j hj => by
  subst h
  refine ⟨w.heap.size, 0, rfl, by simp, ?_⟩
  have hj3 : j < 3 := hj
  rcases j with _ | _ | _ | j
  · simp [M.pr, M.fm]
  · simp [M.pr, M.fm]
  · simp [M.pr, M.fm]
  · omega
set_option maxHeartbeats 1000000 in
theorem talk_ok (w : World) : Calls Tryd.prog 53 #[] w fun e w' => ∃ p, e = .returned (trV 2 p 3 3) ∧ HasE talkT p w' ∧ Below w.heap.size w w' := by
  go_enter Tryd.func53, Tryd.ntmps53
  go_wp2_with fail
  refine bodyPost_ret (v := trV 2 (some ⟨w.heap.size + 1, 0, none⟩) 3 3) (by simp [results, Tryd.results53, go_sem]) rfl ⟨_, rfl, talk_has _ _ (by simp), bel_al (bel_al (Below.refl _ _) _) _⟩
theorem talk_code : M.tcode 2 talkT = 0 := by decide +kernel
theorem talk_before : M.before talkT = [0, 1, 1] := by decide +kernel
theorem hasI3 (w : World) (x y z : Int) : HasI [x, y, z] (some ⟨w.heap.size, 0, none⟩) (w.alloc (.cells #[.int .i64 x, .int .i64 y, .int .i64 z] 3)) := fun j hj => by
  refine ⟨w.heap.size, 0, rfl, by simp, ?_⟩
  have hj3 : j < 3 := hj
  rcases j with _ | _ | _ | j
  · simp
  · simp
  · simp
  · omega
end Go.Proofs.YtlhpkpjcfjdgaaaDoor
