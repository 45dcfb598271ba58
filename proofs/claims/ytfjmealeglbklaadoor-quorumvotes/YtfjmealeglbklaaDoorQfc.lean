/- The closed fact on sets that meet (quorumFact): it returns true; what lay in memory lies as it lay. -/
import Derived.Test.YtfjmealeglbklaaDoorQc7
namespace Go.Proofs.YtfjmealeglbklaaDoor
open Go.RowKit

theorem vr_of {W : List Nat} {nd : Nat} (h : vcode (ints W) nd = 0) : VR W nd := by
  obtain ⟨W', nd', e, e2, hR⟩ := vcode_get h
  rw [qint_inj e, show nd = nd' by omega]; exact hR
theorem qr_of {N : Nat} {S : List Nat} (h : qcode N (ints S) = 0) : QR N S := by
  obtain ⟨N', S', e, e2, hR⟩ := qcode_get h
  rw [qint_inj e2, show N = N' by omega]; exact hR
theorem qIn3 (w : World) (x y z : Nat) : HasI (ints [x, y, z]) (some ⟨w.heap.size, 0, none⟩) (w.alloc (.cells #[.int .i64 (x : Nat), .int .i64 (y : Nat), .int .i64 (z : Nat)] 3)) := fun j hj => by
  refine ⟨w.heap.size, 0, rfl, by simp, ?_⟩
  have hj3 : j < 3 := hj
  rcases j with _ | _ | _ | j
  · simp [ints]
  · simp [ints]
  · simp [ints]
  · omega
theorem qIn4 (w : World) (x y z u : Nat) : HasI (ints [x, y, z, u]) (some ⟨w.heap.size, 0, none⟩) (w.alloc (.cells #[.int .i64 (x : Nat), .int .i64 (y : Nat), .int .i64 (z : Nat), .int .i64 (u : Nat)] 3)) := fun j hj => by
  refine ⟨w.heap.size, 0, rfl, by simp, ?_⟩
  have hj3 : j < 4 := hj
  rcases j with _ | _ | _ | _ | j
  · simp [ints]
  · simp [ints]
  · simp [ints]
  · simp [ints]
  · omega
theorem fact_v1 : VR [1, 1, 1] 2 := vr_of (by decide +kernel)
theorem fact_v2 : vts [1, 1, 1] 2 = [3, 5, 6] := by decide +kernel
theorem fact_q1 : QR 3 [3, 5, 6] := qr_of (by decide +kernel)
theorem fact_q2 : QR 4 [7, 11, 13, 14] := qr_of (by decide +kernel)
theorem fact_f1 : M.fullQ 3 [3, 5, 6] = none := by decide +kernel
theorem fact_f2 : M.fullQ 4 [7, 11, 13, 14] = some 3 := by decide +kernel
set_option maxRecDepth 100000 in
set_option maxHeartbeats 1000000 in
theorem quorumFact_ok (w : World) (he : Env w) : Calls Tryd.prog 23 #[] w fun e w' => e = .returned (.bool true) ∧ Below w.heap.size w w' := by
  obtain ⟨w1, hw1⟩ : ∃ w1, w.alloc (.cells #[.int .i64 1, .int .i64 1, .int .i64 1] 3) = w1 := ⟨_, rfl⟩
  have hF1 : HasI (ints [1, 1, 1]) (some ⟨w.heap.size, 0, none⟩) w1 := hw1 ▸ qIn3 w 1 1 1
  have hB01 : Below w.heap.size w w1 := hw1 ▸ bel_al (Below.refl _ _) _
  go_enter Tryd.func23, Tryd.ntmps23
  go_wp2_with fail
  refine (qVotes_ok [1, 1, 1] 2 _ 3 3 _ (he.later hB01) fact_v1 rfl hF1).mono ?_
  rw [fact_v2]
  rintro e w2 ⟨v, rfl, hown, hB2⟩
  obtain ⟨pv, cv, rfl⟩ := owns_slice hown
  have hl2 := hasI_of_owns (m := [3, 5, 6]) rfl hown
  have hC2 := bel_on hB01 hB2
  clear hw1 hown hB2 hB01 hF1
  obtain ⟨w3, hw3⟩ : ∃ w3, w2.alloc (.cells #[.int .i64 3, .int .i64 5, .int .i64 6] 3) = w3 := ⟨_, rfl⟩
  have hF3 : HasI (ints [3, 5, 6]) (some ⟨w2.heap.size, 0, none⟩) w3 := hw3 ▸ qIn3 w2 3 5 6
  have hB3 : Below w2.heap.size w2 w3 := hw3 ▸ bel_al (Below.refl _ _) _
  go_wp2_with fail
  refine (qFull_ok 3 [3, 5, 6] _ 3 3 _ fact_q1 rfl (Nat.le_refl _) hF3).mono ?_
  rw [fact_f1]
  rintro e w4 ⟨rfl, hB4⟩
  have hl4 := (hl2.later hB3).later hB4
  have hC4 := bel_on (bel_on hC2 hB3) hB4
  clear hw3 hB3 hB4 hF3 hl2 hC2
  simp only [fullV, Option.isNone_none, Option.getD_none]
  obtain ⟨w5, hw5⟩ : ∃ w5, w4.alloc (.cells #[.int .i64 7, .int .i64 11, .int .i64 13, .int .i64 14] 3) = w5 := ⟨_, rfl⟩
  have hF5 : HasI (ints [7, 11, 13, 14]) (some ⟨w4.heap.size, 0, none⟩) w5 := hw5 ▸ qIn4 w4 7 11 13 14
  have hB5 : Below w4.heap.size w4 w5 := hw5 ▸ bel_al (Below.refl _ _) _
  go_wp2_with fail
  refine (qFull_ok 4 [7, 11, 13, 14] _ 4 4 _ fact_q2 rfl (Nat.le_refl _) hF5).mono ?_
  rw [fact_f2]
  rintro e w6 ⟨rfl, hB6⟩
  have hl6 := (hl4.later hB5).later hB6
  have hC6 := bel_on (bel_on hC4 hB5) hB6
  clear hw5 hB5 hB6 hF5 hl4 hC4
  simp only [fullV, Option.isNone_some, Option.getD_some]
  have hB7 : Below w6.heap.size w6 (w6.alloc (.cells #[.int .i64 3, .int .i64 5, .int .i64 6] 3)) := bel_al (Below.refl _ _) _
  have h7 := qIn3 w6 3 5 6
  have hl7 := hl6.later hB7
  have hC7 := bel_on hC6 hB7
  clear hl6 hB7 hC6
  go_wp2_with fail
  refine (same_intsI (ints [3, 5, 6]) _ _ 3 _ _ _ rfl (by unfold maxLen; omega) hl7 h7).mono ?_
  rintro e w8 ⟨rfl, hB8⟩
  have HB : Hid (Below w.heap.size w w8) := bel_on hC7 hB8
  clear hl7 h7 hC7 hB8
  go_wp2_with fail
  go_ret
  exact ⟨rfl, HB.out⟩
end Go.Proofs.YtfjmealeglbklaaDoor
