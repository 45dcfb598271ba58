/- The closed fact on words (foldFact): it returns true; what lay in memory lies as it lay. -/
import Derived.Test.YtbacngbcnkikiaaDoorFo4
import Derived.Test.YtbacngbcnkikiaaDoorFo6
namespace Go.Proofs.YtbacngbcnkikiaaDoor
open Go.RowKit

theorem fok_of {F : List Nat} (h : frcode (ints F) = 0) : FOk F := by
  obtain ⟨G, e, hG⟩ := frcode_get h
  rw [ints_inj e]; exact hG
theorem wok_of {F u : List Nat} (h : wcode (ints F) (ints u) = 0) : WOk F u := by
  obtain ⟨G, v, e, e2, _, hv⟩ := wcode_get h
  rw [ints_inj e, ints_inj e2]; exact hv
theorem hasIn3 (w : World) (x y z : Nat) : HasI (ints [x, y, z]) (some ⟨w.heap.size, 0, none⟩) (w.alloc (.cells #[.int .i64 (x : Nat), .int .i64 (y : Nat), .int .i64 (z : Nat)] 3)) := fun j hj => by
  refine ⟨w.heap.size, 0, rfl, by simp, ?_⟩
  have hj3 : j < 3 := hj
  rcases j with _ | _ | _ | j
  · simp [ints]
  · simp [ints]
  · simp [ints]
  · omega
theorem hasIn2 (w : World) (x y : Nat) : HasI (ints [x, y]) (some ⟨w.heap.size, 0, none⟩) (w.alloc (.cells #[.int .i64 (x : Nat), .int .i64 (y : Nat)] 3)) := fun j hj => by
  refine ⟨w.heap.size, 0, rfl, by simp, ?_⟩
  have hj3 : j < 2 := hj
  rcases j with _ | _ | j
  · simp [ints]
  · simp [ints]
  · omega
theorem fact_F : FOk [2, 1, 0] := fok_of (by decide +kernel)
theorem fact_u : WOk [2, 1, 0] [1, 0, 2] := wok_of (by decide +kernel)
theorem fact_v : WOk [2, 1, 0] [0, 1, 2] := wok_of (by decide +kernel)
theorem fact_steps : stR [2, 1, 0] [1, 0, 2] 3 = [3, 4] := by decide +kernel
theorem fact_same : sameW [2, 1, 0] [1, 0, 2] [0, 1, 2] = true := by decide +kernel
set_option maxHeartbeats 1000000 in
theorem foldFact_ok (w : World) (he : Env w) : Calls Tryd.prog 22 #[] w fun e w' => e = .returned (.bool true) ∧ Below w.heap.size w w' := by
  obtain ⟨w1, hw1⟩ : ∃ w1, w.alloc (.cells #[.int .i64 2, .int .i64 1, .int .i64 0] 3) = w1 := ⟨_, rfl⟩
  obtain ⟨w2, hw2⟩ : ∃ w2, w1.alloc (.cells #[.int .i64 1, .int .i64 0, .int .i64 2] 3) = w2 := ⟨_, rfl⟩
  have hF1 : HasI (ints [2, 1, 0]) (some ⟨w.heap.size, 0, none⟩) w1 := hw1 ▸ hasIn3 w 2 1 0
  have hu2 : HasI (ints [1, 0, 2]) (some ⟨w1.heap.size, 0, none⟩) w2 := hw2 ▸ hasIn3 w1 1 0 2
  have hB12 : Below w1.heap.size w1 w2 := hw2 ▸ bel_al (Below.refl _ _) _
  have hB02 : Below w.heap.size w w2 := bel_on (hw1 ▸ bel_al (Below.refl _ _) _) hB12
  have hF2 := hF1.later hB12
  have s1 : w1.heap.size = w.heap.size + 1 := by subst hw1; simp
  rw [s1] at hu2
  clear hF1
  go_enter Tryd.func22, Tryd.ntmps22
  go_wp2_with fail
  refine (fsteps_ok [2, 1, 0] [1, 0, 2] _ 3 3 _ 3 3 _ rfl (he.later hB02) fact_F hF2 rfl fact_u hu2).mono ?_
  rw [fact_steps]
  rintro e w3 ⟨v, rfl, hown, hB3⟩
  obtain ⟨pv, cv, rfl⟩ := owns_slice hown
  have hl3 := hasI_of_owns (m := [3, 4]) rfl hown
  have hC3 := bel_on hB02 hB3
  clear hw1 hw2 hown
  obtain ⟨x1, hx1⟩ : ∃ x1, w3.alloc (.cells #[.int .i64 2, .int .i64 1, .int .i64 0] 3) = x1 := ⟨_, rfl⟩
  obtain ⟨x2, hx2⟩ : ∃ x2, x1.alloc (.cells #[.int .i64 1, .int .i64 0, .int .i64 2] 3) = x2 := ⟨_, rfl⟩
  obtain ⟨x3, hx3⟩ : ∃ x3, x2.alloc (.cells #[.int .i64 0, .int .i64 1, .int .i64 2] 3) = x3 := ⟨_, rfl⟩
  have t1 : x1.heap.size = w3.heap.size + 1 := by subst hx1; simp
  have t2 : x2.heap.size = w3.heap.size + 1 + 1 := by subst hx2; simp [t1]
  have g1 : HasI (ints [2, 1, 0]) (some ⟨w3.heap.size, 0, none⟩) x1 := hx1 ▸ hasIn3 w3 2 1 0
  have g2 : HasI (ints [1, 0, 2]) (some ⟨x1.heap.size, 0, none⟩) x2 := hx2 ▸ hasIn3 x1 1 0 2
  have g3 : HasI (ints [0, 1, 2]) (some ⟨x2.heap.size, 0, none⟩) x3 := hx3 ▸ hasIn3 x2 0 1 2
  have b12 : Below x1.heap.size x1 x2 := hx2 ▸ bel_al (Below.refl _ _) _
  have b23 : Below x2.heap.size x2 x3 := hx3 ▸ bel_al (Below.refl _ _) _
  have b03 : Below w3.heap.size w3 x3 := bel_on (bel_on (hx1 ▸ bel_al (Below.refl _ _) _) b12) b23
  have k1 := (g1.later b12).later b23
  have k2 := g2.later b23
  rw [t1] at k2
  rw [t2] at g3
  have hC4 := bel_on hC3 b03
  have hl4 := hl3.later b03
  clear b12 b23 g1 g2
  go_wp2_with fail
  refine (fsame_ok [2, 1, 0] [1, 0, 2] [0, 1, 2] _ 3 3 _ 3 3 _ 3 3 _ rfl (he.later hC4) fact_F k1 rfl fact_u k2 rfl fact_v g3).mono ?_
  rw [fact_same]
  rintro e w5 ⟨rfl, hB5⟩
  have hC5 := bel_on hC4 hB5
  have hl5 := hl4.later hB5
  have hB6 : Below w5.heap.size w5 (w5.alloc (.cells #[.int .i64 3, .int .i64 4] 3)) := bel_al (Below.refl _ _) _
  have h6 := hasIn2 w5 3 4
  have hl6 := hl5.later hB6
  have hC6 := bel_on hC5 hB6
  clear hx1 hx2 hx3 k1 k2 g3
  go_wp2_with fail
  refine (eints_any (ints [3, 4]) (ints [3, 4]) _ _ 2 2 _ _ _ rfl rfl (by unfold maxLen; omega) (by unfold maxLen; omega) hl6 h6).mono ?_
  rw [show (ints [3, 4] == ints [3, 4]) = true by simp]
  rintro e w7 ⟨rfl, hB7⟩
  have HB : Hid (Below _ _ _) := bel_on hC6 hB7
  clear hl5 hl6 h6 hl4 hl3 hC6 hB7
  go_wp2_with fail
  go_ret
  exact ⟨rfl, HB.out⟩
end Go.Proofs.YtbacngbcnkikiaaDoor
