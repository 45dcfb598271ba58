/- The closed fact of the laws of gates (whensteadlaw3, priorFact): it returns true. -/
import Derived.Test.YtlkdclifcmohlaaDoorPr3
import Derived.Test.YtlkdclifcmohlaaDoorErr
namespace Go.Proofs.YtlkdclifcmohlaaDoor
open Go.RowKit
def pf1 : M.Gt := (gtZ false M.gt0 ⟨3, 1, 1⟩).1
theorem pf_did : (gtZ false M.gt0 ⟨3, 1, 1⟩).2.1 = true := by decide +kernel
theorem pf_one : (gtZ false M.gt0 ⟨3, 1, 1⟩).2.2 = 0 := by decide +kernel
theorem pf_two : (gtZ false pf1 ⟨2, 1, 0⟩).2.2 = 6 := by decide +kernel
theorem pf_dead : (gtZ false pf1 ⟨2, 1, 0⟩).1.dead = 4 := by decide +kernel
set_option maxRecDepth 100000 in
set_option maxHeartbeats 2000000 in
theorem priorFact_ok (w : World) (hty : Ety w) : Calls Tryd.prog 7 #[] w fun e w' => e = .returned (.bool true) ∧ Below w.heap.size w w' := by
  have HY : Hid (Ety w) := hty
  clear hty
  go_enter Tryd.func7, Tryd.ntmps7
  go_wp2_with fail
  refine (gnew_ok (O := fun k => w.heap.size ≤ k) false w (Nat.le_refl _)).mono ?_
  rintro e w1 ⟨rfl, hT1, hB1⟩
  have H1 : Hid (Below w.heap.size w w1) := hB1
  have d1 := gdo_ok ⟨3, 1, 1⟩ w1 hT1 (fun k hk => Nat.le_trans hB1.size hk) M.GG.zero
  rw [pf_one, pf_did, terr_zero] at d1
  clear hT1 hB1
  go_wp2_with fail
  refine d1.mono ?_
  rintro e w2 ⟨rfl, hT2, hF2⟩
  have hB2 : Below w.heap.size w w2 := H1.out.trans (hF2.below H1.out.size (fun k hk h => by omega))
  have d2 := gdo_ok ⟨2, 1, 0⟩ w2 hT2 (fun k hk => Nat.le_trans hB2.size hk) (M.GG.zero.z false _)
  rw [show (gtZ false (gtZ false M.gt0 ⟨3, 1, 1⟩).1 ⟨2, 1, 0⟩).2.2 = 6 from pf_two, terr_ne (by decide)] at d2
  obtain ⟨q, hq⟩ : ∃ q, (gtZ false (gtZ false M.gt0 ⟨3, 1, 1⟩).1 ⟨2, 1, 0⟩).2.1 = q := ⟨_, rfl⟩
  rw [hq] at d2
  have H2 : Hid (Below w.heap.size w w2) := hB2
  clear d1 hT2 hF2 hB2 H1 hq
  go_wp2_with fail
  refine d2.mono ?_
  rintro e w3 ⟨rfl, hT3, hF3⟩
  have hB3 : Below w.heap.size w w3 := H2.out.trans (hF3.below H2.out.size (fun k hk h => by omega))
  have he := error_same 6 w3 (HY.out.later hB3)
  have HT : Hid (GV (fun k => w.heap.size ≤ k) w.heap.size false (gtZ false pf1 ⟨2, 1, 0⟩).1 w3 ∧ Below w.heap.size w w3) := ⟨hT3, hB3⟩
  clear d2 hT3 hF3 hB3 H2
  go_wp2_with fail
  refine he.mono ?_
  rintro e w4 ⟨rfl, hB4⟩
  have hdd := gdead_ok w4 (HT.out.1.below hB4)
  rw [pf_dead] at hdd
  have FB : Hid (Below w.heap.size w w4) := HT.out.2.trans (hB4.mono HT.out.2.size)
  clear he hB4 HT
  go_wp2_with fail
  refine hdd.mono ?_
  rintro e w5 ⟨rfl, rfl⟩
  go_wp2_with fail
  go_ret
  exact ⟨rfl, FB.out⟩
end Go.Proofs.YtlkdclifcmohlaaDoor
