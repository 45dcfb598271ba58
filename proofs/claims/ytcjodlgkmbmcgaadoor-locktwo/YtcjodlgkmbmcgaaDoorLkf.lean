/- The closed fact of the laws of locks (whensteadlaw3, lockFact): it returns true. -/
import Derived.Test.YtcjodlgkmbmcgaaDoorLo8
import Derived.Test.YtcjodlgkmbmcgaaDoorErr
namespace Go.Proofs.YtcjodlgkmbmcgaaDoor
open Go.RowKit
def fk1 : M.Lk := (lkZ M.lk0 1 0 1 0).1
def fk2 : M.Lk := (lkZ fk1 0 1 1 0).1
theorem fk_one : (lkZ M.lk0 1 0 1 0).2 = 0 := by decide +kernel
theorem fk_two : (lkZ fk1 0 1 1 0).2 = 6 := by decide +kernel
theorem fk_row : M.row (M.wtR fk2) 1 = 1 := by decide +kernel
set_option maxRecDepth 100000 in
set_option maxHeartbeats 2000000 in
theorem lockFact_ok (w : World) (hty : Ety w) : Calls Tryd.prog 7 #[] w fun e w' => e = .returned (.bool true) ∧ Below w.heap.size w w' := by
  have HY : Hid (Ety w) := hty
  clear hty
  go_enter Tryd.func7, Tryd.ntmps7
  go_wp2_with fail
  refine (lnew_ok (O := fun k => w.heap.size ≤ k) w (Nat.le_refl _)).mono ?_
  rintro e w1 ⟨S, hS, rfl, hT1, hB1⟩
  have H1 : Hid (TV (fun k => w.heap.size ≤ k) S M.lk0 w1 ∧ Below w.heap.size w w1) := ⟨hT1, hB1⟩
  have d1 := ldo_ok 1 0 1 0 w1 hT1 (fun k hk => Nat.le_trans hB1.size hk) M.LG.zero
  rw [fk_one, terr_zero] at d1
  clear hT1 hB1 hS
  go_wp2_with fail
  refine d1.mono ?_
  rintro e w2 ⟨rfl, hT2, hF2⟩
  have hB2 : Below w.heap.size w w2 := H1.out.2.trans (hF2.below H1.out.2.size (fun k hk h => by omega))
  have d2 := ldo_ok 0 1 1 0 w2 hT2 (fun k hk => Nat.le_trans hB2.size hk) (M.LG.zero.z 1 0 1 0)
  rw [show (lkZ (lkZ M.lk0 1 0 1 0).1 0 1 1 0).2 = 6 from fk_two] at d2
  have H2 : Hid (Below w.heap.size w w2) := hB2
  clear d1 hT2 hF2 hB2 H1
  go_wp2_with fail
  refine d2.mono ?_
  rintro e w3 ⟨rfl, hT3, hF3⟩
  have hB3 : Below w.heap.size w w3 := H2.out.trans (hF3.below H2.out.size (fun k hk h => by omega))
  have hwt := lwaits_ok w3 hT3 ((M.LG.zero.z 1 0 1 0).z 0 1 1 0)
  have H3 : Hid (Below w.heap.size w w3) := hB3
  rw [terr_ne (by decide)]
  clear d2 hT3 hF3 hB3 H2
  go_wp2_with fail
  refine hwt.mono ?_
  rintro e w4 ⟨A, rfl, hrow, hA, hB4⟩
  have hB5 : Below w.heap.size w w4 := H3.out.trans (hB4.mono H3.out.size)
  have he := error_same 6 w4 (HY.out.later hB5)
  have HR : Hid (RowAt 3 w4 A (M.wtR fk2) ∧ Below w.heap.size w w4) := ⟨hrow, hB5⟩
  clear hwt hrow hB4 hB5
  go_wp2_with fail
  refine he.mono ?_
  rintro e w5 ⟨rfl, hB6⟩
  have hr5 := HR.out.1.below hB6 HR.out.1.lt
  have hc := hr5.cell (k := 1) (by rw [M.wtR_len]; omega)
  rw [fk_row] at hc
  have hl := hr5.lt
  have FB : Hid (Below w.heap.size w w5) := HR.out.2.trans (hB6.mono HR.out.2.size)
  clear he hB6 HR hr5
  go_wp2_with fail
  go_ret
  exact ⟨rfl, FB.out⟩
end Go.Proofs.YtcjodlgkmbmcgaaDoor
