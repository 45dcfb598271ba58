/- Whether all is serial (package view, Serial). -/
import Derived.Test.YtajiichehffaaaaDoorVm9
import Derived.Test.YtajiichehffaaaaDoorWse
import Derived.Test.YtajiichehffaaaaDoorFrst
namespace Go.Proofs.YtajiichehffaaaaDoor
open Go.RowKit
theorem behR_code {s : M.Vw} (h : M.VI s) : code (ints (M.behR s)) = if ringB (M.behR s) then 6 else 0 := code_ints (M.behR_ok h) (by rw [M.behR_len]; omega)
set_option maxHeartbeats 1000000 in
theorem vserial_ring {O : Nat → Prop} {S : Nat} {s : M.Vw} (w : World) (he : Env w) (h : VV O S s w) (hI : M.VI s) (hr : M.Ring (M.behR s)) :
    Calls Tryd.prog 10 #[.pointer (some ⟨S, 0, none⟩)] w fun e w' => e = .returned (.tuple #[.bool false, .slice none 0 0]) ∧ Below w.heap.size w w' := by
  have hcd := behR_code hI
  have hed := vedges_ok w h hI
  clear h
  go_enter Tryd.func10, Tryd.ntmps10
  go_wp2_with fail
  refine hed.mono ?_
  rintro e w1 ⟨A, B, rfl, hrow, _, _, _, _, hB⟩
  have hf := first_err (ints (M.behR s)) (some ⟨A, 0, none⟩) 5 5 6 w1 (by rw [ints_length, M.behR_len]) (he.later hB) (by unfold maxLen; omega) hrow.has (by rw [hcd, if_pos (ringB_iff.2 hr)]) (by omega)
  clear hrow hr hcd hed
  go_wp2_with fail
  refine hf.mono ?_
  rintro e w2 ⟨rfl, hB2⟩
  have HB : Hid (Below w.heap.size w w2) := bel_on hB hB2
  clear hB hB2
  go_wp2_with fail
  go_ret2
  exact ⟨rfl, HB.out⟩
set_option maxHeartbeats 1000000 in
theorem vserial_ok {O : Nat → Prop} {S : Nat} {s : M.Vw} (w : World) (he : Env w) (h : VV O S s w) (hI : M.VI s) (hr : ¬ M.Ring (M.behR s)) :
    Calls Tryd.prog 10 #[.pointer (some ⟨S, 0, none⟩)] w fun e w' => ∃ A, e = .returned (.tuple #[.bool true, .slice (some ⟨A, 0, none⟩) 5 5]) ∧ RowAt 3 w' A (M.firstR (M.turned (M.behR s))) ∧ w.heap.size ≤ A ∧ Below w.heap.size w w' := by
  have hrb : ringB (M.behR s) = false := by
    cases h : ringB (M.behR s) with
    | false => rfl
    | true => exact absurd (ringB_iff.1 h) hr
  have hcd := behR_code hI
  have hed := vedges_ok w h hI
  clear hr h
  go_enter Tryd.func10, Tryd.ntmps10
  go_wp2_with fail
  refine hed.mono ?_
  rintro e w1 ⟨A, B, rfl, hrow, _, _, _, _, hB⟩
  have hf := first_ok (ints (M.behR s)) (some ⟨A, 0, none⟩) 5 5 w1 (by rw [ints_length, M.behR_len]) (he.later hB) (by unfold maxLen; omega) hrow.has (by rw [hcd, if_neg (by rw [hrb]; simp)])
  rw [nats_ints] at hf
  clear hrow hrb hcd hed
  go_wp2_with fail
  refine hf.mono ?_
  rintro e w2 ⟨A2, rfl, hrow2, hA2, hB2⟩
  have HB : Hid (Below w.heap.size w w2) := bel_on hB hB2
  have HA : Hid (w.heap.size ≤ A2) := Nat.le_trans hB.size hA2
  have HR : Hid (RowAt 3 w2 A2 (M.firstR (M.turned (M.behR s)))) := hrow2
  clear hB hB2 hrow2 hA2
  go_wp2_with fail
  go_ret2
  exact ⟨A2, rfl, HR.out, HA.out, HB.out⟩
end Go.Proofs.YtajiichehffaaaaDoor
