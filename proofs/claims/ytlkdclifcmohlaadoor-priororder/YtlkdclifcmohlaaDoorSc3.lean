/- Package sched, Serial: what is wrong, else whether no transaction stands, over others, behind itself, and then the first row; what lay in memory lies as it lay. -/
import Derived.Test.YtlkdclifcmohlaaDoorSc2
import Derived.Test.YtlkdclifcmohlaaDoorBIs
namespace Go.Proofs.YtlkdclifcmohlaaDoor
open Go.RowKit

theorem edR_code (s : List M.SAct) : code (ints (M.edR s)) = if ringB (M.edR s) then 6 else 0 := code_ints (M.edR_ok s) (by rw [M.edR_len]; omega)
set_option maxHeartbeats 1000000 in
theorem serial_err (zs : List Az) (p : Option Addr) (n cap : Nat) (w : World) (hl : zs.length = n) (hmax : n ≤ maxLen) (hc : HasAc zs p w) (hne : acd zs ≠ 0) :
    Calls Tryd.prog 11 #[.slice p n cap] w fun e w' => e = .returned (.tuple #[.bool false, .slice none 0 0, terr (acd zs)]) ∧ Below w.heap.size w w' := by
  go_enter Tryd.func11, Tryd.ntmps11
  go_wp2_with fail
  refine (edges_err zs p n cap _ hl hmax hc hne).mono ?_
  rw [terr_ne hne]
  rintro e w1 ⟨rfl, hB⟩
  go_wp2_with fail
  go_ret3
  exact ⟨by rw [terr_ne hne]; rfl, hB⟩
set_option maxHeartbeats 1000000 in
theorem serial_ring (s : List M.SAct) (p : Option Addr) (n cap : Nat) (w : World) (he : Env w) (hl : s.length = n) (hk : M.AOk s) (hcap : n ≤ cap) (hc : HasAc (az s) p w) (hr : M.Ring (M.edR s)) :
    Calls Tryd.prog 11 #[.slice p n cap] w fun e w' => e = .returned (.tuple #[.bool false, .slice none 0 0, .nilIface]) ∧ Below w.heap.size w w' := by
  go_enter Tryd.func11, Tryd.ntmps11
  go_wp2_with fail
  refine (edges_ok s p n cap _ hl hk hcap hc).mono ?_
  rintro e w1 ⟨A, rfl, hrow, hA, hB⟩
  have hf := first_err (ints (M.edR s)) (some ⟨A, 0, none⟩) 5 5 6 w1 (by rw [ints_length, M.edR_len]) (he.later hB) (by unfold maxLen; omega) hrow.has (by rw [edR_code, if_pos (ringB_iff.2 hr)]) (by omega)
  clear hrow hc hr
  go_wp2_with fail
  refine hf.mono ?_
  rintro e w2 ⟨rfl, hB2⟩
  have HB : Hid (Below w.heap.size w w2) := bel_on hB hB2
  clear hB hB2
  go_wp2_with fail
  go_ret3
  exact ⟨rfl, HB.out⟩
set_option maxHeartbeats 1000000 in
theorem serial_ok (s : List M.SAct) (p : Option Addr) (n cap : Nat) (w : World) (he : Env w) (hl : s.length = n) (hk : M.AOk s) (hcap : n ≤ cap) (hc : HasAc (az s) p w) (hr : ¬ M.Ring (M.edR s)) :
    Calls Tryd.prog 11 #[.slice p n cap] w fun e w' => ∃ A, e = .returned (.tuple #[.bool true, .slice (some ⟨A, 0, none⟩) 5 5, .nilIface]) ∧ RowAt 3 w' A (M.firstR (M.turned (M.edR s))) ∧ w.heap.size ≤ A ∧ Below w.heap.size w w' := by
  have hrb : ringB (M.edR s) = false := by
    cases h : ringB (M.edR s) with
    | false => rfl
    | true => exact absurd (ringB_iff.1 h) hr
  clear hr
  go_enter Tryd.func11, Tryd.ntmps11
  go_wp2_with fail
  refine (edges_ok s p n cap _ hl hk hcap hc).mono ?_
  rintro e w1 ⟨A, rfl, hrow, hA, hB⟩
  have hf := first_ok (ints (M.edR s)) (some ⟨A, 0, none⟩) 5 5 w1 (by rw [ints_length, M.edR_len]) (he.later hB) (by unfold maxLen; omega) hrow.has (by rw [edR_code, if_neg (by rw [hrb]; simp)])
  rw [nats_ints] at hf
  clear hrow hc hrb
  go_wp2_with fail
  refine hf.mono ?_
  rintro e w2 ⟨A2, rfl, hrow2, hA2, hB2⟩
  have HB : Hid (Below w.heap.size w w2) := bel_on hB hB2
  have HA : Hid (w.heap.size ≤ A2) := Nat.le_trans hB.size hA2
  have HR : Hid (RowAt 3 w2 A2 (M.firstR (M.turned (M.edR s)))) := hrow2
  clear hB hB2 hrow2 hA2 hA
  go_wp2_with fail
  go_ret3
  exact ⟨A2, rfl, HR.out, HA.out, HB.out⟩
end Go.Proofs.YtlkdclifcmohlaaDoor
