/- The closed fact on tables (package whensteadlaw2, tableFact). -/
import Derived.Test.YtelonimdpeenaaaTb5
namespace Go.Proofs.Ytelonimdpeenaaa
open Go.RowKit
namespace M
def fk1 : Kt := wrK k0 0
def fk2 : Kt := tlJ fk1 0 1 2
theorem ff1 : wrT 2 k0 0 = (fk1, 0) := by unfold wrT; rw [if_neg (by decide), if_neg (by decide)]; rfl
theorem ff2 : teT 2 fk1 0 1 = (fk2, 0) := by unfold teT; rw [if_neg (by decide), if_neg (by decide)]; rfl
theorem fn1 : fk2 1 1 0 = 1 := by decide
theorem fn2 : fk2 0 1 0 = 0 := by decide
theorem fs1 : lst (fun b => fk2 1 b 0) (fk2 1 1 0) 2 = 1 := by decide
theorem fs2 : lst (fun b => fk2 0 b 0) (fk2 0 0 0) 2 = 0 := by decide
end M
set_option maxRecDepth 100000 in
set_option maxHeartbeats 2000000 in
theorem tableFact_ok (w : World) :
    Calls Try.prog 5 #[] w fun e w' => e = .returned (.bool true) ∧ Below w.heap.size w w' := by
  go_enter Try.func5, Try.ntmps5
  go_wp2_with fail
  refine (tnew_ok 2 w (by omega) (by omega)).mono ?_
  rintro e w1 ⟨S, rfl, hS, hV1, hB1⟩
  have H1 : Hid (TV S 2 M.k0 w1) := hV1
  have gS : w.heap.size ≤ S := by omega
  clear hV1 hS
  go_wp2_with fail
  refine (twrite_ok 0 w1 H1.out (by omega)).mono ?_
  rw [M.ff1]
  rintro e w2 ⟨rfl, hV2, hF2⟩
  have H2 : Hid (TV S 2 M.fk1 w2) := hV2
  have hB2 : Below w.heap.size w w2 := hB1.trans (hF2.below hB1.size (fun k hk e => by omega))
  clear hV2 hF2 H1 hB1
  go_wp2_with fail
  refine (ttell_ok 0 1 w2 H2.out (by omega)).mono ?_
  rw [M.ff2]
  rintro e w3 ⟨rfl, hV3, hF3⟩
  have H3 : Hid (TV S 2 M.fk2 w3) := hV3
  have B3 : Hid (Below w.heap.size w w3) := hB2.trans (hF3.below hB2.size (fun k hk e => by omega))
  clear hV3 hF3 H2 hB2
  rw [terr_zero]
  go_wp2_with fail
  refine (tknows_ok 1 1 0 w3 H3.out (by omega) (by omega) (by omega) (by omega)).mono ?_
  rw [M.fn1]
  rintro e w' ⟨rfl, rfl⟩
  go_wp2_with fail
  refine (tknows_ok 0 1 0 w3 H3.out (by omega) (by omega) (by omega) (by omega)).mono ?_
  rw [M.fn2]
  rintro e w' ⟨rfl, rfl⟩
  go_wp2_with fail
  refine (tstable_ok 1 0 w3 H3.out (by omega) (by omega) (by omega)).mono ?_
  rw [M.fs1]
  rintro e w4 ⟨rfl, hB4⟩
  have H4 : Hid (TV S 2 M.fk2 w4) := H3.out.below hB4
  have B4 : Hid (Below w.heap.size w w4) := bel_on B3.out hB4
  clear H3 B3 hB4
  go_wp2_with fail
  refine (tstable_ok 0 0 w4 H4.out (by omega) (by omega) (by omega)).mono ?_
  rw [M.fs2]
  rintro e w5 ⟨rfl, hB5⟩
  have B5 : Hid (Below w.heap.size w w5) := bel_on B4.out hB5
  clear H4 B4 hB5
  go_wp2_with fail
  go_ret
  exact ⟨rfl, B5.out⟩
end Go.Proofs.Ytelonimdpeenaaa
