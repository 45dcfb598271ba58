/- Whether two traces are one (package trace, Same), at whatever numbers; what lay in memory lies as it lay. -/
import Derived.Test.YtnofgmbpkgnciaaDoorSev
namespace Go.Proofs.YtnofgmbpkgnciaaDoor
open Go.RowKit

set_option maxHeartbeats 1000000 in
theorem same_err1 (P Q : Int) (T : List (Int × Int)) (p q : Option Addr) (n m cap cap' c : Nat) (w : World) (hl : T.length = n) (hmax : n ≤ maxLen) (hc : HasE T p w) (h0 : M.tcode P T = c) (hne : c ≠ 0) :
    Calls Tryd.prog 14 #[trV P p n cap, trV Q q m cap'] w fun e w' => e = .returned (.tuple #[.bool false, .iface 51 (.int .i64 (c : Nat))]) ∧ Below w.heap.size w w' := by
  have hB0 : Below w.heap.size w ((w.alloc (.cells #[.int .i64 P, .slice p n cap] 24)).alloc (.cells #[.int .i64 Q, .slice q m cap'] 24)) := bel_al (bel_al (Below.refl _ _) _) _
  have hcb := hc.later hB0
  go_enter Tryd.func14, Tryd.ntmps14
  go_wp2_with fail
  refine (check_tr P T p n cap _ hl hmax hcb).mono ?_
  rw [h0, terr_ne hne]
  rintro e w1 ⟨rfl, hB1⟩
  go_wp2_with fail
  go_ret2
  exact ⟨rfl, bel_on hB0 hB1⟩
set_option maxHeartbeats 1000000 in
theorem same_err2 (P Q : Int) (T U : List (Int × Int)) (p q : Option Addr) (n m cap cap' c : Nat) (w : World) (hl : T.length = n) (hl' : U.length = m) (hmax : n ≤ maxLen) (hmax' : m ≤ maxLen) (hc : HasE T p w) (hc' : HasE U q w) (h0 : M.tcode P T = 0) (h1 : M.tcode Q U = c) (hne : c ≠ 0) :
    Calls Tryd.prog 14 #[trV P p n cap, trV Q q m cap'] w fun e w' => e = .returned (.tuple #[.bool false, .iface 51 (.int .i64 (c : Nat))]) ∧ Below w.heap.size w w' := by
  have hB0 : Below w.heap.size w ((w.alloc (.cells #[.int .i64 P, .slice p n cap] 24)).alloc (.cells #[.int .i64 Q, .slice q m cap'] 24)) := bel_al (bel_al (Below.refl _ _) _) _
  have hb2 := tbox_new (w.alloc (.cells #[.int .i64 P, .slice p n cap] 24)) Q q m cap'
  rw [show (w.alloc (.cells #[.int .i64 P, .slice p n cap] 24)).heap.size = w.heap.size + 1 by simp] at hb2
  obtain ⟨wb, hwb⟩ : ∃ wb, (w.alloc (.cells #[.int .i64 P, .slice p n cap] 24)).alloc (.cells #[.int .i64 Q, .slice q m cap'] 24) = wb := ⟨_, rfl⟩
  have hb1 : TBox wb w.heap.size P p n cap := hwb ▸ (tbox_new w P p n cap).later (bel_al (Below.refl _ _) (.cells #[.int .i64 Q, .slice q m cap'] 24)) (by simp)
  rw [hwb] at hB0 hb2
  have hcb := hc.later hB0
  have hj1 := hb1.procs
  have hj2 := hb1.events
  go_enter Tryd.func14, Tryd.ntmps14
  go_wp2_with fail
  refine (check_tr P T p n cap _ hl hmax hcb).mono ?_
  rw [h0, terr_zero]
  rintro e w1 ⟨rfl, hB1⟩
  have hC1 := bel_on hB0 hB1
  have hb21 := hb2.later hB1 hb2.lt
  have hk3 := hb21.procs
  have hk4 := hb21.events
  clear hj1 hj2 hwb
  go_wp2_with fail
  refine (check_tr Q U q m cap' _ hl' hmax' (hc'.later hC1)).mono ?_
  rw [h1, terr_ne hne]
  rintro e w2 ⟨rfl, hB2⟩
  go_wp2_with fail
  go_ret2
  exact ⟨rfl, bel_on hC1 hB2⟩
set_option maxHeartbeats 1000000 in
theorem same_ok (P Q : Int) (T U : List (Int × Int)) (p q : Option Addr) (n m cap cap' : Nat) (w : World) (hl : T.length = n) (hl' : U.length = m) (hmax : n ≤ maxLen) (hmax' : m ≤ maxLen) (hc : HasE T p w) (hc' : HasE U q w) (h0 : M.tcode P T = 0) (h1 : M.tcode Q U = 0) :
    Calls Tryd.prog 14 #[trV P p n cap, trV Q q m cap'] w fun e w' => e = .returned (.tuple #[.bool (M.sameB P T Q U), .nilIface]) ∧ Below w.heap.size w w' := by
  have hB0 : Below w.heap.size w ((w.alloc (.cells #[.int .i64 P, .slice p n cap] 24)).alloc (.cells #[.int .i64 Q, .slice q m cap'] 24)) := bel_al (bel_al (Below.refl _ _) _) _
  have hb2 := tbox_new (w.alloc (.cells #[.int .i64 P, .slice p n cap] 24)) Q q m cap'
  rw [show (w.alloc (.cells #[.int .i64 P, .slice p n cap] 24)).heap.size = w.heap.size + 1 by simp] at hb2
  obtain ⟨wb, hwb⟩ : ∃ wb, (w.alloc (.cells #[.int .i64 P, .slice p n cap] 24)).alloc (.cells #[.int .i64 Q, .slice q m cap'] 24) = wb := ⟨_, rfl⟩
  have hb1 : TBox wb w.heap.size P p n cap := hwb ▸ (tbox_new w P p n cap).later (bel_al (Below.refl _ _) (.cells #[.int .i64 Q, .slice q m cap'] 24)) (by simp)
  rw [hwb] at hB0 hb2
  have hcb := hc.later hB0
  have hT := M.tcode_zero.1 h0
  have hU := M.tcode_zero.1 h1
  have hj1 := hb1.procs
  have hj2 := hb1.events
  go_enter Tryd.func14, Tryd.ntmps14
  go_wp2_with fail
  refine (check_tr P T p n cap _ hl hmax hcb).mono ?_
  rw [h0, terr_zero]
  rintro e w1 ⟨rfl, hB1⟩
  have hC1 := bel_on hB0 hB1
  have hb21 := hb2.later hB1 hb2.lt
  have hb11 := hb1.later hB1 hb1.lt
  have hk3 := hb21.procs
  have hk4 := hb21.events
  clear hj1 hj2 hwb
  go_wp2_with fail
  refine (check_tr Q U q m cap' _ hl' hmax' (hc'.later hC1)).mono ?_
  rw [h1, terr_zero]
  rintro e w2 ⟨rfl, hB2⟩
  have hC2 := bel_on hC1 hB2
  have hb22 := hb21.later hB2 hb21.lt
  have hb12 := hb11.later hB2 hb11.lt
  clear hk3 hk4
  have hk1 := hb12.procs
  have hk2 := hb12.events
  have hk3 := hb22.procs
  have hk4 := hb22.events
  by_cases hPQ : P = Q
  · by_cases hnm : n = m
    · subst hPQ hnm
      have HS : Hid (M.sameB P T P U = M.sameTo T U n) := by
        show _ = _
        unfold M.sameB
        rw [hl, hl']; simp
      go_wp2_with fail
      refine (sameEvents_ok P P T U p q n cap cap' _ hl hl' (hc.later hC2) (hc'.later hC2) hT hU).mono ?_
      rintro e w3 ⟨rfl, hB3⟩
      go_wp2_with fail
      go_ret2
      exact ⟨by rw [HS.out]; rfl, bel_on hC2 hB3⟩
    · have HS : Hid (M.sameB P T Q U = false) := by
        show _ = _
        unfold M.sameB
        rw [hl, hl', show (n == m) = false by simpa using hnm]; simp
      have hd : ((n : Int) == (m : Int)) = false := by simp; omega
      have hd2 : ((n : Int) != (m : Int)) = true := by simp; omega
      clear hnm
      go_wp2_with fail
      go_ret2
      exact ⟨by rw [HS.out]; rfl, hC2⟩
  · have HS : Hid (M.sameB P T Q U = false) := by
      show _ = _
      unfold M.sameB
      rw [show (P == Q) = false by simpa using hPQ]; rfl
    have hd2 : (P != Q) = true := by simpa using hPQ
    clear hPQ
    go_wp2_with fail
    go_ret2
    exact ⟨by rw [HS.out]; rfl, hC2⟩
end Go.Proofs.YtnofgmbpkgnciaaDoor
