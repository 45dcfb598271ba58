/- WHAT IS WRONG WITH ANY TRACE, WHAT HAPPENED BEFORE WHAT, A PROCESS's EVENTS, AND WHETHER ANY TWO ARE ONE (law TraceSays): whatever the traces and the number, the call returns true; what lay in memory lies as it lay. -/
import Derived.Test.YtnofgmbpkgnciaaDoorErr
import Derived.Test.YtnofgmbpkgnciaaDoorTof
import Derived.Test.YtnofgmbpkgnciaaDoorTsm
import Derived.Test.YtnofgmbpkgnciaaDoorRefTbf
import Derived.Test.YtnofgmbpkgnciaaDoorRefTsm
namespace Go.Proofs.YtnofgmbpkgnciaaDoor
open Go.RowKit

theorem error_code (c : Nat) (w : World) (hg : Ety w) : Calls Tryd.prog 6 #[terr c, .int .i64 (c : Nat)] w fun e w' => e = .returned (.bool true) ∧ Below w.heap.size w w' := by
  by_cases h : c = 0
  · subst h
    refine (error_nil w).mono ?_
    rintro e w' ⟨rfl, rfl⟩
    exact ⟨rfl, Below.refl _ _⟩
  · rw [terr_ne h]
    exact error_same (c : Nat) w hg
theorem error_none (w : World) : Calls Tryd.prog 6 #[.nilIface, .int .i64 0] w fun e w' => e = .returned (.bool true) ∧ Below w.heap.size w w' := by
  refine (error_nil w).mono ?_
  rintro e w' ⟨rfl, rfl⟩
  exact ⟨rfl, Below.refl _ _⟩
theorem ints_none (w : World) : Calls Tryd.prog 11 #[.slice none 0 0, .slice none 0 0] w fun e w' => e = .returned (.bool true) ∧ Below w.heap.size w w' :=
  same_intsI [] none none 0 0 0 w rfl (Nat.zero_le _) (fun _ hj => absurd hj (Nat.not_lt_zero _)) (fun _ hj => absurd hj (Nat.not_lt_zero _))
theorem beforeI_ok (P : Int) (T : List (Int × Int)) (p : Option Addr) (n cap : Nat) (w : World) (hl : T.length = n) (hmax : n ≤ maxLen) (hc : HasE T p w) (h0 : M.tcode P T = 0) :
    Calls Tryd.prog 10 #[trV P p n cap] w fun e w' => ∃ q, e = .returned (.tuple #[.slice q n n, .nilIface]) ∧ HasI (ints (M.before T)) q w' ∧ Below w.heap.size w w' := by
  refine (before_ok P T p n cap w hl hmax hc h0).mono ?_
  rintro e w' ⟨A, rfl, hr, _, hB⟩
  exact ⟨_, rfl, RowAt.hasI hr, hB⟩
set_option maxRecDepth 100000 in
set_option maxHeartbeats 4000000 in
theorem tsy_bad (P : Int) (T : List (Int × Int)) (p : Option Addr) (n cap : Nat) (Q : Int) (U : List (Int × Int)) (q : Option Addr) (m cap' : Nat) (pz : Int) (w : World) (hl : T.length = n) (hmax : n ≤ maxLen) (hc : HasE T p w) (_hl' : U.length = m) (_hmax' : m ≤ maxLen) (hc' : HasE U q w) (hg : Ety w) (c : Nat) (hcd : M.tcode P T = c) (hne : c ≠ 0) :
    Calls Tryd.prog 3 #[trV P p n cap, trV Q q m cap', .int .i64 pz] w fun e w' => e = .returned (.bool true) ∧ Below w.heap.size w w' := by
  have hB0 : Below w.heap.size w ((w.alloc (.cells #[.int .i64 P, .slice p n cap] 24)).alloc (.cells #[.int .i64 Q, .slice q m cap'] 24)) := bel_al (bel_al (Below.refl _ _) _) _
  have hb2 := tbox_new (w.alloc (.cells #[.int .i64 P, .slice p n cap] 24)) Q q m cap'
  rw [show (w.alloc (.cells #[.int .i64 P, .slice p n cap] 24)).heap.size = w.heap.size + 1 by simp] at hb2
  obtain ⟨wb, hwb⟩ : ∃ wb, (w.alloc (.cells #[.int .i64 P, .slice p n cap] 24)).alloc (.cells #[.int .i64 Q, .slice q m cap'] 24) = wb := ⟨_, rfl⟩
  have hb1 : TBox wb w.heap.size P p n cap := hwb ▸ (tbox_new w P p n cap).later (bel_al (Below.refl _ _) (.cells #[.int .i64 Q, .slice q m cap'] 24)) (by simp)
  rw [hwb] at hB0 hb2
  have hcT := hc.later hB0
  have hcU := hc'.later hB0
  have hty := hg.later hB0
  have hC : Below wb.heap.size wb wb := Below.refl _ _
  have hk1 := hb1.procs
  have hk2 := hb1.events
  have hk3 := hb2.procs
  have hk4 := hb2.events
  have hd : ((c : Int) == 0) = false := by simp; omega
  go_enter Tryd.func3, Tryd.ntmps3
  go_wp2_with fail
  refine (refTrace_ok P T p n cap _ hl hmax hcT).mono ?_
  rw [hcd]
  rintro e v1 ⟨rfl, hB⟩
  clear hk1 hk2 hk3 hk4
  replace hcT := hcT.later hB
  replace hcU := hcU.later hB
  replace hty := hty.later hB
  replace hb1 := hb1.later hB hb1.lt
  replace hb2 := hb2.later hB hb2.lt
  replace hC := bel_on hC hB
  have hk1 := hb1.procs
  have hk2 := hb1.events
  have hk3 := hb2.procs
  have hk4 := hb2.events
  clear hB
  go_wp2_with fail
  refine (check_tr P T p n cap _ hl hmax hcT).mono ?_
  rw [hcd]
  rintro e v2 ⟨rfl, hB⟩
  clear hk1 hk2 hk3 hk4
  replace hcT := hcT.later hB
  replace hcU := hcU.later hB
  replace hty := hty.later hB
  replace hb1 := hb1.later hB hb1.lt
  replace hb2 := hb2.later hB hb2.lt
  replace hC := bel_on hC hB
  have hk1 := hb1.procs
  have hk2 := hb1.events
  have hk3 := hb2.procs
  have hk4 := hb2.events
  clear hB
  go_wp2_with fail
  refine (error_code c _ hty).mono ?_
  rintro e v3 ⟨rfl, hB⟩
  clear hk1 hk2 hk3 hk4
  replace hcT := hcT.later hB
  replace hcU := hcU.later hB
  replace hty := hty.later hB
  replace hb1 := hb1.later hB hb1.lt
  replace hb2 := hb2.later hB hb2.lt
  replace hC := bel_on hC hB
  have hk1 := hb1.procs
  have hk2 := hb1.events
  have hk3 := hb2.procs
  have hk4 := hb2.events
  clear hB
  go_wp2_with fail
  refine (before_err P T p n cap c _ hl hmax hcT hcd hne).mono ?_
  rintro e v4 ⟨rfl, hB⟩
  clear hk1 hk2 hk3 hk4
  replace hcT := hcT.later hB
  replace hcU := hcU.later hB
  replace hty := hty.later hB
  replace hb1 := hb1.later hB hb1.lt
  replace hb2 := hb2.later hB hb2.lt
  replace hC := bel_on hC hB
  have hk1 := hb1.procs
  have hk2 := hb1.events
  have hk3 := hb2.procs
  have hk4 := hb2.events
  clear hB
  go_wp2_with fail
  refine (error_same (c : Nat) _ hty).mono ?_
  rintro e v5 ⟨rfl, hB⟩
  clear hk1 hk2 hk3 hk4
  replace hcT := hcT.later hB
  replace hcU := hcU.later hB
  replace hty := hty.later hB
  replace hb1 := hb1.later hB hb1.lt
  replace hb2 := hb2.later hB hb2.lt
  replace hC := bel_on hC hB
  have hk1 := hb1.procs
  have hk2 := hb1.events
  have hk3 := hb2.procs
  have hk4 := hb2.events
  clear hB
  go_wp2_with fail
  refine (ints_none _).mono ?_
  rintro e v6 ⟨rfl, hB⟩
  clear hk1 hk2 hk3 hk4
  replace hcT := hcT.later hB
  replace hcU := hcU.later hB
  replace hty := hty.later hB
  replace hb1 := hb1.later hB hb1.lt
  replace hb2 := hb2.later hB hb2.lt
  replace hC := bel_on hC hB
  have hk1 := hb1.procs
  have hk2 := hb1.events
  have hk3 := hb2.procs
  have hk4 := hb2.events
  clear hB
  go_wp2_with fail
  refine (of_err P pz T p n cap c _ hl hmax hcT hcd hne).mono ?_
  rintro e v7 ⟨rfl, hB⟩
  clear hk1 hk2 hk3 hk4
  replace hcT := hcT.later hB
  replace hcU := hcU.later hB
  replace hty := hty.later hB
  replace hb1 := hb1.later hB hb1.lt
  replace hb2 := hb2.later hB hb2.lt
  replace hC := bel_on hC hB
  have hk1 := hb1.procs
  have hk2 := hb1.events
  have hk3 := hb2.procs
  have hk4 := hb2.events
  clear hB
  go_wp2_with fail
  refine (error_same (c : Nat) _ hty).mono ?_
  rintro e v8 ⟨rfl, hB⟩
  clear hk1 hk2 hk3 hk4
  replace hcT := hcT.later hB
  replace hcU := hcU.later hB
  replace hty := hty.later hB
  replace hb1 := hb1.later hB hb1.lt
  replace hb2 := hb2.later hB hb2.lt
  replace hC := bel_on hC hB
  have hk1 := hb1.procs
  have hk2 := hb1.events
  have hk3 := hb2.procs
  have hk4 := hb2.events
  clear hB
  go_wp2_with fail
  refine (ints_none _).mono ?_
  rintro e v9 ⟨rfl, hB⟩
  clear hk1 hk2 hk3 hk4
  replace hcT := hcT.later hB
  replace hcU := hcU.later hB
  replace hty := hty.later hB
  replace hb1 := hb1.later hB hb1.lt
  replace hb2 := hb2.later hB hb2.lt
  replace hC := bel_on hC hB
  have hk1 := hb1.procs
  have hk2 := hb1.events
  have hk3 := hb2.procs
  have hk4 := hb2.events
  clear hB
  go_wp2_with fail
  refine (same_err1 P Q T p q n m cap cap' c _ hl hmax hcT hcd hne).mono ?_
  rintro e v10 ⟨rfl, hB⟩
  clear hk1 hk2 hk3 hk4
  replace hcT := hcT.later hB
  replace hcU := hcU.later hB
  replace hty := hty.later hB
  replace hb1 := hb1.later hB hb1.lt
  replace hb2 := hb2.later hB hb2.lt
  replace hC := bel_on hC hB
  have hk1 := hb1.procs
  have hk2 := hb1.events
  have hk3 := hb2.procs
  have hk4 := hb2.events
  clear hB
  go_wp2_with fail
  refine (error_same (c : Nat) _ hty).mono ?_
  rintro e v11 ⟨rfl, hB⟩
  clear hk1 hk2 hk3 hk4
  replace hcT := hcT.later hB
  replace hcU := hcU.later hB
  replace hty := hty.later hB
  replace hb1 := hb1.later hB hb1.lt
  replace hb2 := hb2.later hB hb2.lt
  replace hC := bel_on hC hB
  have hk1 := hb1.procs
  have hk2 := hb1.events
  have hk3 := hb2.procs
  have hk4 := hb2.events
  clear hB
  go_wp2_with fail
  go_ret
  exact ⟨rfl, bel_on hB0 hC⟩
set_option maxRecDepth 100000 in
set_option maxHeartbeats 4000000 in
theorem tsy_in_ok (P : Int) (T : List (Int × Int)) (p : Option Addr) (n cap : Nat) (Q : Int) (U : List (Int × Int)) (q : Option Addr) (m cap' : Nat) (pz : Int) (w : World) (hl : T.length = n) (hmax : n ≤ maxLen) (hc : HasE T p w) (hl' : U.length = m) (hmax' : m ≤ maxLen) (hc' : HasE U q w) (hg : Ety w) (h0 : M.tcode P T = 0) (hpz : thingZ pz P = true) (hu : M.tcode Q U = 0) :
    Calls Tryd.prog 3 #[trV P p n cap, trV Q q m cap', .int .i64 pz] w fun e w' => e = .returned (.bool true) ∧ Below w.heap.size w w' := by
  have hB0 : Below w.heap.size w ((w.alloc (.cells #[.int .i64 P, .slice p n cap] 24)).alloc (.cells #[.int .i64 Q, .slice q m cap'] 24)) := bel_al (bel_al (Below.refl _ _) _) _
  have hb2 := tbox_new (w.alloc (.cells #[.int .i64 P, .slice p n cap] 24)) Q q m cap'
  rw [show (w.alloc (.cells #[.int .i64 P, .slice p n cap] 24)).heap.size = w.heap.size + 1 by simp] at hb2
  obtain ⟨wb, hwb⟩ : ∃ wb, (w.alloc (.cells #[.int .i64 P, .slice p n cap] 24)).alloc (.cells #[.int .i64 Q, .slice q m cap'] 24) = wb := ⟨_, rfl⟩
  have hb1 : TBox wb w.heap.size P p n cap := hwb ▸ (tbox_new w P p n cap).later (bel_al (Below.refl _ _) (.cells #[.int .i64 Q, .slice q m cap'] 24)) (by simp)
  rw [hwb] at hB0 hb2
  have hcT := hc.later hB0
  have hcU := hc'.later hB0
  have hty := hg.later hB0
  have hC : Below wb.heap.size wb wb := Below.refl _ _
  have hk1 := hb1.procs
  have hk2 := hb1.events
  have hk3 := hb2.procs
  have hk4 := hb2.events
  have hok := M.tcode_zero.1 h0
  have hn : n ≤ 24 := hl ▸ hok.len
  have hoku := M.tcode_zero.1 hu
  have hpp := of_decide_eq_true (show decide (0 ≤ pz ∧ pz < P) = true from hpz)
  have d1 : decide (pz < 0) = false := decide_eq_false (by omega)
  have d2 : decide (P ≤ pz) = false := decide_eq_false (by omega)
  clear hpp
  go_enter Tryd.func3, Tryd.ntmps3
  go_wp2_with fail
  refine (refTrace_ok P T p n cap _ hl hmax hcT).mono ?_
  rw [h0]
  rintro e v1 ⟨rfl, hB⟩
  clear hk1 hk2 hk3 hk4
  replace hcT := hcT.later hB
  replace hcU := hcU.later hB
  replace hty := hty.later hB
  replace hb1 := hb1.later hB hb1.lt
  replace hb2 := hb2.later hB hb2.lt
  replace hC := bel_on hC hB
  have hk1 := hb1.procs
  have hk2 := hb1.events
  have hk3 := hb2.procs
  have hk4 := hb2.events
  clear hB
  go_wp2_with fail
  refine (check_tr P T p n cap _ hl hmax hcT).mono ?_
  rw [h0, terr_zero]
  rintro e v2 ⟨rfl, hB⟩
  clear hk1 hk2 hk3 hk4
  replace hcT := hcT.later hB
  replace hcU := hcU.later hB
  replace hty := hty.later hB
  replace hb1 := hb1.later hB hb1.lt
  replace hb2 := hb2.later hB hb2.lt
  replace hC := bel_on hC hB
  have hk1 := hb1.procs
  have hk2 := hb1.events
  have hk3 := hb2.procs
  have hk4 := hb2.events
  clear hB
  go_wp2_with fail
  refine (error_none _).mono ?_
  rintro e v3 ⟨rfl, hB⟩
  clear hk1 hk2 hk3 hk4
  replace hcT := hcT.later hB
  replace hcU := hcU.later hB
  replace hty := hty.later hB
  replace hb1 := hb1.later hB hb1.lt
  replace hb2 := hb2.later hB hb2.lt
  replace hC := bel_on hC hB
  have hk1 := hb1.procs
  have hk2 := hb1.events
  have hk3 := hb2.procs
  have hk4 := hb2.events
  clear hB
  go_wp2_with fail
  refine (refBefore_ok P T p n cap _ hl hcT hok).mono ?_
  rintro e v4 ⟨qx, cx, rfl, hx, hB⟩
  clear hk1 hk2 hk3 hk4
  replace hcT := hcT.later hB
  replace hcU := hcU.later hB
  replace hty := hty.later hB
  replace hb1 := hb1.later hB hb1.lt
  replace hb2 := hb2.later hB hb2.lt
  replace hC := bel_on hC hB
  have hk1 := hb1.procs
  have hk2 := hb1.events
  have hk3 := hb2.procs
  have hk4 := hb2.events
  clear hB
  go_wp2_with fail
  refine (refOf_ok P pz T p n cap _ hl hcT hn).mono ?_
  rintro e v5 ⟨qy, cy, rfl, hy, hB⟩
  clear hk1 hk2 hk3 hk4
  replace hcT := hcT.later hB
  replace hcU := hcU.later hB
  replace hty := hty.later hB
  replace hx := hx.later hB
  replace hb1 := hb1.later hB hb1.lt
  replace hb2 := hb2.later hB hb2.lt
  replace hC := bel_on hC hB
  have hk1 := hb1.procs
  have hk2 := hb1.events
  have hk3 := hb2.procs
  have hk4 := hb2.events
  clear hB
  go_wp2_with fail
  refine (beforeI_ok P T p n cap _ hl hmax hcT h0).mono ?_
  rintro e v6 ⟨ql, rfl, hbl, hB⟩
  clear hk1 hk2 hk3 hk4
  replace hcT := hcT.later hB
  replace hcU := hcU.later hB
  replace hty := hty.later hB
  replace hx := hx.later hB
  replace hy := hy.later hB
  replace hb1 := hb1.later hB hb1.lt
  replace hb2 := hb2.later hB hb2.lt
  replace hC := bel_on hC hB
  have hk1 := hb1.procs
  have hk2 := hb1.events
  have hk3 := hb2.procs
  have hk4 := hb2.events
  clear hB
  go_wp2_with fail
  refine (error_none _).mono ?_
  rintro e v7 ⟨rfl, hB⟩
  clear hk1 hk2 hk3 hk4
  replace hcT := hcT.later hB
  replace hcU := hcU.later hB
  replace hty := hty.later hB
  replace hx := hx.later hB
  replace hy := hy.later hB
  replace hbl := hbl.later hB
  replace hb1 := hb1.later hB hb1.lt
  replace hb2 := hb2.later hB hb2.lt
  replace hC := bel_on hC hB
  have hk1 := hb1.procs
  have hk2 := hb1.events
  have hk3 := hb2.procs
  have hk4 := hb2.events
  clear hB
  go_wp2_with fail
  refine (same_intsI (ints (M.before T)) _ _ n n cx _ (by rw [ints_length, M.before_length, hl]) hmax hbl hx).mono ?_
  rintro e v8 ⟨rfl, hB⟩
  clear hk1 hk2 hk3 hk4
  replace hcT := hcT.later hB
  replace hcU := hcU.later hB
  replace hty := hty.later hB
  replace hx := hx.later hB
  replace hy := hy.later hB
  replace hbl := hbl.later hB
  replace hb1 := hb1.later hB hb1.lt
  replace hb2 := hb2.later hB hb2.lt
  replace hC := bel_on hC hB
  have hk1 := hb1.procs
  have hk2 := hb1.events
  have hk3 := hb2.procs
  have hk4 := hb2.events
  clear hB
  go_wp2_with fail
  refine (of_ok P pz T p n cap _ hl hmax hcT h0 hpz).mono ?_
  rintro e v9 ⟨qo, co, rfl, hof, hB⟩
  clear hk1 hk2 hk3 hk4
  replace hcT := hcT.later hB
  replace hcU := hcU.later hB
  replace hty := hty.later hB
  replace hx := hx.later hB
  replace hy := hy.later hB
  replace hbl := hbl.later hB
  replace hb1 := hb1.later hB hb1.lt
  replace hb2 := hb2.later hB hb2.lt
  replace hC := bel_on hC hB
  have hk1 := hb1.procs
  have hk2 := hb1.events
  have hk3 := hb2.procs
  have hk4 := hb2.events
  clear hB
  go_wp2_with fail
  refine (error_none _).mono ?_
  rintro e v10 ⟨rfl, hB⟩
  clear hk1 hk2 hk3 hk4
  replace hcT := hcT.later hB
  replace hcU := hcU.later hB
  replace hty := hty.later hB
  replace hx := hx.later hB
  replace hy := hy.later hB
  replace hbl := hbl.later hB
  replace hof := hof.later hB
  replace hb1 := hb1.later hB hb1.lt
  replace hb2 := hb2.later hB hb2.lt
  replace hC := bel_on hC hB
  have hk1 := hb1.procs
  have hk2 := hb1.events
  have hk3 := hb2.procs
  have hk4 := hb2.events
  clear hB
  go_wp2_with fail
  refine (same_intsI (ints (M.ofs T pz n)) _ _ _ co cy _ (ints_length _) (by have := M.ofs_length T pz n; omega) hof hy).mono ?_
  rintro e v11 ⟨rfl, hB⟩
  clear hk1 hk2 hk3 hk4
  replace hcT := hcT.later hB
  replace hcU := hcU.later hB
  replace hty := hty.later hB
  replace hx := hx.later hB
  replace hy := hy.later hB
  replace hbl := hbl.later hB
  replace hof := hof.later hB
  replace hb1 := hb1.later hB hb1.lt
  replace hb2 := hb2.later hB hb2.lt
  replace hC := bel_on hC hB
  have hk1 := hb1.procs
  have hk2 := hb1.events
  have hk3 := hb2.procs
  have hk4 := hb2.events
  clear hB
  go_wp2_with fail
  refine (refTrace_ok Q U q m cap' _ hl' hmax' hcU).mono ?_
  rw [hu]
  rintro e v12 ⟨rfl, hB⟩
  clear hk1 hk2 hk3 hk4
  replace hcT := hcT.later hB
  replace hcU := hcU.later hB
  replace hty := hty.later hB
  replace hx := hx.later hB
  replace hy := hy.later hB
  replace hbl := hbl.later hB
  replace hof := hof.later hB
  replace hb1 := hb1.later hB hb1.lt
  replace hb2 := hb2.later hB hb2.lt
  replace hC := bel_on hC hB
  have hk1 := hb1.procs
  have hk2 := hb1.events
  have hk3 := hb2.procs
  have hk4 := hb2.events
  clear hB
  go_wp2_with fail
  refine (refSame_ok P Q T U p q n m cap cap' _ hl hl' hcT hcU hok hoku).mono ?_
  rintro e v13 ⟨rfl, hB⟩
  clear hk1 hk2 hk3 hk4
  replace hcT := hcT.later hB
  replace hcU := hcU.later hB
  replace hty := hty.later hB
  replace hx := hx.later hB
  replace hy := hy.later hB
  replace hbl := hbl.later hB
  replace hof := hof.later hB
  replace hb1 := hb1.later hB hb1.lt
  replace hb2 := hb2.later hB hb2.lt
  replace hC := bel_on hC hB
  have hk1 := hb1.procs
  have hk2 := hb1.events
  have hk3 := hb2.procs
  have hk4 := hb2.events
  clear hB
  go_wp2_with fail
  refine (same_ok P Q T U p q n m cap cap' _ hl hl' hmax hmax' hcT hcU h0 hu).mono ?_
  rintro e v14 ⟨rfl, hB⟩
  clear hk1 hk2 hk3 hk4
  replace hcT := hcT.later hB
  replace hcU := hcU.later hB
  replace hty := hty.later hB
  replace hx := hx.later hB
  replace hy := hy.later hB
  replace hbl := hbl.later hB
  replace hof := hof.later hB
  replace hb1 := hb1.later hB hb1.lt
  replace hb2 := hb2.later hB hb2.lt
  replace hC := bel_on hC hB
  have hk1 := hb1.procs
  have hk2 := hb1.events
  have hk3 := hb2.procs
  have hk4 := hb2.events
  clear hB
  go_wp2_with fail
  refine (error_none _).mono ?_
  rintro e v15 ⟨rfl, hB⟩
  clear hk1 hk2 hk3 hk4
  replace hcT := hcT.later hB
  replace hcU := hcU.later hB
  replace hty := hty.later hB
  replace hx := hx.later hB
  replace hy := hy.later hB
  replace hbl := hbl.later hB
  replace hof := hof.later hB
  replace hb1 := hb1.later hB hb1.lt
  replace hb2 := hb2.later hB hb2.lt
  replace hC := bel_on hC hB
  have hk1 := hb1.procs
  have hk2 := hb1.events
  have hk3 := hb2.procs
  have hk4 := hb2.events
  clear hB
  go_wp2_with fail
  go_ret
  exact ⟨rfl, bel_on hB0 hC⟩
set_option maxRecDepth 100000 in
set_option maxHeartbeats 4000000 in
theorem tsy_in_bad (P : Int) (T : List (Int × Int)) (p : Option Addr) (n cap : Nat) (Q : Int) (U : List (Int × Int)) (q : Option Addr) (m cap' : Nat) (pz : Int) (w : World) (hl : T.length = n) (hmax : n ≤ maxLen) (hc : HasE T p w) (hl' : U.length = m) (hmax' : m ≤ maxLen) (hc' : HasE U q w) (hg : Ety w) (h0 : M.tcode P T = 0) (hpz : thingZ pz P = true) (c : Nat) (hu : M.tcode Q U = c) (hne : c ≠ 0) :
    Calls Tryd.prog 3 #[trV P p n cap, trV Q q m cap', .int .i64 pz] w fun e w' => e = .returned (.bool true) ∧ Below w.heap.size w w' := by
  have hB0 : Below w.heap.size w ((w.alloc (.cells #[.int .i64 P, .slice p n cap] 24)).alloc (.cells #[.int .i64 Q, .slice q m cap'] 24)) := bel_al (bel_al (Below.refl _ _) _) _
  have hb2 := tbox_new (w.alloc (.cells #[.int .i64 P, .slice p n cap] 24)) Q q m cap'
  rw [show (w.alloc (.cells #[.int .i64 P, .slice p n cap] 24)).heap.size = w.heap.size + 1 by simp] at hb2
  obtain ⟨wb, hwb⟩ : ∃ wb, (w.alloc (.cells #[.int .i64 P, .slice p n cap] 24)).alloc (.cells #[.int .i64 Q, .slice q m cap'] 24) = wb := ⟨_, rfl⟩
  have hb1 : TBox wb w.heap.size P p n cap := hwb ▸ (tbox_new w P p n cap).later (bel_al (Below.refl _ _) (.cells #[.int .i64 Q, .slice q m cap'] 24)) (by simp)
  rw [hwb] at hB0 hb2
  have hcT := hc.later hB0
  have hcU := hc'.later hB0
  have hty := hg.later hB0
  have hC : Below wb.heap.size wb wb := Below.refl _ _
  have hk1 := hb1.procs
  have hk2 := hb1.events
  have hk3 := hb2.procs
  have hk4 := hb2.events
  have hok := M.tcode_zero.1 h0
  have hn : n ≤ 24 := hl ▸ hok.len
  have hd : ((c : Int) == 0) = false := by simp; omega
  have hpp := of_decide_eq_true (show decide (0 ≤ pz ∧ pz < P) = true from hpz)
  have d1 : decide (pz < 0) = false := decide_eq_false (by omega)
  have d2 : decide (P ≤ pz) = false := decide_eq_false (by omega)
  clear hpp
  go_enter Tryd.func3, Tryd.ntmps3
  go_wp2_with fail
  refine (refTrace_ok P T p n cap _ hl hmax hcT).mono ?_
  rw [h0]
  rintro e v1 ⟨rfl, hB⟩
  clear hk1 hk2 hk3 hk4
  replace hcT := hcT.later hB
  replace hcU := hcU.later hB
  replace hty := hty.later hB
  replace hb1 := hb1.later hB hb1.lt
  replace hb2 := hb2.later hB hb2.lt
  replace hC := bel_on hC hB
  have hk1 := hb1.procs
  have hk2 := hb1.events
  have hk3 := hb2.procs
  have hk4 := hb2.events
  clear hB
  go_wp2_with fail
  refine (check_tr P T p n cap _ hl hmax hcT).mono ?_
  rw [h0, terr_zero]
  rintro e v2 ⟨rfl, hB⟩
  clear hk1 hk2 hk3 hk4
  replace hcT := hcT.later hB
  replace hcU := hcU.later hB
  replace hty := hty.later hB
  replace hb1 := hb1.later hB hb1.lt
  replace hb2 := hb2.later hB hb2.lt
  replace hC := bel_on hC hB
  have hk1 := hb1.procs
  have hk2 := hb1.events
  have hk3 := hb2.procs
  have hk4 := hb2.events
  clear hB
  go_wp2_with fail
  refine (error_none _).mono ?_
  rintro e v3 ⟨rfl, hB⟩
  clear hk1 hk2 hk3 hk4
  replace hcT := hcT.later hB
  replace hcU := hcU.later hB
  replace hty := hty.later hB
  replace hb1 := hb1.later hB hb1.lt
  replace hb2 := hb2.later hB hb2.lt
  replace hC := bel_on hC hB
  have hk1 := hb1.procs
  have hk2 := hb1.events
  have hk3 := hb2.procs
  have hk4 := hb2.events
  clear hB
  go_wp2_with fail
  refine (refBefore_ok P T p n cap _ hl hcT hok).mono ?_
  rintro e v4 ⟨qx, cx, rfl, hx, hB⟩
  clear hk1 hk2 hk3 hk4
  replace hcT := hcT.later hB
  replace hcU := hcU.later hB
  replace hty := hty.later hB
  replace hb1 := hb1.later hB hb1.lt
  replace hb2 := hb2.later hB hb2.lt
  replace hC := bel_on hC hB
  have hk1 := hb1.procs
  have hk2 := hb1.events
  have hk3 := hb2.procs
  have hk4 := hb2.events
  clear hB
  go_wp2_with fail
  refine (refOf_ok P pz T p n cap _ hl hcT hn).mono ?_
  rintro e v5 ⟨qy, cy, rfl, hy, hB⟩
  clear hk1 hk2 hk3 hk4
  replace hcT := hcT.later hB
  replace hcU := hcU.later hB
  replace hty := hty.later hB
  replace hx := hx.later hB
  replace hb1 := hb1.later hB hb1.lt
  replace hb2 := hb2.later hB hb2.lt
  replace hC := bel_on hC hB
  have hk1 := hb1.procs
  have hk2 := hb1.events
  have hk3 := hb2.procs
  have hk4 := hb2.events
  clear hB
  go_wp2_with fail
  refine (beforeI_ok P T p n cap _ hl hmax hcT h0).mono ?_
  rintro e v6 ⟨ql, rfl, hbl, hB⟩
  clear hk1 hk2 hk3 hk4
  replace hcT := hcT.later hB
  replace hcU := hcU.later hB
  replace hty := hty.later hB
  replace hx := hx.later hB
  replace hy := hy.later hB
  replace hb1 := hb1.later hB hb1.lt
  replace hb2 := hb2.later hB hb2.lt
  replace hC := bel_on hC hB
  have hk1 := hb1.procs
  have hk2 := hb1.events
  have hk3 := hb2.procs
  have hk4 := hb2.events
  clear hB
  go_wp2_with fail
  refine (error_none _).mono ?_
  rintro e v7 ⟨rfl, hB⟩
  clear hk1 hk2 hk3 hk4
  replace hcT := hcT.later hB
  replace hcU := hcU.later hB
  replace hty := hty.later hB
  replace hx := hx.later hB
  replace hy := hy.later hB
  replace hbl := hbl.later hB
  replace hb1 := hb1.later hB hb1.lt
  replace hb2 := hb2.later hB hb2.lt
  replace hC := bel_on hC hB
  have hk1 := hb1.procs
  have hk2 := hb1.events
  have hk3 := hb2.procs
  have hk4 := hb2.events
  clear hB
  go_wp2_with fail
  refine (same_intsI (ints (M.before T)) _ _ n n cx _ (by rw [ints_length, M.before_length, hl]) hmax hbl hx).mono ?_
  rintro e v8 ⟨rfl, hB⟩
  clear hk1 hk2 hk3 hk4
  replace hcT := hcT.later hB
  replace hcU := hcU.later hB
  replace hty := hty.later hB
  replace hx := hx.later hB
  replace hy := hy.later hB
  replace hbl := hbl.later hB
  replace hb1 := hb1.later hB hb1.lt
  replace hb2 := hb2.later hB hb2.lt
  replace hC := bel_on hC hB
  have hk1 := hb1.procs
  have hk2 := hb1.events
  have hk3 := hb2.procs
  have hk4 := hb2.events
  clear hB
  go_wp2_with fail
  refine (of_ok P pz T p n cap _ hl hmax hcT h0 hpz).mono ?_
  rintro e v9 ⟨qo, co, rfl, hof, hB⟩
  clear hk1 hk2 hk3 hk4
  replace hcT := hcT.later hB
  replace hcU := hcU.later hB
  replace hty := hty.later hB
  replace hx := hx.later hB
  replace hy := hy.later hB
  replace hbl := hbl.later hB
  replace hb1 := hb1.later hB hb1.lt
  replace hb2 := hb2.later hB hb2.lt
  replace hC := bel_on hC hB
  have hk1 := hb1.procs
  have hk2 := hb1.events
  have hk3 := hb2.procs
  have hk4 := hb2.events
  clear hB
  go_wp2_with fail
  refine (error_none _).mono ?_
  rintro e v10 ⟨rfl, hB⟩
  clear hk1 hk2 hk3 hk4
  replace hcT := hcT.later hB
  replace hcU := hcU.later hB
  replace hty := hty.later hB
  replace hx := hx.later hB
  replace hy := hy.later hB
  replace hbl := hbl.later hB
  replace hof := hof.later hB
  replace hb1 := hb1.later hB hb1.lt
  replace hb2 := hb2.later hB hb2.lt
  replace hC := bel_on hC hB
  have hk1 := hb1.procs
  have hk2 := hb1.events
  have hk3 := hb2.procs
  have hk4 := hb2.events
  clear hB
  go_wp2_with fail
  refine (same_intsI (ints (M.ofs T pz n)) _ _ _ co cy _ (ints_length _) (by have := M.ofs_length T pz n; omega) hof hy).mono ?_
  rintro e v11 ⟨rfl, hB⟩
  clear hk1 hk2 hk3 hk4
  replace hcT := hcT.later hB
  replace hcU := hcU.later hB
  replace hty := hty.later hB
  replace hx := hx.later hB
  replace hy := hy.later hB
  replace hbl := hbl.later hB
  replace hof := hof.later hB
  replace hb1 := hb1.later hB hb1.lt
  replace hb2 := hb2.later hB hb2.lt
  replace hC := bel_on hC hB
  have hk1 := hb1.procs
  have hk2 := hb1.events
  have hk3 := hb2.procs
  have hk4 := hb2.events
  clear hB
  go_wp2_with fail
  refine (refTrace_ok Q U q m cap' _ hl' hmax' hcU).mono ?_
  rw [hu]
  rintro e v12 ⟨rfl, hB⟩
  clear hk1 hk2 hk3 hk4
  replace hcT := hcT.later hB
  replace hcU := hcU.later hB
  replace hty := hty.later hB
  replace hx := hx.later hB
  replace hy := hy.later hB
  replace hbl := hbl.later hB
  replace hof := hof.later hB
  replace hb1 := hb1.later hB hb1.lt
  replace hb2 := hb2.later hB hb2.lt
  replace hC := bel_on hC hB
  have hk1 := hb1.procs
  have hk2 := hb1.events
  have hk3 := hb2.procs
  have hk4 := hb2.events
  clear hB
  go_wp2_with fail
  refine (same_err2 P Q T U p q n m cap cap' c _ hl hl' hmax hmax' hcT hcU h0 hu hne).mono ?_
  rintro e v13 ⟨rfl, hB⟩
  clear hk1 hk2 hk3 hk4
  replace hcT := hcT.later hB
  replace hcU := hcU.later hB
  replace hty := hty.later hB
  replace hx := hx.later hB
  replace hy := hy.later hB
  replace hbl := hbl.later hB
  replace hof := hof.later hB
  replace hb1 := hb1.later hB hb1.lt
  replace hb2 := hb2.later hB hb2.lt
  replace hC := bel_on hC hB
  have hk1 := hb1.procs
  have hk2 := hb1.events
  have hk3 := hb2.procs
  have hk4 := hb2.events
  clear hB
  go_wp2_with fail
  refine (error_same (c : Nat) _ hty).mono ?_
  rintro e v14 ⟨rfl, hB⟩
  clear hk1 hk2 hk3 hk4
  replace hcT := hcT.later hB
  replace hcU := hcU.later hB
  replace hty := hty.later hB
  replace hx := hx.later hB
  replace hy := hy.later hB
  replace hbl := hbl.later hB
  replace hof := hof.later hB
  replace hb1 := hb1.later hB hb1.lt
  replace hb2 := hb2.later hB hb2.lt
  replace hC := bel_on hC hB
  have hk1 := hb1.procs
  have hk2 := hb1.events
  have hk3 := hb2.procs
  have hk4 := hb2.events
  clear hB
  go_wp2_with fail
  go_ret
  exact ⟨rfl, bel_on hB0 hC⟩
set_option maxRecDepth 100000 in
set_option maxHeartbeats 4000000 in
theorem tsy_out_ok (P : Int) (T : List (Int × Int)) (p : Option Addr) (n cap : Nat) (Q : Int) (U : List (Int × Int)) (q : Option Addr) (m cap' : Nat) (pz : Int) (w : World) (hl : T.length = n) (hmax : n ≤ maxLen) (hc : HasE T p w) (hl' : U.length = m) (hmax' : m ≤ maxLen) (hc' : HasE U q w) (hg : Ety w) (h0 : M.tcode P T = 0) (hpz : thingZ pz P = false) (hu : M.tcode Q U = 0) :
    Calls Tryd.prog 3 #[trV P p n cap, trV Q q m cap', .int .i64 pz] w fun e w' => e = .returned (.bool true) ∧ Below w.heap.size w w' := by
  have hB0 : Below w.heap.size w ((w.alloc (.cells #[.int .i64 P, .slice p n cap] 24)).alloc (.cells #[.int .i64 Q, .slice q m cap'] 24)) := bel_al (bel_al (Below.refl _ _) _) _
  have hb2 := tbox_new (w.alloc (.cells #[.int .i64 P, .slice p n cap] 24)) Q q m cap'
  rw [show (w.alloc (.cells #[.int .i64 P, .slice p n cap] 24)).heap.size = w.heap.size + 1 by simp] at hb2
  obtain ⟨wb, hwb⟩ : ∃ wb, (w.alloc (.cells #[.int .i64 P, .slice p n cap] 24)).alloc (.cells #[.int .i64 Q, .slice q m cap'] 24) = wb := ⟨_, rfl⟩
  have hb1 : TBox wb w.heap.size P p n cap := hwb ▸ (tbox_new w P p n cap).later (bel_al (Below.refl _ _) (.cells #[.int .i64 Q, .slice q m cap'] 24)) (by simp)
  rw [hwb] at hB0 hb2
  have hcT := hc.later hB0
  have hcU := hc'.later hB0
  have hty := hg.later hB0
  have hC : Below wb.heap.size wb wb := Below.refl _ _
  have hk1 := hb1.procs
  have hk2 := hb1.events
  have hk3 := hb2.procs
  have hk4 := hb2.events
  have hok := M.tcode_zero.1 h0
  have hn : n ≤ 24 := hl ▸ hok.len
  have hoku := M.tcode_zero.1 hu
  have hpp : ¬ (0 ≤ pz ∧ pz < P) := of_decide_eq_false (show decide (0 ≤ pz ∧ pz < P) = false from hpz)
  by_cases h9 : pz < 0
  · have d1 : decide (pz < 0) = true := decide_eq_true h9
    clear hpp h9
    go_enter Tryd.func3, Tryd.ntmps3
    go_wp2_with fail
    refine (refTrace_ok P T p n cap _ hl hmax hcT).mono ?_
    rw [h0]
    rintro e v1 ⟨rfl, hB⟩
    clear hk1 hk2 hk3 hk4
    replace hcT := hcT.later hB
    replace hcU := hcU.later hB
    replace hty := hty.later hB
    replace hb1 := hb1.later hB hb1.lt
    replace hb2 := hb2.later hB hb2.lt
    replace hC := bel_on hC hB
    have hk1 := hb1.procs
    have hk2 := hb1.events
    have hk3 := hb2.procs
    have hk4 := hb2.events
    clear hB
    go_wp2_with fail
    refine (check_tr P T p n cap _ hl hmax hcT).mono ?_
    rw [h0, terr_zero]
    rintro e v2 ⟨rfl, hB⟩
    clear hk1 hk2 hk3 hk4
    replace hcT := hcT.later hB
    replace hcU := hcU.later hB
    replace hty := hty.later hB
    replace hb1 := hb1.later hB hb1.lt
    replace hb2 := hb2.later hB hb2.lt
    replace hC := bel_on hC hB
    have hk1 := hb1.procs
    have hk2 := hb1.events
    have hk3 := hb2.procs
    have hk4 := hb2.events
    clear hB
    go_wp2_with fail
    refine (error_none _).mono ?_
    rintro e v3 ⟨rfl, hB⟩
    clear hk1 hk2 hk3 hk4
    replace hcT := hcT.later hB
    replace hcU := hcU.later hB
    replace hty := hty.later hB
    replace hb1 := hb1.later hB hb1.lt
    replace hb2 := hb2.later hB hb2.lt
    replace hC := bel_on hC hB
    have hk1 := hb1.procs
    have hk2 := hb1.events
    have hk3 := hb2.procs
    have hk4 := hb2.events
    clear hB
    go_wp2_with fail
    refine (refBefore_ok P T p n cap _ hl hcT hok).mono ?_
    rintro e v4 ⟨qx, cx, rfl, hx, hB⟩
    clear hk1 hk2 hk3 hk4
    replace hcT := hcT.later hB
    replace hcU := hcU.later hB
    replace hty := hty.later hB
    replace hb1 := hb1.later hB hb1.lt
    replace hb2 := hb2.later hB hb2.lt
    replace hC := bel_on hC hB
    have hk1 := hb1.procs
    have hk2 := hb1.events
    have hk3 := hb2.procs
    have hk4 := hb2.events
    clear hB
    go_wp2_with fail
    refine (beforeI_ok P T p n cap _ hl hmax hcT h0).mono ?_
    rintro e v5 ⟨ql, rfl, hbl, hB⟩
    clear hk1 hk2 hk3 hk4
    replace hcT := hcT.later hB
    replace hcU := hcU.later hB
    replace hty := hty.later hB
    replace hx := hx.later hB
    replace hb1 := hb1.later hB hb1.lt
    replace hb2 := hb2.later hB hb2.lt
    replace hC := bel_on hC hB
    have hk1 := hb1.procs
    have hk2 := hb1.events
    have hk3 := hb2.procs
    have hk4 := hb2.events
    clear hB
    go_wp2_with fail
    refine (error_none _).mono ?_
    rintro e v6 ⟨rfl, hB⟩
    clear hk1 hk2 hk3 hk4
    replace hcT := hcT.later hB
    replace hcU := hcU.later hB
    replace hty := hty.later hB
    replace hx := hx.later hB
    replace hbl := hbl.later hB
    replace hb1 := hb1.later hB hb1.lt
    replace hb2 := hb2.later hB hb2.lt
    replace hC := bel_on hC hB
    have hk1 := hb1.procs
    have hk2 := hb1.events
    have hk3 := hb2.procs
    have hk4 := hb2.events
    clear hB
    go_wp2_with fail
    refine (same_intsI (ints (M.before T)) _ _ n n cx _ (by rw [ints_length, M.before_length, hl]) hmax hbl hx).mono ?_
    rintro e v7 ⟨rfl, hB⟩
    clear hk1 hk2 hk3 hk4
    replace hcT := hcT.later hB
    replace hcU := hcU.later hB
    replace hty := hty.later hB
    replace hx := hx.later hB
    replace hbl := hbl.later hB
    replace hb1 := hb1.later hB hb1.lt
    replace hb2 := hb2.later hB hb2.lt
    replace hC := bel_on hC hB
    have hk1 := hb1.procs
    have hk2 := hb1.events
    have hk3 := hb2.procs
    have hk4 := hb2.events
    clear hB
    go_wp2_with fail
    refine (of_range P pz T p n cap _ hl hmax hcT h0 hpz).mono ?_
    rintro e v8 ⟨rfl, hB⟩
    clear hk1 hk2 hk3 hk4
    replace hcT := hcT.later hB
    replace hcU := hcU.later hB
    replace hty := hty.later hB
    replace hx := hx.later hB
    replace hbl := hbl.later hB
    replace hb1 := hb1.later hB hb1.lt
    replace hb2 := hb2.later hB hb2.lt
    replace hC := bel_on hC hB
    have hk1 := hb1.procs
    have hk2 := hb1.events
    have hk3 := hb2.procs
    have hk4 := hb2.events
    clear hB
    go_wp2_with fail
    refine (error_same 1 _ hty).mono ?_
    rintro e v9 ⟨rfl, hB⟩
    clear hk1 hk2 hk3 hk4
    replace hcT := hcT.later hB
    replace hcU := hcU.later hB
    replace hty := hty.later hB
    replace hx := hx.later hB
    replace hbl := hbl.later hB
    replace hb1 := hb1.later hB hb1.lt
    replace hb2 := hb2.later hB hb2.lt
    replace hC := bel_on hC hB
    have hk1 := hb1.procs
    have hk2 := hb1.events
    have hk3 := hb2.procs
    have hk4 := hb2.events
    clear hB
    go_wp2_with fail
    refine (ints_none _).mono ?_
    rintro e v10 ⟨rfl, hB⟩
    clear hk1 hk2 hk3 hk4
    replace hcT := hcT.later hB
    replace hcU := hcU.later hB
    replace hty := hty.later hB
    replace hx := hx.later hB
    replace hbl := hbl.later hB
    replace hb1 := hb1.later hB hb1.lt
    replace hb2 := hb2.later hB hb2.lt
    replace hC := bel_on hC hB
    have hk1 := hb1.procs
    have hk2 := hb1.events
    have hk3 := hb2.procs
    have hk4 := hb2.events
    clear hB
    go_wp2_with fail
    refine (refTrace_ok Q U q m cap' _ hl' hmax' hcU).mono ?_
    rw [hu]
    rintro e v11 ⟨rfl, hB⟩
    clear hk1 hk2 hk3 hk4
    replace hcT := hcT.later hB
    replace hcU := hcU.later hB
    replace hty := hty.later hB
    replace hx := hx.later hB
    replace hbl := hbl.later hB
    replace hb1 := hb1.later hB hb1.lt
    replace hb2 := hb2.later hB hb2.lt
    replace hC := bel_on hC hB
    have hk1 := hb1.procs
    have hk2 := hb1.events
    have hk3 := hb2.procs
    have hk4 := hb2.events
    clear hB
    go_wp2_with fail
    refine (refSame_ok P Q T U p q n m cap cap' _ hl hl' hcT hcU hok hoku).mono ?_
    rintro e v12 ⟨rfl, hB⟩
    clear hk1 hk2 hk3 hk4
    replace hcT := hcT.later hB
    replace hcU := hcU.later hB
    replace hty := hty.later hB
    replace hx := hx.later hB
    replace hbl := hbl.later hB
    replace hb1 := hb1.later hB hb1.lt
    replace hb2 := hb2.later hB hb2.lt
    replace hC := bel_on hC hB
    have hk1 := hb1.procs
    have hk2 := hb1.events
    have hk3 := hb2.procs
    have hk4 := hb2.events
    clear hB
    go_wp2_with fail
    refine (same_ok P Q T U p q n m cap cap' _ hl hl' hmax hmax' hcT hcU h0 hu).mono ?_
    rintro e v13 ⟨rfl, hB⟩
    clear hk1 hk2 hk3 hk4
    replace hcT := hcT.later hB
    replace hcU := hcU.later hB
    replace hty := hty.later hB
    replace hx := hx.later hB
    replace hbl := hbl.later hB
    replace hb1 := hb1.later hB hb1.lt
    replace hb2 := hb2.later hB hb2.lt
    replace hC := bel_on hC hB
    have hk1 := hb1.procs
    have hk2 := hb1.events
    have hk3 := hb2.procs
    have hk4 := hb2.events
    clear hB
    go_wp2_with fail
    refine (error_none _).mono ?_
    rintro e v14 ⟨rfl, hB⟩
    clear hk1 hk2 hk3 hk4
    replace hcT := hcT.later hB
    replace hcU := hcU.later hB
    replace hty := hty.later hB
    replace hx := hx.later hB
    replace hbl := hbl.later hB
    replace hb1 := hb1.later hB hb1.lt
    replace hb2 := hb2.later hB hb2.lt
    replace hC := bel_on hC hB
    have hk1 := hb1.procs
    have hk2 := hb1.events
    have hk3 := hb2.procs
    have hk4 := hb2.events
    clear hB
    go_wp2_with fail
    go_ret
    exact ⟨rfl, bel_on hB0 hC⟩
  · have d1 : decide (pz < 0) = false := decide_eq_false h9
    have d2 : decide (P ≤ pz) = true := decide_eq_true (by omega)
    clear hpp h9
    go_enter Tryd.func3, Tryd.ntmps3
    go_wp2_with fail
    refine (refTrace_ok P T p n cap _ hl hmax hcT).mono ?_
    rw [h0]
    rintro e v1 ⟨rfl, hB⟩
    clear hk1 hk2 hk3 hk4
    replace hcT := hcT.later hB
    replace hcU := hcU.later hB
    replace hty := hty.later hB
    replace hb1 := hb1.later hB hb1.lt
    replace hb2 := hb2.later hB hb2.lt
    replace hC := bel_on hC hB
    have hk1 := hb1.procs
    have hk2 := hb1.events
    have hk3 := hb2.procs
    have hk4 := hb2.events
    clear hB
    go_wp2_with fail
    refine (check_tr P T p n cap _ hl hmax hcT).mono ?_
    rw [h0, terr_zero]
    rintro e v2 ⟨rfl, hB⟩
    clear hk1 hk2 hk3 hk4
    replace hcT := hcT.later hB
    replace hcU := hcU.later hB
    replace hty := hty.later hB
    replace hb1 := hb1.later hB hb1.lt
    replace hb2 := hb2.later hB hb2.lt
    replace hC := bel_on hC hB
    have hk1 := hb1.procs
    have hk2 := hb1.events
    have hk3 := hb2.procs
    have hk4 := hb2.events
    clear hB
    go_wp2_with fail
    refine (error_none _).mono ?_
    rintro e v3 ⟨rfl, hB⟩
    clear hk1 hk2 hk3 hk4
    replace hcT := hcT.later hB
    replace hcU := hcU.later hB
    replace hty := hty.later hB
    replace hb1 := hb1.later hB hb1.lt
    replace hb2 := hb2.later hB hb2.lt
    replace hC := bel_on hC hB
    have hk1 := hb1.procs
    have hk2 := hb1.events
    have hk3 := hb2.procs
    have hk4 := hb2.events
    clear hB
    go_wp2_with fail
    refine (refBefore_ok P T p n cap _ hl hcT hok).mono ?_
    rintro e v4 ⟨qx, cx, rfl, hx, hB⟩
    clear hk1 hk2 hk3 hk4
    replace hcT := hcT.later hB
    replace hcU := hcU.later hB
    replace hty := hty.later hB
    replace hb1 := hb1.later hB hb1.lt
    replace hb2 := hb2.later hB hb2.lt
    replace hC := bel_on hC hB
    have hk1 := hb1.procs
    have hk2 := hb1.events
    have hk3 := hb2.procs
    have hk4 := hb2.events
    clear hB
    go_wp2_with fail
    refine (beforeI_ok P T p n cap _ hl hmax hcT h0).mono ?_
    rintro e v5 ⟨ql, rfl, hbl, hB⟩
    clear hk1 hk2 hk3 hk4
    replace hcT := hcT.later hB
    replace hcU := hcU.later hB
    replace hty := hty.later hB
    replace hx := hx.later hB
    replace hb1 := hb1.later hB hb1.lt
    replace hb2 := hb2.later hB hb2.lt
    replace hC := bel_on hC hB
    have hk1 := hb1.procs
    have hk2 := hb1.events
    have hk3 := hb2.procs
    have hk4 := hb2.events
    clear hB
    go_wp2_with fail
    refine (error_none _).mono ?_
    rintro e v6 ⟨rfl, hB⟩
    clear hk1 hk2 hk3 hk4
    replace hcT := hcT.later hB
    replace hcU := hcU.later hB
    replace hty := hty.later hB
    replace hx := hx.later hB
    replace hbl := hbl.later hB
    replace hb1 := hb1.later hB hb1.lt
    replace hb2 := hb2.later hB hb2.lt
    replace hC := bel_on hC hB
    have hk1 := hb1.procs
    have hk2 := hb1.events
    have hk3 := hb2.procs
    have hk4 := hb2.events
    clear hB
    go_wp2_with fail
    refine (same_intsI (ints (M.before T)) _ _ n n cx _ (by rw [ints_length, M.before_length, hl]) hmax hbl hx).mono ?_
    rintro e v7 ⟨rfl, hB⟩
    clear hk1 hk2 hk3 hk4
    replace hcT := hcT.later hB
    replace hcU := hcU.later hB
    replace hty := hty.later hB
    replace hx := hx.later hB
    replace hbl := hbl.later hB
    replace hb1 := hb1.later hB hb1.lt
    replace hb2 := hb2.later hB hb2.lt
    replace hC := bel_on hC hB
    have hk1 := hb1.procs
    have hk2 := hb1.events
    have hk3 := hb2.procs
    have hk4 := hb2.events
    clear hB
    go_wp2_with fail
    refine (of_range P pz T p n cap _ hl hmax hcT h0 hpz).mono ?_
    rintro e v8 ⟨rfl, hB⟩
    clear hk1 hk2 hk3 hk4
    replace hcT := hcT.later hB
    replace hcU := hcU.later hB
    replace hty := hty.later hB
    replace hx := hx.later hB
    replace hbl := hbl.later hB
    replace hb1 := hb1.later hB hb1.lt
    replace hb2 := hb2.later hB hb2.lt
    replace hC := bel_on hC hB
    have hk1 := hb1.procs
    have hk2 := hb1.events
    have hk3 := hb2.procs
    have hk4 := hb2.events
    clear hB
    go_wp2_with fail
    refine (error_same 1 _ hty).mono ?_
    rintro e v9 ⟨rfl, hB⟩
    clear hk1 hk2 hk3 hk4
    replace hcT := hcT.later hB
    replace hcU := hcU.later hB
    replace hty := hty.later hB
    replace hx := hx.later hB
    replace hbl := hbl.later hB
    replace hb1 := hb1.later hB hb1.lt
    replace hb2 := hb2.later hB hb2.lt
    replace hC := bel_on hC hB
    have hk1 := hb1.procs
    have hk2 := hb1.events
    have hk3 := hb2.procs
    have hk4 := hb2.events
    clear hB
    go_wp2_with fail
    refine (ints_none _).mono ?_
    rintro e v10 ⟨rfl, hB⟩
    clear hk1 hk2 hk3 hk4
    replace hcT := hcT.later hB
    replace hcU := hcU.later hB
    replace hty := hty.later hB
    replace hx := hx.later hB
    replace hbl := hbl.later hB
    replace hb1 := hb1.later hB hb1.lt
    replace hb2 := hb2.later hB hb2.lt
    replace hC := bel_on hC hB
    have hk1 := hb1.procs
    have hk2 := hb1.events
    have hk3 := hb2.procs
    have hk4 := hb2.events
    clear hB
    go_wp2_with fail
    refine (refTrace_ok Q U q m cap' _ hl' hmax' hcU).mono ?_
    rw [hu]
    rintro e v11 ⟨rfl, hB⟩
    clear hk1 hk2 hk3 hk4
    replace hcT := hcT.later hB
    replace hcU := hcU.later hB
    replace hty := hty.later hB
    replace hx := hx.later hB
    replace hbl := hbl.later hB
    replace hb1 := hb1.later hB hb1.lt
    replace hb2 := hb2.later hB hb2.lt
    replace hC := bel_on hC hB
    have hk1 := hb1.procs
    have hk2 := hb1.events
    have hk3 := hb2.procs
    have hk4 := hb2.events
    clear hB
    go_wp2_with fail
    refine (refSame_ok P Q T U p q n m cap cap' _ hl hl' hcT hcU hok hoku).mono ?_
    rintro e v12 ⟨rfl, hB⟩
    clear hk1 hk2 hk3 hk4
    replace hcT := hcT.later hB
    replace hcU := hcU.later hB
    replace hty := hty.later hB
    replace hx := hx.later hB
    replace hbl := hbl.later hB
    replace hb1 := hb1.later hB hb1.lt
    replace hb2 := hb2.later hB hb2.lt
    replace hC := bel_on hC hB
    have hk1 := hb1.procs
    have hk2 := hb1.events
    have hk3 := hb2.procs
    have hk4 := hb2.events
    clear hB
    go_wp2_with fail
    refine (same_ok P Q T U p q n m cap cap' _ hl hl' hmax hmax' hcT hcU h0 hu).mono ?_
    rintro e v13 ⟨rfl, hB⟩
    clear hk1 hk2 hk3 hk4
    replace hcT := hcT.later hB
    replace hcU := hcU.later hB
    replace hty := hty.later hB
    replace hx := hx.later hB
    replace hbl := hbl.later hB
    replace hb1 := hb1.later hB hb1.lt
    replace hb2 := hb2.later hB hb2.lt
    replace hC := bel_on hC hB
    have hk1 := hb1.procs
    have hk2 := hb1.events
    have hk3 := hb2.procs
    have hk4 := hb2.events
    clear hB
    go_wp2_with fail
    refine (error_none _).mono ?_
    rintro e v14 ⟨rfl, hB⟩
    clear hk1 hk2 hk3 hk4
    replace hcT := hcT.later hB
    replace hcU := hcU.later hB
    replace hty := hty.later hB
    replace hx := hx.later hB
    replace hbl := hbl.later hB
    replace hb1 := hb1.later hB hb1.lt
    replace hb2 := hb2.later hB hb2.lt
    replace hC := bel_on hC hB
    have hk1 := hb1.procs
    have hk2 := hb1.events
    have hk3 := hb2.procs
    have hk4 := hb2.events
    clear hB
    go_wp2_with fail
    go_ret
    exact ⟨rfl, bel_on hB0 hC⟩
set_option maxRecDepth 100000 in
set_option maxHeartbeats 4000000 in
theorem tsy_out_bad (P : Int) (T : List (Int × Int)) (p : Option Addr) (n cap : Nat) (Q : Int) (U : List (Int × Int)) (q : Option Addr) (m cap' : Nat) (pz : Int) (w : World) (hl : T.length = n) (hmax : n ≤ maxLen) (hc : HasE T p w) (hl' : U.length = m) (hmax' : m ≤ maxLen) (hc' : HasE U q w) (hg : Ety w) (h0 : M.tcode P T = 0) (hpz : thingZ pz P = false) (c : Nat) (hu : M.tcode Q U = c) (hne : c ≠ 0) :
    Calls Tryd.prog 3 #[trV P p n cap, trV Q q m cap', .int .i64 pz] w fun e w' => e = .returned (.bool true) ∧ Below w.heap.size w w' := by
  have hB0 : Below w.heap.size w ((w.alloc (.cells #[.int .i64 P, .slice p n cap] 24)).alloc (.cells #[.int .i64 Q, .slice q m cap'] 24)) := bel_al (bel_al (Below.refl _ _) _) _
  have hb2 := tbox_new (w.alloc (.cells #[.int .i64 P, .slice p n cap] 24)) Q q m cap'
  rw [show (w.alloc (.cells #[.int .i64 P, .slice p n cap] 24)).heap.size = w.heap.size + 1 by simp] at hb2
  obtain ⟨wb, hwb⟩ : ∃ wb, (w.alloc (.cells #[.int .i64 P, .slice p n cap] 24)).alloc (.cells #[.int .i64 Q, .slice q m cap'] 24) = wb := ⟨_, rfl⟩
  have hb1 : TBox wb w.heap.size P p n cap := hwb ▸ (tbox_new w P p n cap).later (bel_al (Below.refl _ _) (.cells #[.int .i64 Q, .slice q m cap'] 24)) (by simp)
  rw [hwb] at hB0 hb2
  have hcT := hc.later hB0
  have hcU := hc'.later hB0
  have hty := hg.later hB0
  have hC : Below wb.heap.size wb wb := Below.refl _ _
  have hk1 := hb1.procs
  have hk2 := hb1.events
  have hk3 := hb2.procs
  have hk4 := hb2.events
  have hok := M.tcode_zero.1 h0
  have hn : n ≤ 24 := hl ▸ hok.len
  have hd : ((c : Int) == 0) = false := by simp; omega
  have hpp : ¬ (0 ≤ pz ∧ pz < P) := of_decide_eq_false (show decide (0 ≤ pz ∧ pz < P) = false from hpz)
  by_cases h9 : pz < 0
  · have d1 : decide (pz < 0) = true := decide_eq_true h9
    clear hpp h9
    go_enter Tryd.func3, Tryd.ntmps3
    go_wp2_with fail
    refine (refTrace_ok P T p n cap _ hl hmax hcT).mono ?_
    rw [h0]
    rintro e v1 ⟨rfl, hB⟩
    clear hk1 hk2 hk3 hk4
    replace hcT := hcT.later hB
    replace hcU := hcU.later hB
    replace hty := hty.later hB
    replace hb1 := hb1.later hB hb1.lt
    replace hb2 := hb2.later hB hb2.lt
    replace hC := bel_on hC hB
    have hk1 := hb1.procs
    have hk2 := hb1.events
    have hk3 := hb2.procs
    have hk4 := hb2.events
    clear hB
    go_wp2_with fail
    refine (check_tr P T p n cap _ hl hmax hcT).mono ?_
    rw [h0, terr_zero]
    rintro e v2 ⟨rfl, hB⟩
    clear hk1 hk2 hk3 hk4
    replace hcT := hcT.later hB
    replace hcU := hcU.later hB
    replace hty := hty.later hB
    replace hb1 := hb1.later hB hb1.lt
    replace hb2 := hb2.later hB hb2.lt
    replace hC := bel_on hC hB
    have hk1 := hb1.procs
    have hk2 := hb1.events
    have hk3 := hb2.procs
    have hk4 := hb2.events
    clear hB
    go_wp2_with fail
    refine (error_none _).mono ?_
    rintro e v3 ⟨rfl, hB⟩
    clear hk1 hk2 hk3 hk4
    replace hcT := hcT.later hB
    replace hcU := hcU.later hB
    replace hty := hty.later hB
    replace hb1 := hb1.later hB hb1.lt
    replace hb2 := hb2.later hB hb2.lt
    replace hC := bel_on hC hB
    have hk1 := hb1.procs
    have hk2 := hb1.events
    have hk3 := hb2.procs
    have hk4 := hb2.events
    clear hB
    go_wp2_with fail
    refine (refBefore_ok P T p n cap _ hl hcT hok).mono ?_
    rintro e v4 ⟨qx, cx, rfl, hx, hB⟩
    clear hk1 hk2 hk3 hk4
    replace hcT := hcT.later hB
    replace hcU := hcU.later hB
    replace hty := hty.later hB
    replace hb1 := hb1.later hB hb1.lt
    replace hb2 := hb2.later hB hb2.lt
    replace hC := bel_on hC hB
    have hk1 := hb1.procs
    have hk2 := hb1.events
    have hk3 := hb2.procs
    have hk4 := hb2.events
    clear hB
    go_wp2_with fail
    refine (beforeI_ok P T p n cap _ hl hmax hcT h0).mono ?_
    rintro e v5 ⟨ql, rfl, hbl, hB⟩
    clear hk1 hk2 hk3 hk4
    replace hcT := hcT.later hB
    replace hcU := hcU.later hB
    replace hty := hty.later hB
    replace hx := hx.later hB
    replace hb1 := hb1.later hB hb1.lt
    replace hb2 := hb2.later hB hb2.lt
    replace hC := bel_on hC hB
    have hk1 := hb1.procs
    have hk2 := hb1.events
    have hk3 := hb2.procs
    have hk4 := hb2.events
    clear hB
    go_wp2_with fail
    refine (error_none _).mono ?_
    rintro e v6 ⟨rfl, hB⟩
    clear hk1 hk2 hk3 hk4
    replace hcT := hcT.later hB
    replace hcU := hcU.later hB
    replace hty := hty.later hB
    replace hx := hx.later hB
    replace hbl := hbl.later hB
    replace hb1 := hb1.later hB hb1.lt
    replace hb2 := hb2.later hB hb2.lt
    replace hC := bel_on hC hB
    have hk1 := hb1.procs
    have hk2 := hb1.events
    have hk3 := hb2.procs
    have hk4 := hb2.events
    clear hB
    go_wp2_with fail
    refine (same_intsI (ints (M.before T)) _ _ n n cx _ (by rw [ints_length, M.before_length, hl]) hmax hbl hx).mono ?_
    rintro e v7 ⟨rfl, hB⟩
    clear hk1 hk2 hk3 hk4
    replace hcT := hcT.later hB
    replace hcU := hcU.later hB
    replace hty := hty.later hB
    replace hx := hx.later hB
    replace hbl := hbl.later hB
    replace hb1 := hb1.later hB hb1.lt
    replace hb2 := hb2.later hB hb2.lt
    replace hC := bel_on hC hB
    have hk1 := hb1.procs
    have hk2 := hb1.events
    have hk3 := hb2.procs
    have hk4 := hb2.events
    clear hB
    go_wp2_with fail
    refine (of_range P pz T p n cap _ hl hmax hcT h0 hpz).mono ?_
    rintro e v8 ⟨rfl, hB⟩
    clear hk1 hk2 hk3 hk4
    replace hcT := hcT.later hB
    replace hcU := hcU.later hB
    replace hty := hty.later hB
    replace hx := hx.later hB
    replace hbl := hbl.later hB
    replace hb1 := hb1.later hB hb1.lt
    replace hb2 := hb2.later hB hb2.lt
    replace hC := bel_on hC hB
    have hk1 := hb1.procs
    have hk2 := hb1.events
    have hk3 := hb2.procs
    have hk4 := hb2.events
    clear hB
    go_wp2_with fail
    refine (error_same 1 _ hty).mono ?_
    rintro e v9 ⟨rfl, hB⟩
    clear hk1 hk2 hk3 hk4
    replace hcT := hcT.later hB
    replace hcU := hcU.later hB
    replace hty := hty.later hB
    replace hx := hx.later hB
    replace hbl := hbl.later hB
    replace hb1 := hb1.later hB hb1.lt
    replace hb2 := hb2.later hB hb2.lt
    replace hC := bel_on hC hB
    have hk1 := hb1.procs
    have hk2 := hb1.events
    have hk3 := hb2.procs
    have hk4 := hb2.events
    clear hB
    go_wp2_with fail
    refine (ints_none _).mono ?_
    rintro e v10 ⟨rfl, hB⟩
    clear hk1 hk2 hk3 hk4
    replace hcT := hcT.later hB
    replace hcU := hcU.later hB
    replace hty := hty.later hB
    replace hx := hx.later hB
    replace hbl := hbl.later hB
    replace hb1 := hb1.later hB hb1.lt
    replace hb2 := hb2.later hB hb2.lt
    replace hC := bel_on hC hB
    have hk1 := hb1.procs
    have hk2 := hb1.events
    have hk3 := hb2.procs
    have hk4 := hb2.events
    clear hB
    go_wp2_with fail
    refine (refTrace_ok Q U q m cap' _ hl' hmax' hcU).mono ?_
    rw [hu]
    rintro e v11 ⟨rfl, hB⟩
    clear hk1 hk2 hk3 hk4
    replace hcT := hcT.later hB
    replace hcU := hcU.later hB
    replace hty := hty.later hB
    replace hx := hx.later hB
    replace hbl := hbl.later hB
    replace hb1 := hb1.later hB hb1.lt
    replace hb2 := hb2.later hB hb2.lt
    replace hC := bel_on hC hB
    have hk1 := hb1.procs
    have hk2 := hb1.events
    have hk3 := hb2.procs
    have hk4 := hb2.events
    clear hB
    go_wp2_with fail
    refine (same_err2 P Q T U p q n m cap cap' c _ hl hl' hmax hmax' hcT hcU h0 hu hne).mono ?_
    rintro e v12 ⟨rfl, hB⟩
    clear hk1 hk2 hk3 hk4
    replace hcT := hcT.later hB
    replace hcU := hcU.later hB
    replace hty := hty.later hB
    replace hx := hx.later hB
    replace hbl := hbl.later hB
    replace hb1 := hb1.later hB hb1.lt
    replace hb2 := hb2.later hB hb2.lt
    replace hC := bel_on hC hB
    have hk1 := hb1.procs
    have hk2 := hb1.events
    have hk3 := hb2.procs
    have hk4 := hb2.events
    clear hB
    go_wp2_with fail
    refine (error_same (c : Nat) _ hty).mono ?_
    rintro e v13 ⟨rfl, hB⟩
    clear hk1 hk2 hk3 hk4
    replace hcT := hcT.later hB
    replace hcU := hcU.later hB
    replace hty := hty.later hB
    replace hx := hx.later hB
    replace hbl := hbl.later hB
    replace hb1 := hb1.later hB hb1.lt
    replace hb2 := hb2.later hB hb2.lt
    replace hC := bel_on hC hB
    have hk1 := hb1.procs
    have hk2 := hb1.events
    have hk3 := hb2.procs
    have hk4 := hb2.events
    clear hB
    go_wp2_with fail
    go_ret
    exact ⟨rfl, bel_on hB0 hC⟩
  · have d1 : decide (pz < 0) = false := decide_eq_false h9
    have d2 : decide (P ≤ pz) = true := decide_eq_true (by omega)
    clear hpp h9
    go_enter Tryd.func3, Tryd.ntmps3
    go_wp2_with fail
    refine (refTrace_ok P T p n cap _ hl hmax hcT).mono ?_
    rw [h0]
    rintro e v1 ⟨rfl, hB⟩
    clear hk1 hk2 hk3 hk4
    replace hcT := hcT.later hB
    replace hcU := hcU.later hB
    replace hty := hty.later hB
    replace hb1 := hb1.later hB hb1.lt
    replace hb2 := hb2.later hB hb2.lt
    replace hC := bel_on hC hB
    have hk1 := hb1.procs
    have hk2 := hb1.events
    have hk3 := hb2.procs
    have hk4 := hb2.events
    clear hB
    go_wp2_with fail
    refine (check_tr P T p n cap _ hl hmax hcT).mono ?_
    rw [h0, terr_zero]
    rintro e v2 ⟨rfl, hB⟩
    clear hk1 hk2 hk3 hk4
    replace hcT := hcT.later hB
    replace hcU := hcU.later hB
    replace hty := hty.later hB
    replace hb1 := hb1.later hB hb1.lt
    replace hb2 := hb2.later hB hb2.lt
    replace hC := bel_on hC hB
    have hk1 := hb1.procs
    have hk2 := hb1.events
    have hk3 := hb2.procs
    have hk4 := hb2.events
    clear hB
    go_wp2_with fail
    refine (error_none _).mono ?_
    rintro e v3 ⟨rfl, hB⟩
    clear hk1 hk2 hk3 hk4
    replace hcT := hcT.later hB
    replace hcU := hcU.later hB
    replace hty := hty.later hB
    replace hb1 := hb1.later hB hb1.lt
    replace hb2 := hb2.later hB hb2.lt
    replace hC := bel_on hC hB
    have hk1 := hb1.procs
    have hk2 := hb1.events
    have hk3 := hb2.procs
    have hk4 := hb2.events
    clear hB
    go_wp2_with fail
    refine (refBefore_ok P T p n cap _ hl hcT hok).mono ?_
    rintro e v4 ⟨qx, cx, rfl, hx, hB⟩
    clear hk1 hk2 hk3 hk4
    replace hcT := hcT.later hB
    replace hcU := hcU.later hB
    replace hty := hty.later hB
    replace hb1 := hb1.later hB hb1.lt
    replace hb2 := hb2.later hB hb2.lt
    replace hC := bel_on hC hB
    have hk1 := hb1.procs
    have hk2 := hb1.events
    have hk3 := hb2.procs
    have hk4 := hb2.events
    clear hB
    go_wp2_with fail
    refine (beforeI_ok P T p n cap _ hl hmax hcT h0).mono ?_
    rintro e v5 ⟨ql, rfl, hbl, hB⟩
    clear hk1 hk2 hk3 hk4
    replace hcT := hcT.later hB
    replace hcU := hcU.later hB
    replace hty := hty.later hB
    replace hx := hx.later hB
    replace hb1 := hb1.later hB hb1.lt
    replace hb2 := hb2.later hB hb2.lt
    replace hC := bel_on hC hB
    have hk1 := hb1.procs
    have hk2 := hb1.events
    have hk3 := hb2.procs
    have hk4 := hb2.events
    clear hB
    go_wp2_with fail
    refine (error_none _).mono ?_
    rintro e v6 ⟨rfl, hB⟩
    clear hk1 hk2 hk3 hk4
    replace hcT := hcT.later hB
    replace hcU := hcU.later hB
    replace hty := hty.later hB
    replace hx := hx.later hB
    replace hbl := hbl.later hB
    replace hb1 := hb1.later hB hb1.lt
    replace hb2 := hb2.later hB hb2.lt
    replace hC := bel_on hC hB
    have hk1 := hb1.procs
    have hk2 := hb1.events
    have hk3 := hb2.procs
    have hk4 := hb2.events
    clear hB
    go_wp2_with fail
    refine (same_intsI (ints (M.before T)) _ _ n n cx _ (by rw [ints_length, M.before_length, hl]) hmax hbl hx).mono ?_
    rintro e v7 ⟨rfl, hB⟩
    clear hk1 hk2 hk3 hk4
    replace hcT := hcT.later hB
    replace hcU := hcU.later hB
    replace hty := hty.later hB
    replace hx := hx.later hB
    replace hbl := hbl.later hB
    replace hb1 := hb1.later hB hb1.lt
    replace hb2 := hb2.later hB hb2.lt
    replace hC := bel_on hC hB
    have hk1 := hb1.procs
    have hk2 := hb1.events
    have hk3 := hb2.procs
    have hk4 := hb2.events
    clear hB
    go_wp2_with fail
    refine (of_range P pz T p n cap _ hl hmax hcT h0 hpz).mono ?_
    rintro e v8 ⟨rfl, hB⟩
    clear hk1 hk2 hk3 hk4
    replace hcT := hcT.later hB
    replace hcU := hcU.later hB
    replace hty := hty.later hB
    replace hx := hx.later hB
    replace hbl := hbl.later hB
    replace hb1 := hb1.later hB hb1.lt
    replace hb2 := hb2.later hB hb2.lt
    replace hC := bel_on hC hB
    have hk1 := hb1.procs
    have hk2 := hb1.events
    have hk3 := hb2.procs
    have hk4 := hb2.events
    clear hB
    go_wp2_with fail
    refine (error_same 1 _ hty).mono ?_
    rintro e v9 ⟨rfl, hB⟩
    clear hk1 hk2 hk3 hk4
    replace hcT := hcT.later hB
    replace hcU := hcU.later hB
    replace hty := hty.later hB
    replace hx := hx.later hB
    replace hbl := hbl.later hB
    replace hb1 := hb1.later hB hb1.lt
    replace hb2 := hb2.later hB hb2.lt
    replace hC := bel_on hC hB
    have hk1 := hb1.procs
    have hk2 := hb1.events
    have hk3 := hb2.procs
    have hk4 := hb2.events
    clear hB
    go_wp2_with fail
    refine (ints_none _).mono ?_
    rintro e v10 ⟨rfl, hB⟩
    clear hk1 hk2 hk3 hk4
    replace hcT := hcT.later hB
    replace hcU := hcU.later hB
    replace hty := hty.later hB
    replace hx := hx.later hB
    replace hbl := hbl.later hB
    replace hb1 := hb1.later hB hb1.lt
    replace hb2 := hb2.later hB hb2.lt
    replace hC := bel_on hC hB
    have hk1 := hb1.procs
    have hk2 := hb1.events
    have hk3 := hb2.procs
    have hk4 := hb2.events
    clear hB
    go_wp2_with fail
    refine (refTrace_ok Q U q m cap' _ hl' hmax' hcU).mono ?_
    rw [hu]
    rintro e v11 ⟨rfl, hB⟩
    clear hk1 hk2 hk3 hk4
    replace hcT := hcT.later hB
    replace hcU := hcU.later hB
    replace hty := hty.later hB
    replace hx := hx.later hB
    replace hbl := hbl.later hB
    replace hb1 := hb1.later hB hb1.lt
    replace hb2 := hb2.later hB hb2.lt
    replace hC := bel_on hC hB
    have hk1 := hb1.procs
    have hk2 := hb1.events
    have hk3 := hb2.procs
    have hk4 := hb2.events
    clear hB
    go_wp2_with fail
    refine (same_err2 P Q T U p q n m cap cap' c _ hl hl' hmax hmax' hcT hcU h0 hu hne).mono ?_
    rintro e v12 ⟨rfl, hB⟩
    clear hk1 hk2 hk3 hk4
    replace hcT := hcT.later hB
    replace hcU := hcU.later hB
    replace hty := hty.later hB
    replace hx := hx.later hB
    replace hbl := hbl.later hB
    replace hb1 := hb1.later hB hb1.lt
    replace hb2 := hb2.later hB hb2.lt
    replace hC := bel_on hC hB
    have hk1 := hb1.procs
    have hk2 := hb1.events
    have hk3 := hb2.procs
    have hk4 := hb2.events
    clear hB
    go_wp2_with fail
    refine (error_same (c : Nat) _ hty).mono ?_
    rintro e v13 ⟨rfl, hB⟩
    clear hk1 hk2 hk3 hk4
    replace hcT := hcT.later hB
    replace hcU := hcU.later hB
    replace hty := hty.later hB
    replace hx := hx.later hB
    replace hbl := hbl.later hB
    replace hb1 := hb1.later hB hb1.lt
    replace hb2 := hb2.later hB hb2.lt
    replace hC := bel_on hC hB
    have hk1 := hb1.procs
    have hk2 := hb1.events
    have hk3 := hb2.procs
    have hk4 := hb2.events
    clear hB
    go_wp2_with fail
    go_ret
    exact ⟨rfl, bel_on hB0 hC⟩
theorem tsy_walk (P : Int) (T : List (Int × Int)) (p : Option Addr) (n cap : Nat) (Q : Int) (U : List (Int × Int)) (q : Option Addr) (m cap' : Nat) (pz : Int) (w : World) (hg : Ety w) (hl : T.length = n) (hmax : n ≤ maxLen) (hc : HasE T p w) (hl' : U.length = m) (hmax' : m ≤ maxLen) (hc' : HasE U q w) (_hiz : (Lit.int .i64 pz).wf = true) :
    Calls Tryd.prog 3 #[trV P p n cap, trV Q q m cap', .int .i64 pz] w fun e w' => e = .returned (.bool true) ∧ Below w.heap.size w w' := by
  by_cases h0 : M.tcode P T = 0
  · cases hpz : thingZ pz P with
    | true =>
      by_cases hu : M.tcode Q U = 0
      · exact tsy_in_ok P T p n cap Q U q m cap' pz w hl hmax hc hl' hmax' hc' hg h0 hpz hu
      · exact tsy_in_bad P T p n cap Q U q m cap' pz w hl hmax hc hl' hmax' hc' hg h0 hpz _ rfl hu
    | false =>
      by_cases hu : M.tcode Q U = 0
      · exact tsy_out_ok P T p n cap Q U q m cap' pz w hl hmax hc hl' hmax' hc' hg h0 hpz hu
      · exact tsy_out_bad P T p n cap Q U q m cap' pz w hl hmax hc hl' hmax' hc' hg h0 hpz _ rfl hu
  · exact tsy_bad P T p n cap Q U q m cap' pz w hl hmax hc hl' hmax' hc' hg _ rfl h0
end Go.Proofs.YtnofgmbpkgnciaaDoor
