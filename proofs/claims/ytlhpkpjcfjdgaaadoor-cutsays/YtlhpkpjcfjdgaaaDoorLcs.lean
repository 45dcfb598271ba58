/- OF ANY TRACE AND ANY CUT ITS EVENTS, WHETHER IT IS WHOLE, THE LINE IN IT, AND HOW MANY WHOLE ONES THERE ARE (law CutSays): whatever the trace and the cut, the call returns true; what lay in memory lies as it lay. -/
import Derived.Test.YtlhpkpjcfjdgaaaDoorErr
import Derived.Test.YtlhpkpjcfjdgaaaDoorRefCt4
import Derived.Test.YtlhpkpjcfjdgaaaDoorBCc
namespace Go.Proofs.YtlhpkpjcfjdgaaaDoor
open Go.RowKit

theorem err_none (w : World) : Calls Tryd.prog 12 #[.nilIface, .int .i64 0] w fun e w' => e = .returned (.bool true) ∧ Below w.heap.size w w' := by
  refine (error_nil w).mono ?_
  rintro e w' ⟨rfl, rfl⟩
  exact ⟨rfl, Below.refl _ _⟩
theorem ints_none (w : World) : Calls Tryd.prog 20 #[.slice none 0 0, .slice none 0 0] w fun e w' => e = .returned (.bool true) ∧ Below w.heap.size w w' :=
  same_intsI [] none none 0 0 0 w rfl (Nat.zero_le _) (fun _ hj => absurd hj (Nat.not_lt_zero _)) (fun _ hj => absurd hj (Nat.not_lt_zero _))
theorem refLineI_ok (T : List (Int × Int)) (p : Option Addr) (n cap : Nat) (c : List Nat) (q : Option Addr) (m cap2 : Nat) (w : World) (hl : T.length = n) (hc : HasE T p w) (hlc : c.length = m) (hz : HasI (ints c) q w) (hok : M.TOk (m : Nat) T) :
    Calls Tryd.prog 16 #[trV (m : Nat) p n cap, .slice q m cap2] w fun e w' => ∃ q, e = .returned (.slice q m m) ∧ HasI (ints (M.line T c)) q w' ∧ Below w.heap.size w w' := by
  refine (refLine_ok T p n cap c q m cap2 w hl hc hlc hz hok).mono ?_
  rintro e w' ⟨A, rfl, hr, hB⟩
  exact ⟨_, rfl, hr.hasI, hB⟩
theorem clineI_ok (P : Int) (T : List (Int × Int)) (p : Option Addr) (n cap : Nat) (c : List Nat) (q : Option Addr) (m cap2 : Nat) (w : World) (hl : T.length = n) (he : Env w) (hmax : n ≤ maxLen) (hc : HasE T p w) (hl2 : (ints c).length = m) (hmax2 : m ≤ maxLen) (hz : HasI (ints c) q w) (h0 : M.ccode P T (ints c) = 0) :
    Calls Tryd.prog 19 #[trV P p n cap, .slice q m cap2] w fun e w' => ∃ q, e = .returned (.tuple #[.slice q m m, .nilIface]) ∧ HasI (ints (M.line T c)) q w' ∧ Below w.heap.size w w' := by
  refine (cline_ok P T p n cap (ints c) q m cap2 w hl he hmax hc hl2 hmax2 hz h0).mono ?_
  rw [cof0_ints]
  rintro e w' ⟨A, rfl, hr, _, hB⟩
  exact ⟨_, rfl, hr.hasI, hB⟩
set_option maxRecDepth 100000 in
set_option maxHeartbeats 1500000 in
theorem cs_walk (P : Int) (T : List (Int × Int)) (p : Option Addr) (n cap : Nat) (zs : List Int) (q : Option Addr) (m cap2 : Nat) (w : World) (he : Env w) (hty : Ety w) (hl : T.length = n) (hmax : n ≤ maxLen) (hcT : HasE T p w) (hl2 : zs.length = m) (hmax2 : m ≤ maxLen) (hzs : HasI zs q w) (_hwf : ∀ k : Nat, zs[k]?.getD 0 < 9223372036854775808) :
    Calls Tryd.prog 3 #[trV P p n cap, .slice q m cap2] w fun e w' => e = .returned (.bool true) ∧ Below w.heap.size w w' := by
  obtain ⟨wa, hwa⟩ : ∃ wa, w.alloc (.cells #[.int .i64 P, .slice p n cap] 24) = wa := ⟨_, rfl⟩
  have hb1 : TBox wa w.heap.size P p n cap := hwa ▸ tbox_new w P p n cap
  have hB0 : Below w.heap.size w wa := hwa ▸ bel_al (Below.refl _ _) _
  replace hcT := hcT.later hB0
  replace hzs := hzs.later hB0
  replace hty := hty.later hB0
  replace he := he.later hB0
  have hC : Below wa.heap.size wa wa := Below.refl _ _
  have hk1 := hb1.procs
  have hk2 := hb1.events
  have hkl := hb1.lt
  go_enter Tryd.func3, Tryd.ntmps3
  go_upto_region 1 with fail
  clear hwa
  by_cases h0 : M.tcode P T ≠ 0
  · obtain ⟨tc, htc⟩ : ∃ tc, M.tcode P T = tc := ⟨_, rfl⟩
    rw [htc] at h0
    have hne : tc ≠ 0 := h0
    have hcc : M.ccode P T zs = tc := M.ccode_tr htc hne
    have g1 : ((tc : Int) == 0) = false := by simp; omega
    have g2 : (tc == 0) = false := by simpa using hne
    have HNE : Hid (tc ≠ 0) := hne
    clear h0 hne
    go_wp2_with fail
    refine (refTrace_ok P T p n cap _ hl hmax hcT).mono ?_
    rw [htc]
    rintro e v1 ⟨rfl, hB⟩
    clear hk1 hk2 hkl
    replace hcT := hcT.later hB
    replace hzs := hzs.later hB
    replace hty := hty.later hB
    replace he := he.later hB
    replace hb1 := hb1.later hB hb1.lt
    replace hC := bel_on hC hB
    have hk1 := hb1.procs
    have hk2 := hb1.events
    have hkl := hb1.lt
    clear hB
    go_wp2_with fail
    refine (count_err P T p n cap _ hl hmax hcT tc htc HNE.out).mono ?_
    rintro e v2 ⟨rfl, hB⟩
    clear hk1 hk2 hkl
    replace hcT := hcT.later hB
    replace hzs := hzs.later hB
    replace hty := hty.later hB
    replace he := he.later hB
    replace hb1 := hb1.later hB hb1.lt
    replace hC := bel_on hC hB
    have hk1 := hb1.procs
    have hk2 := hb1.events
    have hkl := hb1.lt
    clear hB
    go_wp2_with fail
    refine (error_same (tc : Nat) _ hty).mono ?_
    rintro e v3 ⟨rfl, hB⟩
    clear hk1 hk2 hkl
    replace hcT := hcT.later hB
    replace hzs := hzs.later hB
    replace hty := hty.later hB
    replace he := he.later hB
    replace hb1 := hb1.later hB hb1.lt
    replace hC := bel_on hC hB
    have hk1 := hb1.procs
    have hk2 := hb1.events
    have hkl := hb1.lt
    clear hB
    go_wp2_with fail
    refine (refCut_ok P T p n cap zs q m cap2 _ hl hmax hcT hl2 hmax2 hzs).mono ?_
    rw [hcc]
    rintro e v4 ⟨rfl, hB⟩
    clear hk1 hk2 hkl
    replace hcT := hcT.later hB
    replace hzs := hzs.later hB
    replace hty := hty.later hB
    replace he := he.later hB
    replace hb1 := hb1.later hB hb1.lt
    replace hC := bel_on hC hB
    have hk1 := hb1.procs
    have hk2 := hb1.events
    have hkl := hb1.lt
    clear hB
    go_wp2_with fail
    refine (cevents_err P T p n cap zs q m cap2 _ hl hmax hcT hl2 hmax2 hzs tc hcc HNE.out).mono ?_
    rintro e v5 ⟨rfl, hB⟩
    clear hk1 hk2 hkl
    replace hcT := hcT.later hB
    replace hzs := hzs.later hB
    replace hty := hty.later hB
    replace he := he.later hB
    replace hb1 := hb1.later hB hb1.lt
    replace hC := bel_on hC hB
    have hk1 := hb1.procs
    have hk2 := hb1.events
    have hkl := hb1.lt
    clear hB
    go_wp2_with fail
    refine (error_same (tc : Nat) _ hty).mono ?_
    rintro e v6 ⟨rfl, hB⟩
    clear hk1 hk2 hkl
    replace hcT := hcT.later hB
    replace hzs := hzs.later hB
    replace hty := hty.later hB
    replace he := he.later hB
    replace hb1 := hb1.later hB hb1.lt
    replace hC := bel_on hC hB
    have hk1 := hb1.procs
    have hk2 := hb1.events
    have hkl := hb1.lt
    clear hB
    go_wp2_with fail
    refine (cis_err P T p n cap zs q m cap2 _ hl hmax hcT hl2 hmax2 hzs tc hcc HNE.out).mono ?_
    rintro e v7 ⟨rfl, hB⟩
    clear hk1 hk2 hkl
    replace hcT := hcT.later hB
    replace hzs := hzs.later hB
    replace hty := hty.later hB
    replace he := he.later hB
    replace hb1 := hb1.later hB hb1.lt
    replace hC := bel_on hC hB
    have hk1 := hb1.procs
    have hk2 := hb1.events
    have hkl := hb1.lt
    clear hB
    go_wp2_with fail
    refine (error_same (tc : Nat) _ hty).mono ?_
    rintro e v8 ⟨rfl, hB⟩
    clear hk1 hk2 hkl
    replace hcT := hcT.later hB
    replace hzs := hzs.later hB
    replace hty := hty.later hB
    replace he := he.later hB
    replace hb1 := hb1.later hB hb1.lt
    replace hC := bel_on hC hB
    have hk1 := hb1.procs
    have hk2 := hb1.events
    have hkl := hb1.lt
    clear hB
    go_wp2_with fail
    refine (cline_err P T p n cap zs q m cap2 _ hl hmax hcT hl2 hmax2 hzs tc hcc HNE.out).mono ?_
    rintro e v9 ⟨rfl, hB⟩
    clear hk1 hk2 hkl
    replace hcT := hcT.later hB
    replace hzs := hzs.later hB
    replace hty := hty.later hB
    replace he := he.later hB
    replace hb1 := hb1.later hB hb1.lt
    replace hC := bel_on hC hB
    have hk1 := hb1.procs
    have hk2 := hb1.events
    have hkl := hb1.lt
    clear hB
    go_wp2_with fail
    refine (error_same (tc : Nat) _ hty).mono ?_
    rintro e v10 ⟨rfl, hB⟩
    clear hk1 hk2 hkl
    replace hcT := hcT.later hB
    replace hzs := hzs.later hB
    replace hty := hty.later hB
    replace he := he.later hB
    replace hb1 := hb1.later hB hb1.lt
    replace hC := bel_on hC hB
    have hk1 := hb1.procs
    have hk2 := hb1.events
    have hkl := hb1.lt
    clear hB
    go_wp2_with fail
    refine (ints_none _).mono ?_
    rintro e v11 ⟨rfl, hB⟩
    clear hk1 hk2 hkl
    replace hcT := hcT.later hB
    replace hzs := hzs.later hB
    replace hty := hty.later hB
    replace he := he.later hB
    replace hb1 := hb1.later hB hb1.lt
    replace hC := bel_on hC hB
    have hk1 := hb1.procs
    have hk2 := hb1.events
    have hkl := hb1.lt
    clear hB
    go_wp2_with fail
    go_ret
    exact ⟨rfl, bel_on hB0 hC⟩
  have htc : M.tcode P T = 0 := Decidable.not_not.1 h0
  clear h0
  have hok := M.tcode_zero.1 htc
  have hp1 := hok.p1
  obtain ⟨P, rfl⟩ : ∃ Pn : Nat, P = Pn := ⟨P.toNat, by omega⟩
  have hnone : ∀ {W : World}, HasI (ints []) none W := fun {W} _ hj => absurd hj (Nat.not_lt_zero _)
  by_cases h1 : M.ccode (P : Nat) T zs ≠ 0
  · obtain ⟨cc, hcc⟩ : ∃ cc, M.ccode (P : Nat) T zs = cc := ⟨_, rfl⟩
    rw [hcc] at h1
    have hne2 : cc ≠ 0 := h1
    have g1 : ((cc : Int) == 0) = false := by simp; omega
    have g2 : (cc == 0) = false := by simpa using hne2
    have HNE2 : Hid (cc ≠ 0) := hne2
    clear h1 hne2
    go_wp2_with fail
    refine (refTrace_ok (P : Nat) T p n cap _ hl hmax hcT).mono ?_
    rw [htc]
    rintro e v1 ⟨rfl, hB⟩
    clear hk1 hk2 hkl
    replace hcT := hcT.later hB
    replace hzs := hzs.later hB
    replace hty := hty.later hB
    replace he := he.later hB
    replace hb1 := hb1.later hB hb1.lt
    replace hC := bel_on hC hB
    have hk1 := hb1.procs
    have hk2 := hb1.events
    have hkl := hb1.lt
    clear hB
    go_wp2_with fail
    refine (refCuts_ok P T p n cap hl hok P [] none 0 0 _ (Nat.zero_add _) hcT rfl hnone (fun _ => ⟨rfl, rfl⟩)).mono ?_
    rintro e v2 ⟨rfl, hB⟩
    clear hk1 hk2 hkl
    replace hcT := hcT.later hB
    replace hzs := hzs.later hB
    replace hty := hty.later hB
    replace he := he.later hB
    replace hb1 := hb1.later hB hb1.lt
    replace hC := bel_on hC hB
    have hk1 := hb1.procs
    have hk2 := hb1.events
    have hkl := hb1.lt
    clear hB
    go_wp2_with fail
    refine (count_ok P T p n cap _ hl he hmax hcT htc).mono ?_
    rintro e v3 ⟨rfl, hB⟩
    clear hk1 hk2 hkl
    replace hcT := hcT.later hB
    replace hzs := hzs.later hB
    replace hty := hty.later hB
    replace he := he.later hB
    replace hb1 := hb1.later hB hb1.lt
    replace hC := bel_on hC hB
    have hk1 := hb1.procs
    have hk2 := hb1.events
    have hkl := hb1.lt
    clear hB
    go_wp2_with fail
    refine (err_none _).mono ?_
    rintro e v4 ⟨rfl, hB⟩
    clear hk1 hk2 hkl
    replace hcT := hcT.later hB
    replace hzs := hzs.later hB
    replace hty := hty.later hB
    replace he := he.later hB
    replace hb1 := hb1.later hB hb1.lt
    replace hC := bel_on hC hB
    have hk1 := hb1.procs
    have hk2 := hb1.events
    have hkl := hb1.lt
    clear hB
    go_wp2_with fail
    refine (refCut_ok (P : Nat) T p n cap zs q m cap2 _ hl hmax hcT hl2 hmax2 hzs).mono ?_
    rw [hcc]
    rintro e v5 ⟨rfl, hB⟩
    clear hk1 hk2 hkl
    replace hcT := hcT.later hB
    replace hzs := hzs.later hB
    replace hty := hty.later hB
    replace he := he.later hB
    replace hb1 := hb1.later hB hb1.lt
    replace hC := bel_on hC hB
    have hk1 := hb1.procs
    have hk2 := hb1.events
    have hkl := hb1.lt
    clear hB
    go_wp2_with fail
    refine (cevents_err (P : Nat) T p n cap zs q m cap2 _ hl hmax hcT hl2 hmax2 hzs cc hcc HNE2.out).mono ?_
    rintro e v6 ⟨rfl, hB⟩
    clear hk1 hk2 hkl
    replace hcT := hcT.later hB
    replace hzs := hzs.later hB
    replace hty := hty.later hB
    replace he := he.later hB
    replace hb1 := hb1.later hB hb1.lt
    replace hC := bel_on hC hB
    have hk1 := hb1.procs
    have hk2 := hb1.events
    have hkl := hb1.lt
    clear hB
    go_wp2_with fail
    refine (error_same (cc : Nat) _ hty).mono ?_
    rintro e v7 ⟨rfl, hB⟩
    clear hk1 hk2 hkl
    replace hcT := hcT.later hB
    replace hzs := hzs.later hB
    replace hty := hty.later hB
    replace he := he.later hB
    replace hb1 := hb1.later hB hb1.lt
    replace hC := bel_on hC hB
    have hk1 := hb1.procs
    have hk2 := hb1.events
    have hkl := hb1.lt
    clear hB
    go_wp2_with fail
    refine (cis_err (P : Nat) T p n cap zs q m cap2 _ hl hmax hcT hl2 hmax2 hzs cc hcc HNE2.out).mono ?_
    rintro e v8 ⟨rfl, hB⟩
    clear hk1 hk2 hkl
    replace hcT := hcT.later hB
    replace hzs := hzs.later hB
    replace hty := hty.later hB
    replace he := he.later hB
    replace hb1 := hb1.later hB hb1.lt
    replace hC := bel_on hC hB
    have hk1 := hb1.procs
    have hk2 := hb1.events
    have hkl := hb1.lt
    clear hB
    go_wp2_with fail
    refine (error_same (cc : Nat) _ hty).mono ?_
    rintro e v9 ⟨rfl, hB⟩
    clear hk1 hk2 hkl
    replace hcT := hcT.later hB
    replace hzs := hzs.later hB
    replace hty := hty.later hB
    replace he := he.later hB
    replace hb1 := hb1.later hB hb1.lt
    replace hC := bel_on hC hB
    have hk1 := hb1.procs
    have hk2 := hb1.events
    have hkl := hb1.lt
    clear hB
    go_wp2_with fail
    refine (cline_err (P : Nat) T p n cap zs q m cap2 _ hl hmax hcT hl2 hmax2 hzs cc hcc HNE2.out).mono ?_
    rintro e v10 ⟨rfl, hB⟩
    clear hk1 hk2 hkl
    replace hcT := hcT.later hB
    replace hzs := hzs.later hB
    replace hty := hty.later hB
    replace he := he.later hB
    replace hb1 := hb1.later hB hb1.lt
    replace hC := bel_on hC hB
    have hk1 := hb1.procs
    have hk2 := hb1.events
    have hkl := hb1.lt
    clear hB
    go_wp2_with fail
    refine (error_same (cc : Nat) _ hty).mono ?_
    rintro e v11 ⟨rfl, hB⟩
    clear hk1 hk2 hkl
    replace hcT := hcT.later hB
    replace hzs := hzs.later hB
    replace hty := hty.later hB
    replace he := he.later hB
    replace hb1 := hb1.later hB hb1.lt
    replace hC := bel_on hC hB
    have hk1 := hb1.procs
    have hk2 := hb1.events
    have hkl := hb1.lt
    clear hB
    go_wp2_with fail
    refine (ints_none _).mono ?_
    rintro e v12 ⟨rfl, hB⟩
    clear hk1 hk2 hkl
    replace hcT := hcT.later hB
    replace hzs := hzs.later hB
    replace hty := hty.later hB
    replace he := he.later hB
    replace hb1 := hb1.later hB hb1.lt
    replace hC := bel_on hC hB
    have hk1 := hb1.procs
    have hk2 := hb1.events
    have hkl := hb1.lt
    clear hB
    go_wp2_with fail
    go_ret
    exact ⟨rfl, bel_on hB0 hC⟩
  have hcc : M.ccode (P : Nat) T zs = 0 := Decidable.not_not.1 h1
  clear h1
  obtain ⟨c, rfl, hCk⟩ := ccode_get hcc
  have hCP := hCk.len
  have hlc : c.length = P := by omega
  obtain rfl : P = m := by rw [ints_length] at hl2; omega
  obtain ⟨bb, hwh⟩ : ∃ bb, M.whB T c = bb := ⟨_, rfl⟩
  go_wp2_with fail
  refine (refTrace_ok (P : Nat) T p n cap _ hl hmax hcT).mono ?_
  rw [htc]
  rintro e v1 ⟨rfl, hB⟩
  clear hk1 hk2 hkl
  replace hcT := hcT.later hB
  replace hzs := hzs.later hB
  replace hty := hty.later hB
  replace he := he.later hB
  replace hb1 := hb1.later hB hb1.lt
  replace hC := bel_on hC hB
  have hk1 := hb1.procs
  have hk2 := hb1.events
  have hkl := hb1.lt
  clear hB
  go_wp2_with fail
  refine (refCuts_ok P T p n cap hl hok P [] none 0 0 _ (Nat.zero_add _) hcT rfl hnone (fun _ => ⟨rfl, rfl⟩)).mono ?_
  rintro e v2 ⟨rfl, hB⟩
  clear hk1 hk2 hkl
  replace hcT := hcT.later hB
  replace hzs := hzs.later hB
  replace hty := hty.later hB
  replace he := he.later hB
  replace hb1 := hb1.later hB hb1.lt
  replace hC := bel_on hC hB
  have hk1 := hb1.procs
  have hk2 := hb1.events
  have hkl := hb1.lt
  clear hB
  go_wp2_with fail
  refine (count_ok P T p n cap _ hl he hmax hcT htc).mono ?_
  rintro e v3 ⟨rfl, hB⟩
  clear hk1 hk2 hkl
  replace hcT := hcT.later hB
  replace hzs := hzs.later hB
  replace hty := hty.later hB
  replace he := he.later hB
  replace hb1 := hb1.later hB hb1.lt
  replace hC := bel_on hC hB
  have hk1 := hb1.procs
  have hk2 := hb1.events
  have hkl := hb1.lt
  clear hB
  go_wp2_with fail
  refine (err_none _).mono ?_
  rintro e v4 ⟨rfl, hB⟩
  clear hk1 hk2 hkl
  replace hcT := hcT.later hB
  replace hzs := hzs.later hB
  replace hty := hty.later hB
  replace he := he.later hB
  replace hb1 := hb1.later hB hb1.lt
  replace hC := bel_on hC hB
  have hk1 := hb1.procs
  have hk2 := hb1.events
  have hkl := hb1.lt
  clear hB
  go_wp2_with fail
  refine (refCut_ok (P : Nat) T p n cap (ints c) q P cap2 _ hl hmax hcT hl2 hmax2 hzs).mono ?_
  rw [hcc]
  rintro e v5 ⟨rfl, hB⟩
  clear hk1 hk2 hkl
  replace hcT := hcT.later hB
  replace hzs := hzs.later hB
  replace hty := hty.later hB
  replace he := he.later hB
  replace hb1 := hb1.later hB hb1.lt
  replace hC := bel_on hC hB
  have hk1 := hb1.procs
  have hk2 := hb1.events
  have hkl := hb1.lt
  clear hB
  go_wp2_with fail
  refine (refCutSet_ok (P : Nat) T p n cap c q P cap2 _ hl hcT hlc hzs hok hCP).mono ?_
  rintro e v6 ⟨rfl, hB⟩
  clear hk1 hk2 hkl
  replace hcT := hcT.later hB
  replace hzs := hzs.later hB
  replace hty := hty.later hB
  replace he := he.later hB
  replace hb1 := hb1.later hB hb1.lt
  replace hC := bel_on hC hB
  have hk1 := hb1.procs
  have hk2 := hb1.events
  have hkl := hb1.lt
  clear hB
  go_wp2_with fail
  refine (refWhole_ok (P : Nat) T p n cap c q P cap2 _ hl hcT hlc hzs hok hCP).mono ?_
  rw [hwh]
  rintro e v7 ⟨rfl, hB⟩
  clear hk1 hk2 hkl
  replace hcT := hcT.later hB
  replace hzs := hzs.later hB
  replace hty := hty.later hB
  replace he := he.later hB
  replace hb1 := hb1.later hB hb1.lt
  replace hC := bel_on hC hB
  have hk1 := hb1.procs
  have hk2 := hb1.events
  have hkl := hb1.lt
  clear hB
  go_wp2_with fail
  refine (refLineI_ok T p n cap c q P cap2 _ hl hcT hlc hzs hok).mono ?_
  rintro e v8 ⟨qx, rfl, hx, hB⟩
  clear hk1 hk2 hkl
  replace hcT := hcT.later hB
  replace hzs := hzs.later hB
  replace hty := hty.later hB
  replace he := he.later hB
  replace hb1 := hb1.later hB hb1.lt
  replace hC := bel_on hC hB
  have hk1 := hb1.procs
  have hk2 := hb1.events
  have hkl := hb1.lt
  clear hB
  go_wp2_with fail
  refine (cevents_ok (P : Nat) T p n cap (ints c) q P cap2 _ hl hmax hcT hl2 hmax2 hzs hcc).mono ?_
  rw [cof0_ints]
  rintro e v9 ⟨rfl, hB⟩
  clear hk1 hk2 hkl
  replace hcT := hcT.later hB
  replace hzs := hzs.later hB
  replace hty := hty.later hB
  replace he := he.later hB
  replace hx := hx.later hB
  replace hb1 := hb1.later hB hb1.lt
  replace hC := bel_on hC hB
  have hk1 := hb1.procs
  have hk2 := hb1.events
  have hkl := hb1.lt
  clear hB
  go_wp2_with fail
  refine (err_none _).mono ?_
  rintro e v10 ⟨rfl, hB⟩
  clear hk1 hk2 hkl
  replace hcT := hcT.later hB
  replace hzs := hzs.later hB
  replace hty := hty.later hB
  replace he := he.later hB
  replace hx := hx.later hB
  replace hb1 := hb1.later hB hb1.lt
  replace hC := bel_on hC hB
  have hk1 := hb1.procs
  have hk2 := hb1.events
  have hkl := hb1.lt
  clear hB
  go_wp2_with fail
  refine (cis_ok (P : Nat) T p n cap (ints c) q P cap2 _ hl he hmax hcT hl2 hmax2 hzs hcc).mono ?_
  rw [cof0_ints, hwh]
  rintro e v11 ⟨rfl, hB⟩
  clear hk1 hk2 hkl
  replace hcT := hcT.later hB
  replace hzs := hzs.later hB
  replace hty := hty.later hB
  replace he := he.later hB
  replace hx := hx.later hB
  replace hb1 := hb1.later hB hb1.lt
  replace hC := bel_on hC hB
  have hk1 := hb1.procs
  have hk2 := hb1.events
  have hkl := hb1.lt
  clear hB
  go_wp2_with fail
  refine (err_none _).mono ?_
  rintro e v12 ⟨rfl, hB⟩
  clear hk1 hk2 hkl
  replace hcT := hcT.later hB
  replace hzs := hzs.later hB
  replace hty := hty.later hB
  replace he := he.later hB
  replace hx := hx.later hB
  replace hb1 := hb1.later hB hb1.lt
  replace hC := bel_on hC hB
  have hk1 := hb1.procs
  have hk2 := hb1.events
  have hkl := hb1.lt
  clear hB
  go_wp2_with fail
  refine (clineI_ok (P : Nat) T p n cap c q P cap2 _ hl he hmax hcT hl2 hmax2 hzs hcc).mono ?_
  rintro e v13 ⟨qy, rfl, hy, hB⟩
  clear hk1 hk2 hkl
  replace hcT := hcT.later hB
  replace hzs := hzs.later hB
  replace hty := hty.later hB
  replace he := he.later hB
  replace hx := hx.later hB
  replace hb1 := hb1.later hB hb1.lt
  replace hC := bel_on hC hB
  have hk1 := hb1.procs
  have hk2 := hb1.events
  have hkl := hb1.lt
  clear hB
  go_wp2_with fail
  refine (err_none _).mono ?_
  rintro e v14 ⟨rfl, hB⟩
  clear hk1 hk2 hkl
  replace hcT := hcT.later hB
  replace hzs := hzs.later hB
  replace hty := hty.later hB
  replace he := he.later hB
  replace hx := hx.later hB
  replace hy := hy.later hB
  replace hb1 := hb1.later hB hb1.lt
  replace hC := bel_on hC hB
  have hk1 := hb1.procs
  have hk2 := hb1.events
  have hkl := hb1.lt
  clear hB
  go_wp2_with fail
  refine (same_intsI (ints (M.line T c)) _ _ P P P _ (by rw [ints_length, M.line_length, hlc]) hmax2 hy hx).mono ?_
  rintro e v15 ⟨rfl, hB⟩
  clear hk1 hk2 hkl
  replace hcT := hcT.later hB
  replace hzs := hzs.later hB
  replace hty := hty.later hB
  replace he := he.later hB
  replace hx := hx.later hB
  replace hy := hy.later hB
  replace hb1 := hb1.later hB hb1.lt
  replace hC := bel_on hC hB
  have hk1 := hb1.procs
  have hk2 := hb1.events
  have hkl := hb1.lt
  clear hB
  go_wp2_with fail
  go_ret
  exact ⟨rfl, bel_on hB0 hC⟩
end Go.Proofs.YtlhpkpjcfjdgaaaDoor
