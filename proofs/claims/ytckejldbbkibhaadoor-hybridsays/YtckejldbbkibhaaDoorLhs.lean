/- WHAT IS WRONG WITH ANY TRACE AND TIMES, ITS STAMPS, AND WHICH OF ANY TWO IS LESS (law HybridSays): whatever the trace, the times and the two stamps, the call returns true; what lay in memory lies as it lay. -/
import Derived.Test.YtckejldbbkibhaaDoorErr
import Derived.Test.YtckejldbbkibhaaDoorRefTms
import Derived.Test.YtckejldbbkibhaaDoorRefSts
import Derived.Test.YtckejldbbkibhaaDoorHsm
namespace Go.Proofs.YtckejldbbkibhaaDoor
open Go.RowKit

theorem err_code (c : Nat) (w : World) (hg : Ety w) : Calls Tryd.prog 5 #[terr c, .int .i64 (c : Nat)] w fun e w' => e = .returned (.bool true) ∧ Below w.heap.size w w' := by
  by_cases h : c = 0
  · subst h
    refine (error_nil w).mono ?_
    rintro e w' ⟨rfl, rfl⟩
    exact ⟨rfl, Below.refl _ _⟩
  · rw [terr_ne h]
    exact error_same (c : Nat) w hg
theorem err_none (w : World) : Calls Tryd.prog 5 #[.nilIface, .int .i64 0] w fun e w' => e = .returned (.bool true) ∧ Below w.heap.size w w' := by
  refine (error_nil w).mono ?_
  rintro e w' ⟨rfl, rfl⟩
  exact ⟨rfl, Below.refl _ _⟩
theorem sameS_ok (zs : List Int) (p q : Option Addr) (n cap cap' : Nat) (w : World) (hl : zs.length = n * 2) (hmax : n ≤ maxLen) (hp : HasI zs p w) (hq : HasI zs q w) :
    Calls Tryd.prog 9 #[.slice p n cap, .slice q n cap'] w fun e w' => e = .returned (.bool true) ∧ Below w.heap.size w w' := by
  refine (same_stamps zs p q n cap cap' w hl hmax hp hq).mono ?_
  rintro e w' ⟨rfl, m, rfl⟩
  exact ⟨rfl, below_drewN _ _⟩
theorem sameS_none (w : World) : Calls Tryd.prog 9 #[.slice none 0 0, .slice none 0 0] w fun e w' => e = .returned (.bool true) ∧ Below w.heap.size w w' :=
  sameS_ok [] none none 0 0 0 w rfl (Nat.zero_le _) (fun _ hj => absurd hj (Nat.not_lt_zero _)) (fun _ hj => absurd hj (Nat.not_lt_zero _))
theorem stampsI_ok (P : Int) (T : List (Int × Int)) (p : Option Addr) (n cap : Nat) (zs : List Int) (q : Option Addr) (cap2 : Nat) (w : World) (hl : T.length = n) (hmax : n ≤ maxLen) (hc : HasE T p w) (hz : HasI zs q w) (hok : M.HOk P T zs) :
    Calls Tryd.prog 8 #[trV P p n cap, .slice q n cap2] w fun e w' => ∃ q, e = .returned (.tuple #[.slice q n n, .nilIface]) ∧ HasI (M.stl T (M.tm zs) n n) q w' ∧ Below w.heap.size w w' := by
  refine (stamps_ok P T p n cap zs q cap2 w hl hmax hc hz hok).mono ?_
  rintro e w' ⟨A, rfl, hr, _, hB⟩
  exact ⟨_, rfl, hr.hasI, hB⟩
/-- Block B holds a stamp. -/
structure SBox (w : World) (B : Nat) (a c : Int) : Prop where
  lt : B < w.heap.size
  time : w.cell? ⟨B, 0, none⟩ = some (.int .i64 a)
  count : w.cell? ⟨B, 1, none⟩ = some (.int .i64 c)
theorem SBox.later {w w' : World} {B N : Nat} {a c : Int} (h : SBox w B a c) (hb : Below N w w') (hN : B < N) : SBox w' B a c :=
  ⟨by have := hb.size; have := h.lt; omega, (hb.cell (p := ⟨B, 0, none⟩) hN).trans h.time, (hb.cell (p := ⟨B, 1, none⟩) hN).trans h.count⟩
theorem sbox_new (w : World) (N : Nat) (a c : Int) (h : w.heap.size = N) : SBox (w.alloc (.cells #[.int .i64 a, .int .i64 c] 27)) N a c := by
  subst h
  exact ⟨by simp, by simp, by simp⟩
set_option maxRecDepth 100000 in
set_option maxHeartbeats 8000000 in
theorem hs_walk (P : Int) (T : List (Int × Int)) (p : Option Addr) (n cap : Nat) (zs : List Int) (q : Option Addr) (m cap2 : Nat) (a1 a2 b1 b2 : Int) (w : World) (hty : Ety w) (hl : T.length = n) (hmax : n ≤ maxLen) (hcT : HasE T p w) (hl2 : zs.length = m) (hmax2 : m ≤ maxLen) (hzs : HasI zs q w) (_hwf : ∀ k : Nat, zs[k]?.getD 0 < 9223372036854775808) :
    Calls Tryd.prog 3 #[trV P p n cap, .slice q m cap2, stV a1 a2, stV b1 b2] w fun e w' => e = .returned (.bool true) ∧ Below w.heap.size w w' := by
  obtain ⟨wa, hwa⟩ : ∃ wa, w.alloc (.cells #[.int .i64 P, .slice p n cap] 24) = wa := ⟨_, rfl⟩
  obtain ⟨wb, hwb⟩ : ∃ wb, wa.alloc (.cells #[.int .i64 a1, .int .i64 a2] 27) = wb := ⟨_, rfl⟩
  obtain ⟨wc, hwc⟩ : ∃ wc, wb.alloc (.cells #[.int .i64 b1, .int .i64 b2] 27) = wc := ⟨_, rfl⟩
  have hb1 : TBox wa w.heap.size P p n cap := hwa ▸ tbox_new w P p n cap
  have hb2 : SBox wb wa.heap.size a1 a2 := hwb ▸ sbox_new wa _ a1 a2 rfl
  have hb3 : SBox wc wb.heap.size b1 b2 := hwc ▸ sbox_new wb _ b1 b2 rfl
  have hBa : Below w.heap.size w wa := hwa ▸ bel_al (Below.refl _ _) _
  have hBb : Below wa.heap.size wa wb := hwb ▸ bel_al (Below.refl _ _) _
  have hBc : Below wb.heap.size wb wc := hwc ▸ bel_al (Below.refl _ _) _
  replace hb1 := (hb1.later hBb hb1.lt).later hBc (hb1.later hBb hb1.lt).lt
  replace hb2 := hb2.later hBc hb2.lt
  have hB0 : Below w.heap.size w wc := bel_on (bel_on hBa hBb) hBc
  replace hcT := hcT.later hB0
  replace hzs := hzs.later hB0
  replace hty := hty.later hB0
  have hC : Below wc.heap.size wc wc := Below.refl _ _
  have hk1 := hb1.procs
  have hk2 := hb1.events
  have hk3 := hb2.time
  have hk4 := hb2.count
  have hk5 := hb3.time
  have hk6 := hb3.count
  clear hBa hBb hBc
  go_enter Tryd.func3, Tryd.ntmps3
  go_upto_region 1 with fail
  clear hwa hwb hwc
  by_cases h0 : M.hcode P T zs ≠ 0
  · obtain ⟨c, hcd⟩ : ∃ c, M.hcode P T zs = c := ⟨_, rfl⟩
    have hne : c ≠ 0 := by rw [← hcd]; exact h0
    have z1 : ((c : Int) == 0) = false := by simp; omega
    have z2 : (c == 0) = false := by simpa using hne
    clear h0
    go_wp2_with fail
    refine (refTimes_ok P T p n cap zs q m cap2 _ hl hmax hcT hl2 hmax2 hzs).mono ?_
    rw [hcd]
    rintro e v1 ⟨rfl, hB⟩
    clear hk1 hk2 hk3 hk4 hk5 hk6
    replace hcT := hcT.later hB
    replace hzs := hzs.later hB
    replace hty := hty.later hB
    replace hb1 := hb1.later hB hb1.lt
    replace hb2 := hb2.later hB hb2.lt
    replace hb3 := hb3.later hB hb3.lt
    replace hC := bel_on hC hB
    have hk1 := hb1.procs
    have hk2 := hb1.events
    have hk3 := hb2.time
    have hk4 := hb2.count
    have hk5 := hb3.time
    have hk6 := hb3.count
    clear hB
    go_wp2_with fail
    refine (hcheck_ok P T p n cap zs q m cap2 _ hl hmax hcT hl2 hmax2 hzs).mono ?_
    rw [hcd]
    rintro e v2 ⟨rfl, hB⟩
    clear hk1 hk2 hk3 hk4 hk5 hk6
    replace hcT := hcT.later hB
    replace hzs := hzs.later hB
    replace hty := hty.later hB
    replace hb1 := hb1.later hB hb1.lt
    replace hb2 := hb2.later hB hb2.lt
    replace hb3 := hb3.later hB hb3.lt
    replace hC := bel_on hC hB
    have hk1 := hb1.procs
    have hk2 := hb1.events
    have hk3 := hb2.time
    have hk4 := hb2.count
    have hk5 := hb3.time
    have hk6 := hb3.count
    clear hB
    go_wp2_with fail
    refine (err_code c _ hty).mono ?_
    rintro e v3 ⟨rfl, hB⟩
    clear hk1 hk2 hk3 hk4 hk5 hk6
    replace hcT := hcT.later hB
    replace hzs := hzs.later hB
    replace hty := hty.later hB
    replace hb1 := hb1.later hB hb1.lt
    replace hb2 := hb2.later hB hb2.lt
    replace hb3 := hb3.later hB hb3.lt
    replace hC := bel_on hC hB
    have hk1 := hb1.procs
    have hk2 := hb1.events
    have hk3 := hb2.time
    have hk4 := hb2.count
    have hk5 := hb3.time
    have hk6 := hb3.count
    clear hB
    go_wp2_with fail
    refine (stamps_err P T p n cap zs q m cap2 c _ hl hmax hcT hl2 hmax2 hzs hcd hne).mono ?_
    rintro e v4 ⟨rfl, hB⟩
    clear hk1 hk2 hk3 hk4 hk5 hk6
    replace hcT := hcT.later hB
    replace hzs := hzs.later hB
    replace hty := hty.later hB
    replace hb1 := hb1.later hB hb1.lt
    replace hb2 := hb2.later hB hb2.lt
    replace hb3 := hb3.later hB hb3.lt
    replace hC := bel_on hC hB
    have hk1 := hb1.procs
    have hk2 := hb1.events
    have hk3 := hb2.time
    have hk4 := hb2.count
    have hk5 := hb3.time
    have hk6 := hb3.count
    clear hB
    by_cases h1 : a1 < b1
    · have d1 : decide (a1 < b1) = true := decide_eq_true h1
      obtain ⟨r, hr⟩ : ∃ r, M.lsB a1 a2 b1 b2 = r := ⟨_, rfl⟩
      have hr2 : r = true := by rw [← hr]; unfold M.lsB; rw [if_neg (by omega)]; exact d1
      subst hr2
      clear h1
      go_wp2_with fail
      refine (error_same (c : Nat) _ hty).mono ?_
      rintro e v5 ⟨rfl, hB⟩
      clear hk1 hk2 hk3 hk4 hk5 hk6
      replace hcT := hcT.later hB
      replace hzs := hzs.later hB
      replace hty := hty.later hB
      replace hb1 := hb1.later hB hb1.lt
      replace hb2 := hb2.later hB hb2.lt
      replace hb3 := hb3.later hB hb3.lt
      replace hC := bel_on hC hB
      have hk1 := hb1.procs
      have hk2 := hb1.events
      have hk3 := hb2.time
      have hk4 := hb2.count
      have hk5 := hb3.time
      have hk6 := hb3.count
      clear hB
      go_wp2_with fail
      refine (sameS_none _).mono ?_
      rintro e v6 ⟨rfl, hB⟩
      clear hk1 hk2 hk3 hk4 hk5 hk6
      replace hcT := hcT.later hB
      replace hzs := hzs.later hB
      replace hty := hty.later hB
      replace hb1 := hb1.later hB hb1.lt
      replace hb2 := hb2.later hB hb2.lt
      replace hb3 := hb3.later hB hb3.lt
      replace hC := bel_on hC hB
      have hk1 := hb1.procs
      have hk2 := hb1.events
      have hk3 := hb2.time
      have hk4 := hb2.count
      have hk5 := hb3.time
      have hk6 := hb3.count
      clear hB
      go_wp2_with fail
      refine (less_ok a1 a2 b1 b2 true _ hr).mono ?_
      rintro e v7 ⟨rfl, hB⟩
      clear hk1 hk2 hk3 hk4 hk5 hk6
      replace hcT := hcT.later hB
      replace hzs := hzs.later hB
      replace hty := hty.later hB
      replace hb1 := hb1.later hB hb1.lt
      replace hb2 := hb2.later hB hb2.lt
      replace hb3 := hb3.later hB hb3.lt
      replace hC := bel_on hC hB
      have hk1 := hb1.procs
      have hk2 := hb1.events
      have hk3 := hb2.time
      have hk4 := hb2.count
      have hk5 := hb3.time
      have hk6 := hb3.count
      clear hB
      go_wp2_with fail
      go_ret
      exact ⟨rfl, bel_on hB0 hC⟩
    · have d1 : decide (a1 < b1) = false := decide_eq_false h1
      by_cases h2 : a1 = b1
      · have d2 : (a1 == b1) = true := by rw [h2]; simp
        obtain ⟨r, hr⟩ : ∃ r, M.lsB a1 a2 b1 b2 = r := ⟨_, rfl⟩
        have d3 : decide (a2 < b2) = r := by rw [← hr]; unfold M.lsB; rw [if_pos h2]
        clear h1 h2
        go_wp2_with fail
        refine (error_same (c : Nat) _ hty).mono ?_
        rintro e v5 ⟨rfl, hB⟩
        clear hk1 hk2 hk3 hk4 hk5 hk6
        replace hcT := hcT.later hB
        replace hzs := hzs.later hB
        replace hty := hty.later hB
        replace hb1 := hb1.later hB hb1.lt
        replace hb2 := hb2.later hB hb2.lt
        replace hb3 := hb3.later hB hb3.lt
        replace hC := bel_on hC hB
        have hk1 := hb1.procs
        have hk2 := hb1.events
        have hk3 := hb2.time
        have hk4 := hb2.count
        have hk5 := hb3.time
        have hk6 := hb3.count
        clear hB
        go_wp2_with fail
        refine (sameS_none _).mono ?_
        rintro e v6 ⟨rfl, hB⟩
        clear hk1 hk2 hk3 hk4 hk5 hk6
        replace hcT := hcT.later hB
        replace hzs := hzs.later hB
        replace hty := hty.later hB
        replace hb1 := hb1.later hB hb1.lt
        replace hb2 := hb2.later hB hb2.lt
        replace hb3 := hb3.later hB hb3.lt
        replace hC := bel_on hC hB
        have hk1 := hb1.procs
        have hk2 := hb1.events
        have hk3 := hb2.time
        have hk4 := hb2.count
        have hk5 := hb3.time
        have hk6 := hb3.count
        clear hB
        go_wp2_with fail
        refine (less_ok a1 a2 b1 b2 r _ hr).mono ?_
        rintro e v7 ⟨rfl, hB⟩
        clear hk1 hk2 hk3 hk4 hk5 hk6
        replace hcT := hcT.later hB
        replace hzs := hzs.later hB
        replace hty := hty.later hB
        replace hb1 := hb1.later hB hb1.lt
        replace hb2 := hb2.later hB hb2.lt
        replace hb3 := hb3.later hB hb3.lt
        replace hC := bel_on hC hB
        have hk1 := hb1.procs
        have hk2 := hb1.events
        have hk3 := hb2.time
        have hk4 := hb2.count
        have hk5 := hb3.time
        have hk6 := hb3.count
        clear hB
        go_wp2_with fail
        go_ret
        exact ⟨by cases r <;> rfl, bel_on hB0 hC⟩
      · have d2 : (a1 == b1) = false := by simpa using h2
        obtain ⟨r, hr⟩ : ∃ r, M.lsB a1 a2 b1 b2 = r := ⟨_, rfl⟩
        have hr2 : r = false := by rw [← hr]; unfold M.lsB; rw [if_neg h2]; exact d1
        subst hr2
        clear h1 h2
        go_wp2_with fail
        refine (error_same (c : Nat) _ hty).mono ?_
        rintro e v5 ⟨rfl, hB⟩
        clear hk1 hk2 hk3 hk4 hk5 hk6
        replace hcT := hcT.later hB
        replace hzs := hzs.later hB
        replace hty := hty.later hB
        replace hb1 := hb1.later hB hb1.lt
        replace hb2 := hb2.later hB hb2.lt
        replace hb3 := hb3.later hB hb3.lt
        replace hC := bel_on hC hB
        have hk1 := hb1.procs
        have hk2 := hb1.events
        have hk3 := hb2.time
        have hk4 := hb2.count
        have hk5 := hb3.time
        have hk6 := hb3.count
        clear hB
        go_wp2_with fail
        refine (sameS_none _).mono ?_
        rintro e v6 ⟨rfl, hB⟩
        clear hk1 hk2 hk3 hk4 hk5 hk6
        replace hcT := hcT.later hB
        replace hzs := hzs.later hB
        replace hty := hty.later hB
        replace hb1 := hb1.later hB hb1.lt
        replace hb2 := hb2.later hB hb2.lt
        replace hb3 := hb3.later hB hb3.lt
        replace hC := bel_on hC hB
        have hk1 := hb1.procs
        have hk2 := hb1.events
        have hk3 := hb2.time
        have hk4 := hb2.count
        have hk5 := hb3.time
        have hk6 := hb3.count
        clear hB
        go_wp2_with fail
        refine (less_ok a1 a2 b1 b2 false _ hr).mono ?_
        rintro e v7 ⟨rfl, hB⟩
        clear hk1 hk2 hk3 hk4 hk5 hk6
        replace hcT := hcT.later hB
        replace hzs := hzs.later hB
        replace hty := hty.later hB
        replace hb1 := hb1.later hB hb1.lt
        replace hb2 := hb2.later hB hb2.lt
        replace hb3 := hb3.later hB hb3.lt
        replace hC := bel_on hC hB
        have hk1 := hb1.procs
        have hk2 := hb1.events
        have hk3 := hb2.time
        have hk4 := hb2.count
        have hk5 := hb3.time
        have hk6 := hb3.count
        clear hB
        go_wp2_with fail
        go_ret
        exact ⟨rfl, bel_on hB0 hC⟩
  · have hcd : M.hcode P T zs = 0 := Decidable.not_not.1 h0
    have hok := M.hcode_zero.1 hcd
    obtain rfl : n = m := by have := hok.len; omega
    clear h0
    go_wp2_with fail
    refine (refTimes_ok P T p n cap zs q n cap2 _ hl hmax hcT hl2 hmax hzs).mono ?_
    rw [hcd]
    rintro e v1 ⟨rfl, hB⟩
    clear hk1 hk2 hk3 hk4 hk5 hk6
    replace hcT := hcT.later hB
    replace hzs := hzs.later hB
    replace hty := hty.later hB
    replace hb1 := hb1.later hB hb1.lt
    replace hb2 := hb2.later hB hb2.lt
    replace hb3 := hb3.later hB hb3.lt
    replace hC := bel_on hC hB
    have hk1 := hb1.procs
    have hk2 := hb1.events
    have hk3 := hb2.time
    have hk4 := hb2.count
    have hk5 := hb3.time
    have hk6 := hb3.count
    clear hB
    go_wp2_with fail
    refine (hcheck_ok P T p n cap zs q n cap2 _ hl hmax hcT hl2 hmax hzs).mono ?_
    rw [hcd, terr_zero]
    rintro e v2 ⟨rfl, hB⟩
    clear hk1 hk2 hk3 hk4 hk5 hk6
    replace hcT := hcT.later hB
    replace hzs := hzs.later hB
    replace hty := hty.later hB
    replace hb1 := hb1.later hB hb1.lt
    replace hb2 := hb2.later hB hb2.lt
    replace hb3 := hb3.later hB hb3.lt
    replace hC := bel_on hC hB
    have hk1 := hb1.procs
    have hk2 := hb1.events
    have hk3 := hb2.time
    have hk4 := hb2.count
    have hk5 := hb3.time
    have hk6 := hb3.count
    clear hB
    go_wp2_with fail
    refine (err_none _).mono ?_
    rintro e v3 ⟨rfl, hB⟩
    clear hk1 hk2 hk3 hk4 hk5 hk6
    replace hcT := hcT.later hB
    replace hzs := hzs.later hB
    replace hty := hty.later hB
    replace hb1 := hb1.later hB hb1.lt
    replace hb2 := hb2.later hB hb2.lt
    replace hb3 := hb3.later hB hb3.lt
    replace hC := bel_on hC hB
    have hk1 := hb1.procs
    have hk2 := hb1.events
    have hk3 := hb2.time
    have hk4 := hb2.count
    have hk5 := hb3.time
    have hk6 := hb3.count
    clear hB
    go_wp2_with fail
    refine (refStamps_ok P T p n cap zs q cap2 _ hl hcT hzs hok).mono ?_
    rintro e v4 ⟨qx, cx, rfl, hx, hB⟩
    clear hk1 hk2 hk3 hk4 hk5 hk6
    replace hcT := hcT.later hB
    replace hzs := hzs.later hB
    replace hty := hty.later hB
    replace hb1 := hb1.later hB hb1.lt
    replace hb2 := hb2.later hB hb2.lt
    replace hb3 := hb3.later hB hb3.lt
    replace hC := bel_on hC hB
    have hk1 := hb1.procs
    have hk2 := hb1.events
    have hk3 := hb2.time
    have hk4 := hb2.count
    have hk5 := hb3.time
    have hk6 := hb3.count
    clear hB
    go_wp2_with fail
    refine (stampsI_ok P T p n cap zs q cap2 _ hl hmax hcT hzs hok).mono ?_
    rintro e v5 ⟨ql, rfl, hst, hB⟩
    clear hk1 hk2 hk3 hk4 hk5 hk6
    replace hcT := hcT.later hB
    replace hzs := hzs.later hB
    replace hty := hty.later hB
    replace hx := hx.later hB
    replace hb1 := hb1.later hB hb1.lt
    replace hb2 := hb2.later hB hb2.lt
    replace hb3 := hb3.later hB hb3.lt
    replace hC := bel_on hC hB
    have hk1 := hb1.procs
    have hk2 := hb1.events
    have hk3 := hb2.time
    have hk4 := hb2.count
    have hk5 := hb3.time
    have hk6 := hb3.count
    clear hB
    by_cases h1 : a1 < b1
    · have d1 : decide (a1 < b1) = true := decide_eq_true h1
      obtain ⟨r, hr⟩ : ∃ r, M.lsB a1 a2 b1 b2 = r := ⟨_, rfl⟩
      have hr2 : r = true := by rw [← hr]; unfold M.lsB; rw [if_neg (by omega)]; exact d1
      subst hr2
      clear h1
      go_wp2_with fail
      refine (err_none _).mono ?_
      rintro e v6 ⟨rfl, hB⟩
      clear hk1 hk2 hk3 hk4 hk5 hk6
      replace hcT := hcT.later hB
      replace hzs := hzs.later hB
      replace hty := hty.later hB
      replace hx := hx.later hB
      replace hst := hst.later hB
      replace hb1 := hb1.later hB hb1.lt
      replace hb2 := hb2.later hB hb2.lt
      replace hb3 := hb3.later hB hb3.lt
      replace hC := bel_on hC hB
      have hk1 := hb1.procs
      have hk2 := hb1.events
      have hk3 := hb2.time
      have hk4 := hb2.count
      have hk5 := hb3.time
      have hk6 := hb3.count
      clear hB
      go_wp2_with fail
      refine (sameS_ok (M.stl T (M.tm zs) n n) _ _ n n cx _ (M.stl_length T (M.tm zs) n n) hmax hst hx).mono ?_
      rintro e v7 ⟨rfl, hB⟩
      clear hk1 hk2 hk3 hk4 hk5 hk6
      replace hcT := hcT.later hB
      replace hzs := hzs.later hB
      replace hty := hty.later hB
      replace hx := hx.later hB
      replace hst := hst.later hB
      replace hb1 := hb1.later hB hb1.lt
      replace hb2 := hb2.later hB hb2.lt
      replace hb3 := hb3.later hB hb3.lt
      replace hC := bel_on hC hB
      have hk1 := hb1.procs
      have hk2 := hb1.events
      have hk3 := hb2.time
      have hk4 := hb2.count
      have hk5 := hb3.time
      have hk6 := hb3.count
      clear hB
      go_wp2_with fail
      refine (less_ok a1 a2 b1 b2 true _ hr).mono ?_
      rintro e v8 ⟨rfl, hB⟩
      clear hk1 hk2 hk3 hk4 hk5 hk6
      replace hcT := hcT.later hB
      replace hzs := hzs.later hB
      replace hty := hty.later hB
      replace hx := hx.later hB
      replace hst := hst.later hB
      replace hb1 := hb1.later hB hb1.lt
      replace hb2 := hb2.later hB hb2.lt
      replace hb3 := hb3.later hB hb3.lt
      replace hC := bel_on hC hB
      have hk1 := hb1.procs
      have hk2 := hb1.events
      have hk3 := hb2.time
      have hk4 := hb2.count
      have hk5 := hb3.time
      have hk6 := hb3.count
      clear hB
      go_wp2_with fail
      go_ret
      exact ⟨rfl, bel_on hB0 hC⟩
    · have d1 : decide (a1 < b1) = false := decide_eq_false h1
      by_cases h2 : a1 = b1
      · have d2 : (a1 == b1) = true := by rw [h2]; simp
        obtain ⟨r, hr⟩ : ∃ r, M.lsB a1 a2 b1 b2 = r := ⟨_, rfl⟩
        have d3 : decide (a2 < b2) = r := by rw [← hr]; unfold M.lsB; rw [if_pos h2]
        clear h1 h2
        go_wp2_with fail
        refine (err_none _).mono ?_
        rintro e v6 ⟨rfl, hB⟩
        clear hk1 hk2 hk3 hk4 hk5 hk6
        replace hcT := hcT.later hB
        replace hzs := hzs.later hB
        replace hty := hty.later hB
        replace hx := hx.later hB
        replace hst := hst.later hB
        replace hb1 := hb1.later hB hb1.lt
        replace hb2 := hb2.later hB hb2.lt
        replace hb3 := hb3.later hB hb3.lt
        replace hC := bel_on hC hB
        have hk1 := hb1.procs
        have hk2 := hb1.events
        have hk3 := hb2.time
        have hk4 := hb2.count
        have hk5 := hb3.time
        have hk6 := hb3.count
        clear hB
        go_wp2_with fail
        refine (sameS_ok (M.stl T (M.tm zs) n n) _ _ n n cx _ (M.stl_length T (M.tm zs) n n) hmax hst hx).mono ?_
        rintro e v7 ⟨rfl, hB⟩
        clear hk1 hk2 hk3 hk4 hk5 hk6
        replace hcT := hcT.later hB
        replace hzs := hzs.later hB
        replace hty := hty.later hB
        replace hx := hx.later hB
        replace hst := hst.later hB
        replace hb1 := hb1.later hB hb1.lt
        replace hb2 := hb2.later hB hb2.lt
        replace hb3 := hb3.later hB hb3.lt
        replace hC := bel_on hC hB
        have hk1 := hb1.procs
        have hk2 := hb1.events
        have hk3 := hb2.time
        have hk4 := hb2.count
        have hk5 := hb3.time
        have hk6 := hb3.count
        clear hB
        go_wp2_with fail
        refine (less_ok a1 a2 b1 b2 r _ hr).mono ?_
        rintro e v8 ⟨rfl, hB⟩
        clear hk1 hk2 hk3 hk4 hk5 hk6
        replace hcT := hcT.later hB
        replace hzs := hzs.later hB
        replace hty := hty.later hB
        replace hx := hx.later hB
        replace hst := hst.later hB
        replace hb1 := hb1.later hB hb1.lt
        replace hb2 := hb2.later hB hb2.lt
        replace hb3 := hb3.later hB hb3.lt
        replace hC := bel_on hC hB
        have hk1 := hb1.procs
        have hk2 := hb1.events
        have hk3 := hb2.time
        have hk4 := hb2.count
        have hk5 := hb3.time
        have hk6 := hb3.count
        clear hB
        go_wp2_with fail
        go_ret
        exact ⟨by cases r <;> rfl, bel_on hB0 hC⟩
      · have d2 : (a1 == b1) = false := by simpa using h2
        obtain ⟨r, hr⟩ : ∃ r, M.lsB a1 a2 b1 b2 = r := ⟨_, rfl⟩
        have hr2 : r = false := by rw [← hr]; unfold M.lsB; rw [if_neg h2]; exact d1
        subst hr2
        clear h1 h2
        go_wp2_with fail
        refine (err_none _).mono ?_
        rintro e v6 ⟨rfl, hB⟩
        clear hk1 hk2 hk3 hk4 hk5 hk6
        replace hcT := hcT.later hB
        replace hzs := hzs.later hB
        replace hty := hty.later hB
        replace hx := hx.later hB
        replace hst := hst.later hB
        replace hb1 := hb1.later hB hb1.lt
        replace hb2 := hb2.later hB hb2.lt
        replace hb3 := hb3.later hB hb3.lt
        replace hC := bel_on hC hB
        have hk1 := hb1.procs
        have hk2 := hb1.events
        have hk3 := hb2.time
        have hk4 := hb2.count
        have hk5 := hb3.time
        have hk6 := hb3.count
        clear hB
        go_wp2_with fail
        refine (sameS_ok (M.stl T (M.tm zs) n n) _ _ n n cx _ (M.stl_length T (M.tm zs) n n) hmax hst hx).mono ?_
        rintro e v7 ⟨rfl, hB⟩
        clear hk1 hk2 hk3 hk4 hk5 hk6
        replace hcT := hcT.later hB
        replace hzs := hzs.later hB
        replace hty := hty.later hB
        replace hx := hx.later hB
        replace hst := hst.later hB
        replace hb1 := hb1.later hB hb1.lt
        replace hb2 := hb2.later hB hb2.lt
        replace hb3 := hb3.later hB hb3.lt
        replace hC := bel_on hC hB
        have hk1 := hb1.procs
        have hk2 := hb1.events
        have hk3 := hb2.time
        have hk4 := hb2.count
        have hk5 := hb3.time
        have hk6 := hb3.count
        clear hB
        go_wp2_with fail
        refine (less_ok a1 a2 b1 b2 false _ hr).mono ?_
        rintro e v8 ⟨rfl, hB⟩
        clear hk1 hk2 hk3 hk4 hk5 hk6
        replace hcT := hcT.later hB
        replace hzs := hzs.later hB
        replace hty := hty.later hB
        replace hx := hx.later hB
        replace hst := hst.later hB
        replace hb1 := hb1.later hB hb1.lt
        replace hb2 := hb2.later hB hb2.lt
        replace hb3 := hb3.later hB hb3.lt
        replace hC := bel_on hC hB
        have hk1 := hb1.procs
        have hk2 := hb1.events
        have hk3 := hb2.time
        have hk4 := hb2.count
        have hk5 := hb3.time
        have hk6 := hb3.count
        clear hB
        go_wp2_with fail
        go_ret
        exact ⟨rfl, bel_on hB0 hC⟩
end Go.Proofs.YtckejldbbkibhaaDoor
