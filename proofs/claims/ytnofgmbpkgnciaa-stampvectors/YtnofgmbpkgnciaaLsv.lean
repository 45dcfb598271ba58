/- FIDGE, MATTERN: BEFORE IS JUST BELOW (law StampVectors): whatever the trace and the two numbers, the call returns true; what lay in memory lies as it lay. -/
import Derived.Test.YtnofgmbpkgnciaaSfc
import Derived.Test.YtnofgmbpkgnciaaSbl
import Derived.Test.YtnofgmbpkgnciaaRefBig
namespace Go.Proofs.Ytnofgmbpkgnciaa
open Go.RowKit

namespace M
theorem iz_vcs (T : List (Int × Int)) (j : Nat) {P q : Nat} (h : P ≤ 5) (hq : q < P) : iz (ints (vcs T j P)) q = (vc T j (q : Int) : Nat) := by
  unfold iz
  rw [ints_get, vcs_row T j h hq]
/-- BEFORE IS JUST BELOW -/
theorem below_bs {P : Nat} {T : List (Int × Int)} (h : TOk (P : Int) T) {i j : Nat} (hi : i < T.length) (hj : j < T.length) : belowB (ints (vcs T i P)) (ints (vcs T j P)) P = (bs T j).testBit i := by
  have hP5 := h.p5
  have hP : P ≤ 5 := by omega
  have hai := h.pr0 i hi
  have haP := h.prP i hi
  have hbj := h.pr0 j hj
  have hbP := h.prP j hj
  obtain ⟨a, ha⟩ : ∃ a : Nat, pr T i = a := ⟨(pr T i).toNat, by omega⟩
  obtain ⟨b, hb⟩ : ∃ b : Nat, pr T j = b := ⟨(pr T j).toNat, by omega⟩
  cases e : (bs T j).testBit i with
  | true =>
    unfold belowB
    rw [Bool.and_eq_true]
    refine ⟨(leB_iff P).2 fun k hk => ?_, (ltB_iff P).2 ⟨b, by omega, ?_⟩⟩
    · rw [iz_vcs T i hP hk, iz_vcs T j hP hk]
      have := vc_sub ((fu_bit T j i).2 (.inr e)) (k : Int)
      omega
    · rw [iz_vcs T i hP (by omega), iz_vcs T j hP (by omega), ← hb]
      have := vc_more e
      omega
  | false =>
    by_cases hij : i = j
    · subst hij
      unfold belowB
      have : ltB (ints (vcs T i P)) (ints (vcs T i P)) P = false := by
        cases e2 : ltB (ints (vcs T i P)) (ints (vcs T i P)) P with
        | false => rfl
        | true =>
          obtain ⟨k, _, h2⟩ := (ltB_iff P).1 e2
          omega
      rw [this, Bool.and_false]
    · refine below_no (k := a) (by omega) ?_
      rw [iz_vcs T i hP (by omega), iz_vcs T j hP (by omega), ← ha]
      have := vc_knows (T := T) (i := i) (j := j) (by
        cases e2 : (fu T j).testBit i with
        | false => rfl
        | true =>
          rcases (fu_bit T j i).1 e2 with h1 | h1
          · exact absurd h1 hij
          · rw [e] at h1; cases h1)
      omega
end M
set_option maxRecDepth 100000 in
set_option maxHeartbeats 8000000 in
theorem svc_walk (P : Int) (T : List (Int × Int)) (p : Option Addr) (n cap : Nat) (iz jz : Int) (w : World) (hl : T.length = n) (hmax : n ≤ maxLen) (hc : HasE T p w) (_hiz : (Lit.int .i64 iz).wf = true) (_hjz : (Lit.int .i64 jz).wf = true) :
    Calls Try.prog 6 #[trV P p n cap, .int .i64 iz, .int .i64 jz] w fun e w' => e = .returned (.bool true) ∧ Below w.heap.size w w' := by
  have hB0 : Below w.heap.size w (w.alloc (.cells #[.int .i64 P, .slice p n cap] 24)) := (Below.refl _ _).alloc (Nat.le_refl _) _
  have hbox := tbox_new w P p n cap
  obtain ⟨wb, hwb⟩ : ∃ wb, w.alloc (.cells #[.int .i64 P, .slice p n cap] 24) = wb := ⟨_, rfl⟩
  rw [hwb] at hB0 hbox
  go_enter Try.func6, Try.ntmps6
  go_wp2_with fail
  refine (stampFact_ok _).mono ?_
  rintro e w1 ⟨rfl, hB1⟩
  have hC1 := bel_on hB0 hB1
  have hb1 := hbox.later hB1 hbox.lt
  have hk1 := hb1.procs
  have hk2 := hb1.events
  clear hwb
  go_wp2_with fail
  by_cases h0 : M.tcode P T = 0
  · have hok := M.tcode_zero.1 h0
    have hn : n ≤ 24 := hl ▸ hok.len
    have hP1 := hok.p1
    have hP5 := hok.p5
    obtain ⟨Pn, rfl⟩ : ∃ Pn : Nat, P = Pn := ⟨P.toNat, by omega⟩
    have hPn : Pn ≤ 5 := by omega
    refine (vectors_ok Pn T p n cap _ hl hmax (hc.later hC1) h0).mono ?_
    rintro e w2 ⟨A, N, rfl, hr, hA, _, hB2⟩
    have hR2 := hr.hasR hPn
    have hC2 := bel_on hC1 hB2
    have hb2 := hb1.later hB2 hb1.lt
    clear hk1 hk2 hr
    have hk1 := hb2.procs
    have hk2 := hb2.events
    go_wp2_with fail
    refine (before_ok Pn T p n cap _ hl hmax (hc.later hC2) h0).mono ?_
    rintro e w3 ⟨A3, rfl, hr3, hA3, hB3⟩
    have hC3 := bel_on hC2 hB3
    have hb3 := hb2.later hB3 hb2.lt
    have hR := hR2.later hB3
    clear hk1 hk2
    have hc3 := hc.later hC3
    have hlb : (M.before T).length = n := by rw [M.before_length, hl]
    by_cases hi0 : iz < 0
    · have d1 : decide (iz < 0) = true := decide_eq_true hi0
      clear hi0
      go_wp2_with fail
      go_ret
      exact ⟨rfl, hC3⟩
    have d1 : decide (iz < 0) = false := decide_eq_false hi0
    by_cases hin : (n : Int) ≤ iz
    · have d2 : decide ((n : Int) ≤ iz) = true := decide_eq_true hin
      clear hi0 hin
      go_wp2_with fail
      go_ret
      exact ⟨rfl, hC3⟩
    have d2 : decide ((n : Int) ≤ iz) = false := decide_eq_false hin
    by_cases hj0 : jz < 0
    · have d3 : decide (jz < 0) = true := decide_eq_true hj0
      clear hi0 hin hj0
      go_wp2_with fail
      go_ret
      exact ⟨rfl, hC3⟩
    have d3 : decide (jz < 0) = false := decide_eq_false hj0
    by_cases hjn : (n : Int) ≤ jz
    · have d4 : decide ((n : Int) ≤ jz) = true := decide_eq_true hjn
      clear hi0 hin hj0 hjn
      go_wp2_with fail
      go_ret
      exact ⟨rfl, hC3⟩
    have d4 : decide ((n : Int) ≤ jz) = false := decide_eq_false hjn
    obtain ⟨i, rfl⟩ : ∃ i : Nat, iz = i := ⟨iz.toNat, by omega⟩
    obtain ⟨j, rfl⟩ : ∃ j : Nat, jz = j := ⟨jz.toNat, by omega⟩
    have hi : i < n := by omega
    have hj : j < n := by omega
    clear hi0 hin hj0 hjn d1 d2 d3 d4
    have e2 : decide ((n : Int) ≤ (i : Int)) = false := decide_eq_false (by omega)
    have e2' : decide (n ≤ i) = false := decide_eq_false (by omega)
    have e4 : decide ((n : Int) ≤ (j : Int)) = false := decide_eq_false (by omega)
    have e4' : decide (n ≤ j) = false := decide_eq_false (by omega)
    have hin : (i : Int) < (n : Int) := by omega
    have hjn : (j : Int) < (n : Int) := by omega
    have hcx := hr3.cell (k := j) (by omega)
    rw [M.before_row T (by omega)] at hcx
    have hxb : M.bs T j < 16777216 := by have h1 := M.bs_lt T j; have h2 := pow_24 j (by omega); omega
    obtain ⟨_, _, e0, hAl, q1, c1, hd1, hv1⟩ := hR i (by simp; exact hi)
    cases e0
    obtain ⟨_, _, e0, _, q2, c2, hd2, hv2⟩ := hR j (by simp; exact hj)
    cases e0
    have g1 : ((List.range n).map fun j => ints (M.vcs T j Pn))[i]?.getD [] = ints (M.vcs T i Pn) := by simp [hi]
    have g2 : ((List.range n).map fun j => ints (M.vcs T j Pn))[j]?.getD [] = ints (M.vcs T j Pn) := by simp [hj]
    rw [g1, ints_length, M.vcs_length T i hPn, Nat.zero_add] at hd1
    rw [g2, ints_length, M.vcs_length T j hPn, Nat.zero_add] at hd2
    rw [g1] at hv1
    rw [g2] at hv2
    have ha0 := hok.pr0 i (by omega)
    have haP := hok.prP i (by omega)
    obtain ⟨a, ha⟩ : ∃ a : Nat, M.pr T i = a := ⟨(M.pr T i).toNat, by omega⟩
    have haPn : a < Pn := by omega
    have hiff := M.vc_iff T i j
    have hbel := belowQ (ints (M.vcs T i Pn)) (ints (M.vcs T j Pn)) q1 q2 Pn c1 c2
    rw [M.below_bs hok (by omega) (by omega)] at hbel
    have hbelow := fun m => hbel (w3.drewN m) (by rw [ints_length, M.vcs_length T i hPn]) (by rw [ints_length, M.vcs_length T j hPn]) (by unfold maxLen; omega) (hv1.drN m) (hv2.drN m)
    obtain ⟨b1, o1, rfl, hb1l, hc1⟩ := hv1 a (by rw [ints_length, M.vcs_length T i hPn]; exact haPn)
    obtain ⟨b2, o2, rfl, hb2l, hc2⟩ := hv2 a (by rw [ints_length, M.vcs_length T j hPn]; exact haPn)
    rw [ints_get, M.vcs_row T i hPn haPn] at hc1
    rw [ints_get, M.vcs_row T j hPn haPn] at hc2
    rw [ha] at hiff
    clear hbel hR2 hR g1 g2
    obtain ⟨x, hx⟩ : ∃ x, M.bs T j = x := ⟨_, rfl⟩
    obtain ⟨v1, hv1⟩ : ∃ x, M.vc T i (a : Int) = x := ⟨_, rfl⟩
    obtain ⟨v2, hv2⟩ : ∃ x, M.vc T j (a : Int) = x := ⟨_, rfl⟩
    rw [hx] at hcx hxb hiff hbelow
    rw [hv1] at hc1 hiff
    rw [hv2] at hc2 hiff
    obtain ⟨tb, htb⟩ : ∃ t, x.testBit i = t := ⟨_, rfl⟩
    have hbit : ∀ W, Calls Try.prog 10 #[.int .i64 x, .int .i64 i] W fun e w' => e = .returned (.bool tb) ∧ W = w' := fun W => by rw [← htb]; exact bit_big x i W (by omega) (by omega)
    rw [htb] at hiff hbelow
    obtain ⟨b, off, rfl, hb, hp1, -⟩ := hc3 i (by omega)
    have hk1 := hb3.procs
    have hk2 := hb3.events
    rw [ha] at hp1
    have haPi : (a : Int) < (Pn : Int) := by omega
    clear hx hv1 hv2 htb ha ha0 haP
    have HI : Hid _ := hiff
    clear hiff
    have l1 : ((Pn : Int) != (Pn : Int)) = false := by simp
    have l2 : (Pn != Pn) = false := by simp
    go_wp2_with fail
    go_big_quiet (fail)
    go_wp2_with fail
    go_big_quiet ((go_at_call 16; refine (hbelow _).mono ?_; rintro e w' ⟨rfl, m, rfl⟩; exact ⟨rfl, _, by rw [World.drewN_drewN, Nat.add_assoc]⟩))
    go_wp2_with (go_at_call 10; refine (hbit _).mono ?_; rintro e w' ⟨rfl, rfl⟩)
    cases tb with
    | true =>
      have hle : v1 ≤ v2 := HI.out.2 (.inl rfl)
      have k1 : decide ((v1 : Int) ≤ (v2 : Int)) = true := decide_eq_true (by omega)
      have k2 : decide (v1 ≤ v2) = true := decide_eq_true hle
      clear HI hle hbelow hbit
      go_big_quiet (fail)
      go_wp2_with fail
      go_ret
      exact ⟨rfl, bel_on hC3 (bel_drN (below_drewN _ _) _)⟩
    | false =>
      by_cases hij : i = j
      · have hle : v1 ≤ v2 := HI.out.2 (.inr hij)
        have k1 : decide ((v1 : Int) ≤ (v2 : Int)) = true := decide_eq_true (by omega)
        have k2 : decide (v1 ≤ v2) = true := decide_eq_true hle
        have n1 : ((i : Int) == (j : Int)) = true := by subst hij; simp
        have n2 : (i == j) = true := by subst hij; simp
        clear HI hle hbelow hbit hij
        go_big_quiet (fail)
        go_wp2_with fail
        go_ret
        exact ⟨rfl, bel_on hC3 (bel_drN (below_drewN _ _) _)⟩
      · have hle : ¬ v1 ≤ v2 := fun h => by
          rcases HI.out.1 h with h | h
          · cases h
          · exact hij h
        have k1 : decide ((v1 : Int) ≤ (v2 : Int)) = false := decide_eq_false (by omega)
        have k2 : decide (v1 ≤ v2) = false := decide_eq_false hle
        have n1 : ((i : Int) == (j : Int)) = false := by simp; omega
        have n2 : (i == j) = false := by simpa using hij
        clear HI hle hbelow hbit hij
        go_big_quiet (fail)
        go_wp2_with fail
        go_ret
        exact ⟨rfl, bel_on hC3 (bel_drN (below_drewN _ _) _)⟩
  · obtain ⟨d, hd⟩ : ∃ d, M.tcode P T = d := ⟨_, rfl⟩
    have hd0 : d ≠ 0 := by rw [← hd]; exact h0
    refine (vectors_err P T p n cap d _ hl hmax (hc.later hC1) hd hd0).mono ?_
    rintro e w2 ⟨rfl, hB2⟩
    have hC2 := bel_on hC1 hB2
    have hb2 := hb1.later hB2 hb1.lt
    clear hk1 hk2
    have hk1 := hb2.procs
    have hk2 := hb2.events
    go_wp2_with fail
    refine (before_err P T p n cap d _ hl hmax (hc.later hC2) hd hd0).mono ?_
    rintro e w3 ⟨rfl, hB3⟩
    go_wp2_with fail
    go_ret
    exact ⟨rfl, bel_on hC2 hB3⟩
end Go.Proofs.Ytnofgmbpkgnciaa
