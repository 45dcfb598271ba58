/- AS MANY AS SETS SIDE BY SIDE: the law's walk: at whatever numbers the call returns true, and what lay in memory lies as it lay; the library's table lies where its variable is. -/
import Derived.Test.YtejnjokjkinpkaaDoorDFact
import Derived.Test.YtejnjokjkinpkaaDoorWide
import Derived.Test.YtejnjokjkinpkaaDoorRefMany
import Derived.Test.YtejnjokjkinpkaaDoorRefSet
namespace Go.Proofs.YtejnjokjkinpkaaDoor
open Go.RowKit

theorem turned_clo_same {m : List Nat} (hm : M.Ok m) : M.turned (M.clo m) = M.turned m := by
  apply M.ext_rows (by simp [M.turned_length, M.clo_length])
  intro i _ j
  rw [Bool.eq_iff_iff, M.turned_bit (M.clo_ok hm), M.turned_bit hm, ← M.clo_bit, M.clo_clo hm, M.clo_bit]
theorem downs_one {c t : List Nat} (hd : M.Dual c t) (hc : M.Tr c) (ht : M.Tr t) (hto : M.Ok t) (hn : c.length ≤ 12) : M.downs t = c.length + 1 ↔ M.pc (M.widest c) ≤ 1 := by
  rw [M.downs_sides hd hc ht hto hn]
  have hw := M.widest_is c
  constructor
  · intro h
    by_cases h2 : 2 ≤ M.pc (M.widest c)
    · have := M.sides_more hc hn hw.lt hw.ok h2
      omega
    · omega
  · intro h
    have h1 := M.sides_chain hn (fun s hs hsd => Nat.le_trans (hw.best s hs hsd).1 h)
    have h2 := M.sides_ge hc
    omega
set_option maxHeartbeats 1000000 in
theorem dcnt_bad (zs : List Int) (a b : Int) (p : Option Addr) (n cap d : Nat) (w : World) (hl : zs.length = n) (he : Env w) (hmax : n ≤ maxLen) (hc : Has zs p w) (h0 : code zs = d) (hne : d ≠ 0) :
    Calls Tryd.prog 7 #[.slice p n cap, .int .i64 a, .int .i64 b] w fun e w' => e = .returned (.bool true) ∧ Below w.heap.size w w' := by
  go_enter Tryd.func7, Tryd.ntmps7
  go_wp2_with fail
  refine (dfact_any _ he).mono ?_
  rintro e w1 ⟨rfl, hB1⟩
  go_wp2_with fail
  refine (dcount_err zs p n cap d _ hl (he.later hB1) hmax (hc.later hB1) h0 hne).mono ?_
  rintro e w2 ⟨rfl, hB2⟩
  have hC2 := hB1.trans (hB2.mono hB1.size)
  go_wp2_with fail
  refine (widest_err zs p n cap d _ hl (he.later hC2) hmax (hc.later hC2) h0 hne).mono ?_
  rintro e w3 ⟨rfl, hB3⟩
  have hC3 := hC2.trans (hB3.mono hC2.size)
  go_wp2_with fail
  go_ret
  exact ⟨rfl, hC3⟩
set_option maxRecDepth 100000 in
set_option maxHeartbeats 2000000 in
theorem dcnt_ok (zs : List Int) (a b : Int) (p : Option Addr) (n cap : Nat) (w : World) (hl : zs.length = n) (he : Env w) (hmax : n ≤ maxLen) (hc : Has zs p w) (h0 : code zs = 0)
    (hw : ∀ W, Below w.heap.size w W → Calls Tryd.prog 27 #[.slice p n cap, .int .i64 a, .int .i64 b] W fun e w' =>
      ((∃ d : Nat, e = .returned (.tuple #[.slice none 0 0, .iface 49 (.int .i64 (d : Nat))])) ∧ Below W.heap.size W w') ∨
      (∃ (A k : Nat), e = .returned (.tuple #[.slice (some ⟨A, 0, none⟩) n n, .nilIface]) ∧ k ≤ M.downs (M.turned (nats zs)) ∧ Below W.heap.size W w' ∧
        Calls Tryd.prog 11 #[.slice (some ⟨A, 0, none⟩) n n] w' fun e w'' => e = .returned (.tuple #[.int .i64 (k : Nat), .nilIface]) ∧ Below w'.heap.size w' w'')) :
    Calls Tryd.prog 7 #[.slice p n cap, .int .i64 a, .int .i64 b] w fun e w' => e = .returned (.bool true) ∧ Below w.heap.size w w' := by
  have hcz := code_zero h0
  have hok := nats_ok hcz.2.1
  have hn : n ≤ 12 := by omega
  have hpw := pow_lt n hn
  have htl : (M.turned (nats zs)).length = n := by rw [M.turned_length, nats_length, hl]
  have hcll : (M.clo (nats zs)).length = n := by rw [M.clo_length, nats_length, hl]
  have hdu := M.dual_clo hok
  have htc := M.tr_clo hok hcz.2.2
  have htr := M.tr_dual hdu htc
  have hone := downs_one hdu htc htr (M.turned_ok _) (by omega)
  have hge := M.sides_ge htc
  rw [← M.downs_sides hdu htc htr (M.turned_ok _) (by omega)] at hge
  have hup := M.downs_le_pow (M.turned (nats zs))
  rw [hcll] at hone hge
  rw [htl] at hup
  have hwl : M.widest (M.clo (nats zs)) < 4096 := by have := (M.widest_is (M.clo (nats zs))).lt; rw [hcll] at this; omega
  have h1 : ∀ W, Below w.heap.size w W → Calls Tryd.prog 11 #[.slice p n cap] W fun e w' => e = .returned (.tuple #[.int .i64 (M.downs (M.turned (nats zs)) : Nat), .nilIface]) ∧ Below W.heap.size W w' := fun W hB => dcount_ok zs p n cap W hl (he.later hB) hmax (hc.later hB) h0
  have h2 : ∀ W, Below w.heap.size w W → Calls Tryd.prog 25 #[.slice p n cap] W fun e w' => e = .returned (.tuple #[.int .i64 (M.widest (M.clo (nats zs)) : Nat), .nilIface]) ∧ Below W.heap.size W w' := fun W hB => widest_ok zs p n cap W hl (he.later hB) hmax (hc.later hB) h0
  obtain ⟨v, hv⟩ : ∃ v, M.downs (M.turned (nats zs)) = v := ⟨_, rfl⟩
  obtain ⟨x, hx⟩ : ∃ x, M.widest (M.clo (nats zs)) = x := ⟨_, rfl⟩
  simp only [hv] at h1 hone hge hup hw
  simp only [hx] at h2 hone hwl
  clear hv hx hdu htc htr
  have h3 := fun W => many_any x W hwl
  obtain ⟨px, hpx⟩ : ∃ v, M.pc x = v := ⟨_, rfl⟩
  simp only [hpx] at h3 hone
  clear hpx
  obtain ⟨q, hq⟩ : ∃ q, 2 ^ n = q := ⟨_, rfl⟩
  have HQ : Hid (2 ^ n = q) := hq
  rw [hq] at hpw hup
  clear hq
  have h4 := fun W => pow2_any n q W hn HQ
  have hv4 : v ≤ 4096 := by omega
  have f1 : decide ((v : Int) < (n : Int) + 1) = false := decide_eq_false (by omega)
  have f2 : decide ((v : Int) ≤ (n : Int)) = false := decide_eq_false (by omega)
  have f3 : decide (v ≤ n) = false := decide_eq_false (by omega)
  have f4 : decide ((q : Int) < (v : Int)) = false := decide_eq_false (by omega)
  have f5 : decide (q < v) = false := decide_eq_false (by omega)
  have hbx : ∃ c : Bool, ((v : Int) == (n : Int) + 1) = c ∧ decide ((px : Int) ≤ 1) = c ∧ decide (px ≤ 1) = c := ⟨decide (px ≤ 1), by rw [Bool.eq_iff_iff]; simp; omega, by rw [Bool.eq_iff_iff]; simp; omega, rfl⟩
  obtain ⟨c, g1, g2, g3⟩ := hbx
  have hcc : (c != c) = false := by cases c <;> rfl
  clear hone hge hup
  go_enter Tryd.func7, Tryd.ntmps7
  go_wp2_with fail
  refine (dfact_any _ he).mono ?_
  rintro e w1 ⟨rfl, hB1⟩
  go_wp2_with fail
  refine (h1 _ hB1).mono ?_
  rintro e w2 ⟨rfl, hB2⟩
  have hC2 := hB1.trans (hB2.mono hB1.size)
  go_wp2_with fail
  refine (h2 _ hC2).mono ?_
  rintro e w3 ⟨rfl, hB3⟩
  have hC3 := hC2.trans (hB3.mono hC2.size)
  go_wp2_with fail
  refine (h4 _).mono ?_
  rintro e w4 ⟨rfl, rfl⟩
  go_wp2_with fail
  refine (h3 _).mono ?_
  rintro e w4 ⟨rfl, rfl⟩
  go_wp2_with fail
  refine (hw _ hC3).mono ?_
  rintro e w5 (⟨⟨d, rfl⟩, hB5⟩ | ⟨A, k, rfl, hk, hB5, hcnt⟩)
  · have hC5 := hC3.trans (hB5.mono hC3.size)
    go_wp2_with fail
    go_ret
    exact ⟨rfl, hC5⟩
  · have hC5 := hC3.trans (hB5.mono hC3.size)
    have f6 : decide ((k : Int) ≤ (v : Int)) = true := decide_eq_true (by omega)
    have f7 : decide (k ≤ v) = true := decide_eq_true hk
    go_wp2_with fail
    refine hcnt.mono ?_
    rintro e w6 ⟨rfl, hB6⟩
    have hC6 := hC5.trans (hB6.mono hC5.size)
    go_wp2_with fail
    go_ret
    exact ⟨rfl, hC6⟩
theorem dcnt_rowwalk (zs : List Int) (p : Option Addr) (n cap : Nat) (a b : Int) (w : World) (he : Env w) (hl : zs.length = n) (hmax : n ≤ maxLen) (hc : Has zs p w) :
    Calls Tryd.prog 7 #[.slice p n cap, .int .i64 a, .int .i64 b] w fun e w' => e = .returned (.bool true) ∧ Below w.heap.size w w' := by
  by_cases h0 : code zs = 0
  · have hr : thingB a n = false ∨ thingB b n = false → Calls Tryd.prog 7 #[.slice p n cap, .int .i64 a, .int .i64 b] w fun e w' => e = .returned (.bool true) ∧ Below w.heap.size w w' := fun hab =>
      dcnt_ok zs a b p n cap w hl he hmax hc h0 (fun W hB => by
        refine (with_range zs a b p n cap W hl (he.later hB) hmax (hc.later hB) h0 hab).mono ?_
        rintro e w' ⟨rfl, hB'⟩
        exact .inl ⟨⟨1, rfl⟩, hB'⟩)
    cases ha : thingB a n with
    | false => exact hr (.inl ha)
    | true =>
      cases hb : thingB b n with
      | false => exact hr (.inr hb)
      | true =>
        clear hr
        obtain ⟨i, rfl, hi⟩ := thing_nat ha
        obtain ⟨j, rfl, hj⟩ := thing_nat hb
        refine dcnt_ok zs i j p n cap w hl he hmax hc h0 (fun W hB => ?_)
        refine (with_step zs i j p n cap W hl (he.later hB) hmax (hc.later hB) h0 hi hj).mono ?_
        rintro e w2 (⟨hring, rfl, hB2⟩ | ⟨hring, A, rfl, hr2, hA, hB2⟩)
        · exact .inl ⟨⟨6, rfl⟩, hB2⟩
        · have hz := code_zero h0
          have hok := nats_ok hz.2.1
          have hin : i < (nats zs).length := by rw [nats_length]; omega
          have hjn : j < (nats zs).length := by rw [nats_length]; omega
          have hmo : M.Ok (M.more (nats zs) i j) := M.more_ok hok hjn
          have hmc : M.Ok (M.clo (M.more (nats zs) i j)) := M.clo_ok hmo
          have hml : (M.clo (M.more (nats zs) i j)).length = n := by rw [M.clo_length, M.more_length, nats_length, hl]
          have hnr : ¬ M.Ring (M.more (nats zs) i j) := fun h => by rw [ringB_iff.2 h] at hring; cases hring
          have hcode : code (ints (M.clo (M.more (nats zs) i j))) = 0 := by
            rw [code_ints hmc (by omega), if_neg]
            rw [ringB_iff, M.clo_ring hmo]; exact hnr
          have hlm : (ints (M.clo (M.more (nats zs) i j))).length = n := by rw [ints_length, hml]
          have e2 : M.turned (nats (ints (M.clo (M.more (nats zs) i j)))) = M.turned (M.more (nats zs) i j) := by rw [nats_ints, turned_clo_same hmo]
          have hcnt := dcount_ok (ints (M.clo (M.more (nats zs) i j))) (some ⟨A, 0, none⟩) n n w2 hlm ((he.later hB).later hB2) hmax hr2.has hcode
          rw [e2] at hcnt
          refine .inr ⟨A, _, rfl, M.downs_le (by rw [M.turned_length, M.turned_length, M.more_length]) (fun u v h => ?_), hB2, hcnt⟩
          rw [M.turned_bit hok] at h
          rw [M.turned_bit hmo]
          exact (M.clo_more hok hin hjn v u).2 (.inl h)
  · exact dcnt_bad zs a b p n cap _ w hl he hmax hc rfl h0
end Go.Proofs.YtejnjokjkinpkaaDoor
