/- CLOSED IS CLOSED: the law's walk: at whatever numbers the call returns true, and what lay in memory lies as it lay; the library's table lies where its variable is. -/
import Derived.Test.YtejnjokjkinpkaaDoorDFact
import Derived.Test.YtejnjokjkinpkaaDoorRefWit
namespace Go.Proofs.YtejnjokjkinpkaaDoor
open Go.RowKit

set_option maxHeartbeats 1000000 in
theorem dclo_bad (zs : List Int) (z u : Int) (p : Option Addr) (n cap d : Nat) (w : World) (hl : zs.length = n) (he : Env w) (hmax : n ≤ maxLen) (hc : Has zs p w) (h0 : dcode zs z = d) (hne : d ≠ 0) :
    Calls Tryd.prog 4 #[.slice p n cap, .int .i64 z, .int .i64 u] w fun e w' => e = .returned (.bool true) ∧ Below w.heap.size w w' := by
  go_enter Tryd.func4, Tryd.ntmps4
  go_wp2_with fail
  refine (dfact_any _ he).mono ?_
  rintro e w1 ⟨rfl, hB1⟩
  go_wp2_with fail
  refine (close_bad zs z p n cap d _ hl (he.later hB1) hmax (hc.later hB1) h0 hne).mono ?_
  rintro e w2 ⟨rfl, hB2⟩
  have hC2 := hB1.trans (hB2.mono hB1.size)
  go_wp2_with fail
  go_ret
  exact ⟨rfl, hC2⟩
set_option maxRecDepth 100000 in
set_option maxHeartbeats 2000000 in
theorem dclo_ok (zs : List Int) (s : Nat) (u : Int) (p : Option Addr) (n cap : Nat) (w : World) (hl : zs.length = n) (he : Env w) (hmax : n ≤ maxLen) (hc : Has zs p w) (h0 : code zs = 0) (hs : s < 2 ^ n) :
    Calls Tryd.prog 4 #[.slice p n cap, .int .i64 (s : Nat), .int .i64 u] w fun e w' => e = .returned (.bool true) ∧ Below w.heap.size w w' := by
  have hcz := code_zero h0
  have hok := nats_ok hcz.2.1
  have hn : n ≤ 12 := by omega
  have hpw := pow_lt n hn
  have htl : (M.turned (nats zs)).length = n := by rw [M.turned_length, nats_length, hl]
  have htr := M.tr_dual (M.dual_clo hok) (M.tr_clo hok hcz.2.2)
  have hxl : M.down (M.turned (nats zs)) s < 2 ^ n := by have := M.down_lt (M.turned_ok (nats zs)) (s := s) (by rw [htl]; exact hs); rw [htl] at this; exact this
  have hxc : M.closB (M.turned (nats zs)) (M.down (M.turned (nats zs)) s) = true := M.closB_iff.2 (M.down_closd htr s)
  have hsx : M.subB s (M.down (M.turned (nats zs)) s) = true := M.subB_iff.2 (fun j hj => M.down_has _ s j hj)
  have hle : ∀ y : Nat, M.closB (M.turned (nats zs)) y = true → M.subB s y = true → M.subB (M.down (M.turned (nats zs)) s) y = true := fun y h1 h2 => M.subB_iff.2 (M.down_least (M.closB_iff.1 h1) (M.subB_iff.1 h2))
  have hcl : ∀ W, Below w.heap.size w W → Calls Tryd.prog 16 #[.slice p n cap, .int .i64 (s : Nat)] W fun e w' => e = .returned (.tuple #[.int .i64 (M.down (M.turned (nats zs)) s : Nat), .nilIface]) ∧ Below W.heap.size W w' := fun W hB => close_ok zs s p n cap W hl (he.later hB) hmax (hc.later hB) h0 hs
  have hix : ∀ W, Below w.heap.size w W → Calls Tryd.prog 17 #[.slice p n cap, .int .i64 (M.down (M.turned (nats zs)) s : Nat)] W fun e w' => e = .returned (.tuple #[.bool true, .nilIface]) ∧ Below W.heap.size W w' := fun W hB => by
    have := dis_ok zs (M.down (M.turned (nats zs)) s) p n cap W hl (he.later hB) hmax (hc.later hB) h0 hxl
    rw [hxc] at this; exact this
  have hws : ∀ W, Calls Tryd.prog 20 #[.int .i64 (s : Nat), .int .i64 (M.down (M.turned (nats zs)) s : Nat)] W fun e w' => e = .returned (.bool true) ∧ W = w' := fun W => by
    have := within_any s (M.down (M.turned (nats zs)) s) W (by omega) (by omega)
    rw [hsx] at this; exact this
  obtain ⟨x, hx⟩ : ∃ x, M.down (M.turned (nats zs)) s = x := ⟨_, rfl⟩
  simp only [hx] at hcl hix hws hle hxl
  clear hx hxc hsx
  have e0 : decide ((x : Int) < 0) = false := decide_eq_false (by omega)
  have hs5 : s < 65536 := by omega
  have hx5 : x < 65536 := by omega
  clear hxl hs hpw htr hok
  cases hu : setB u n with
  | false =>
    have hud : dcode zs u = 1 := by unfold dcode; rw [if_pos h0, hl, hu]; rfl
    go_enter Tryd.func4, Tryd.ntmps4
    go_wp2_with fail
    refine (dfact_any _ he).mono ?_
    rintro e w1 ⟨rfl, hB1⟩
    go_wp2_with fail
    refine (hcl _ hB1).mono ?_
    rintro e w2 ⟨rfl, hB2⟩
    have hC2 := hB1.trans (hB2.mono hB1.size)
    go_wp2_with fail
    refine (hix _ hC2).mono ?_
    rintro e w3 ⟨rfl, hB3⟩
    have hC3 := hC2.trans (hB3.mono hC2.size)
    go_wp2_with fail
    refine (hws _).mono ?_
    rintro e w4 ⟨rfl, rfl⟩
    go_wp2_with fail
    refine (dis_bad zs u p n cap 1 _ hl (he.later hC3) hmax (hc.later hC3) hud (by omega)).mono ?_
    rintro e w5 ⟨rfl, hB5⟩
    have hC5 := hC3.trans (hB5.mono hC3.size)
    go_wp2_with fail
    go_ret
    exact ⟨rfl, hC5⟩
  | true =>
    obtain ⟨y, rfl, hy⟩ := nat_setB hu
    have hy5 : y < 65536 := by have := pow_lt n hn; omega
    have hle2 : Hid (M.closB (M.turned (nats zs)) y = true → M.subB s y = true → M.subB x y = true) := hle y
    have hiy : ∀ W, Below w.heap.size w W → Calls Tryd.prog 17 #[.slice p n cap, .int .i64 (y : Nat)] W fun e w' => e = .returned (.tuple #[.bool (M.closB (M.turned (nats zs)) y), .nilIface]) ∧ Below W.heap.size W w' := fun W hB => dis_ok zs y p n cap W hl (he.later hB) hmax (hc.later hB) h0 hy
    have hw1 := fun W => within_any s y W hs5 hy5
    have hw2 := fun W => within_any x y W hx5 hy5
    clear hle hu hy
    obtain ⟨b1, hb1⟩ : ∃ b, M.closB (M.turned (nats zs)) y = b := ⟨_, rfl⟩
    obtain ⟨b2, hb2⟩ : ∃ b, M.subB s y = b := ⟨_, rfl⟩
    obtain ⟨b3, hb3⟩ : ∃ b, M.subB x y = b := ⟨_, rfl⟩
    simp only [hb1] at hiy
    simp only [hb2] at hw1
    simp only [hb3] at hw2
    rw [hb1, hb2, hb3] at hle2
    clear hb1 hb2 hb3
    go_enter Tryd.func4, Tryd.ntmps4
    go_wp2_with fail
    refine (dfact_any _ he).mono ?_
    rintro e w1 ⟨rfl, hB1⟩
    go_wp2_with fail
    refine (hcl _ hB1).mono ?_
    rintro e w2 ⟨rfl, hB2⟩
    have hC2 := hB1.trans (hB2.mono hB1.size)
    go_wp2_with fail
    refine (hix _ hC2).mono ?_
    rintro e w3 ⟨rfl, hB3⟩
    have hC3 := hC2.trans (hB3.mono hC2.size)
    go_wp2_with fail
    refine (hws _).mono ?_
    rintro e w4 ⟨rfl, rfl⟩
    go_wp2_with fail
    refine (hiy _ hC3).mono ?_
    rintro e w5 ⟨rfl, hB5⟩
    have hC5 := hC3.trans (hB5.mono hC3.size)
    cases b1 with
    | false =>
      go_wp2_with fail
      go_ret
      exact ⟨rfl, hC5⟩
    | true =>
      go_wp2_with fail
      refine (hw1 _).mono ?_
      rintro e w6 ⟨rfl, rfl⟩
      cases b2 with
      | false =>
        go_wp2_with fail
        go_ret
        exact ⟨rfl, hC5⟩
      | true =>
        obtain rfl : b3 = true := by simpa using hle2.out
        go_wp2_with fail
        refine (hw2 _).mono ?_
        rintro e w6 ⟨rfl, rfl⟩
        go_wp2_with fail
        go_ret
        exact ⟨rfl, hC5⟩
theorem dclo_rowwalk (zs : List Int) (p : Option Addr) (n cap : Nat) (z u : Int) (w : World) (he : Env w) (hl : zs.length = n) (hmax : n ≤ maxLen) (hc : Has zs p w) :
    Calls Tryd.prog 4 #[.slice p n cap, .int .i64 z, .int .i64 u] w fun e w' => e = .returned (.bool true) ∧ Below w.heap.size w w' := by
  by_cases h0 : dcode zs z = 0
  · obtain ⟨h1, s, rfl, hs⟩ := dcode_zero h0
    exact dclo_ok zs s u p n cap w hl he hmax hc h1 (by rw [← hl]; exact hs)
  · exact dclo_bad zs z u p n cap _ w hl he hmax hc rfl h0
end Go.Proofs.YtejnjokjkinpkaaDoor
