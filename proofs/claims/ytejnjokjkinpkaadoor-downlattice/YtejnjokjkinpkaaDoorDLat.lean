/- BIRKHOFF: CLOSED SETS ARE A LATTICE: the law's walk: at whatever numbers the call returns true, and what lay in memory lies as it lay; the library's table lies where its variable is. -/
import Derived.Test.YtejnjokjkinpkaaDoorDFact
import Derived.Test.YtejnjokjkinpkaaDoorRefSet
namespace Go.Proofs.YtejnjokjkinpkaaDoor
open Go.RowKit

theorem close_some (zs : List Int) (z : Int) (p : Option Addr) (n cap : Nat) (w : World) (hl : zs.length = n) (he : Env w) (hmax : n ≤ maxLen) (hc : Has zs p w) :
    Calls Tryd.prog 16 #[.slice p n cap, .int .i64 z] w fun e w' => ∃ (b : Nat) (ev : Value), e = .returned (.tuple #[.int .i64 (b : Nat), ev]) ∧ Below w.heap.size w w' := by
  by_cases h0 : dcode zs z = 0
  · obtain ⟨h1, s, rfl, hs⟩ := dcode_zero h0
    refine (close_ok zs s p n cap w hl he hmax hc h1 (by rw [← hl]; exact hs)).mono ?_
    rintro e w' ⟨rfl, hB⟩
    exact ⟨_, _, rfl, hB⟩
  · refine (close_bad zs z p n cap _ w hl he hmax hc rfl h0).mono ?_
    rintro e w' ⟨rfl, hB⟩
    exact ⟨0, _, rfl, hB⟩
set_option maxHeartbeats 1000000 in
theorem dlat_bad1 (zs : List Int) (z u : Int) (p : Option Addr) (n cap d : Nat) (w : World) (hl : zs.length = n) (he : Env w) (hmax : n ≤ maxLen) (hc : Has zs p w) (h0 : dcode zs z = d) (hne : d ≠ 0) :
    Calls Tryd.prog 5 #[.slice p n cap, .int .i64 z, .int .i64 u] w fun e w' => e = .returned (.bool true) ∧ Below w.heap.size w w' := by
  go_enter Tryd.func5, Tryd.ntmps5
  go_wp2_with fail
  refine (dfact_any _ he).mono ?_
  rintro e w1 ⟨rfl, hB1⟩
  go_wp2_with fail
  refine (close_bad zs z p n cap d _ hl (he.later hB1) hmax (hc.later hB1) h0 hne).mono ?_
  rintro e w2 ⟨rfl, hB2⟩
  have hC2 := hB1.trans (hB2.mono hB1.size)
  go_wp2_with fail
  refine (close_some zs u p n cap _ hl (he.later hC2) hmax (hc.later hC2)).mono ?_
  rintro e w3 ⟨b, ev, rfl, hB3⟩
  have hC3 := hC2.trans (hB3.mono hC2.size)
  go_wp2_with fail
  go_ret
  exact ⟨rfl, hC3⟩
set_option maxHeartbeats 1000000 in
theorem dlat_bad2 (zs : List Int) (s : Nat) (u : Int) (p : Option Addr) (n cap d : Nat) (w : World) (hl : zs.length = n) (he : Env w) (hmax : n ≤ maxLen) (hc : Has zs p w) (h0 : code zs = 0) (hs : s < 2 ^ n) (hu : dcode zs u = d) (hne : d ≠ 0) :
    Calls Tryd.prog 5 #[.slice p n cap, .int .i64 (s : Nat), .int .i64 u] w fun e w' => e = .returned (.bool true) ∧ Below w.heap.size w w' := by
  have hcl : ∀ W, Below w.heap.size w W → Calls Tryd.prog 16 #[.slice p n cap, .int .i64 (s : Nat)] W fun e w' => e = .returned (.tuple #[.int .i64 (M.down (M.turned (nats zs)) s : Nat), .nilIface]) ∧ Below W.heap.size W w' := fun W hB => close_ok zs s p n cap W hl (he.later hB) hmax (hc.later hB) h0 hs
  obtain ⟨x, hx⟩ : ∃ x, M.down (M.turned (nats zs)) s = x := ⟨_, rfl⟩
  simp only [hx] at hcl
  clear hx
  go_enter Tryd.func5, Tryd.ntmps5
  go_wp2_with fail
  refine (dfact_any _ he).mono ?_
  rintro e w1 ⟨rfl, hB1⟩
  go_wp2_with fail
  refine (hcl _ hB1).mono ?_
  rintro e w2 ⟨rfl, hB2⟩
  have hC2 := hB1.trans (hB2.mono hB1.size)
  go_wp2_with fail
  refine (close_bad zs u p n cap d _ hl (he.later hC2) hmax (hc.later hC2) hu hne).mono ?_
  rintro e w3 ⟨rfl, hB3⟩
  have hC3 := hC2.trans (hB3.mono hC2.size)
  by_cases h : x = 0
  · have e1 : ((x : Int) == 0) = true := by simp; omega
    clear h
    go_wp2_with fail
    go_ret
    exact ⟨rfl, hC3⟩
  · have e1 : ((x : Int) == 0) = false := by simp; omega
    clear h
    go_wp2_with fail
    go_ret
    exact ⟨rfl, hC3⟩
set_option maxRecDepth 100000 in
set_option maxHeartbeats 2000000 in
theorem dlat_ok (zs : List Int) (s u : Nat) (p : Option Addr) (n cap : Nat) (w : World) (hl : zs.length = n) (he : Env w) (hmax : n ≤ maxLen) (hc : Has zs p w) (h0 : code zs = 0) (hs : s < 2 ^ n) (hu : u < 2 ^ n) :
    Calls Tryd.prog 5 #[.slice p n cap, .int .i64 (s : Nat), .int .i64 (u : Nat)] w fun e w' => e = .returned (.bool true) ∧ Below w.heap.size w w' := by
  have hcz := code_zero h0
  have hok := nats_ok hcz.2.1
  have hn : n ≤ 12 := by omega
  have hpw := pow_lt n hn
  have htl : (M.turned (nats zs)).length = n := by rw [M.turned_length, nats_length, hl]
  have htr := M.tr_dual (M.dual_clo hok) (M.tr_clo hok hcz.2.2)
  have hdl : ∀ v, v < 2 ^ n → M.down (M.turned (nats zs)) v < 2 ^ n := fun v hv => by have := M.down_lt (M.turned_ok (nats zs)) (s := v) (by rw [htl]; exact hv); rw [htl] at this; exact this
  have hcl : ∀ v : Nat, v < 2 ^ n → ∀ W, Below w.heap.size w W → Calls Tryd.prog 16 #[.slice p n cap, .int .i64 (v : Nat)] W fun e w' => e = .returned (.tuple #[.int .i64 (M.down (M.turned (nats zs)) v : Nat), .nilIface]) ∧ Below W.heap.size W w' := fun v hv W hB => close_ok zs v p n cap W hl (he.later hB) hmax (hc.later hB) h0 hv
  have his : ∀ v : Nat, v < 2 ^ n → M.Closd (M.turned (nats zs)) v → ∀ W, Below w.heap.size w W → Calls Tryd.prog 17 #[.slice p n cap, .int .i64 (v : Nat)] W fun e w' => e = .returned (.tuple #[.bool true, .nilIface]) ∧ Below W.heap.size W w' := fun v hv hcd W hB => by
    have := dis_ok zs v p n cap W hl (he.later hB) hmax (hc.later hB) h0 hv
    rw [M.closB_iff.2 hcd] at this; exact this
  have h1 := hcl s hs
  have h2 := hcl u hu
  have h3 := hcl (s ||| u) (Nat.or_lt_two_pow hs hu)
  rw [M.down_or] at h3
  have hxs := M.down_closd htr s
  have hxu := M.down_closd htr u
  have hls := hdl s hs
  have hlu := hdl u hu
  have h4 := his _ (Nat.lt_of_le_of_lt Nat.and_le_left hls) (M.closd_and hxs hxu)
  have h5 := his _ (Nat.or_lt_two_pow hls hlu) (M.closd_or hxs hxu)
  clear hxs hxu hcl his hdl htr
  obtain ⟨x, hx⟩ : ∃ x, M.down (M.turned (nats zs)) s = x := ⟨_, rfl⟩
  obtain ⟨y, hy⟩ : ∃ y, M.down (M.turned (nats zs)) u = y := ⟨_, rfl⟩
  simp only [hx, hy] at h1 h2 h3 h4 h5 hls hlu
  clear hx hy
  have h6 := fun W => both_any x y W (by omega) (by omega)
  have h7 := fun W => either_any x y W (by omega) (by omega)
  have h8 := fun W => either_any s u W (by omega) (by omega)
  obtain ⟨o, ho⟩ : ∃ o, x ||| y = o := ⟨_, rfl⟩
  obtain ⟨o2, ho2⟩ : ∃ o, s ||| u = o := ⟨_, rfl⟩
  obtain ⟨a, ha⟩ : ∃ o, x &&& y = o := ⟨_, rfl⟩
  simp only [ho] at h3 h5 h7
  simp only [ho2] at h3 h8
  simp only [ha] at h4 h6
  clear ho ho2 ha
  have e0 : decide ((x : Int) < 0) = false := decide_eq_false (by omega)
  have e1 : decide ((y : Int) < 0) = false := decide_eq_false (by omega)
  clear hls hlu hs hu hpw
  go_enter Tryd.func5, Tryd.ntmps5
  go_wp2_with fail
  refine (dfact_any _ he).mono ?_
  rintro e w1 ⟨rfl, hB1⟩
  go_wp2_with fail
  refine (h1 _ hB1).mono ?_
  rintro e w2 ⟨rfl, hB2⟩
  have hC2 := hB1.trans (hB2.mono hB1.size)
  go_wp2_with fail
  refine (h2 _ hC2).mono ?_
  rintro e w3 ⟨rfl, hB3⟩
  have hC3 := hC2.trans (hB3.mono hC2.size)
  go_wp2_with fail
  refine (h6 _).mono ?_
  rintro e w4 ⟨rfl, rfl⟩
  go_wp2_with fail
  refine (h4 _ hC3).mono ?_
  rintro e w4 ⟨rfl, hB4⟩
  have hC4 := hC3.trans (hB4.mono hC3.size)
  go_wp2_with fail
  refine (h7 _).mono ?_
  rintro e w5 ⟨rfl, rfl⟩
  go_wp2_with fail
  refine (h5 _ hC4).mono ?_
  rintro e w5 ⟨rfl, hB5⟩
  have hC5 := hC4.trans (hB5.mono hC4.size)
  go_wp2_with fail
  refine (h8 _).mono ?_
  rintro e w6 ⟨rfl, rfl⟩
  go_wp2_with fail
  refine (h3 _ hC5).mono ?_
  rintro e w6 ⟨rfl, hB6⟩
  have hC6 := hC5.trans (hB6.mono hC5.size)
  go_wp2_with fail
  refine (h7 _).mono ?_
  rintro e w7 ⟨rfl, rfl⟩
  go_wp2_with fail
  go_ret
  exact ⟨bool_ret (by simp), hC6⟩
theorem dlat_rowwalk (zs : List Int) (p : Option Addr) (n cap : Nat) (z u : Int) (w : World) (he : Env w) (hl : zs.length = n) (hmax : n ≤ maxLen) (hc : Has zs p w) :
    Calls Tryd.prog 5 #[.slice p n cap, .int .i64 z, .int .i64 u] w fun e w' => e = .returned (.bool true) ∧ Below w.heap.size w w' := by
  by_cases h0 : dcode zs z = 0
  · obtain ⟨h1, s, rfl, hs⟩ := dcode_zero h0
    rw [hl] at hs
    by_cases h2 : dcode zs u = 0
    · obtain ⟨_, t, rfl, ht⟩ := dcode_zero h2
      rw [hl] at ht
      exact dlat_ok zs s t p n cap w hl he hmax hc h1 hs ht
    · exact dlat_bad2 zs s u p n cap _ w hl he hmax hc h1 hs rfl h2
  · exact dlat_bad1 zs z u p n cap _ w hl he hmax hc rfl h0
end Go.Proofs.YtejnjokjkinpkaaDoor
