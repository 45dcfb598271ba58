/- OF ANY ORDER ANY SET CLOSED, WHETHER IT IS, ITS LAST THINGS, AND HOW MANY CLOSED ONES THERE ARE: the law's walk: at whatever numbers the call returns true, and what lay in memory lies as it lay; the library's variables lie as the program's text lays them. -/
import Derived.Test.YtejnjokjkinpkaaDoorRefDwn
import Derived.Test.YtejnjokjkinpkaaDoorDfc
import Derived.Test.YtejnjokjkinpkaaDoorDct
import Derived.Test.YtejnjokjkinpkaaDoorErr
namespace Go.Proofs.YtejnjokjkinpkaaDoor
open Go.RowKit

set_option maxRecDepth 100000 in
set_option maxHeartbeats 2000000 in
theorem dsays_err (zs : List Int) (z : Int) (p : Option Addr) (n cap d : Nat) (w : World) (hl : zs.length = n) (he : Env w) (ht : Ety w) (hmax : n ≤ maxLen) (hc : Has zs p w) (h0 : code zs = d) (hne : d ≠ 0) :
    Calls Tryd.prog 3 #[.slice p n cap, .int .i64 z] w fun e w' => e = .returned (.bool true) ∧ Below w.heap.size w w' := by
  have hd : ((d : Int) == 0) = false := by simp; omega
  have hdc : dcode zs z = d := by unfold dcode; rw [if_neg (by omega)]; exact h0
  have hord := order_any zs p n cap w hl hmax hc
  rw [h0] at hord
  have hC0 : Below w.heap.size w w := Below.refl _ _
  go_enter Tryd.func3, Tryd.ntmps3
  go_wp2_with fail
  refine (hord).mono ?_
  rintro e w1 ⟨rfl, hB1⟩
  have hC1 := hC0.trans (hB1.mono hC0.size)
  go_wp2_with fail
  refine (dcount_err zs p n cap d _ hl (he.later hC1) hmax (hc.later hC1) h0 hne).mono ?_
  rintro e w2 ⟨rfl, hB2⟩
  have hC2 := hC1.trans (hB2.mono hC1.size)
  go_wp2_with fail
  refine (error_same (d : Int) _ (ht.later hC2)).mono ?_
  rintro e w3 ⟨rfl, hB3⟩
  have hC3 := hC2.trans (hB3.mono hC2.size)
  go_wp2_with fail
  refine (close_bad zs z p n cap d _ hl (he.later hC3) hmax (hc.later hC3) hdc hne).mono ?_
  rintro e w4 ⟨rfl, hB4⟩
  have hC4 := hC3.trans (hB4.mono hC3.size)
  go_wp2_with fail
  refine (error_same (d : Int) _ (ht.later hC4)).mono ?_
  rintro e w5 ⟨rfl, hB5⟩
  have hC5 := hC4.trans (hB5.mono hC4.size)
  go_wp2_with fail
  refine (dis_bad zs z p n cap d _ hl (he.later hC5) hmax (hc.later hC5) hdc hne).mono ?_
  rintro e w6 ⟨rfl, hB6⟩
  have hC6 := hC5.trans (hB6.mono hC5.size)
  go_wp2_with fail
  refine (error_same (d : Int) _ (ht.later hC6)).mono ?_
  rintro e w7 ⟨rfl, hB7⟩
  have hC7 := hC6.trans (hB7.mono hC6.size)
  go_wp2_with fail
  refine (last_bad zs z p n cap d _ hl (he.later hC7) hmax (hc.later hC7) hdc hne).mono ?_
  rintro e w8 ⟨rfl, hB8⟩
  have hC8 := hC7.trans (hB8.mono hC7.size)
  go_wp2_with fail
  refine (error_same (d : Int) _ (ht.later hC8)).mono ?_
  rintro e w9 ⟨rfl, hB9⟩
  have hC9 := hC8.trans (hB9.mono hC8.size)
  go_wp2_with fail
  go_ret
  exact ⟨rfl, hC9⟩
set_option maxRecDepth 100000 in
set_option maxHeartbeats 2000000 in
theorem dsays_rng (zs : List Int) (z : Int) (p : Option Addr) (n cap : Nat) (w : World) (hl : zs.length = n) (he : Env w) (ht : Ety w) (hmax : n ≤ maxLen) (hc : Has zs p w) (h0 : code zs = 0) (hz : setB z n = false) :
    Calls Tryd.prog 3 #[.slice p n cap, .int .i64 z] w fun e w' => e = .returned (.bool true) ∧ Below w.heap.size w w' := by
  have hcz := code_zero h0
  have hok := nats_ok hcz.2.1
  have hn : n ≤ 12 := by omega
  have hnl : (nats zs).length = n := by rw [nats_length, hl]
  have hcn : Has (ints (nats zs)) p w := by rw [ints_nats hcz.2.1]; exact hc
  have hdu := M.dual_clo hok
  have htr := M.tr_clo hok hcz.2.2
  have hdc : dcode zs z = 1 := by unfold dcode; rw [if_pos h0, hl, hz]; rfl
  have hse : M.downs (M.turned (nats zs)) = M.sides (M.clo (nats zs)) := M.downs_sides hdu htr (M.tr_dual hdu htr) (M.turned_ok _) (by rw [M.clo_length]; omega)
  have hmk : ∀ W, Calls Tryd.prog 13 #[.int .i64 z, .int .i64 n] W fun e w' => e = .returned (.bool false) ∧ W = w' := fun W => by have := mask_any z n W hn; rw [hz] at this; exact this
  have hdn : ∀ W, Below w.heap.size w W → Calls Tryd.prog 10 #[.slice p n cap] W fun e w' => e = .returned (.int .i64 (M.sides (M.clo (nats zs)) : Nat)) ∧ Below W.heap.size W w' := fun W hB => rdowns_any (nats zs) p n cap W hnl hok hn (hcn.later hB)
  have hct : ∀ W, Below w.heap.size w W → Calls Tryd.prog 11 #[.slice p n cap] W fun e w' => e = .returned (.tuple #[.int .i64 (M.sides (M.clo (nats zs)) : Nat), .nilIface]) ∧ Below W.heap.size W w' := fun W hB => by
    have := dcount_ok zs p n cap W hl (he.later hB) hmax (hc.later hB) h0
    rw [hse] at this; exact this
  obtain ⟨k, hk⟩ : ∃ k, M.sides (M.clo (nats zs)) = k := ⟨_, rfl⟩
  simp only [hk] at hdn hct
  clear hk hse
  have hord := order_any zs p n cap w hl hmax hc
  rw [h0] at hord
  have hC0 : Below w.heap.size w w := Below.refl _ _
  go_enter Tryd.func3, Tryd.ntmps3
  go_wp2_with fail
  refine (hord).mono ?_
  rintro e w1 ⟨rfl, hB1⟩
  have hC1 := hC0.trans (hB1.mono hC0.size)
  go_wp2_with fail
  refine (hdn _ hC1).mono ?_
  rintro e w2 ⟨rfl, hB2⟩
  have hC2 := hC1.trans (hB2.mono hC1.size)
  go_wp2_with fail
  refine (hct _ hC2).mono ?_
  rintro e w3 ⟨rfl, hB3⟩
  have hC3 := hC2.trans (hB3.mono hC2.size)
  go_wp2_with fail
  refine (error_nil _).mono ?_
  rintro e w4 ⟨rfl, rfl⟩
  go_wp2_with fail
  refine (hmk _).mono ?_
  rintro e w5 ⟨rfl, rfl⟩
  go_wp2_with fail
  refine (close_bad zs z p n cap 1 _ hl (he.later hC3) hmax (hc.later hC3) hdc (by omega)).mono ?_
  rintro e w6 ⟨rfl, hB6⟩
  have hC6 := hC3.trans (hB6.mono hC3.size)
  go_wp2_with fail
  refine (error_same (1 : Int) _ (ht.later hC6)).mono ?_
  rintro e w7 ⟨rfl, hB7⟩
  have hC7 := hC6.trans (hB7.mono hC6.size)
  go_wp2_with fail
  refine (dis_bad zs z p n cap 1 _ hl (he.later hC7) hmax (hc.later hC7) hdc (by omega)).mono ?_
  rintro e w8 ⟨rfl, hB8⟩
  have hC8 := hC7.trans (hB8.mono hC7.size)
  go_wp2_with fail
  refine (error_same (1 : Int) _ (ht.later hC8)).mono ?_
  rintro e w9 ⟨rfl, hB9⟩
  have hC9 := hC8.trans (hB9.mono hC8.size)
  go_wp2_with fail
  refine (last_bad zs z p n cap 1 _ hl (he.later hC9) hmax (hc.later hC9) hdc (by omega)).mono ?_
  rintro e w10 ⟨rfl, hB10⟩
  have hC10 := hC9.trans (hB10.mono hC9.size)
  go_wp2_with fail
  refine (error_same (1 : Int) _ (ht.later hC10)).mono ?_
  rintro e w11 ⟨rfl, hB11⟩
  have hC11 := hC10.trans (hB11.mono hC10.size)
  go_wp2_with fail
  go_ret
  exact ⟨rfl, hC11⟩
set_option maxRecDepth 100000 in
set_option maxHeartbeats 2000000 in
theorem dsays_ok (zs : List Int) (s : Nat) (p : Option Addr) (n cap : Nat) (w : World) (hl : zs.length = n) (he : Env w) (hmax : n ≤ maxLen) (hc : Has zs p w) (h0 : code zs = 0) (hs : s < 2 ^ n) :
    Calls Tryd.prog 3 #[.slice p n cap, .int .i64 (s : Nat)] w fun e w' => e = .returned (.bool true) ∧ Below w.heap.size w w' := by
  have hcz := code_zero h0
  have hok := nats_ok hcz.2.1
  have hn : n ≤ 12 := by omega
  have hnl : (nats zs).length = n := by rw [nats_length, hl]
  have hcn : Has (ints (nats zs)) p w := by rw [ints_nats hcz.2.1]; exact hc
  have hdu := M.dual_clo hok
  have htr := M.tr_clo hok hcz.2.2
  have hse : M.downs (M.turned (nats zs)) = M.sides (M.clo (nats zs)) := M.downs_sides hdu htr (M.tr_dual hdu htr) (M.turned_ok _) (by rw [M.clo_length]; omega)
  have hmk : ∀ W, Calls Tryd.prog 13 #[.int .i64 (s : Nat), .int .i64 n] W fun e w' => e = .returned (.bool true) ∧ W = w' := fun W => by have := mask_any (s : Int) n W hn; rw [setB_nat hs] at this; exact this
  have hdn : ∀ W, Below w.heap.size w W → Calls Tryd.prog 10 #[.slice p n cap] W fun e w' => e = .returned (.int .i64 (M.sides (M.clo (nats zs)) : Nat)) ∧ Below W.heap.size W w' := fun W hB => rdowns_any (nats zs) p n cap W hnl hok hn (hcn.later hB)
  have hct : ∀ W, Below w.heap.size w W → Calls Tryd.prog 11 #[.slice p n cap] W fun e w' => e = .returned (.tuple #[.int .i64 (M.sides (M.clo (nats zs)) : Nat), .nilIface]) ∧ Below W.heap.size W w' := fun W hB => by
    have := dcount_ok zs p n cap W hl (he.later hB) hmax (hc.later hB) h0
    rw [hse] at this; exact this
  have hrd : ∀ W, Below w.heap.size w W → Calls Tryd.prog 14 #[.slice p n cap, .int .i64 (s : Nat)] W fun e w' => e = .returned (.int .i64 (M.down (M.turned (nats zs)) s : Nat)) ∧ Below W.heap.size W w' := fun W hB => rdown_any (nats zs) s p n cap W hnl hok hn hs (hcn.later hB)
  have hrl : ∀ W, Below w.heap.size w W → Calls Tryd.prog 15 #[.slice p n cap, .int .i64 (s : Nat)] W fun e w' => e = .returned (.int .i64 (M.lastS (M.clo (nats zs)) s : Nat)) ∧ Below W.heap.size W w' := fun W hB => rlast_any (nats zs) s p n cap W hnl hok hn hs (hcn.later hB)
  have hcl : ∀ W, Below w.heap.size w W → Calls Tryd.prog 16 #[.slice p n cap, .int .i64 (s : Nat)] W fun e w' => e = .returned (.tuple #[.int .i64 (M.down (M.turned (nats zs)) s : Nat), .nilIface]) ∧ Below W.heap.size W w' := fun W hB => close_ok zs s p n cap W hl (he.later hB) hmax (hc.later hB) h0 hs
  have his : ∀ W, Below w.heap.size w W → Calls Tryd.prog 17 #[.slice p n cap, .int .i64 (s : Nat)] W fun e w' => e = .returned (.tuple #[.bool (M.down (M.turned (nats zs)) s == s), .nilIface]) ∧ Below W.heap.size W w' := fun W hB => dis_ok zs s p n cap W hl (he.later hB) hmax (hc.later hB) h0 hs
  have hla : ∀ W, Below w.heap.size w W → Calls Tryd.prog 18 #[.slice p n cap, .int .i64 (s : Nat)] W fun e w' => e = .returned (.tuple #[.int .i64 (M.lastS (M.clo (nats zs)) s : Nat), .nilIface]) ∧ Below W.heap.size W w' := fun W hB => last_ok zs s p n cap W hl (he.later hB) hmax (hc.later hB) h0 hs
  obtain ⟨k, hk⟩ : ∃ k, M.sides (M.clo (nats zs)) = k := ⟨_, rfl⟩
  simp only [hk] at hdn hct
  obtain ⟨x, hx⟩ : ∃ x, M.down (M.turned (nats zs)) s = x := ⟨_, rfl⟩
  simp only [hx] at hrd hcl his
  obtain ⟨y, hy⟩ : ∃ y, M.lastS (M.clo (nats zs)) s = y := ⟨_, rfl⟩
  simp only [hy] at hrl hla
  clear hk hse hx hy hs hcn hdu htr hok
  have hord := order_any zs p n cap w hl hmax hc
  rw [h0] at hord
  have hC0 : Below w.heap.size w w := Below.refl _ _
  have hxs : ∃ b : Bool, (x == s) = b ∧ ((x : Int) == (s : Int)) = b := ⟨x == s, rfl, by rw [Bool.eq_iff_iff]; simp; omega⟩
  obtain ⟨b, hb1, hb2⟩ := hxs
  simp only [hb1] at his
  go_enter Tryd.func3, Tryd.ntmps3
  go_wp2_with fail
  refine (hord).mono ?_
  rintro e w1 ⟨rfl, hB1⟩
  have hC1 := hC0.trans (hB1.mono hC0.size)
  go_wp2_with fail
  refine (hdn _ hC1).mono ?_
  rintro e w2 ⟨rfl, hB2⟩
  have hC2 := hC1.trans (hB2.mono hC1.size)
  go_wp2_with fail
  refine (hct _ hC2).mono ?_
  rintro e w3 ⟨rfl, hB3⟩
  have hC3 := hC2.trans (hB3.mono hC2.size)
  go_wp2_with fail
  refine (error_nil _).mono ?_
  rintro e w4 ⟨rfl, rfl⟩
  go_wp2_with fail
  refine (hmk _).mono ?_
  rintro e w5 ⟨rfl, rfl⟩
  go_wp2_with fail
  refine (hrd _ hC3).mono ?_
  rintro e w6 ⟨rfl, hB6⟩
  have hC6 := hC3.trans (hB6.mono hC3.size)
  go_wp2_with fail
  refine (hrl _ hC6).mono ?_
  rintro e w7 ⟨rfl, hB7⟩
  have hC7 := hC6.trans (hB7.mono hC6.size)
  go_wp2_with fail
  refine (hcl _ hC7).mono ?_
  rintro e w8 ⟨rfl, hB8⟩
  have hC8 := hC7.trans (hB8.mono hC7.size)
  go_wp2_with fail
  refine (error_nil _).mono ?_
  rintro e w9 ⟨rfl, rfl⟩
  go_wp2_with fail
  refine (his _ hC8).mono ?_
  rintro e w10 ⟨rfl, hB10⟩
  have hC10 := hC8.trans (hB10.mono hC8.size)
  go_wp2_with fail
  refine (error_nil _).mono ?_
  rintro e w11 ⟨rfl, rfl⟩
  go_wp2_with fail
  refine (hla _ hC10).mono ?_
  rintro e w12 ⟨rfl, hB12⟩
  have hC12 := hC10.trans (hB12.mono hC10.size)
  go_wp2_with fail
  refine (error_nil _).mono ?_
  rintro e w13 ⟨rfl, rfl⟩
  go_wp2_with fail
  go_ret
  exact ⟨bool_ret (by simp), hC12⟩
theorem dsays_rowwalk (zs : List Int) (p : Option Addr) (n cap : Nat) (z : Int) (w : World) (he : Env w) (ht : Ety w) (hl : zs.length = n) (hmax : n ≤ maxLen) (hc : Has zs p w) :
    Calls Tryd.prog 3 #[.slice p n cap, .int .i64 z] w fun e w' => e = .returned (.bool true) ∧ Below w.heap.size w w' := by
  by_cases h0 : code zs = 0
  · cases hz : setB z n with
    | true =>
      obtain ⟨s, rfl, hs⟩ := nat_setB hz
      exact dsays_ok zs s p n cap w hl he hmax hc h0 hs
    | false => exact dsays_rng zs z p n cap w hl he ht hmax hc h0 hz
  · exact dsays_err zs z p n cap _ w hl he ht hmax hc rfl h0
end Go.Proofs.YtejnjokjkinpkaaDoor
