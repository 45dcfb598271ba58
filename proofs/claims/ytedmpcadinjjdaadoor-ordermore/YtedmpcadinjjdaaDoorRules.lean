/- AHEAD IS ONE WAY, AND GOES ON: the law's walk: at whatever numbers the call returns true, and what lay in memory lies as it lay; the library's table lies where its variable is. -/
import Derived.Test.YtedmpcadinjjdaaDoorSame
namespace Go.Proofs.YtedmpcadinjjdaaDoor
open Go.RowKit

theorem has_new3 (w : World) (x y z : Int) : Has [x, y, z] (some ⟨w.heap.size, 0, none⟩) (w.alloc (.cells #[.int .i64 x, .int .i64 y, .int .i64 z] 3)) := fun j hj => by
  refine ⟨w.heap.size, 0, rfl, by simp, ?_⟩
  have hj3 : j < 3 := hj
  rcases j with _ | _ | _ | j
  · simp
  · simp
  · simp
  · omega
theorem fact_code : code [2, 4, 0] = 0 := by decide +kernel
theorem fact_clo : ints (M.clo (nats [2, 4, 0])) = [6, 4, 0] := by decide +kernel

set_option maxHeartbeats 1000000 in
theorem fact_any (w : World) (he : Env w) : Calls Tryd.prog 21 #[] w fun e w' => e = .returned (.bool true) ∧ Below w.heap.size w w' := by
  have hB1 : Below w.heap.size w (w.alloc (.cells #[.int .i64 2, .int .i64 4, .int .i64 0] 3)) := (Below.refl _ _).alloc (Nat.le_refl _) _
  have h1 := has_new3 w 2 4 0
  go_enter Tryd.func21, Tryd.ntmps21
  go_wp2_with fail
  refine (behind_ok [2, 4, 0] _ 3 3 _ rfl (he.later hB1) (by unfold maxLen; omega) h1 fact_code).mono ?_
  rintro e w2 ⟨A, rfl, hr, hA, hB2⟩
  have hr' := hr.has
  rw [fact_clo] at hr'
  have h2 := has_new3 w2 6 4 0
  have h3 : Has [6, 4, 0] (some ⟨A, 0, none⟩) (w2.alloc (.cells #[.int .i64 6, .int .i64 4, .int .i64 0] 3)) := hr'.later ((Below.refl _ _).alloc (Nat.le_refl _) _)
  go_wp2_with fail
  refine (same_ints [6, 4, 0] _ _ 3 3 3 _ rfl (by unfold maxLen; omega) h3 h2).mono ?_
  rintro e w3 ⟨rfl, hB3⟩
  go_wp2
  go_ret
  have hs1 := hB1.size
  have hs2 := hB2.size
  refine ⟨rfl, hB1.trans ((hB2.mono hs1).trans (((Below.refl _ _).alloc (by omega) _).trans (hB3.mono (by simp; omega))))⟩

set_option maxRecDepth 100000 in
set_option maxHeartbeats 1000000 in
theorem rules_err (zs : List Int) (a b c : Int) (p : Option Addr) (n cap d : Nat) (w : World) (hl : zs.length = n) (he : Env w) (hmax : n ≤ maxLen) (hc : Has zs p w) (h0 : code zs = d) (hne : d ≠ 0) :
    Calls Tryd.prog 4 #[.slice p n cap, .int .i64 a, .int .i64 b, .int .i64 c] w fun e w' => e = .returned (.bool true) ∧ Below w.heap.size w w' := by
  go_enter Tryd.func4, Tryd.ntmps4
  go_wp2_with fail
  refine (fact_any _ he).mono ?_
  rintro e w1 ⟨rfl, hB1⟩
  go_wp2_with fail
  refine (behind_err zs p n cap d _ hl (he.later hB1) hmax (hc.later hB1) h0 hne).mono ?_
  rintro e w2 ⟨rfl, hB2⟩
  go_wp2
  go_ret
  exact ⟨rfl, hB1.trans (hB2.mono hB1.size)⟩

set_option maxRecDepth 100000 in
set_option maxHeartbeats 2000000 in
theorem rules_none (zs : List Int) (a b c : Int) (p : Option Addr) (n cap : Nat) (w : World) (hl : zs.length = n) (he : Env w) (hmax : n ≤ maxLen) (hc : Has zs p w) (h0 : code zs = 0)
    (hno : (thingB a n && thingB b n && thingB c n) = false) :
    Calls Tryd.prog 4 #[.slice p n cap, .int .i64 a, .int .i64 b, .int .i64 c] w fun e w' => e = .returned (.bool true) ∧ Below w.heap.size w w' := by
  have hz := code_zero h0
  have hok := nats_ok hz.2.1
  have hn : n ≤ 12 := by omega
  have hlc : (ints (M.clo (nats zs))).length = n := by rw [ints_length, M.clo_length, nats_length, hl]
  have hlt : (ints (M.turned (nats zs))).length = n := by rw [ints_length, M.turned_length, nats_length, hl]
  have hct : code (ints (M.turned (nats zs))) = 0 := by
    rw [code_ints (M.turned_ok _) (by rw [M.turned_length, nats_length]; omega), if_neg]
    rw [ringB_iff, M.turned_ring hok]
    exact hz.2.2
  have htt : M.turned (nats (ints (M.turned (nats zs)))) = M.clo (nats zs) := by rw [nats_ints, M.turned_turned hok]
  have hno' : ¬ (0 ≤ a ∧ a < n ∧ 0 ≤ b ∧ b < n ∧ 0 ≤ c ∧ c < n) := by
    rintro ⟨h1, h2, h3, h4, h5, h6⟩
    have e1 : thingB a n = true := decide_eq_true ⟨h1, h2⟩
    have e2 : thingB b n = true := decide_eq_true ⟨h3, h4⟩
    have e3 : thingB c n = true := decide_eq_true ⟨h5, h6⟩
    rw [e1, e2, e3] at hno; cases hno
  clear hno
  go_enter Tryd.func4, Tryd.ntmps4
  go_wp2_with fail
  refine (fact_any _ he).mono ?_
  rintro e w1 ⟨rfl, hB1⟩
  go_wp2_with fail
  refine (behind_ok zs p n cap _ hl (he.later hB1) hmax (hc.later hB1) h0).mono ?_
  rintro e w2 ⟨A, rfl, hr, hA, hB2⟩
  have hC2 := hB1.trans (hB2.mono hB1.size)
  go_wp2_with fail
  refine (turned_ok zs p n cap _ hl (he.later hC2) hmax (hc.later hC2) h0).mono ?_
  rintro e w3 ⟨A3, rfl, hr3, hA3, hB3⟩
  have hC3 := hC2.trans (hB3.mono hC2.size)
  go_wp2_with fail
  refine (turned_ok (ints (M.turned (nats zs))) _ n n _ hlt (he.later hC3) hmax hr3.has hct).mono ?_
  rintro e w4 ⟨A4, rfl, hr4, hA4, hB4⟩
  rw [htt] at hr4
  have hC4 := hC3.trans (hB4.mono hC3.size)
  have hr' := (hr.has.later hB3).later hB4
  go_wp2_with fail
  refine (same_ints (ints (M.clo (nats zs))) _ _ n n n _ hlc hmax hr4.has hr').mono ?_
  rintro e w5 ⟨rfl, hB5⟩
  have hC5 := hC4.trans (hB5.mono hC4.size)
  go_wp2_with fail
  all_goals
    go_ret
    exact ⟨rfl, hC5⟩

set_option maxRecDepth 100000 in
set_option maxHeartbeats 4000000 in
theorem rules_all (zs : List Int) (i j k : Nat) (p : Option Addr) (n cap : Nat) (w : World) (hl : zs.length = n) (he : Env w) (hmax : n ≤ maxLen) (hc : Has zs p w) (h0 : code zs = 0)
    (hi : i < n) (hj : j < n) (hk : k < n) :
    Calls Tryd.prog 4 #[.slice p n cap, .int .i64 (i : Nat), .int .i64 (j : Nat), .int .i64 (k : Nat)] w fun e w' => e = .returned (.bool true) ∧ Below w.heap.size w w' := by
  have hz := code_zero h0
  have hok := nats_ok hz.2.1
  have hn : n ≤ 12 := by omega
  have hlc : (ints (M.clo (nats zs))).length = n := by rw [ints_length, M.clo_length, nats_length, hl]
  have hlt : (ints (M.turned (nats zs))).length = n := by rw [ints_length, M.turned_length, nats_length, hl]
  have hct : code (ints (M.turned (nats zs))) = 0 := by
    rw [code_ints (M.turned_ok _) (by rw [M.turned_length, nats_length]; omega), if_neg]
    rw [ringB_iff, M.turned_ring hok]
    exact hz.2.2
  have htt : M.turned (nats (ints (M.turned (nats zs)))) = M.clo (nats zs) := by rw [nats_ints, M.turned_turned hok]
  obtain ⟨x, hx⟩ : ∃ x, (M.row (M.clo (nats zs)) i).testBit j = x := ⟨_, rfl⟩
  obtain ⟨y, hy⟩ : ∃ y, (M.row (M.clo (nats zs)) j).testBit k = y := ⟨_, rfl⟩
  obtain ⟨z, hzz⟩ : ∃ z, (M.row (M.clo (nats zs)) i).testBit k = z := ⟨_, rfl⟩
  obtain ⟨u, hu⟩ : ∃ u, (M.row (M.clo (nats zs)) j).testBit i = u := ⟨_, rfl⟩
  have hv : (M.row (M.clo (nats (ints (M.turned (nats zs))))) j).testBit i = x := by
    rw [nats_ints, ← hx, Bool.eq_iff_iff, M.clo_bit, M.clo_bit, M.turned_closed hok]
  have l1 : ¬ (x = true ∧ u = true) := by
    rintro ⟨h1, h2⟩
    rw [← hx, M.clo_bit] at h1
    rw [← hu, M.clo_bit] at h2
    exact hz.2.2 ⟨i, M.clo_trans hok h1 h2⟩
  have l2 : x = true → y = true → z = true := by
    intro h1 h2
    rw [← hx, M.clo_bit] at h1
    rw [← hy, M.clo_bit] at h2
    rw [← hzz, M.clo_bit]
    exact M.clo_trans hok h1 h2
  have l3 : x = true → i ≠ j := by
    rintro h1 rfl
    rw [← hx, M.clo_bit] at h1
    exact hz.2.2 ⟨i, h1⟩
  have L1 : Hid (¬ (x = true ∧ u = true)) := l1
  have L2 : Hid (x = true → y = true → z = true) := l2
  have L3 : Hid (x = true → i ≠ j) := l3
  have X : Hid ((M.row (M.clo (nats zs)) i).testBit j = x) := hx
  have Y : Hid ((M.row (M.clo (nats zs)) j).testBit k = y) := hy
  have Z : Hid ((M.row (M.clo (nats zs)) i).testBit k = z) := hzz
  have U : Hid ((M.row (M.clo (nats zs)) j).testBit i = u) := hu
  have V : Hid ((M.row (M.clo (nats (ints (M.turned (nats zs))))) j).testBit i = x) := hv
  clear l1 l2 l3 hx hy hzz hu hv
  go_enter Tryd.func4, Tryd.ntmps4
  go_wp2_with fail
  refine (fact_any _ he).mono ?_
  rintro e w1 ⟨rfl, hB1⟩
  go_wp2_with fail
  refine (behind_ok zs p n cap _ hl (he.later hB1) hmax (hc.later hB1) h0).mono ?_
  rintro e w2 ⟨A, rfl, hr, hA, hB2⟩
  have hC2 := hB1.trans (hB2.mono hB1.size)
  go_wp2_with fail
  refine (turned_ok zs p n cap _ hl (he.later hC2) hmax (hc.later hC2) h0).mono ?_
  rintro e w3 ⟨A3, rfl, hr3, hA3, hB3⟩
  have hC3 := hC2.trans (hB3.mono hC2.size)
  go_wp2_with fail
  refine (turned_ok (ints (M.turned (nats zs))) _ n n _ hlt (he.later hC3) hmax hr3.has hct).mono ?_
  rintro e w4 ⟨A4, rfl, hr4, hA4, hB4⟩
  rw [htt] at hr4
  have hC4 := hC3.trans (hB4.mono hC3.size)
  have hr' := (hr.has.later hB3).later hB4
  go_wp2_with fail
  refine (same_ints (ints (M.clo (nats zs))) _ _ n n n _ hlc hmax hr4.has hr').mono ?_
  rintro e w5 ⟨rfl, hB5⟩
  have hC5 := hC4.trans (hB5.mono hC4.size)
  go_wp2_with fail
  refine (less_ok zs i j p n cap _ hl (he.later hC5) hmax (hc.later hC5) h0 hi hj).mono ?_
  rw [X.out]
  rintro e w6 ⟨rfl, hB6⟩
  have hC6 := hC5.trans (hB6.mono hC5.size)
  go_wp2_with fail
  refine (less_ok zs j k p n cap _ hl (he.later hC6) hmax (hc.later hC6) h0 hj hk).mono ?_
  rw [Y.out]
  rintro e w7 ⟨rfl, hB7⟩
  have hC7 := hC6.trans (hB7.mono hC6.size)
  go_wp2_with fail
  refine (less_ok zs i k p n cap _ hl (he.later hC7) hmax (hc.later hC7) h0 hi hk).mono ?_
  rw [Z.out]
  rintro e w8 ⟨rfl, hB8⟩
  have hC8 := hC7.trans (hB8.mono hC7.size)
  go_wp2_with fail
  refine (less_ok zs j i p n cap _ hl (he.later hC8) hmax (hc.later hC8) h0 hj hi).mono ?_
  rw [U.out]
  rintro e w9 ⟨rfl, hB9⟩
  have hC9 := hC8.trans (hB9.mono hC8.size)
  have hr3' := (((((hr3.has.later hB4).later hB5).later hB6).later hB7).later hB8).later hB9
  go_wp2_with fail
  refine (less_ok (ints (M.turned (nats zs))) j i _ n n _ hlt (he.later hC9) hmax hr3' hct hj hi).mono ?_
  rw [V.out]
  rintro e w10 ⟨rfl, hB10⟩
  have hC10 := hC9.trans (hB10.mono hC9.size)
  clear hB1 hB2 hB3 hB4 hB5 hB6 hB7 hB8 hB9 hB10 hr3' hr' hr hr3 hr4 hC2 hC3 hC4 hC5 hC6 hC7 hC8 hC9 X Y Z U V hct htt
  cases x with
  | true =>
    have hij : ((i : Int) != (j : Int)) = true := by have := L3.out rfl; simp; omega
    cases u with
    | true => exact absurd ⟨rfl, rfl⟩ L1.out
    | false =>
      cases y with
      | true =>
        obtain rfl : z = true := L2.out rfl rfl
        clear L1 L2 L3
        go_wp2
        go_ret
        exact ⟨rfl, hC10⟩
      | false =>
        clear L1 L2 L3
        go_wp2
        go_ret
        exact ⟨rfl, hC10⟩
  | false =>
    clear L1 L2 L3
    go_wp2
    all_goals
      go_ret
      exact ⟨rfl, hC10⟩
end Go.Proofs.YtedmpcadinjjdaaDoor
