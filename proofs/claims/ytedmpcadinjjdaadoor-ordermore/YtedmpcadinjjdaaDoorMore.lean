/- WHAT STANDS SIDE BY SIDE MAY STAND EITHER WAY: the law's walk: at whatever numbers the call returns true, and what lay in memory lies as it lay; the library's variables lie as the program's text lays them. -/
import Derived.Test.YtedmpcadinjjdaaDoorRules
import Derived.Test.YtedmpcadinjjdaaDoorErr
import Derived.Test.YtedmpcadinjjdaaDoorRefBit
namespace Go.Proofs.YtedmpcadinjjdaaDoor
open Go.RowKit

set_option maxRecDepth 100000 in
set_option maxHeartbeats 1000000 in
theorem more_err (zs : List Int) (a b : Int) (p : Option Addr) (n cap d : Nat) (w : World) (hl : zs.length = n) (he : Env w) (hmax : n ≤ maxLen) (hc : Has zs p w) (h0 : code zs = d) (hne : d ≠ 0) :
    Calls Tryd.prog 5 #[.slice p n cap, .int .i64 a, .int .i64 b] w fun e w' => e = .returned (.bool true) ∧ Below w.heap.size w w' := by
  go_enter Tryd.func5, Tryd.ntmps5
  go_wp2_with fail
  refine (fact_any _ he).mono ?_
  rintro e w1 ⟨rfl, hB1⟩
  go_wp2_with fail
  refine (behind_err zs p n cap d _ hl (he.later hB1) hmax (hc.later hB1) h0 hne).mono ?_
  rintro e w2 ⟨rfl, hB2⟩
  go_wp2
  go_ret
  exact ⟨rfl, hB1.trans (hB2.mono hB1.size)⟩

set_option maxRecDepth 100000 in
set_option maxHeartbeats 2000000 in
theorem more_none (zs : List Int) (a b : Int) (p : Option Addr) (n cap : Nat) (w : World) (hl : zs.length = n) (he : Env w) (hmax : n ≤ maxLen) (hc : Has zs p w) (h0 : code zs = 0)
    (hno : (thingB a n && thingB b n) = false) :
    Calls Tryd.prog 5 #[.slice p n cap, .int .i64 a, .int .i64 b] w fun e w' => e = .returned (.bool true) ∧ Below w.heap.size w w' := by
  have hno' : ¬ (0 ≤ a ∧ a < n ∧ 0 ≤ b ∧ b < n) := by
    rintro ⟨h1, h2, h3, h4⟩
    have e1 : thingB a n = true := decide_eq_true ⟨h1, h2⟩
    have e2 : thingB b n = true := decide_eq_true ⟨h3, h4⟩
    rw [e1, e2] at hno; cases hno
  clear hno
  go_enter Tryd.func5, Tryd.ntmps5
  go_wp2_with fail
  refine (fact_any _ he).mono ?_
  rintro e w1 ⟨rfl, hB1⟩
  go_wp2_with fail
  refine (behind_ok zs p n cap _ hl (he.later hB1) hmax (hc.later hB1) h0).mono ?_
  rintro e w2 ⟨A, rfl, hr, hA, hB2⟩
  have hC2 := hB1.trans (hB2.mono hB1.size)
  go_wp2_with fail
  all_goals
    go_ret
    exact ⟨rfl, hC2⟩

set_option maxRecDepth 100000 in
set_option maxHeartbeats 4000000 in
theorem more_all (zs : List Int) (i j : Nat) (p : Option Addr) (n cap : Nat) (w : World) (hl : zs.length = n) (he : Env w) (ht : Ety w) (hmax : n ≤ maxLen) (hc : Has zs p w) (h0 : code zs = 0)
    (hi : i < n) (hj : j < n) :
    Calls Tryd.prog 5 #[.slice p n cap, .int .i64 (i : Nat), .int .i64 (j : Nat)] w fun e w' => e = .returned (.bool true) ∧ Below w.heap.size w w' := by
  have hz := code_zero h0
  have hok := nats_ok hz.2.1
  have hn : n ≤ 12 := by omega
  have hpw := pow_lt n hn
  have hin : i < (nats zs).length := by rw [nats_length]; omega
  have hjn : j < (nats zs).length := by rw [nats_length]; omega
  have hmo : M.Ok (M.more (nats zs) i j) := M.more_ok hok hjn
  have hmc : M.Ok (M.clo (M.more (nats zs) i j)) := M.clo_ok hmo
  have hml : (M.clo (M.more (nats zs) i j)).length = n := by rw [M.clo_length, M.more_length, nats_length, hl]
  have hcl : (M.clo (nats zs)).length = n := by rw [M.clo_length, nats_length, hl]
  have hring : ringB (M.more (nats zs) i j) = true ↔ (i = j ∨ M.Clo (nats zs) j i) := by rw [ringB_iff, M.more_ring hok hz.2.2 hin hjn]
  obtain ⟨x, hx⟩ : ∃ x, (M.row (M.clo (nats zs)) j).testBit i = x := ⟨_, rfl⟩
  have hx' : x = true ↔ M.Clo (nats zs) j i := by rw [← hx, M.clo_bit]
  have X : Hid ((M.row (M.clo (nats zs)) j).testBit i = x) := hx
  have R : Hid (ringB (M.more (nats zs) i j) = true ↔ (i = j ∨ x = true)) := by show _ ↔ _; rw [hring, hx']
  clear hx hx' hring
  go_enter Tryd.func5, Tryd.ntmps5
  go_wp2_with fail
  refine (fact_any _ he).mono ?_
  rintro e w1 ⟨rfl, hB1⟩
  go_wp2_with fail
  refine (behind_ok zs p n cap _ hl (he.later hB1) hmax (hc.later hB1) h0).mono ?_
  rintro e w2 ⟨A, rfl, hr, hA, hB2⟩
  have hC2 := hB1.trans (hB2.mono hB1.size)
  go_wp2_with fail
  refine (less_ok zs j i p n cap _ hl (he.later hC2) hmax (hc.later hC2) h0 hj hi).mono ?_
  rw [X.out]
  rintro e w3 ⟨rfl, hB3⟩
  have hC3 := hC2.trans (hB3.mono hC2.size)
  go_wp2_with fail
  refine (with_step zs i j p n cap _ hl (he.later hC3) hmax (hc.later hC3) h0 hi hj).mono ?_
  rintro e w4 (⟨hring, rfl, hB4⟩ | ⟨hring, A4, rfl, hr4, hA4, hB4⟩)
  · have hC4 := hC3.trans (hB4.mono hC3.size)
    have ht4 := ht.later hC4
    rcases R.out.1 hring with rfl | rfl
    · have e1 : ((i : Int) == (i : Int)) = true := by simp
      clear R X hring
      go_wp2_with (go_at_call 10; refine (error_same 6 _ ht4).mono ?_; rintro e w5 ⟨rfl, hB5⟩)
      all_goals
        go_ret
        exact ⟨rfl, hC4.trans (hB5.mono hC4.size)⟩
    · clear R X hring
      go_wp2_with (go_at_call 10; refine (error_same 6 _ ht4).mono ?_; rintro e w5 ⟨rfl, hB5⟩)
      go_ret
      exact ⟨rfl, hC4.trans (hB5.mono hC4.size)⟩
  · have hC4 := hC3.trans (hB4.mono hC3.size)
    obtain ⟨rfl, hij⟩ : x = false ∧ i ≠ j := by
      cases x with
      | true => rw [R.out.2 (.inr rfl)] at hring; cases hring
      | false => exact ⟨rfl, fun e => by rw [R.out.2 (.inl e)] at hring; cases hring⟩
    have e1 : ((i : Int) == (j : Int)) = false := by simp; omega
    have hcode : code (ints (M.clo (M.more (nats zs) i j))) = 0 := by
      rw [code_ints hmc (by omega), if_neg]
      rw [ringB_iff, M.clo_ring hmo, ← ringB_iff, hring]; simp
    have hlm : (ints (M.clo (M.more (nats zs) i j))).length = n := by rw [ints_length, hml]
    have hr4h := hr4.has
    clear R X hring
    go_wp2_with fail
    refine (check_ok (ints (M.clo (M.more (nats zs) i j))) _ n n _ hlm (he.later hC4) hmax hr4h hcode).mono ?_
    rintro e w5 ⟨rfl, hB5⟩
    have hC5 := hC4.trans (hB5.mono hC4.size)
    have hr5 : RowAt 3 w5 A4 (M.clo (M.more (nats zs) i j)) := hr4.below hB5 hr4.lt
    have hl5 : RowAt 3 w5 A (M.clo (nats zs)) := ((hr.below hB3 hr.lt).below hB4 (by have := hr.lt; have := hB3.size; omega)).below hB5 (by have := hr.lt; have := hB3.size; have := hB4.size; omega)
    go_wp2_with fail
    go_loopw [14] (fun c wr => ∃ k : Nat, k ≤ n ∧ c = .int .i64 k ∧ Below w5.heap.size w5 wr) (fun c _ => n - (intOf c).toNat)
    case atStart => exact ⟨0, Nat.zero_le _, rfl, Below.refl _ _⟩
    case round =>
      obtain ⟨k, hk, rfl, hB6⟩ := hrel
      by_cases hlt : k < n
      · have hc1 := (hr5.below hB6 hr5.lt).cell (k := k) (by omega)
        have hc2 := (hl5.below hB6 hl5.lt).cell (k := k) (by omega)
        have hb1 : M.row (M.clo (M.more (nats zs) i j)) k < 65536 := by have := hmc k; rw [hml] at this; omega
        have hb2 : M.row (M.clo (nats zs)) k < 65536 := by have := M.clo_ok hok k; rw [hcl] at this; omega
        have hsub : ∀ q, (M.row (M.clo (nats zs)) k).testBit q = true → (M.row (M.clo (M.more (nats zs) i j)) k).testBit q = true := by
          intro q hq
          rw [M.clo_bit] at hq ⊢
          exact (M.clo_more hok hin hjn k q).2 (.inl hq)
        have hwit : ∀ W, Calls Tryd.prog 22 #[.int .i64 (M.row (M.clo (nats zs)) k : Nat), .int .i64 (M.row (M.clo (M.more (nats zs) i j)) k : Nat)] W fun e w' => e = .returned (.bool true) ∧ W = w' := fun W => within_true _ _ W hb2 hb1 hsub
        obtain ⟨s1, hs1⟩ : ∃ s1, M.row (M.clo (M.more (nats zs) i j)) k = s1 := ⟨_, rfl⟩
        obtain ⟨s2, hs2⟩ : ∃ s2, M.row (M.clo (nats zs)) k = s2 := ⟨_, rfl⟩
        rw [hs1] at hc1 hwit
        rw [hs2] at hc2 hwit
        have hn1 : decide ((s1 : Int) < 0) = false := by simp
        have hn2 : decide ((s2 : Int) < 0) = false := by simp
        clear hs1 hs2 hsub hb1 hb2
        go_wp2_with fail
        go_quiet ((go_at_call 22; exact Calls.quiet_of_same ((hwit _).mono (fun e w' h => ⟨h.1, h.2.symm⟩))))
        go_wp2
        go_roundw
        case rel => exact ⟨k + 1, by omega, by go_num, hB6.trans ((below_drewS _ _).mono hB6.size)⟩
        case measure => simp [intOf]; omega
      · have hc1 := (hr5.below hB6 hr5.lt).cell (k := i) (by omega)
        have hb1 : M.row (M.clo (M.more (nats zs) i j)) i < 65536 := by have := hmc i; rw [hml] at this; omega
        have hbit : (M.row (M.clo (M.more (nats zs) i j)) i).testBit j = true := by
          rw [M.clo_bit]
          exact (M.clo_more hok hin hjn i j).2 (.inr ⟨.inl rfl, .inl rfl⟩)
        go_wp2_with (go_at_call 14; refine (bit_any _ _ _ hb1 (by omega)).mono ?_; rintro e w' ⟨rfl, rfl⟩)
        go_ret
        exact ⟨rfl, hC5.trans (hB6.mono hC5.size)⟩
end Go.Proofs.YtedmpcadinjjdaaDoor
