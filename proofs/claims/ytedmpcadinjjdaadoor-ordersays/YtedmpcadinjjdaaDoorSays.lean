/- WHAT IS WRONG WITH ANY ORDER, what is behind and ahead, and any step more: the law's walk: at whatever numbers the call returns true, and what lay in memory lies as it lay; the library's variables lie as the program's text lays them. -/
import Derived.Test.YtedmpcadinjjdaaDoorSame
import Derived.Test.YtedmpcadinjjdaaDoorErr
import Derived.Test.YtedmpcadinjjdaaDoorRefOrd
namespace Go.Proofs.YtedmpcadinjjdaaDoor
open Go.RowKit

theorem has_none (w : World) : Has [] none w := fun _ hj => absurd hj (Nat.not_lt_zero _)

set_option maxRecDepth 100000 in
set_option maxHeartbeats 8000000 in
theorem says_err (zs : List Int) (a b : Int) (p : Option Addr) (n cap d : Nat) (w : World) (hl : zs.length = n) (he : Env w) (ht : Ety w) (hmax : n ≤ maxLen) (hc : Has zs p w) (h0 : code zs = d) (hne : d ≠ 0) :
    Calls Tryd.prog 3 #[.slice p n cap, .int .i64 a, .int .i64 b] w fun e w' => e = .returned (.bool true) ∧ Below w.heap.size w w' := by
  have hd : ((d : Int) == 0) = false := by simp; omega
  have hord := fun W (h : Has zs p W) => order_any zs p n cap W hl hmax h
  rw [h0] at hord
  have H0 : Hid (code zs = d) := h0
  clear h0
  have hC0 : Below w.heap.size w w := Below.refl _ _
  go_enter Tryd.func3, Tryd.ntmps3
  go_wp2_with fail
  refine (hord _ hc).mono ?_
  rintro e w1 ⟨rfl, hB1⟩
  have hC1 := hC0.trans (hB1.mono hC0.size)
  go_wp2_with fail
  refine (check_err zs p n cap d _ hl (he.later hC1) hmax (hc.later hC1) H0.out hne).mono ?_
  rintro e w2 ⟨rfl, hB2⟩
  have hC2 := hC1.trans (hB2.mono hC1.size)
  go_wp2_with fail
  refine (error_same (d : Int) _ (ht.later hC2)).mono ?_
  rintro e w3 ⟨rfl, hB3⟩
  have hC3 := hC2.trans (hB3.mono hC2.size)
  go_wp2_with fail
  refine (behind_err zs p n cap d _ hl (he.later hC3) hmax (hc.later hC3) H0.out hne).mono ?_
  rintro e w4 ⟨rfl, hB4⟩
  have hC4 := hC3.trans (hB4.mono hC3.size)
  go_wp2_with fail
  refine (error_same (d : Int) _ (ht.later hC4)).mono ?_
  rintro e w5 ⟨rfl, hB5⟩
  have hC5 := hC4.trans (hB5.mono hC4.size)
  go_wp2_with fail
  refine (same_ints [] none none 0 0 0 _ rfl (Nat.zero_le _) (has_none _) (has_none _)).mono ?_
  rintro e w6 ⟨rfl, hB6⟩
  have hC6 := hC5.trans (hB6.mono hC5.size)
  go_wp2_with fail
  refine (turned_err zs p n cap d _ hl (he.later hC6) hmax (hc.later hC6) H0.out hne).mono ?_
  rintro e w7 ⟨rfl, hB7⟩
  have hC7 := hC6.trans (hB7.mono hC6.size)
  go_wp2_with fail
  refine (error_same (d : Int) _ (ht.later hC7)).mono ?_
  rintro e w8 ⟨rfl, hB8⟩
  have hC8 := hC7.trans (hB8.mono hC7.size)
  go_wp2_with fail
  refine (same_ints [] none none 0 0 0 _ rfl (Nat.zero_le _) (has_none _) (has_none _)).mono ?_
  rintro e w9 ⟨rfl, hB9⟩
  have hC9 := hC8.trans (hB9.mono hC8.size)
  go_wp2_with fail
  refine (less_err zs a b p n cap d _ hl (he.later hC9) hmax (hc.later hC9) H0.out hne).mono ?_
  rintro e w10 ⟨rfl, hB10⟩
  have hC10 := hC9.trans (hB10.mono hC9.size)
  go_wp2_with fail
  refine (error_same (d : Int) _ (ht.later hC10)).mono ?_
  rintro e w11 ⟨rfl, hB11⟩
  have hC11 := hC10.trans (hB11.mono hC10.size)
  go_wp2_with fail
  refine (with_err zs a b p n cap d _ hl (he.later hC11) hmax (hc.later hC11) H0.out hne).mono ?_
  rintro e w12 ⟨rfl, hB12⟩
  have hC12 := hC11.trans (hB12.mono hC11.size)
  go_wp2_with fail
  refine (error_same (d : Int) _ (ht.later hC12)).mono ?_
  rintro e w13 ⟨rfl, hB13⟩
  have hC13 := hC12.trans (hB13.mono hC12.size)
  go_wp2_with fail
  refine (same_ints [] none none 0 0 0 _ rfl (Nat.zero_le _) (has_none _) (has_none _)).mono ?_
  rintro e w14 ⟨rfl, hB14⟩
  have hC14 := hC13.trans (hB14.mono hC13.size)
  go_wp2
  go_ret
  exact ⟨rfl, hC14⟩

set_option maxRecDepth 100000 in
set_option maxHeartbeats 8000000 in
theorem says_none (zs : List Int) (a b : Int) (p : Option Addr) (n cap : Nat) (w : World) (hl : zs.length = n) (he : Env w) (ht : Ety w) (hmax : n ≤ maxLen) (hc : Has zs p w) (h0 : code zs = 0) (hno : (thingB a n && thingB b n) = false) :
    Calls Tryd.prog 3 #[.slice p n cap, .int .i64 a, .int .i64 b] w fun e w' => e = .returned (.bool true) ∧ Below w.heap.size w w' := by
  have hcase : a < 0 ∨ (0 ≤ a ∧ (n : Int) ≤ a) ∨ (0 ≤ a ∧ a < n ∧ b < 0) ∨ (0 ≤ a ∧ a < n ∧ 0 ≤ b ∧ (n : Int) ≤ b) := by
    by_cases h1 : a < 0
    · exact .inl h1
    · by_cases h2 : (n : Int) ≤ a
      · exact .inr (.inl ⟨by omega, h2⟩)
      · by_cases h3 : b < 0
        · exact .inr (.inr (.inl ⟨by omega, by omega, h3⟩))
        · refine .inr (.inr (.inr ⟨by omega, by omega, by omega, ?_⟩))
          apply Classical.byContradiction
          intro h4
          have e1 : thingB a n = true := decide_eq_true ⟨by omega, by omega⟩
          have e2 : thingB b n = true := decide_eq_true ⟨by omega, by omega⟩
          rw [e1, e2] at hno; cases hno
  have hno' : thingB a n = false ∨ thingB b n = false := by
    cases h1 : thingB a n with
    | false => exact .inl rfl
    | true => rw [h1] at hno; exact .inr (by simpa using hno)
  have HN : Hid (thingB a n = false ∨ thingB b n = false) := hno'
  clear hno hno'
  have hz := code_zero h0
  have hok := nats_ok hz.2.1
  have hn : n ≤ 12 := by omega
  have hnl : (nats zs).length = n := by rw [nats_length, hl]
  have hzs : ints (nats zs) = zs := ints_nats hz.2.1
  have hlc : (ints (M.clo (nats zs))).length = n := by rw [ints_length, M.clo_length, hnl]
  have hlt : (ints (M.turned (nats zs))).length = n := by rw [ints_length, M.turned_length, hnl]
  have hord := fun W (h : Has zs p W) => order_any zs p n cap W hl hmax h
  rw [h0] at hord
  have hclo := fun W (h : Has zs p W) => closed_any (nats zs) p n cap W hnl hok hn (by rw [hzs]; exact h)
  have htur := fun W (h : Has zs p W) => rturned_any (nats zs) p n cap W hnl hok hn (by rw [hzs]; exact h)
  have H0 : Hid (code zs = 0) := h0
  have HZ : Hid (zs.length ≤ 12 ∧ allSets zs = true ∧ ¬ M.Ring (nats zs)) := hz
  clear h0 hz hzs
  have hC0 : Below w.heap.size w w := Below.refl _ _
  rcases hcase with h1 | ⟨h1, h2⟩ | ⟨h1, h2, h3⟩ | ⟨h1, h2, h3, h4⟩
  all_goals
    go_enter Tryd.func3, Tryd.ntmps3
    go_wp2_with fail
    refine (hord _ hc).mono ?_
    rintro e w1 ⟨rfl, hB1⟩
    have hC1 := hC0.trans (hB1.mono hC0.size)
    go_wp2_with fail
    refine (check_ok zs p n cap _ hl (he.later hC1) hmax (hc.later hC1) H0.out).mono ?_
    rintro e w2 ⟨rfl, hB2⟩
    have hC2 := hC1.trans (hB2.mono hC1.size)
    go_wp2_with fail
    refine (error_nil _).mono ?_
    rintro e w' ⟨rfl, rfl⟩
    go_wp2_with fail
    refine (hclo _ (hc.later hC2)).mono ?_
    rintro e w3 ⟨px, cx, rfl, hx, hB3⟩
    have hC3 := hC2.trans (hB3.mono hC2.size)
    go_wp2_with fail
    refine (htur _ (hc.later hC3)).mono ?_
    rintro e w4 ⟨py, cy, rfl, hy, hB4⟩
    have hC4 := hC3.trans (hB4.mono hC3.size)
    have hx4 := hx.later hB4
    go_wp2_with fail
    refine (behind_ok zs p n cap _ hl (he.later hC4) hmax (hc.later hC4) H0.out).mono ?_
    rintro e w5 ⟨A5, rfl, hr5, hA5, hB5⟩
    have hC5 := hC4.trans (hB5.mono hC4.size)
    go_wp2_with fail
    refine (error_nil _).mono ?_
    rintro e w' ⟨rfl, rfl⟩
    go_wp2_with fail
    refine (same_ints (ints (M.clo (nats zs))) _ _ n n cx _ hlc hmax hr5.has (hx4.later hB5)).mono ?_
    rintro e w6 ⟨rfl, hB6⟩
    have hC6 := hC5.trans (hB6.mono hC5.size)
    go_wp2_with fail
    refine (turned_ok zs p n cap _ hl (he.later hC6) hmax (hc.later hC6) H0.out).mono ?_
    rintro e w7 ⟨A7, rfl, hr7, hA7, hB7⟩
    have hC7 := hC6.trans (hB7.mono hC6.size)
    go_wp2_with fail
    refine (error_nil _).mono ?_
    rintro e w' ⟨rfl, rfl⟩
    go_wp2_with fail
    refine (same_ints (ints (M.turned (nats zs))) _ _ n n cy _ hlt hmax hr7.has (((hy.later hB5).later hB6).later hB7)).mono ?_
    rintro e w8 ⟨rfl, hB8⟩
    have hC8 := hC7.trans (hB8.mono hC7.size)
    go_wp2_with fail
    refine (less_range zs a b p n cap _ hl (he.later hC8) hmax (hc.later hC8) H0.out HN.out).mono ?_
    rintro e w9 ⟨rfl, hB9⟩
    have hC9 := hC8.trans (hB9.mono hC8.size)
    go_wp2_with fail
    refine (error_same 1 _ (ht.later hC9)).mono ?_
    rintro e w10 ⟨rfl, hB10⟩
    have hC10 := hC9.trans (hB10.mono hC9.size)
    go_wp2_with fail
    refine (with_range zs a b p n cap _ hl (he.later hC10) hmax (hc.later hC10) H0.out HN.out).mono ?_
    rintro e w11 ⟨rfl, hB11⟩
    have hC11 := hC10.trans (hB11.mono hC10.size)
    go_wp2_with fail
    refine (error_same 1 _ (ht.later hC11)).mono ?_
    rintro e w12 ⟨rfl, hB12⟩
    have hC12 := hC11.trans (hB12.mono hC11.size)
    go_wp2_with fail
    refine (same_ints [] none none 0 0 0 _ rfl (Nat.zero_le _) (has_none _) (has_none _)).mono ?_
    rintro e w13 ⟨rfl, hB13⟩
    have hC13 := hC12.trans (hB13.mono hC12.size)
    go_wp2
    go_ret
    exact ⟨rfl, hC13⟩

set_option maxRecDepth 100000 in
set_option maxHeartbeats 8000000 in
theorem says_ring (zs : List Int) (i j : Nat) (p : Option Addr) (n cap : Nat) (w : World) (hl : zs.length = n) (he : Env w) (ht : Ety w) (hmax : n ≤ maxLen) (hc : Has zs p w) (h0 : code zs = 0) (hi : i < n) (hj : j < n) (hring : ringB (M.more (nats zs) i j) = true) :
    Calls Tryd.prog 3 #[.slice p n cap, .int .i64 (i : Nat), .int .i64 (j : Nat)] w fun e w' => e = .returned (.bool true) ∧ Below w.heap.size w w' := by
  have hz := code_zero h0
  have hok := nats_ok hz.2.1
  have hn : n ≤ 12 := by omega
  have hnl : (nats zs).length = n := by rw [nats_length, hl]
  have hzs : ints (nats zs) = zs := ints_nats hz.2.1
  have hlc : (ints (M.clo (nats zs))).length = n := by rw [ints_length, M.clo_length, hnl]
  have hlt : (ints (M.turned (nats zs))).length = n := by rw [ints_length, M.turned_length, hnl]
  have hord := fun W (h : Has zs p W) => order_any zs p n cap W hl hmax h
  rw [h0] at hord
  have hclo := fun W (h : Has zs p W) => closed_any (nats zs) p n cap W hnl hok hn (by rw [hzs]; exact h)
  have htur := fun W (h : Has zs p W) => rturned_any (nats zs) p n cap W hnl hok hn (by rw [hzs]; exact h)
  have H0 : Hid (code zs = 0) := h0
  have HZ : Hid (zs.length ≤ 12 ∧ allSets zs = true ∧ ¬ M.Ring (nats zs)) := hz
  clear h0 hz hzs
  have hC0 : Below w.heap.size w w := Below.refl _ _
  have hin : i < (nats zs).length := by omega
  have hjn : j < (nats zs).length := by omega
  have hmo : M.Ok (M.more (nats zs) i j) := M.more_ok hok hjn
  have hml : (M.more (nats zs) i j).length = n := by rw [M.more_length, hnl]
  have hmi : (ints (M.more (nats zs) i j)).length = n := by rw [ints_length, hml]
  have hmc : (ints (M.clo (M.more (nats zs) i j))).length = n := by rw [ints_length, M.clo_length, hml]
  have hcode : code (ints (M.more (nats zs) i j)) = 6 := by rw [code_ints hmo (by omega), hring]; rfl
  have hmord := fun q c W (h : Has (ints (M.more (nats zs) i j)) q W) => order_any (ints (M.more (nats zs) i j)) q n c W hmi hmax h
  rw [hcode] at hmord
  have hthi : M.row (M.clo (nats zs)) i < 65536 := by
    have h := M.clo_ok hok i
    rw [M.clo_length, hnl] at h
    have := pow_lt n hn; omega
  obtain ⟨x, hxb⟩ : ∃ x, (M.row (M.clo (nats zs)) i).testBit j = x := ⟨_, rfl⟩
  have HX : Hid ((M.row (M.clo (nats zs)) i).testBit j = x) := hxb
  have HR : Hid (ringB (M.more (nats zs) i j) = true) := hring
  clear hxb hring hcode
  go_enter Tryd.func3, Tryd.ntmps3
  go_wp2_with fail
  refine (hord _ hc).mono ?_
  rintro e w1 ⟨rfl, hB1⟩
  have hC1 := hC0.trans (hB1.mono hC0.size)
  go_wp2_with fail
  refine (check_ok zs p n cap _ hl (he.later hC1) hmax (hc.later hC1) H0.out).mono ?_
  rintro e w2 ⟨rfl, hB2⟩
  have hC2 := hC1.trans (hB2.mono hC1.size)
  go_wp2_with fail
  refine (error_nil _).mono ?_
  rintro e w' ⟨rfl, rfl⟩
  go_wp2_with fail
  refine (hclo _ (hc.later hC2)).mono ?_
  rintro e w3 ⟨px, cx, rfl, hx, hB3⟩
  have hC3 := hC2.trans (hB3.mono hC2.size)
  go_wp2_with fail
  refine (htur _ (hc.later hC3)).mono ?_
  rintro e w4 ⟨py, cy, rfl, hy, hB4⟩
  have hC4 := hC3.trans (hB4.mono hC3.size)
  have hx4 := hx.later hB4
  obtain ⟨bx, ox, hpx, hbx, hcx⟩ := hx4 i (by rw [ints_length, M.clo_length, hnl]; exact hi)
  rw [ints_get] at hcx
  subst hpx
  go_wp2_with fail
  refine (bit_any (M.row (M.clo (nats zs)) i) j _ hthi (by omega)).mono ?_
  rintro e w' ⟨rfl, rfl⟩
  rw [HX.out]
  go_wp2_with fail
  refine (rmore_any (nats zs) i j p n cap _ hnl hok hn hi hj (by rw [ints_nats HZ.out.2.1]; exact hc.later hC4)).mono ?_
  rintro e w5 ⟨pm, cm, rfl, hm, hB5⟩
  have hC5 := hC4.trans (hB5.mono hC4.size)
  go_wp2_with fail
  refine (hmord pm cm _ hm).mono ?_
  rintro e w6 ⟨rfl, hB6⟩
  have hC6 := hC5.trans (hB6.mono hC5.size)
  go_wp2_with fail
  refine (behind_ok zs p n cap _ hl (he.later hC6) hmax (hc.later hC6) H0.out).mono ?_
  rintro e w7 ⟨A5, rfl, hr5, hA5, hB7⟩
  have hC7 := hC6.trans (hB7.mono hC6.size)
  go_wp2_with fail
  refine (error_nil _).mono ?_
  rintro e w' ⟨rfl, rfl⟩
  go_wp2_with fail
  refine (same_ints (ints (M.clo (nats zs))) _ _ n n cx _ hlc hmax hr5.has (((hx4.later hB5).later hB6).later hB7)).mono ?_
  rintro e w8 ⟨rfl, hB8⟩
  have hC8 := hC7.trans (hB8.mono hC7.size)
  go_wp2_with fail
  refine (turned_ok zs p n cap _ hl (he.later hC8) hmax (hc.later hC8) H0.out).mono ?_
  rintro e w9 ⟨A7, rfl, hr7, hA7, hB9⟩
  have hC9 := hC8.trans (hB9.mono hC8.size)
  go_wp2_with fail
  refine (error_nil _).mono ?_
  rintro e w' ⟨rfl, rfl⟩
  go_wp2_with fail
  refine (same_ints (ints (M.turned (nats zs))) _ _ n n cy _ hlt hmax hr7.has (((((hy.later hB5).later hB6).later hB7).later hB8).later hB9)).mono ?_
  rintro e w10 ⟨rfl, hB10⟩
  have hC10 := hC9.trans (hB10.mono hC9.size)
  go_wp2_with fail
  refine (less_ok zs i j p n cap _ hl (he.later hC10) hmax (hc.later hC10) H0.out hi hj).mono ?_
  rintro e w11 ⟨rfl, hB11⟩
  have hC11 := hC10.trans (hB11.mono hC10.size)
  rw [HX.out]
  go_wp2_with fail
  refine (error_nil _).mono ?_
  rintro e w' ⟨rfl, rfl⟩
  go_wp2_with fail
  refine (with_step zs i j p n cap _ hl (he.later hC11) hmax (hc.later hC11) H0.out hi hj).mono ?_
  rintro e w12 (⟨_, rfl, hB12⟩ | ⟨hno, _⟩)
  case inr => rw [HR.out] at hno; cases hno
  have hC12 := hC11.trans (hB12.mono hC11.size)
  go_wp2_with fail
  refine (error_same 6 _ (ht.later hC12)).mono ?_
  rintro e w13 ⟨rfl, hB13⟩
  have hC13 := hC12.trans (hB13.mono hC12.size)
  go_wp2_with fail
  refine (same_ints [] none none 0 0 0 _ rfl (Nat.zero_le _) (has_none _) (has_none _)).mono ?_
  rintro e w14 ⟨rfl, hB14⟩
  have hC14 := hC13.trans (hB14.mono hC13.size)
  go_wp2
  go_ret
  exact ⟨rfl, hC14⟩

set_option maxRecDepth 100000 in
set_option maxHeartbeats 8000000 in
theorem says_more (zs : List Int) (i j : Nat) (p : Option Addr) (n cap : Nat) (w : World) (hl : zs.length = n) (he : Env w) (hmax : n ≤ maxLen) (hc : Has zs p w) (h0 : code zs = 0) (hi : i < n) (hj : j < n) (hring : ringB (M.more (nats zs) i j) = false) :
    Calls Tryd.prog 3 #[.slice p n cap, .int .i64 (i : Nat), .int .i64 (j : Nat)] w fun e w' => e = .returned (.bool true) ∧ Below w.heap.size w w' := by
  have hz := code_zero h0
  have hok := nats_ok hz.2.1
  have hn : n ≤ 12 := by omega
  have hnl : (nats zs).length = n := by rw [nats_length, hl]
  have hzs : ints (nats zs) = zs := ints_nats hz.2.1
  have hlc : (ints (M.clo (nats zs))).length = n := by rw [ints_length, M.clo_length, hnl]
  have hlt : (ints (M.turned (nats zs))).length = n := by rw [ints_length, M.turned_length, hnl]
  have hord := fun W (h : Has zs p W) => order_any zs p n cap W hl hmax h
  rw [h0] at hord
  have hclo := fun W (h : Has zs p W) => closed_any (nats zs) p n cap W hnl hok hn (by rw [hzs]; exact h)
  have htur := fun W (h : Has zs p W) => rturned_any (nats zs) p n cap W hnl hok hn (by rw [hzs]; exact h)
  have H0 : Hid (code zs = 0) := h0
  have HZ : Hid (zs.length ≤ 12 ∧ allSets zs = true ∧ ¬ M.Ring (nats zs)) := hz
  clear h0 hz hzs
  have hC0 : Below w.heap.size w w := Below.refl _ _
  have hin : i < (nats zs).length := by omega
  have hjn : j < (nats zs).length := by omega
  have hmo : M.Ok (M.more (nats zs) i j) := M.more_ok hok hjn
  have hml : (M.more (nats zs) i j).length = n := by rw [M.more_length, hnl]
  have hmi : (ints (M.more (nats zs) i j)).length = n := by rw [ints_length, hml]
  have hmc : (ints (M.clo (M.more (nats zs) i j))).length = n := by rw [ints_length, M.clo_length, hml]
  have hcode : code (ints (M.more (nats zs) i j)) = 0 := by rw [code_ints hmo (by omega), hring]; rfl
  have hmord := fun q c W (h : Has (ints (M.more (nats zs) i j)) q W) => order_any (ints (M.more (nats zs) i j)) q n c W hmi hmax h
  rw [hcode] at hmord
  have hthi : M.row (M.clo (nats zs)) i < 65536 := by
    have h := M.clo_ok hok i
    rw [M.clo_length, hnl] at h
    have := pow_lt n hn; omega
  obtain ⟨x, hxb⟩ : ∃ x, (M.row (M.clo (nats zs)) i).testBit j = x := ⟨_, rfl⟩
  have HX : Hid ((M.row (M.clo (nats zs)) i).testBit j = x) := hxb
  have HR : Hid (ringB (M.more (nats zs) i j) = false) := hring
  clear hxb hring hcode
  go_enter Tryd.func3, Tryd.ntmps3
  go_wp2_with fail
  refine (hord _ hc).mono ?_
  rintro e w1 ⟨rfl, hB1⟩
  have hC1 := hC0.trans (hB1.mono hC0.size)
  go_wp2_with fail
  refine (check_ok zs p n cap _ hl (he.later hC1) hmax (hc.later hC1) H0.out).mono ?_
  rintro e w2 ⟨rfl, hB2⟩
  have hC2 := hC1.trans (hB2.mono hC1.size)
  go_wp2_with fail
  refine (error_nil _).mono ?_
  rintro e w' ⟨rfl, rfl⟩
  go_wp2_with fail
  refine (hclo _ (hc.later hC2)).mono ?_
  rintro e w3 ⟨px, cx, rfl, hx, hB3⟩
  have hC3 := hC2.trans (hB3.mono hC2.size)
  go_wp2_with fail
  refine (htur _ (hc.later hC3)).mono ?_
  rintro e w4 ⟨py, cy, rfl, hy, hB4⟩
  have hC4 := hC3.trans (hB4.mono hC3.size)
  have hx4 := hx.later hB4
  obtain ⟨bx, ox, hpx, hbx, hcx⟩ := hx4 i (by rw [ints_length, M.clo_length, hnl]; exact hi)
  rw [ints_get] at hcx
  subst hpx
  go_wp2_with fail
  refine (bit_any (M.row (M.clo (nats zs)) i) j _ hthi (by omega)).mono ?_
  rintro e w' ⟨rfl, rfl⟩
  rw [HX.out]
  go_wp2_with fail
  refine (rmore_any (nats zs) i j p n cap _ hnl hok hn hi hj (by rw [ints_nats HZ.out.2.1]; exact hc.later hC4)).mono ?_
  rintro e w5 ⟨pm, cm, rfl, hm, hB5⟩
  have hC5 := hC4.trans (hB5.mono hC4.size)
  go_wp2_with fail
  refine (hmord pm cm _ hm).mono ?_
  rintro e w6 ⟨rfl, hB6⟩
  have hC6 := hC5.trans (hB6.mono hC5.size)
  go_wp2_with fail
  refine (closed_any (M.more (nats zs) i j) pm n cm _ hml hmo hn (hm.later hB6)).mono ?_
  rintro e w7 ⟨pz, cz, rfl, hzz, hB7⟩
  have hC7 := hC6.trans (hB7.mono hC6.size)
  go_wp2_with fail
  refine (behind_ok zs p n cap _ hl (he.later hC7) hmax (hc.later hC7) H0.out).mono ?_
  rintro e w8 ⟨A5, rfl, hr5, hA5, hB8⟩
  have hC8 := hC7.trans (hB8.mono hC7.size)
  go_wp2_with fail
  refine (error_nil _).mono ?_
  rintro e w' ⟨rfl, rfl⟩
  go_wp2_with fail
  refine (same_ints (ints (M.clo (nats zs))) _ _ n n cx _ hlc hmax hr5.has ((((hx4.later hB5).later hB6).later hB7).later hB8)).mono ?_
  rintro e w9 ⟨rfl, hB9⟩
  have hC9 := hC8.trans (hB9.mono hC8.size)
  go_wp2_with fail
  refine (turned_ok zs p n cap _ hl (he.later hC9) hmax (hc.later hC9) H0.out).mono ?_
  rintro e w10 ⟨A7, rfl, hr7, hA7, hB10⟩
  have hC10 := hC9.trans (hB10.mono hC9.size)
  go_wp2_with fail
  refine (error_nil _).mono ?_
  rintro e w' ⟨rfl, rfl⟩
  go_wp2_with fail
  refine (same_ints (ints (M.turned (nats zs))) _ _ n n cy _ hlt hmax hr7.has ((((((hy.later hB5).later hB6).later hB7).later hB8).later hB9).later hB10)).mono ?_
  rintro e w11 ⟨rfl, hB11⟩
  have hC11 := hC10.trans (hB11.mono hC10.size)
  go_wp2_with fail
  refine (less_ok zs i j p n cap _ hl (he.later hC11) hmax (hc.later hC11) H0.out hi hj).mono ?_
  rintro e w12 ⟨rfl, hB12⟩
  have hC12 := hC11.trans (hB12.mono hC11.size)
  rw [HX.out]
  go_wp2_with fail
  refine (error_nil _).mono ?_
  rintro e w' ⟨rfl, rfl⟩
  go_wp2_with fail
  refine (with_step zs i j p n cap _ hl (he.later hC12) hmax (hc.later hC12) H0.out hi hj).mono ?_
  rintro e w13 (⟨hno, _⟩ | ⟨_, A9, rfl, hr9, hA9, hB13⟩)
  case inl => rw [HR.out] at hno; cases hno
  have hC13 := hC12.trans (hB13.mono hC12.size)
  go_wp2_with fail
  refine (error_nil _).mono ?_
  rintro e w' ⟨rfl, rfl⟩
  go_wp2_with fail
  refine (same_ints (ints (M.clo (M.more (nats zs) i j))) _ _ n n cz _ hmc hmax hr9.has ((((((hzz.later hB8).later hB9).later hB10).later hB11).later hB12).later hB13)).mono ?_
  rintro e w14 ⟨rfl, hB14⟩
  have hC14 := hC13.trans (hB14.mono hC13.size)
  go_wp2
  go_ret
  exact ⟨rfl, hC14⟩

end Go.Proofs.YtedmpcadinjjdaaDoor
