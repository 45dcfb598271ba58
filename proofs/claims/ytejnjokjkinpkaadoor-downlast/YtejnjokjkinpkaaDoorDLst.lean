/- A CLOSED SET IS ITS LAST THINGS: the law's walk: at whatever numbers the call returns true, and what lay in memory lies as it lay; the library's table lies where its variable is. -/
import Derived.Test.YtejnjokjkinpkaaDoorDFact
import Derived.Test.YtejnjokjkinpkaaDoorRefSet
namespace Go.Proofs.YtejnjokjkinpkaaDoor
open Go.RowKit

theorem sub_pow_bit {a i : Nat} (h : a.testBit i = true) : 2 ^ i ≤ a ∧ ∀ j, (a - 2 ^ i).testBit j = (a.testBit j && decide (i ≠ j)) := by
  obtain ⟨b, hb⟩ : ∃ b, a ^^^ 2 ^ i = b := ⟨_, rfl⟩
  have hbit : ∀ j, b.testBit j = (a.testBit j && decide (i ≠ j)) := fun j => by
    rw [← hb, Nat.testBit_xor, Nat.testBit_two_pow]
    by_cases e : i = j
    · subst e; simp [h]
    · simp [e]
  have hs := add_pow_or b i (by rw [hbit]; simp)
  have ha : b ||| 1 <<< i = a := by
    apply Nat.eq_of_testBit_eq
    intro j
    rw [Nat.testBit_or, hbit, Nat.shiftLeft_eq, Nat.one_mul, Nat.testBit_two_pow]
    by_cases e : i = j
    · subst e; simp [h]
    · simp [e]
  rw [ha] at hs
  refine ⟨by omega, fun j => ?_⟩
  rw [← hbit, show a - 2 ^ i = b by omega]
theorem last_less_closed {c t : List Nat} (hd : M.Dual c t) {s i : Nat} (hs : s < 2 ^ c.length) (hcl : M.Closd t s) (hi : (M.lastS c s).testBit i = true) : M.Closd t (s - 2 ^ i) := by
  obtain ⟨h1, h2⟩ := (M.lastS_bit hs i).1 hi
  obtain ⟨-, hb⟩ := sub_pow_bit h1
  intro k j hk hj
  rw [hb, Bool.and_eq_true, decide_eq_true_eq] at hk ⊢
  refine ⟨hcl k j hk.1 hj, fun e => ?_⟩
  subst e
  rw [hd.2, h2 k hk.1] at hj; cases hj
theorem last_less_close {c t : List Nat} (hd : M.Dual c t) {s i : Nat} (hs : s < 2 ^ c.length) (hi : (M.lastS c s).testBit i = true) : M.down t (M.lastS c s - 2 ^ i) ≠ s := by
  intro e
  obtain ⟨h1, h2⟩ := (M.lastS_bit hs i).1 hi
  obtain ⟨-, hb⟩ := sub_pow_bit hi
  have hin : (M.down t (M.lastS c s - 2 ^ i)).testBit i = true := by rw [e]; exact h1
  rcases (M.down_bit i).1 hin with h | ⟨k, a, b⟩
  · rw [hb] at h; simp at h
  · rw [hb, Bool.and_eq_true] at a
    rw [hd.2, h2 k ((M.lastS_bit hs k).1 a.1).1] at b; cases b
theorem last_zero {c t : List Nat} (hd : M.Dual c t) (hc : M.Tr c) {s : Nat} (hs : s < 2 ^ c.length) (hcl : M.Closd t s) : M.lastS c s = 0 ↔ s = 0 := by
  constructor
  · intro h
    have := M.down_last hd hc hs hcl
    rw [h] at this
    rw [← this]
    apply Nat.eq_of_testBit_eq
    intro j
    rw [Bool.eq_iff_iff, M.down_bit]
    simp
  · rintro rfl
    apply Nat.eq_of_testBit_eq
    intro j
    rw [Bool.eq_iff_iff, M.lastS_bit hs]
    simp
theorem last_some (zs : List Int) (z : Int) (p : Option Addr) (n cap : Nat) (w : World) (hl : zs.length = n) (he : Env w) (hmax : n ≤ maxLen) (hc : Has zs p w) :
    Calls Tryd.prog 18 #[.slice p n cap, .int .i64 z] w fun e w' => ∃ (b : Nat) (ev : Value), e = .returned (.tuple #[.int .i64 (b : Nat), ev]) ∧ Below w.heap.size w w' := by
  by_cases h0 : dcode zs z = 0
  · obtain ⟨h1, s, rfl, hs⟩ := dcode_zero h0
    refine (last_ok zs s p n cap w hl he hmax hc h1 (by rw [← hl]; exact hs)).mono ?_
    rintro e w' ⟨rfl, hB⟩
    exact ⟨_, _, rfl, hB⟩
  · refine (last_bad zs z p n cap _ w hl he hmax hc rfl h0).mono ?_
    rintro e w' ⟨rfl, hB⟩
    exact ⟨0, _, rfl, hB⟩
set_option maxRecDepth 100000 in
set_option maxHeartbeats 1000000 in
theorem dlst_bad (zs : List Int) (z : Int) (p : Option Addr) (n cap d : Nat) (w : World) (hl : zs.length = n) (he : Env w) (hmax : n ≤ maxLen) (hc : Has zs p w) (h0 : dcode zs z = d) (hne : d ≠ 0) :
    Calls Tryd.prog 6 #[.slice p n cap, .int .i64 z] w fun e w' => e = .returned (.bool true) ∧ Below w.heap.size w w' := by
  go_enter Tryd.func6, Tryd.ntmps6
  go_wp2_with fail
  refine (dfact_any _ he).mono ?_
  rintro e w1 ⟨rfl, hB1⟩
  go_wp2_with fail
  refine (close_bad zs z p n cap d _ hl (he.later hB1) hmax (hc.later hB1) h0 hne).mono ?_
  rintro e w2 ⟨rfl, hB2⟩
  have hC2 := hB1.trans (hB2.mono hB1.size)
  go_wp2_with fail
  refine (last_some zs 0 p n cap _ hl (he.later hC2) hmax (hc.later hC2)).mono ?_
  rintro e w3 ⟨b, ev, rfl, hB3⟩
  have hC3 := hC2.trans (hB3.mono hC2.size)
  go_wp2_with fail
  go_ret
  exact ⟨rfl, hC3⟩
set_option maxRecDepth 100000 in
set_option maxHeartbeats 2000000 in
theorem dlst_ok (zs : List Int) (s : Nat) (p : Option Addr) (n cap : Nat) (w : World) (hl : zs.length = n) (he : Env w) (hmax : n ≤ maxLen) (hc : Has zs p w) (h0 : code zs = 0) (hs : s < 2 ^ n) :
    Calls Tryd.prog 6 #[.slice p n cap, .int .i64 (s : Nat)] w fun e w' => e = .returned (.bool true) ∧ Below w.heap.size w w' := by
  have hcz := code_zero h0
  have hok := nats_ok hcz.2.1
  have hn : n ≤ 12 := by omega
  have hpw := pow_lt n hn
  have htl : (M.turned (nats zs)).length = n := by rw [M.turned_length, nats_length, hl]
  have hcll : (M.clo (nats zs)).length = n := by rw [M.clo_length, nats_length, hl]
  have hdu := M.dual_clo hok
  have htc := M.tr_clo hok hcz.2.2
  have htr := M.tr_dual hdu htc
  have hcl : ∀ v : Nat, v < 2 ^ n → ∀ W, Below w.heap.size w W → Calls Tryd.prog 16 #[.slice p n cap, .int .i64 (v : Nat)] W fun e w' => e = .returned (.tuple #[.int .i64 (M.down (M.turned (nats zs)) v : Nat), .nilIface]) ∧ Below W.heap.size W w' := fun v hv W hB => close_ok zs v p n cap W hl (he.later hB) hmax (hc.later hB) h0 hv
  have his : ∀ v : Nat, v < 2 ^ n → M.Closd (M.turned (nats zs)) v → ∀ W, Below w.heap.size w W → Calls Tryd.prog 17 #[.slice p n cap, .int .i64 (v : Nat)] W fun e w' => e = .returned (.tuple #[.bool true, .nilIface]) ∧ Below W.heap.size W w' := fun v hv hcd W hB => by
    have := dis_ok zs v p n cap W hl (he.later hB) hmax (hc.later hB) h0 hv
    rw [M.closB_iff.2 hcd] at this; exact this
  have h1 := hcl s hs
  have hxl : M.down (M.turned (nats zs)) s < 2 ^ n := by have := M.down_lt (M.turned_ok (nats zs)) (s := s) (by rw [htl]; exact hs); rw [htl] at this; exact this
  have hxc := M.down_closd htr s
  obtain ⟨a, ha⟩ : ∃ a, M.down (M.turned (nats zs)) s = a := ⟨_, rfl⟩
  rw [ha] at hxl hxc
  simp only [ha] at h1
  clear ha
  have hac : a < 2 ^ (M.clo (nats zs)).length := by rw [hcll]; exact hxl
  have h2 : ∀ W, Below w.heap.size w W → Calls Tryd.prog 18 #[.slice p n cap, .int .i64 (a : Nat)] W fun e w' => e = .returned (.tuple #[.int .i64 (M.lastS (M.clo (nats zs)) a : Nat), .nilIface]) ∧ Below W.heap.size W w' := fun W hB => last_ok zs a p n cap W hl (he.later hB) hmax (hc.later hB) h0 hxl
  have hll : M.lastS (M.clo (nats zs)) a < 2 ^ n := by have := M.lastS_lt (M.clo (nats zs)) a; rw [hcll] at this; exact this
  have h3 := hcl _ hll
  rw [M.down_last hdu htc hac hxc] at h3
  have hz0 := last_zero hdu htc hac hxc
  have h4 : ∀ i, (M.lastS (M.clo (nats zs)) a).testBit i = true → ∃ a1 l1 y : Nat, ((a : Int) - ((2 ^ i : Nat) : Int) = (a1 : Int)) ∧ ((M.lastS (M.clo (nats zs)) a : Int) - ((2 ^ i : Nat) : Int) = (l1 : Int)) ∧ a1 ≤ a ∧ l1 ≤ M.lastS (M.clo (nats zs)) a ∧ y ≠ a ∧ (∀ W, Below w.heap.size w W → Calls Tryd.prog 17 #[.slice p n cap, .int .i64 (a1 : Nat)] W fun e w' => e = .returned (.tuple #[.bool true, .nilIface]) ∧ Below W.heap.size W w') ∧ (∀ W, Below w.heap.size w W → Calls Tryd.prog 16 #[.slice p n cap, .int .i64 (l1 : Nat)] W fun e w' => e = .returned (.tuple #[.int .i64 (y : Nat), .nilIface]) ∧ Below W.heap.size W w') := fun i hi => by
    have g1 := (sub_pow_bit ((M.lastS_bit hac i).1 hi).1).1
    have g2 := (sub_pow_bit hi).1
    exact ⟨a - 2 ^ i, M.lastS (M.clo (nats zs)) a - 2 ^ i, _, by omega, by omega, Nat.sub_le _ _, Nat.sub_le _ _, last_less_close hdu hac hi, his _ (Nat.lt_of_le_of_lt (Nat.sub_le _ _) hxl) (last_less_closed hdu hac hxc hi), hcl _ (Nat.lt_of_le_of_lt (Nat.sub_le _ _) hll)⟩
  obtain ⟨l, hld⟩ : ∃ l, M.lastS (M.clo (nats zs)) a = l := ⟨_, rfl⟩
  simp only [hld] at h2 h3 h4 hll hz0
  clear hld hxc hac hcl his htr htc hdu
  have hl4 : l < 4096 := by omega
  have ha4 : a < 4096 := by omega
  have e0 : decide ((l : Int) < 0) = false := decide_eq_false (by omega)
  have e1 : decide ((4095 : Int) < (l : Int)) = false := decide_eq_false (by omega)
  have e2 : decide (4095 < l) = false := decide_eq_false (by omega)
  have hzz : ∃ b : Bool, ((l : Int) == 0) = b ∧ ((a : Int) == 0) = b := ⟨(l : Int) == 0, rfl, by rw [Bool.eq_iff_iff]; simp; omega⟩
  obtain ⟨b, hb1, hb2⟩ := hzz
  clear hz0 hll hxl hs hpw
  go_enter Tryd.func6, Tryd.ntmps6
  go_wp2_with fail
  refine (dfact_any _ he).mono ?_
  rintro e w1 ⟨rfl, hB1⟩
  go_wp2_with fail
  refine (h1 _ hB1).mono ?_
  rintro e w2 ⟨rfl, hB2⟩
  have hC2 := hB1.trans (hB2.mono hB1.size)
  go_wp2_with fail
  refine (h2 _ hC2).mono ?_
  rintro e w3 ⟨rfl, hB3⟩
  have hC3 := hC2.trans (hB3.mono hC2.size)
  go_wp2_with fail
  refine (h3 _ hC3).mono ?_
  rintro e w4 ⟨rfl, hB4⟩
  have hC4 := hC3.trans (hB4.mono hC3.size)
  have hbb : (b != b) = false := by cases b <;> rfl
  go_wp2_with fail
  go_loopw [12] (fun v wr => ∃ i : Nat, v = .int .i64 i ∧ i ≤ n ∧ Below w.heap.size w wr) (fun v _ => n - (intOf v).toNat)
  case atStart => exact ⟨0, rfl, Nat.zero_le _, hC4⟩
  case round =>
    obtain ⟨i, rfl, hi, hBr⟩ := hrel
    by_cases hin : i < n
    · have hbi := bit_any l i wr (by omega) (by omega)
      have h4i := h4 i
      clear h4
      obtain ⟨pw, hpw⟩ : ∃ pw, 2 ^ i = pw := ⟨_, rfl⟩
      have HP : Hid (2 ^ i = pw) := hpw
      rw [hpw] at h4i
      have hp4 : pw ≤ 4096 := by rw [← hpw]; exact pow_lt i (by omega)
      have hp2 := fun W => pow2_any i pw W (by omega) HP
      clear hpw
      obtain ⟨bb, hbbd⟩ : ∃ bb, l.testBit i = bb := ⟨_, rfl⟩
      rw [hbbd] at hbi h4i
      clear hbbd
      cases bb with
      | false =>
        go_wp2_with fail
        refine hbi.mono ?_
        rintro e w5 ⟨rfl, rfl⟩
        go_wp2_with fail
        go_roundw
        case rel => exact ⟨i + 1, by go_num, by omega, hBr⟩
        case measure => simp [intOf]; omega
      | true =>
        obtain ⟨a1, l1, y, s1, s2, ha1, hl1, hya, g1, g2⟩ := h4i rfl
        have e5 : ((y : Int) == (a : Int)) = false := by simp; omega
        have e6 : (y == a) = false := by simp; omega
        clear h4i hya
        go_wp2_with fail
        refine hbi.mono ?_
        rintro e w5 ⟨rfl, rfl⟩
        go_wp2_with fail
        refine (hp2 _).mono ?_
        rintro e w5 ⟨rfl, rfl⟩
        go_wp2_with fail
        refine (g1 _ hBr).mono ?_
        rintro e w6 ⟨rfl, hB6⟩
        have hC6 := hBr.trans (hB6.mono hBr.size)
        go_wp2_with fail
        refine (hp2 _).mono ?_
        rintro e w5 ⟨rfl, rfl⟩
        go_wp2_with fail
        refine (g2 _ hC6).mono ?_
        rintro e w7 ⟨rfl, hB7⟩
        have hC7 := hC6.trans (hB7.mono hC6.size)
        go_wp2_with fail
        go_roundw
        case rel => exact ⟨i + 1, by go_num, by omega, hC7⟩
        case measure => simp [intOf]; omega
    · obtain rfl : i = n := by omega
      go_wp2_with fail
      go_ret
      exact ⟨rfl, hBr⟩
theorem dlst_rowwalk (zs : List Int) (p : Option Addr) (n cap : Nat) (z : Int) (w : World) (he : Env w) (hl : zs.length = n) (hmax : n ≤ maxLen) (hc : Has zs p w) :
    Calls Tryd.prog 6 #[.slice p n cap, .int .i64 z] w fun e w' => e = .returned (.bool true) ∧ Below w.heap.size w w' := by
  by_cases h0 : dcode zs z = 0
  · obtain ⟨h1, s, rfl, hs⟩ := dcode_zero h0
    exact dlst_ok zs s p n cap w hl he hmax hc h1 (by rw [← hl]; exact hs)
  · exact dlst_bad zs z p n cap _ w hl he hmax hc rfl h0
end Go.Proofs.YtejnjokjkinpkaaDoor
