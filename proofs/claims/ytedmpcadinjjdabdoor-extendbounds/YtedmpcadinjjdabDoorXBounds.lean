/- AT LEAST ONE, AND AT MOST ALL ROWS: the law's walk: at whatever numbers the call returns true, and what lay in memory lies as it lay; the library's table lies where its variable is. -/
import Derived.Test.YtedmpcadinjjdabDoorXFact
import Derived.Test.YtedmpcadinjjdabDoorWide
import Derived.Test.YtedmpcadinjjdabDoorRefMany
namespace Go.Proofs.YtedmpcadinjjdabDoor
open Go.RowKit

theorem fact_two {k : Nat} (h : 2 ≤ k) : 2 ≤ M.fact' k := Nat.le_trans (by decide : 2 ≤ M.fact' 2) (M.fact_mono h)
theorem fact_same {k n : Nat} (h1 : k ≤ max n 1) (h2 : n ≤ k) : M.fact' k = M.fact' n := by
  by_cases e : k = n
  · rw [e]
  · obtain rfl : n = 0 := by omega
    obtain rfl : k = 1 := by omega
    rfl
theorem fact_12 {k : Nat} (h : k ≤ 12) : M.fact' k ≤ 479001600 := Nat.le_trans (M.fact_mono h) (by decide)
theorem count_all {c : List Nat} (htr : M.Tr c) (hn : c.length ≤ 12) : M.count c ≤ M.fact' c.length :=
  M.cnt_le_fact (M.strict_of htr) _ _ _ (M.cb_all _) (M.count_cnt htr hn)
theorem count_side {c : List Nat} (htr : M.Tr c) (hn : c.length ≤ 12) : M.fact' (M.pc (M.widest c)) ≤ M.count c := by
  have hw := M.widest_is c
  have h := M.cnt_ge_fact (M.strict_of htr) c.length (fun _ => true) (M.widest c).testBit _ (M.cb_le _ _) (fun _ _ _ => rfl) ((M.side_anti hn hw.lt).1 hw.ok) (M.count_cnt htr hn)
  rw [← M.cb_cnt, ← M.pc_cnt hn hw.lt] at h
  exact h
theorem count_one {c : List Nat} (htr : M.Tr c) (hn : c.length ≤ 12) : M.count c = 1 ↔ M.pc (M.widest c) ≤ 1 := by
  constructor
  · intro h
    have h1 := count_side htr hn
    rcases Nat.lt_or_ge 1 (M.pc (M.widest c)) with h2 | h2
    · have := fact_two (k := M.pc (M.widest c)) h2; omega
    · exact h2
  · intro h
    refine M.cnt_chain (M.strict_of htr) c.length (fun _ => true) _ (M.cb_le _ _) (fun i j hi hj _ _ hne => ?_) (M.count_cnt htr hn)
    by_cases h1 : M.lt c i j = true
    · exact .inl h1
    · by_cases h2 : M.lt c j i = true
      · exact .inr h2
      · exfalso
        have hs : 2 ^ i ||| 2 ^ j < 2 ^ c.length := Nat.or_lt_two_pow (Nat.pow_lt_pow_right (by omega) hi) (Nat.pow_lt_pow_right (by omega) hj)
        have hbit : ∀ u, (2 ^ i ||| 2 ^ j).testBit u = true ↔ u = i ∨ u = j := fun u => by
          rw [Nat.testBit_or, Nat.testBit_two_pow, Nat.testBit_two_pow]
          simp
          constructor <;> (rintro (h | h) <;> omega)
        have hside : M.side c (2 ^ i ||| 2 ^ j) = true := by
          rw [M.side_anti hn hs]
          intro a b _ _ ha hb
          have h1' : M.lt c i j = false := by simpa using h1
          have h2' : M.lt c j i = false := by simpa using h2
          rcases (hbit a).1 ha with rfl | rfl <;> rcases (hbit b).1 hb with rfl | rfl
          · exact htr.1 _
          · exact h1'
          · exact h2'
          · exact htr.1 _
        have hb := ((M.widest_is c).best _ hs hside).1
        exact hne (M.one_bit hn hs (by omega) ((hbit i).2 (.inl rfl)) ((hbit j).2 (.inr rfl)))

set_option maxRecDepth 100000 in
set_option maxHeartbeats 1000000 in
theorem xbounds_err (zs : List Int) (p : Option Addr) (n cap d : Nat) (w : World) (hl : zs.length = n) (he : Env w) (hmax : n ≤ maxLen) (hc : Has zs p w) (h0 : code zs = d) (hne : d ≠ 0) :
    Calls Tryd.prog 7 #[.slice p n cap] w fun e w' => e = .returned (.bool true) ∧ Below w.heap.size w w' := by
  go_enter Tryd.func7, Tryd.ntmps7
  go_wp2_with fail
  refine (xfact_any _ he).mono ?_
  rintro e w1 ⟨rfl, hB1⟩
  go_wp2_with fail
  refine (count_err zs p n cap d _ hl (he.later hB1) hmax (hc.later hB1) h0 hne).mono ?_
  rintro e w2 ⟨rfl, hB2⟩
  have hC2 := hB1.trans (hB2.mono hB1.size)
  go_wp2_with fail
  refine (widest_err zs p n cap d _ hl (he.later hC2) hmax (hc.later hC2) h0 hne).mono ?_
  rintro e w3 ⟨rfl, hB3⟩
  go_wp2
  go_ret
  exact ⟨rfl, hC2.trans (hB3.mono hC2.size)⟩
set_option maxRecDepth 100000 in
set_option maxHeartbeats 2000000 in
theorem xbounds_ok (zs : List Int) (p : Option Addr) (n cap : Nat) (w : World) (hl : zs.length = n) (he : Env w) (hmax : n ≤ maxLen) (hc : Has zs p w) (h0 : code zs = 0) :
    Calls Tryd.prog 7 #[.slice p n cap] w fun e w' => e = .returned (.bool true) ∧ Below w.heap.size w w' := by
  have hz := code_zero h0
  have hok := nats_ok hz.2.1
  have hn : n ≤ 12 := by omega
  have hpw := pow_lt n hn
  have hnl : (nats zs).length = n := by rw [nats_length, hl]
  have htr := cloTr hok hz.2.2
  have hcl : (M.clo (nats zs)).length = n := by rw [M.clo_length, hnl]
  have hall := count_all htr (by omega)
  have hside := count_side htr (by omega)
  have hone := count_one htr (by omega)
  have hwl := (M.widest_is (M.clo (nats zs))).lt
  have hpc : M.pc (M.widest (M.clo (nats zs))) ≤ 12 := M.cnt_le 12 _
  have hcn := fun w1 (hB : Below w.heap.size w w1) => count_ok zs p n cap w1 hl (he.later hB) hmax (hc.later hB) h0
  have hwd := fun w1 (hB : Below w.heap.size w w1) => widest_ok zs p n cap w1 hl (he.later hB) hmax (hc.later hB) h0
  rw [hcl] at hall hwl
  obtain ⟨v, hv⟩ : ∃ v, M.count (M.clo (nats zs)) = v := ⟨_, rfl⟩
  obtain ⟨x, hx⟩ : ∃ x, M.widest (M.clo (nats zs)) = x := ⟨_, rfl⟩
  simp only [hv] at hcn
  simp only [hx] at hwd
  rw [hv] at hall hside hone
  rw [hx] at hside hone hwl hpc
  have hmn := fun W => many_any x W (by omega)
  obtain ⟨k0, hk0⟩ : ∃ k, M.pc x = k := ⟨_, rfl⟩
  simp only [hk0] at hmn
  rw [hk0] at hside hone hpc
  have HA : Hid (v ≤ M.fact' n) := hall
  have HS : Hid (M.fact' k0 ≤ v) := hside
  clear hv hx hk0 hall hside
  go_enter Tryd.func7, Tryd.ntmps7
  go_wp2_with fail
  refine (xfact_any _ he).mono ?_
  rintro e w1 ⟨rfl, hB1⟩
  go_wp2_with fail
  refine (hcn _ hB1).mono ?_
  rintro e w2 ⟨rfl, hB2⟩
  have hC2 := hB1.trans (hB2.mono hB1.size)
  go_wp2_with fail
  refine (hwd _ hC2).mono ?_
  rintro e w3 ⟨rfl, hB3⟩
  have hC3 := hC2.trans (hB3.mono hC2.size)
  go_wp2_with fail
  go_loop [8, 9] (fun u i => ∃ k a : Nat, i = .int .i64 ((k : Int) + 1) ∧ u = .int .i64 a ∧ 1 ≤ k ∧ k ≤ max n 1 ∧ Hid (a = M.fact' k) ∧ a ≤ 479001600) (fun _ i => (n + 2) - (intOf i).toNat)
  case atStart => exact ⟨1, 1, rfl, rfl, Nat.le_refl _, by omega, (rfl : 1 = M.fact' 1), by omega⟩
  case round =>
    obtain ⟨k, a, rfl, rfl, hk1, hkm, ha, hal⟩ := hrel
    by_cases hkn : k + 1 ≤ n
    · have e1 : decide ((k : Int) + 1 ≤ (n : Int)) = true := decide_eq_true (by omega)
      have hf : Hid (M.fact' (k + 1) = a * (k + 1)) := (by simp only [M.fact']; rw [← ha.out, Nat.mul_comm] : M.fact' (k + 1) = a * (k + 1))
      have hf12 := fact_12 (k := k + 1) (by omega)
      rw [hf.out] at hf12
      obtain ⟨b, hb⟩ : ∃ b, a * (k + 1) = b := ⟨_, rfl⟩
      have hm1 : (a : Int) * ((k : Int) + 1) = (b : Int) := by rw [← hb]; simp
      have hm2 : IntKind.i64.wrap ((a : Int) * ((k : Int) + 1)) = (b : Int) := by rw [hm1]; exact i64_wrap_nat b (by omega)
      have hm3 : IntKind.i64.wrap (b : Int) = (b : Int) := i64_wrap_nat b (by omega)
      rw [hb] at hf hf12
      clear hb
      go_wp2_with fail
      go_round
      case rel => exact ⟨k + 1, b, by go_num, by go_num, by omega, by omega, (hf.out.symm : b = _), hf12⟩
      case measure => simp [intOf]; omega
    · have e1 : decide ((k : Int) + 1 ≤ (n : Int)) = false := decide_eq_false (by omega)
      have HA2 : v ≤ a := by rw [ha.out, fact_same hkm (by omega)]; exact HA.out
      clear ha
      go_wp2_with fail
      go_loop [10, 11] (fun u i => ∃ k b : Nat, i = .int .i64 ((k : Int) + 1) ∧ u = .int .i64 b ∧ 1 ≤ k ∧ k ≤ max k0 1 ∧ Hid (b = M.fact' k) ∧ b ≤ 479001600) (fun _ i => (k0 + 2) - (intOf i).toNat)
      case atStart => exact ⟨1, 1, rfl, rfl, Nat.le_refl _, by omega, (rfl : 1 = M.fact' 1), by omega⟩
      case round =>
        obtain ⟨k2, b, rfl, rfl, hk1', hkm', hb, hbl⟩ := hrel
        by_cases hkn' : k2 + 1 ≤ k0
        · have e2 : decide ((k2 : Int) + 1 ≤ (k0 : Int)) = true := decide_eq_true (by omega)
          have hf : Hid (M.fact' (k2 + 1) = b * (k2 + 1)) := (by simp only [M.fact']; rw [← hb.out, Nat.mul_comm] : M.fact' (k2 + 1) = b * (k2 + 1))
          have hf12 := fact_12 (k := k2 + 1) (by omega)
          rw [hf.out] at hf12
          obtain ⟨d, hd⟩ : ∃ d, b * (k2 + 1) = d := ⟨_, rfl⟩
          have hm1 : (b : Int) * ((k2 : Int) + 1) = (d : Int) := by rw [← hd]; simp
          have hm2 : IntKind.i64.wrap ((b : Int) * ((k2 : Int) + 1)) = (d : Int) := by rw [hm1]; exact i64_wrap_nat d (by omega)
          have hm3 : IntKind.i64.wrap (d : Int) = (d : Int) := i64_wrap_nat d (by omega)
          rw [hd] at hf hf12
          clear hd
          go_wp2_with fail
          refine (hmn _).mono ?_
          rintro e w5 ⟨rfl, rfl⟩
          go_wp2_with fail
          go_round
          case rel => exact ⟨k2 + 1, d, by go_num, by go_num, by omega, by omega, (hf.out.symm : d = _), hf12⟩
          case measure => simp [intOf]; omega
        · have e2 : decide ((k2 : Int) + 1 ≤ (k0 : Int)) = false := decide_eq_false (by omega)
          have HS2 : b ≤ v := by rw [hb.out, fact_same hkm' (by omega)]; exact HS.out
          have f1 : decide ((b : Int) ≤ (v : Int)) = true := decide_eq_true (by omega)
          have f2 : decide ((v : Int) ≤ (a : Int)) = true := decide_eq_true (by omega)
          have f3 : decide (b ≤ v) = true := decide_eq_true (by omega)
          have f4 : decide (v ≤ a) = true := decide_eq_true (by omega)
          clear hb
          go_wp2_with fail
          refine (hmn _).mono ?_
          rintro e w5 ⟨rfl, rfl⟩
          go_wp2_with fail
          refine (hmn _).mono ?_
          rintro e w5 ⟨rfl, rfl⟩
          go_wp2_with fail
          go_ret
          refine ⟨bool_ret ?_, hC3⟩
          have hb : ((v : Int) == 1) = decide ((k0 : Int) ≤ 1) := by rw [Bool.eq_iff_iff]; simp; omega
          rw [hb]
          simp
theorem xbounds_rowwalk (zs : List Int) (p : Option Addr) (n cap : Nat) (w : World) (he : Env w) (hl : zs.length = n) (hmax : n ≤ maxLen) (hc : Has zs p w) :
    Calls Tryd.prog 7 #[.slice p n cap] w fun e w' => e = .returned (.bool true) ∧ Below w.heap.size w w' := by
  by_cases h0 : code zs = 0
  · exact xbounds_ok zs p n cap w hl he hmax hc h0
  · exact xbounds_err zs p n cap _ w hl he hmax hc rfl h0
end Go.Proofs.YtedmpcadinjjdabDoor
