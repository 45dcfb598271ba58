/- EITHER WAY, AND NOT BOTH: the law's walk: at whatever numbers the call returns true, and what lay in memory lies as it lay; the library's table lies where its variable is. -/
import Derived.Test.YtedmpcadinjjdabDoorXFact
namespace Go.Proofs.YtedmpcadinjjdabDoor
open Go.RowKit

theorem ring_cnt {r : List Nat} (h : M.Ring r) : M.Cnt r.length (M.lt (M.clo r)) (fun _ => true) 0 := by
  obtain ⟨i, hi⟩ := h
  refine ⟨[], List.nodup_nil, fun l => ⟨fun h => (by cases h), fun hL => ?_⟩, rfl⟩
  have hm := (hL.mem i).2 ⟨M.clo_in hi, rfl⟩
  have := hL.ord i i hm hm ((M.clo_bit r i i).2 hi)
  omega
/-- how many rows there are with a step more: none if that is none -/
def cvN (m : List Nat) (i j : Nat) : Nat := if ringB (M.more m i j) then 0 else M.count (M.clo (M.more m i j))
theorem cvN_cnt {m : List Nat} (hm : M.Ok m) (hn : m.length ≤ 12) {i j : Nat} (hj : j < m.length) : M.Cnt m.length (M.lt (M.clo (M.more m i j))) (fun _ => true) (cvN m i j) := by
  have hmo : M.Ok (M.more m i j) := M.more_ok hm hj
  have hl : (M.more m i j).length = m.length := M.more_length m i j
  unfold cvN
  cases hr : ringB (M.more m i j) with
  | true =>
    have := ring_cnt (ringB_iff.1 hr)
    rw [hl] at this
    exact this
  | false =>
    have hnr : ¬ M.Ring (M.more m i j) := fun h => by rw [ringB_iff.2 h] at hr; cases hr
    have := M.count_cnt (cloTr hmo hnr) (by rw [M.clo_length, hl]; exact hn)
    rw [M.clo_length, hl] at this
    exact this
theorem more_stepM {m : List Nat} (hm : M.Ok m) {i j : Nat} (hi : i < m.length) (hj : j < m.length) : M.Step (M.lt (M.clo m)) (M.lt (M.clo (M.more m i j))) i j := fun a b => by
  unfold M.lt
  rw [M.clo_bit, M.clo_bit, M.clo_bit, M.clo_bit]
  exact M.clo_more hm hi hj a b
theorem parts_sum {m : List Nat} (hm : M.Ok m) (hr : ¬ M.Ring m) (hn : m.length ≤ 12) {i j : Nat} (hi : i < m.length) (hj : j < m.length) (hne : i ≠ j) : cvN m i j + cvN m j i = M.count (M.clo m) := by
  have hc := M.count_cnt (cloTr hm hr) (by rw [M.clo_length]; exact hn)
  rw [M.clo_length] at hc
  exact M.cnt_parts (more_stepM hm hi hj) (more_stepM hm hj hi) hi hj hne (cvN_cnt hm hn hj) (cvN_cnt hm hn hi) hc
theorem count_pos {c : List Nat} (htr : M.Tr c) (hn : c.length ≤ 12) : 1 ≤ M.count c := M.cnt_pos (M.strict_of htr) _ _ _ (Nat.le_refl _) (M.count_cnt htr hn)

set_option maxRecDepth 100000 in
set_option maxHeartbeats 1000000 in
theorem xparts_err (zs : List Int) (a b : Int) (p : Option Addr) (n cap d : Nat) (w : World) (hl : zs.length = n) (he : Env w) (hmax : n ≤ maxLen) (hc : Has zs p w) (h0 : code zs = d) (hne : d ≠ 0) :
    Calls Tryd.prog 6 #[.slice p n cap, .int .i64 a, .int .i64 b] w fun e w' => e = .returned (.bool true) ∧ Below w.heap.size w w' := by
  go_enter Tryd.func6, Tryd.ntmps6
  go_wp2_with fail
  refine (xfact_any _ he).mono ?_
  rintro e w1 ⟨rfl, hB1⟩
  go_wp2_with fail
  refine (count_err zs p n cap d _ hl (he.later hB1) hmax (hc.later hB1) h0 hne).mono ?_
  rintro e w2 ⟨rfl, hB2⟩
  go_wp2
  go_ret
  exact ⟨rfl, hB1.trans (hB2.mono hB1.size)⟩
set_option maxRecDepth 100000 in
set_option maxHeartbeats 1000000 in
theorem xparts_out (zs : List Int) (a b : Int) (p : Option Addr) (n cap : Nat) (w : World) (hl : zs.length = n) (he : Env w) (hmax : n ≤ maxLen) (hc : Has zs p w) (h0 : code zs = 0) (hab : a < 0 ∨ (0 ≤ a ∧ (n : Int) ≤ a) ∨ (0 ≤ a ∧ a < n ∧ b < 0) ∨ (0 ≤ a ∧ a < n ∧ 0 ≤ b ∧ (n : Int) ≤ b) ∨ (0 ≤ a ∧ a < n ∧ 0 ≤ b ∧ b < n ∧ a = b)) :
    Calls Tryd.prog 6 #[.slice p n cap, .int .i64 a, .int .i64 b] w fun e w' => e = .returned (.bool true) ∧ Below w.heap.size w w' := by
  go_enter Tryd.func6, Tryd.ntmps6
  go_wp2_with fail
  refine (xfact_any _ he).mono ?_
  rintro e w1 ⟨rfl, hB1⟩
  go_wp2_with fail
  refine (count_ok zs p n cap _ hl (he.later hB1) hmax (hc.later hB1) h0).mono ?_
  obtain ⟨v, hv⟩ : ∃ v, M.count (M.clo (nats zs)) = v := ⟨_, rfl⟩
  rw [hv]
  clear hv
  rintro e w2 ⟨rfl, hB2⟩
  rcases hab with h1 | ⟨h1, h2⟩ | ⟨h1, h2, h3⟩ | ⟨h1, h2, h3, h4⟩ | ⟨h1, h2, h3, h4, h5⟩
  · have e1 : decide (a < 0) = true := decide_eq_true h1
    go_wp2
    go_ret
    exact ⟨rfl, hB1.trans (hB2.mono hB1.size)⟩
  · have e1 : decide (a < 0) = false := decide_eq_false (by omega)
    have e2 : decide ((n : Int) ≤ a) = true := decide_eq_true h2
    go_wp2
    go_ret
    exact ⟨rfl, hB1.trans (hB2.mono hB1.size)⟩
  · have e1 : decide (a < 0) = false := decide_eq_false (by omega)
    have e2 : decide ((n : Int) ≤ a) = false := decide_eq_false (by omega)
    have e3 : decide (b < 0) = true := decide_eq_true h3
    go_wp2
    go_ret
    exact ⟨rfl, hB1.trans (hB2.mono hB1.size)⟩
  · have e1 : decide (a < 0) = false := decide_eq_false (by omega)
    have e2 : decide ((n : Int) ≤ a) = false := decide_eq_false (by omega)
    have e3 : decide (b < 0) = false := decide_eq_false (by omega)
    have e4 : decide ((n : Int) ≤ b) = true := decide_eq_true h4
    go_wp2
    go_ret
    exact ⟨rfl, hB1.trans (hB2.mono hB1.size)⟩
  · subst h5
    have e1 : decide (a < 0) = false := decide_eq_false (by omega)
    have e2 : decide ((n : Int) ≤ a) = false := decide_eq_false (by omega)
    go_wp2
    go_ret
    exact ⟨rfl, hB1.trans (hB2.mono hB1.size)⟩
/-- With and then Count: what is made of x -/
theorem with_count (zs : List Int) (i j : Nat) (p : Option Addr) (n cap : Nat) (w : World) (hl : zs.length = n) (he : Env w) (hmax : n ≤ maxLen) (hc : Has zs p w) (h0 : code zs = 0) (hi : i < n) (hj : j < n) :
    Calls Tryd.prog 9 #[.slice p n cap, .int .i64 (i : Nat), .int .i64 (j : Nat)] w fun e w' => Below w.heap.size w w' ∧
      ((cvN (nats zs) i j = 0 ∧ e = .returned (.tuple #[.slice none 0 0, .iface 44 (.int .i64 (6 : Nat))])) ∨
      (1 ≤ cvN (nats zs) i j ∧ ∃ A, e = .returned (.tuple #[.slice (some ⟨A, 0, none⟩) n n, .nilIface]) ∧ ∀ w2, Below w'.heap.size w' w2 → Calls Tryd.prog 20 #[.slice (some ⟨A, 0, none⟩) n n] w2 fun e w3 => e = .returned (.tuple #[.int .i64 (cvN (nats zs) i j : Nat), .nilIface]) ∧ Below w2.heap.size w2 w3)) := by
  have hz := code_zero h0
  have hok := nats_ok hz.2.1
  have hn : n ≤ 12 := by omega
  have hjn : j < (nats zs).length := by rw [nats_length]; omega
  have hmo : M.Ok (M.more (nats zs) i j) := M.more_ok hok hjn
  have hmc : M.Ok (M.clo (M.more (nats zs) i j)) := M.clo_ok hmo
  have hml : (M.clo (M.more (nats zs) i j)).length = n := by rw [M.clo_length, M.more_length, nats_length, hl]
  refine (with_step zs i j p n cap _ hl he hmax hc h0 hi hj).mono ?_
  rintro e w2 (⟨hring, rfl, hB2⟩ | ⟨hring, A, rfl, hr2, hA, hB2⟩)
  · exact ⟨hB2, .inl ⟨by unfold cvN; rw [if_pos hring], rfl⟩⟩
  · have hnr : ¬ M.Ring (M.more (nats zs) i j) := fun h => by rw [ringB_iff.2 h] at hring; cases hring
    have hcode : code (ints (M.clo (M.more (nats zs) i j))) = 0 := by
      rw [code_ints hmc (by omega), if_neg]
      rw [ringB_iff, M.clo_ring hmo]; exact hnr
    have hlm : (ints (M.clo (M.more (nats zs) i j))).length = n := by rw [ints_length, hml]
    have e1 : M.count (M.clo (nats (ints (M.clo (M.more (nats zs) i j))))) = cvN (nats zs) i j := by
      rw [nats_ints, M.clo_clo hmo]; unfold cvN; rw [hring]; rfl
    refine ⟨hB2, .inr ⟨?_, A, rfl, fun w3 hB3 => ?_⟩⟩
    · rw [← e1, nats_ints, M.clo_clo hmo]
      exact count_pos (cloTr hmo hnr) (by omega)
    · have := count_ok (ints (M.clo (M.more (nats zs) i j))) (some ⟨A, 0, none⟩) n n w3 hlm ((he.later hB2).later hB3) hmax (hr2.has.later hB3) hcode
      rw [e1] at this
      exact this
set_option maxRecDepth 100000 in
set_option maxHeartbeats 4000000 in
theorem xparts_ok (zs : List Int) (i j : Nat) (p : Option Addr) (n cap : Nat) (w : World) (hl : zs.length = n) (he : Env w) (hmax : n ≤ maxLen) (hc : Has zs p w) (h0 : code zs = 0) (hi : i < n) (hj : j < n) (hij : i ≠ j) :
    Calls Tryd.prog 6 #[.slice p n cap, .int .i64 (i : Nat), .int .i64 (j : Nat)] w fun e w' => e = .returned (.bool true) ∧ Below w.heap.size w w' := by
  have hz := code_zero h0
  have hok := nats_ok hz.2.1
  have hn : n ≤ 12 := by omega
  have hnl : (nats zs).length = n := by rw [nats_length, hl]
  have htr := cloTr hok hz.2.2
  have hcl : (M.clo (nats zs)).length = n := by rw [M.clo_length, hnl]
  have hsum := parts_sum hok hz.2.2 (by omega) (i := i) (j := j) (by omega) (by omega) hij
  have hpos := count_pos htr (by omega)
  have hle := M.count_le htr (by omega)
  have hw1 := fun w1 (hB : Below w.heap.size w w1) => with_count zs i j p n cap w1 hl (he.later hB) hmax (hc.later hB) h0 hi hj
  have hw2 := fun w1 (hB : Below w.heap.size w w1) => with_count zs j i p n cap w1 hl (he.later hB) hmax (hc.later hB) h0 hj hi
  have hcn := fun w1 (hB : Below w.heap.size w w1) => count_ok zs p n cap w1 hl (he.later hB) hmax (hc.later hB) h0
  obtain ⟨v, hv⟩ : ∃ v, M.count (M.clo (nats zs)) = v := ⟨_, rfl⟩
  obtain ⟨x, hx⟩ : ∃ x, cvN (nats zs) i j = x := ⟨_, rfl⟩
  obtain ⟨y, hy⟩ : ∃ y, cvN (nats zs) j i = y := ⟨_, rfl⟩
  rw [hv] at hsum hpos hle
  rw [hx, hy] at hsum
  simp only [hv] at hcn
  simp only [hx] at hw1
  simp only [hy] at hw2
  clear hv hx hy
  have d1 : decide ((i : Int) < 0) = false := decide_eq_false (by omega)
  have d2 : decide ((n : Int) ≤ (i : Int)) = false := decide_eq_false (by omega)
  have d3 : decide ((j : Int) < 0) = false := decide_eq_false (by omega)
  have d4 : decide ((n : Int) ≤ (j : Int)) = false := decide_eq_false (by omega)
  have d5 : ((i : Int) == (j : Int)) = false := by simp; omega
  have d6 : (i == j) = false := by simp; omega
  have d7 : decide (n ≤ i) = false := decide_eq_false (by omega)
  have d8 : decide (n ≤ j) = false := decide_eq_false (by omega)
  have s1 : decide ((1 : Int) ≤ (v : Int)) = true := decide_eq_true (by omega)
  go_enter Tryd.func6, Tryd.ntmps6
  go_wp2_with fail
  refine (xfact_any _ he).mono ?_
  rintro e w1 ⟨rfl, hB1⟩
  go_wp2_with fail
  refine (hcn _ hB1).mono ?_
  rintro e w2 ⟨rfl, hB2⟩
  have hC2 := hB1.trans (hB2.mono hB1.size)
  go_wp2_with fail
  refine (hw1 _ hC2).mono ?_
  rintro e w3 ⟨hB3, (⟨rfl, rfl⟩ | ⟨hx1, A, rfl, hcx⟩)⟩
  · have hC3 := hC2.trans (hB3.mono hC2.size)
    go_wp2_with fail
    refine (hw2 _ hC3).mono ?_
    rintro e w4 ⟨hB4, (⟨rfl, rfl⟩ | ⟨hy1, B, rfl, hcy⟩)⟩
    · omega
    · have hC4 := hC3.trans (hB4.mono hC3.size)
      obtain rfl : y = v := by omega
      have s2 : decide ((0 : Int) < (y : Int)) = true := decide_eq_true (by omega)
      have s3 : IntKind.i64.wrap (y : Int) = (y : Int) := i64_wrap_nat y (by omega)
      go_wp2_with fail
      refine (hcy _ (Below.refl _ _)).mono ?_
      rintro e w5 ⟨rfl, hB5⟩
      have hC5 := hC4.trans (hB5.mono hC4.size)
      go_wp2_with fail
      go_ret
      exact ⟨(by simp; omega), hC5⟩
  · have hC3 := hC2.trans (hB3.mono hC2.size)
    go_wp2_with fail
    refine (hcx _ (Below.refl _ _)).mono ?_
    rintro e w4 ⟨rfl, hB4⟩
    have hC4 := hC3.trans (hB4.mono hC3.size)
    go_wp2_with fail
    refine (hw2 _ hC4).mono ?_
    have s2 : decide ((0 : Int) < (x : Int)) = true := decide_eq_true (by omega)
    rintro e w5 ⟨hB5, (⟨rfl, rfl⟩ | ⟨hy1, B, rfl, hcy⟩)⟩
    · have hC5 := hC4.trans (hB5.mono hC4.size)
      obtain rfl : x = v := by omega
      have s3 : IntKind.i64.wrap (x : Int) = (x : Int) := i64_wrap_nat x (by omega)
      go_wp2_with fail
      go_ret
      exact ⟨(by simp), hC5⟩
    · have hC5 := hC4.trans (hB5.mono hC4.size)
      have s4 : decide ((0 : Int) < (y : Int)) = true := decide_eq_true (by omega)
      have s3 : IntKind.i64.wrap ((x : Int) + (y : Int)) = (v : Int) := by rw [← hsum]; exact i64_wrap_nat (x + y) (by omega)
      go_wp2_with fail
      refine (hcy _ (Below.refl _ _)).mono ?_
      rintro e w6 ⟨rfl, hB6⟩
      have hC6 := hC5.trans (hB6.mono hC5.size)
      go_wp2_with fail
      go_ret
      exact ⟨(by simp; omega), hC6⟩
theorem xparts_rowwalk (zs : List Int) (p : Option Addr) (n cap : Nat) (a b : Int) (w : World) (he : Env w) (hl : zs.length = n) (hmax : n ≤ maxLen) (hc : Has zs p w) :
    Calls Tryd.prog 6 #[.slice p n cap, .int .i64 a, .int .i64 b] w fun e w' => e = .returned (.bool true) ∧ Below w.heap.size w w' := by
  by_cases h0 : code zs = 0
  · by_cases hab : a < 0 ∨ (0 ≤ a ∧ (n : Int) ≤ a) ∨ (0 ≤ a ∧ a < n ∧ b < 0) ∨ (0 ≤ a ∧ a < n ∧ 0 ≤ b ∧ (n : Int) ≤ b) ∨ (0 ≤ a ∧ a < n ∧ 0 ≤ b ∧ b < n ∧ a = b)
    · exact xparts_out zs a b p n cap w hl he hmax hc h0 hab
    · obtain ⟨i, rfl⟩ : ∃ i : Nat, a = i := ⟨a.toNat, by omega⟩
      obtain ⟨j, rfl⟩ : ∃ j : Nat, b = j := ⟨b.toNat, by omega⟩
      exact xparts_ok zs i j p n cap w hl he hmax hc h0 (by omega) (by omega) (by omega)
  · exact xparts_err zs a b p n cap _ w hl he hmax hc rfl h0
end Go.Proofs.YtedmpcadinjjdabDoor
