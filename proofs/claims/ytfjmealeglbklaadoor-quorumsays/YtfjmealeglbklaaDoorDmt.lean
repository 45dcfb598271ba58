/- Plain mathematics: all that stand ahead of any of a set, told thing by thing, and by it what the set closes to, whether it is closed, and its last things; bits of one set without another one. No program text is named. -/
import Derived.Test.YtfjmealeglbklaaDoorBits
import Derived.Test.YtfjmealeglbklaaDoorWys
namespace Go.Proofs.YtfjmealeglbklaaDoor

theorem i64_andNot_bits (a b : Nat) (ha : a < 65536) (hb : b < 65536) : ∃ r : Nat, bits .andNot .i64 (a : Int) (b : Int) = (r : Int) ∧ r ≤ a ∧ ∀ j, r.testBit j = (a.testBit j && !b.testBit j) := by
  obtain ⟨r, hr⟩ : ∃ r : Nat, (BitVec.ofInt 64 (a : Int) &&& ~~~BitVec.ofInt 64 (b : Int)).toNat = r := ⟨_, rfl⟩
  have hle : r ≤ a := by
    rw [← hr, BitVec.toNat_and, ofInt_i64 a ha]
    exact Nat.and_le_left
  have hbit : ∀ j, r.testBit j = (a.testBit j && !b.testBit j) := fun j => by
    rw [← hr, BitVec.toNat_and, BitVec.toNat_not, Nat.testBit_and, ofInt_i64 a ha, ofInt_i64 b hb]
    by_cases hj : j < 64
    · rw [show (2 ^ 64 - 1 - b) = 2 ^ 64 - (b + 1) by omega, Nat.testBit_two_pow_sub_succ (by omega)]
      simp [hj]
    · have : a.testBit j = false := Nat.testBit_lt_two_pow (Nat.lt_of_lt_of_le ha (Nat.pow_le_pow_right (n := 2) (by omega) (by omega : 16 ≤ j)))
      rw [this]; simp
  refine ⟨r, ?_, hle, hbit⟩
  show IntKind.i64.wrap ((BitVec.ofInt 64 (a : Int) &&& ~~~BitVec.ofInt 64 (b : Int)).toNat : Int) = _
  rw [hr, i64_wrap_nat _ (by omega)]
theorem andNot_zero {a b r : Nat} (h : ∀ j, r.testBit j = (a.testBit j && !b.testBit j)) : r = 0 ↔ ∀ j, a.testBit j = true → b.testBit j = true := by
  constructor
  · rintro rfl j hj
    have := h j
    rw [hj] at this
    simp at this
    exact this
  · intro hh
    apply Nat.eq_of_testBit_eq
    intro j
    rw [h]
    cases hj : a.testBit j with
    | false => simp
    | true => rw [hh j hj]; simp
namespace M
/-- all that stand ahead of any of these -/
def ahF (t : List Nat) (xs : List Nat) : Nat := xs.foldl (fun a x => a ||| row t x) 0
theorem ahF_snoc (t xs : List Nat) (x : Nat) : ahF t (xs ++ [x]) = ahF t xs ||| row t x := by simp [ahF]
theorem ahF_from_bit (t : List Nat) (j : Nat) (xs : List Nat) : ∀ a, (xs.foldl (fun a x => a ||| row t x) a).testBit j = true ↔ a.testBit j = true ∨ ∃ x, x ∈ xs ∧ (row t x).testBit j = true := by
  induction xs with
  | nil => intro a; simp
  | cons y xs ih =>
    intro a
    rw [List.foldl_cons, ih, Nat.testBit_or, Bool.or_eq_true]
    constructor
    · rintro ((h | h) | ⟨x, h1, h2⟩)
      · exact .inl h
      · exact .inr ⟨y, List.mem_cons_self .., h⟩
      · exact .inr ⟨x, List.mem_cons_of_mem _ h1, h2⟩
    · rintro (h | ⟨x, h1, h2⟩)
      · exact .inl (.inl h)
      · rcases List.mem_cons.1 h1 with rfl | h1
        · exact .inl (.inr h2)
        · exact .inr ⟨x, h1, h2⟩
theorem ahF_bit (t xs : List Nat) (j : Nat) : (ahF t xs).testBit j = true ↔ ∃ x, x ∈ xs ∧ (row t x).testBit j = true := by
  unfold ahF
  rw [ahF_from_bit]
  simp
theorem ahF_lt {t : List Nat} (ht : Ok t) (xs : List Nat) : ahF t xs < 2 ^ t.length := by
  apply Nat.lt_pow_two_of_testBit
  intro j hj
  cases h : (ahF t xs).testBit j with
  | false => rfl
  | true =>
    obtain ⟨x, _, h2⟩ := (ahF_bit t xs j).1 h
    exact absurd (lt_of_testBit (ht x) h2) (by omega)
/-- all that stand ahead of any of a set -/
def ahS (t : List Nat) (s : Nat) : Nat := ahF t (bits s)
theorem ahS_lt {t : List Nat} (ht : Ok t) (s : Nat) : ahS t s < 2 ^ t.length := ahF_lt ht _
theorem ahS_bit {t : List Nat} {s n : Nat} (hn : n ≤ 12) (hs : s < 2 ^ n) (j : Nat) : (ahS t s).testBit j = true ↔ ∃ i, s.testBit i = true ∧ (row t i).testBit j = true := by
  unfold ahS
  rw [ahF_bit]
  constructor
  · rintro ⟨x, h1, h2⟩
    exact ⟨x, (mem_bits.1 h1).2, h2⟩
  · rintro ⟨x, h1, h2⟩
    exact ⟨x, mem_bits.2 ⟨by have := lt_of_testBit hs h1; omega, h1⟩, h2⟩
theorem ahS_down {t : List Nat} {s n : Nat} (hn : n ≤ 12) (hs : s < 2 ^ n) : s ||| ahS t s = down t s := by
  apply Nat.eq_of_testBit_eq
  intro j
  rw [Bool.eq_iff_iff, Nat.testBit_or, Bool.or_eq_true, ahS_bit hn hs, down_bit]
theorem ahS_closd {t : List Nat} {s n : Nat} (hn : n ≤ 12) (hs : s < 2 ^ n) : (∀ j, (ahS t s).testBit j = true → s.testBit j = true) ↔ closB t s = true := by
  rw [closB_iff]
  constructor
  · intro h i j hi hj
    exact h j ((ahS_bit hn hs j).2 ⟨i, hi, hj⟩)
  · intro h j hj
    obtain ⟨i, a, b⟩ := (ahS_bit hn hs j).1 hj
    exact h i j a b
theorem ahS_last {c t : List Nat} (hd : Dual c t) (hn : c.length ≤ 12) {s r : Nat} (hs : s < 2 ^ c.length) (h : ∀ j, r.testBit j = (s.testBit j && !(ahS t s).testBit j)) : r = lastS c s := by
  apply Nat.eq_of_testBit_eq
  intro i
  rw [h, Bool.eq_iff_iff, lastS_bit hs]
  simp only [Bool.and_eq_true, Bool.not_eq_true']
  constructor
  · rintro ⟨h1, h2⟩
    refine ⟨h1, fun j hj => ?_⟩
    cases hb : (row c i).testBit j with
    | false => rfl
    | true =>
      have := (ahS_bit hn hs i).2 ⟨j, hj, by rw [hd.2]; exact hb⟩
      rw [this] at h2; cases h2
  · rintro ⟨h1, h2⟩
    refine ⟨h1, ?_⟩
    cases hb : (ahS t s).testBit i with
    | false => rfl
    | true =>
      obtain ⟨j, a, b⟩ := (ahS_bit hn hs i).1 hb
      rw [hd.2, h2 j a] at b; cases b
theorem dual_clo {m : List Nat} (hm : Ok m) : Dual (clo m) (turned m) := ⟨by rw [clo_length, turned_length], fun i j => by rw [Bool.eq_iff_iff, turned_bit hm, clo_bit]⟩
theorem tr_clo {m : List Nat} (hm : Ok m) (hr : ¬ Ring m) : Tr (clo m) := by
  refine ⟨fun i => ?_, fun i j k h1 h2 => ?_⟩
  · cases hb : (row (clo m) i).testBit i with
    | false => rfl
    | true => exact absurd ⟨i, (clo_bit m i i).1 hb⟩ hr
  · rw [clo_bit] at *
    exact clo_trans hm h1 h2
theorem tr_dual {c t : List Nat} (hd : Dual c t) (hc : Tr c) : Tr t := ⟨fun i => by rw [hd.2]; exact hc.1 i, fun i j k h1 h2 => by rw [hd.2] at *; exact hc.2 k j i h2 h1⟩
end M
end Go.Proofs.YtfjmealeglbklaaDoor
