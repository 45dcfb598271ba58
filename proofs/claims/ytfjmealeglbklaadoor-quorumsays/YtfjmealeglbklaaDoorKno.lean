/- Plain mathematics of what a process knows of, while a trace is told; and or, shift of numbers below 2^30. No program text is named. -/
import Derived.Test.YtfjmealeglbklaaDoorTrc
import Derived.Test.YtfjmealeglbklaaDoorBits
namespace Go.Proofs.YtfjmealeglbklaaDoor

theorem ofInt_i64b (a : Nat) (ha : a < 1073741824) : (BitVec.ofInt 64 (a : Int)).toNat = a := by
  rw [BitVec.ofInt_natCast, BitVec.toNat_ofNat]; exact Nat.mod_eq_of_lt (by omega)
theorem i64_or_big (a b : Nat) (ha : a < 1073741824) (hb : b < 1073741824) : bits .or .i64 (a : Int) (b : Int) = ((a ||| b : Nat) : Int) := by
  have hx : a ||| b < 2 ^ 30 := Nat.or_lt_two_pow (by omega) (by omega)
  show IntKind.i64.wrap ((BitVec.ofInt 64 (a : Int) ||| BitVec.ofInt 64 (b : Int)).toNat : Int) = _
  rw [BitVec.toNat_or, ofInt_i64b a ha, ofInt_i64b b hb, i64_wrap_nat _ (by omega)]
theorem pow_24 (n : Nat) (hn : n ≤ 24) : 2 ^ n ≤ 16777216 := Nat.pow_le_pow_right (n := 2) (by omega) hn
theorem shl_24 (j : Nat) (hj : j ≤ 24) : 1 <<< j ≤ 16777216 := by rw [Nat.shiftLeft_eq, Nat.one_mul]; exact pow_24 j hj
theorem i64_shl_big (j : Nat) (hj : j ≤ 24) : IntKind.i64.wrap (2 ^ j) = ((1 <<< j : Nat) : Int) := by
  have e : (2 : Int) ^ j = ((1 <<< j : Nat) : Int) := by rw [Nat.shiftLeft_eq, Nat.one_mul]; simp
  rw [e]
  exact i64_wrap_nat _ (by have := shl_24 j hj; omega)
namespace M

/-- all that happened before what process p does next, when k events are told -/
def kn (T : List (Int × Int)) (p : Int) : Nat → Nat
  | 0 => 0
  | k + 1 => if pr T k = p then bs T k ||| 1 <<< k else kn T p k
theorem kn_bit (T : List (Int × Int)) (p : Int) (i k : Nat) : (kn T p i).testBit k = true ↔ ∃ j, j < i ∧ pr T j = p ∧ (k = j ∨ (bs T j).testBit k = true) := by
  induction i with
  | zero => simp [kn]
  | succ i ih =>
    simp only [kn]
    by_cases h : pr T i = p
    · rw [if_pos h, Nat.testBit_or, Bool.or_eq_true, Nat.shiftLeft_eq, Nat.one_mul, Nat.testBit_two_pow, decide_eq_true_eq]
      constructor
      · rintro (c | c)
        · exact ⟨i, by omega, h, .inr c⟩
        · exact ⟨i, by omega, h, .inl c.symm⟩
      · rintro ⟨j, a, b, c⟩
        by_cases e : j = i
        · subst e
          rcases c with c | c
          · exact .inr c.symm
          · exact .inl c
        · have hm : (bs T i).testBit j = true := bs_must (by omega) (by unfold mustB; rw [b, h]; simp)
          rcases c with rfl | c
          · exact .inl hm
          · exact .inl (bs_trans T i j k hm c)
    · rw [if_neg h, ih]
      constructor
      · rintro ⟨j, a, b, c⟩; exact ⟨j, by omega, b, c⟩
      · rintro ⟨j, a, b, c⟩
        by_cases e : j = i
        · subst e; exact absurd b h
        · exact ⟨j, by omega, b, c⟩
theorem kn_lt (T : List (Int × Int)) (p : Int) (i : Nat) : kn T p i < 2 ^ i := by
  apply Nat.lt_pow_two_of_testBit
  intro k hk
  cases h : (kn T p i).testBit k with
  | false => rfl
  | true =>
    obtain ⟨j, a, _, c⟩ := (kn_bit T p i k).1 h
    rcases c with c | c
    · omega
    · have := bs_in T j k c; omega
theorem bs_none {T : List (Int × Int)} {i : Nat} (h : fm T i < 0) : bs T i = kn T (pr T i) i := by
  apply Nat.eq_of_testBit_eq
  intro k
  rw [Bool.eq_iff_iff, bs_bit, kn_bit]
  constructor
  · rintro ⟨j, a, b, c⟩
    unfold mustB at b
    simp only [Bool.or_eq_true, beq_iff_eq] at b
    rcases b with b | b
    · exact ⟨j, a, b, c⟩
    · omega
  · rintro ⟨j, a, b, c⟩
    exact ⟨j, a, by unfold mustB; rw [b]; simp, c⟩
theorem bs_heard {T : List (Int × Int)} {i j : Nat} (hj : j < i) (h : fm T i = (j : Nat)) : bs T i = kn T (pr T i) i ||| (bs T j ||| 1 <<< j) := by
  apply Nat.eq_of_testBit_eq
  intro k
  rw [Bool.eq_iff_iff, bs_bit, Nat.testBit_or, Nat.testBit_or, Bool.or_eq_true, Bool.or_eq_true, kn_bit, Nat.shiftLeft_eq, Nat.one_mul, Nat.testBit_two_pow, decide_eq_true_eq]
  constructor
  · rintro ⟨m, a, b, c⟩
    unfold mustB at b
    simp only [Bool.or_eq_true, beq_iff_eq] at b
    rcases b with b | b
    · exact .inl ⟨m, a, b, c⟩
    · obtain rfl : m = j := by omega
      rcases c with c | c
      · exact .inr (.inr c.symm)
      · exact .inr (.inl c)
  · rintro (⟨m, a, b, c⟩ | (c | c))
    · exact ⟨m, a, by unfold mustB; rw [b]; simp, c⟩
    · exact ⟨j, hj, by unfold mustB; rw [h]; simp, .inr c⟩
    · exact ⟨j, hj, by unfold mustB; rw [h]; simp, .inl c.symm⟩
/-- rows so far, then noughts -/
def bfl (T : List (Int × Int)) (n i : Nat) : List Nat := bfs T i ++ List.replicate (n - i) 0
theorem bfl_length (T : List (Int × Int)) {n i : Nat} (h : i ≤ n) : (bfl T n i).length = n := by simp [bfl, bfs_length]; omega
theorem bfl_end (T : List (Int × Int)) (n : Nat) : bfl T n n = bfs T n := by simp [bfl]
theorem bfl_row {T : List (Int × Int)} {n i j : Nat} (h : j < i) : row (bfl T n i) j = bs T j := by
  have : row (bfs T i) j = bs T j := bfs_row T h
  unfold row at this ⊢
  unfold bfl
  rw [List.getElem?_append_left (by rw [bfs_length]; exact h)]
  exact this
theorem bfl_set {T : List (Int × Int)} {n i : Nat} (h : i < n) {v : Nat} (hv : v = bs T i) : (bfl T n i).set i v = bfl T n (i + 1) := by
  unfold bfl
  have h1 : n - i = (n - (i + 1)) + 1 := by omega
  rw [h1, List.replicate_succ, List.set_append_right _ _ (by rw [bfs_length]; omega), bfs_length, Nat.sub_self, List.set_cons_zero]
  simp only [bfs]
  rw [List.append_assoc, List.singleton_append, hv]
  rfl
/-- what the processes know of -/
def knl (T : List (Int × Int)) (i : Nat) : List Nat := [kn T 0 i, kn T 1 i, kn T 2 i, kn T 3 i, kn T 4 i]
theorem knl_row (T : List (Int × Int)) (i : Nat) {a : Nat} (h : a < 5) : row (knl T i) a = kn T (a : Int) i := by
  unfold row knl
  rcases a with _ | _ | _ | _ | _ | a
  · rfl
  · rfl
  · rfl
  · rfl
  · rfl
  · omega
theorem knl_set (T : List (Int × Int)) (i : Nat) {a v : Nat} (h : a < 5) (ha : pr T i = (a : Nat)) (hv : v = bs T i ||| 1 <<< i) : (knl T i).set a v = knl T (i + 1) := by
  unfold knl
  simp only [kn]
  rw [ha, ← hv]
  rcases a with _ | _ | _ | _ | _ | a
  · simp
  · simp
  · simp
  · simp
  · simp
  · omega
end M
end Go.Proofs.YtfjmealeglbklaaDoor
