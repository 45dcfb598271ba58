/- Plain mathematics of what a process knows of, while a trace is told; and or, shift of numbers below 2^30. No program text is named. Plain mathematics of clocks that count: plain clocks by the longest row of what happened before, and by the two behind which an event stands; who is before has less. Vectors by counting what happened before, and by the greater of two; before is just below. No program text is named. Plain mathematics of cuts through traces: of each process so many of its events. A cut is whole just if it has all that happened before any of its events; the line in a cut is whole, in it, and no whole cut in it goes beyond; whole cuts are closed under greater and lesser numbers. No program text is named. Plain mathematics of how many whole cuts there are: as many as sets of events that have all that happened before; at least one for each event, and one; at most as many as there are cuts. No program text is named. Plain mathematics: what happened before, of a trace of few events, is an order; its ranks are the plain clocks, less one; it is no wider than there are processes; its closed sets are the whole cuts. No program text is named. Plain mathematics of all events in one row: by clock, and of one clock by process; it is one list; each event stands behind all that happened before it. No program text is named. Plain mathematics of clocks that look at the time: an event's Time is the greatest time of it and of all that happened before; its Count goes by the two behind which it stands. Who is before is less; no Count is above what happened before; where clocks are right it is the time; set later all is later. No program text is named. Plain mathematics of hybrid clocks as they are reckoned: by the latest stamp that an event knows. No program text is named. -/
import Derived.Test.YtkojkiggdbffhaaDoorBMa
import Derived.Test.YtkojkiggdbffhaaDoorBits
namespace Go.Proofs.YtkojkiggdbffhaaDoor

theorem ofInt_i64b (a : Nat) (ha : a < 1073741824) : (BitVec.ofInt 64 (a : Int)).toNat = a := by
  rw [BitVec.ofInt_natCast, BitVec.toNat_ofNat]; exact Nat.mod_eq_of_lt (by omega)
theorem i64_or_big (a b : Nat) (ha : a < 1073741824) (hb : b < 1073741824) : bits .or .i64 (a : Int) (b : Int) = ((a ||| b : Nat) : Int) := by
  have hx : a ||| b < 2 ^ 30 := Nat.or_lt_two_pow (by omega) (by omega)
  show IntKind.i64.wrap ((BitVec.ofInt 64 (a : Int) ||| BitVec.ofInt 64 (b : Int)).toNat : Int) = _
  rw [BitVec.toNat_or, ofInt_i64b a ha, ofInt_i64b b hb, i64_wrap_nat _ (by omega)]
theorem pow_24 (n : Nat) (hn : n ≤ 24) : 2 ^ n ≤ 16777216 := Nat.pow_le_pow_right (n := 2) (by omega) hn
theorem shl_24 (j : Nat) (hj : j ≤ 24) : 1 <<< j ≤ 16777216 := by rw [Nat.shiftLeft_eq, Nat.one_mul]; exact pow_24 j hj
theorem i64_shl_big (j : Nat) (hj : j ≤ 24) : IntKind.i64.wrap (2 ^ j) = ((1 <<< j : Nat) : Int) := by
  have e : (2 : Int) ^ j = ((1 <<< j : Nat) : Int) := by rw [Nat.shiftLeft_eq, Nat.one_mul]; simp
  rw [e]
  exact i64_wrap_nat _ (by have := shl_24 j hj; omega)
namespace M

/-- all that happened before what process p does next, when k events are told -/
def kn (T : List (Int × Int)) (p : Int) : Nat → Nat
  | 0 => 0
  | k + 1 => if pr T k = p then bs T k ||| 1 <<< k else kn T p k
theorem kn_bit (T : List (Int × Int)) (p : Int) (i k : Nat) : (kn T p i).testBit k = true ↔ ∃ j, j < i ∧ pr T j = p ∧ (k = j ∨ (bs T j).testBit k = true) := by
  induction i with
  | zero => simp [kn]
  | succ i ih =>
    simp only [kn]
    by_cases h : pr T i = p
    · rw [if_pos h, Nat.testBit_or, Bool.or_eq_true, Nat.shiftLeft_eq, Nat.one_mul, Nat.testBit_two_pow, decide_eq_true_eq]
      constructor
      · rintro (c | c)
        · exact ⟨i, by omega, h, .inr c⟩
        · exact ⟨i, by omega, h, .inl c.symm⟩
      · rintro ⟨j, a, b, c⟩
        by_cases e : j = i
        · subst e
          rcases c with c | c
          · exact .inr c.symm
          · exact .inl c
        · have hm : (bs T i).testBit j = true := bs_must (by omega) (by unfold mustB; rw [b, h]; simp)
          rcases c with rfl | c
          · exact .inl hm
          · exact .inl (bs_trans T i j k hm c)
    · rw [if_neg h, ih]
      constructor
      · rintro ⟨j, a, b, c⟩; exact ⟨j, by omega, b, c⟩
      · rintro ⟨j, a, b, c⟩
        by_cases e : j = i
        · subst e; exact absurd b h
        · exact ⟨j, by omega, b, c⟩
theorem kn_lt (T : List (Int × Int)) (p : Int) (i : Nat) : kn T p i < 2 ^ i := by
  apply Nat.lt_pow_two_of_testBit
  intro k hk
  cases h : (kn T p i).testBit k with
  | false => rfl
  | true =>
    obtain ⟨j, a, _, c⟩ := (kn_bit T p i k).1 h
    rcases c with c | c
    · omega
    · have := bs_in T j k c; omega
theorem bs_none {T : List (Int × Int)} {i : Nat} (h : fm T i < 0) : bs T i = kn T (pr T i) i := by
  apply Nat.eq_of_testBit_eq
  intro k
  rw [Bool.eq_iff_iff, bs_bit, kn_bit]
  constructor
  · rintro ⟨j, a, b, c⟩
    unfold mustB at b
    simp only [Bool.or_eq_true, beq_iff_eq] at b
    rcases b with b | b
    · exact ⟨j, a, b, c⟩
    · omega
  · rintro ⟨j, a, b, c⟩
    exact ⟨j, a, by unfold mustB; rw [b]; simp, c⟩
theorem bs_heard {T : List (Int × Int)} {i j : Nat} (hj : j < i) (h : fm T i = (j : Nat)) : bs T i = kn T (pr T i) i ||| (bs T j ||| 1 <<< j) := by
  apply Nat.eq_of_testBit_eq
  intro k
  rw [Bool.eq_iff_iff, bs_bit, Nat.testBit_or, Nat.testBit_or, Bool.or_eq_true, Bool.or_eq_true, kn_bit, Nat.shiftLeft_eq, Nat.one_mul, Nat.testBit_two_pow, decide_eq_true_eq]
  constructor
  · rintro ⟨m, a, b, c⟩
    unfold mustB at b
    simp only [Bool.or_eq_true, beq_iff_eq] at b
    rcases b with b | b
    · exact .inl ⟨m, a, b, c⟩
    · obtain rfl : m = j := by omega
      rcases c with c | c
      · exact .inr (.inr c.symm)
      · exact .inr (.inl c)
  · rintro (⟨m, a, b, c⟩ | (c | c))
    · exact ⟨m, a, by unfold mustB; rw [b]; simp, c⟩
    · exact ⟨j, hj, by unfold mustB; rw [h]; simp, .inr c⟩
    · exact ⟨j, hj, by unfold mustB; rw [h]; simp, .inl c.symm⟩
/-- rows so far, then noughts -/
def bfl (T : List (Int × Int)) (n i : Nat) : List Nat := bfs T i ++ List.replicate (n - i) 0
theorem bfl_length (T : List (Int × Int)) {n i : Nat} (h : i ≤ n) : (bfl T n i).length = n := by simp [bfl, bfs_length]; omega
theorem bfl_end (T : List (Int × Int)) (n : Nat) : bfl T n n = bfs T n := by simp [bfl]
theorem bfl_row {T : List (Int × Int)} {n i j : Nat} (h : j < i) : row (bfl T n i) j = bs T j := by
  have : row (bfs T i) j = bs T j := bfs_row T h
  unfold row at this ⊢
  unfold bfl
  rw [List.getElem?_append_left (by rw [bfs_length]; exact h)]
  exact this
theorem bfl_set {T : List (Int × Int)} {n i : Nat} (h : i < n) {v : Nat} (hv : v = bs T i) : (bfl T n i).set i v = bfl T n (i + 1) := by
  unfold bfl
  have h1 : n - i = (n - (i + 1)) + 1 := by omega
  rw [h1, List.replicate_succ, List.set_append_right _ _ (by rw [bfs_length]; omega), bfs_length, Nat.sub_self, List.set_cons_zero]
  simp only [bfs]
  rw [List.append_assoc, List.singleton_append, hv]
  rfl
/-- what the processes know of -/
def knl (T : List (Int × Int)) (i : Nat) : List Nat := [kn T 0 i, kn T 1 i, kn T 2 i, kn T 3 i, kn T 4 i]
theorem knl_row (T : List (Int × Int)) (i : Nat) {a : Nat} (h : a < 5) : row (knl T i) a = kn T (a : Int) i := by
  unfold row knl
  rcases a with _ | _ | _ | _ | _ | a
  · rfl
  · rfl
  · rfl
  · rfl
  · rfl
  · omega
theorem knl_set (T : List (Int × Int)) (i : Nat) {a v : Nat} (h : a < 5) (ha : pr T i = (a : Nat)) (hv : v = bs T i ||| 1 <<< i) : (knl T i).set a v = knl T (i + 1) := by
  unfold knl
  simp only [kn]
  rw [ha, ← hv]
  rcases a with _ | _ | _ | _ | _ | a
  · simp
  · simp
  · simp
  · simp
  · simp
  · omega
end M
end Go.Proofs.YtkojkiggdbffhaaDoor
namespace Go.Proofs.YtkojkiggdbffhaaDoor.M

/-! ### plain clocks -/
/-- the greatest of f at the members of x below m -/
def mxb (x : Nat) (f : Nat → Nat) : Nat → Nat
  | 0 => 0
  | j + 1 => if x.testBit j = true ∧ mxb x f j < f j then f j else mxb x f j
theorem mxb_congr {x : Nat} {f g : Nat → Nat} {m : Nat} (h : ∀ j, j < m → f j = g j) : mxb x f m = mxb x g m := by
  induction m with
  | zero => rfl
  | succ m ih => simp only [mxb]; rw [ih (fun j hj => h j (by omega)), h m (by omega)]
theorem mxb_le {x : Nat} {f : Nat → Nat} {m j : Nat} (hj : j < m) (h : x.testBit j = true) : f j ≤ mxb x f m := by
  induction m with
  | zero => omega
  | succ m ih =>
    simp only [mxb]
    by_cases e : j = m
    · subst e
      split
      · exact Nat.le_refl _
      · rename_i h2
        have : ¬ mxb x f j < f j := fun h3 => h2 ⟨h, h3⟩
        omega
    · have := ih (by omega)
      split <;> omega
theorem mxb_at (x : Nat) (f : Nat → Nat) (m : Nat) : mxb x f m = 0 ∨ ∃ j, j < m ∧ x.testBit j = true ∧ mxb x f m = f j := by
  induction m with
  | zero => exact .inl rfl
  | succ m ih =>
    simp only [mxb]
    split
    · rename_i h; exact .inr ⟨m, by omega, h.1, rfl⟩
    · rcases ih with h | ⟨j, a, b, c⟩
      · exact .inl h
      · exact .inr ⟨j, by omega, b, c⟩
theorem mxb_bound {x : Nat} {f : Nat → Nat} {m c : Nat} (h : ∀ j, j < m → x.testBit j = true → f j ≤ c) : mxb x f m ≤ c := by
  rcases mxb_at x f m with e | ⟨j, a, b, e⟩
  · omega
  · rw [e]; exact h j a b
def cks (T : List (Int × Int)) : Nat → List Nat
  | 0 => []
  | i + 1 => cks T i ++ [mxb (bs T i) (row (cks T i)) i + 1]
/-- the plain clock of event i -/
def ck (T : List (Int × Int)) (i : Nat) : Nat := mxb (bs T i) (row (cks T i)) i + 1
/-- the plain clocks -/
def clocks (T : List (Int × Int)) : List Nat := cks T T.length
theorem cks_length (T : List (Int × Int)) (k : Nat) : (cks T k).length = k := by
  induction k with
  | zero => rfl
  | succ k ih => simp [cks, ih]
theorem clocks_length (T : List (Int × Int)) : (clocks T).length = T.length := cks_length T _
theorem cks_row (T : List (Int × Int)) {k i : Nat} (h : i < k) : row (cks T k) i = ck T i := by
  induction k with
  | zero => omega
  | succ k ih =>
    unfold row
    simp only [cks]
    by_cases e : i = k
    · subst e
      rw [List.getElem?_append_right (by rw [cks_length]; omega), cks_length]
      simp [ck]
    · rw [List.getElem?_append_left (by rw [cks_length]; omega)]
      exact ih (by omega)
theorem clocks_row (T : List (Int × Int)) {i : Nat} (h : i < T.length) : row (clocks T) i = ck T i := cks_row T h
theorem ck_eq (T : List (Int × Int)) (i : Nat) : ck T i = mxb (bs T i) (ck T) i + 1 := by
  unfold ck
  rw [mxb_congr (f := row (cks T i)) (g := fun j => mxb (bs T j) (row (cks T j)) j + 1) (fun j hj => cks_row T hj)]
theorem ck_pos (T : List (Int × Int)) (i : Nat) : 1 ≤ ck T i := by rw [ck_eq]; omega
/-- WHO IS BEFORE HAS LESS -/
theorem ck_lt {T : List (Int × Int)} {i j : Nat} (h : (bs T i).testBit j = true) : ck T j < ck T i := by
  have := mxb_le (f := ck T) (bs_in T i j h) h
  rw [ck_eq T i]; omega
/-- each clock is one more than that of one before, or 1 -/
theorem ck_step (T : List (Int × Int)) (i : Nat) : (ck T i = 1 ∧ bs T i = 0) ∨ ∃ j, j < i ∧ (bs T i).testBit j = true ∧ ck T j + 1 = ck T i := by
  rcases mxb_at (bs T i) (ck T) i with h | ⟨j, a, b, c⟩
  · refine .inl ⟨by rw [ck_eq, h], Nat.eq_of_testBit_eq fun k => ?_⟩
    cases hk : (bs T i).testBit k with
    | false => simp
    | true =>
      have h1 := mxb_le (f := ck T) (bs_in T i k hk) hk
      have := ck_pos T k
      omega
  · exact .inr ⟨j, a, b, by rw [ck_eq T i, c]⟩
theorem ck_le (T : List (Int × Int)) (i : Nat) : ck T i ≤ i + 1 := by
  induction i using Nat.strongRecOn with
  | _ i ih =>
    rw [ck_eq]
    have := mxb_bound (x := bs T i) (f := ck T) (m := i) (c := i) (fun j hj _ => by have := ih j hj; omega)
    omega
/-- no two events of a process have one clock -/
theorem ck_apart {T : List (Int × Int)} {i j : Nat} (hne : i ≠ j) (e : pr T i = pr T j) : ck T i ≠ ck T j := by
  rcases Nat.lt_or_ge i j with h | h
  · have := ck_lt (bs_must h (show mustB T i j = true by unfold mustB; rw [e]; simp)); omega
  · have := ck_lt (bs_must (show j < i by omega) (show mustB T j i = true by unfold mustB; rw [e]; simp)); omega
/-- the clock of the last event of process p, when k events are told -/
def kc (T : List (Int × Int)) (p : Int) : Nat → Nat
  | 0 => 0
  | k + 1 => if pr T k = p then ck T k else kc T p k
theorem kc_at (T : List (Int × Int)) (p : Int) (k : Nat) : kc T p k = 0 ∨ ∃ j, j < k ∧ pr T j = p ∧ kc T p k = ck T j := by
  induction k with
  | zero => exact .inl rfl
  | succ k ih =>
    simp only [kc]
    split
    · rename_i h; exact .inr ⟨k, by omega, h, rfl⟩
    · rcases ih with h | ⟨j, a, b, c⟩
      · exact .inl h
      · exact .inr ⟨j, by omega, b, c⟩
theorem kc_le {T : List (Int × Int)} {p : Int} {k j : Nat} (hj : j < k) (h : pr T j = p) : ck T j ≤ kc T p k := by
  induction k with
  | zero => omega
  | succ k ih =>
    simp only [kc]
    by_cases e : j = k
    · subst e; rw [if_pos h]; exact Nat.le_refl _
    · by_cases hp : pr T k = p
      · rw [if_pos hp]
        exact Nat.le_of_lt (ck_lt (bs_must (by omega) (by unfold mustB; rw [h, hp]; simp)))
      · rw [if_neg hp]; exact ih (by omega)
theorem kc_bound (T : List (Int × Int)) (p : Int) (k : Nat) : kc T p k ≤ k := by
  rcases kc_at T p k with h | ⟨j, a, _, c⟩
  · omega
  · have := ck_le T j; omega
theorem kn_ck {T : List (Int × Int)} {p : Int} {i j : Nat} (h : (kn T p i).testBit j = true) : ck T j ≤ kc T p i := by
  obtain ⟨m, a, b, c⟩ := (kn_bit T p i j).1 h
  have h1 := kc_le a b
  rcases c with rfl | c
  · exact h1
  · have := ck_lt c; omega
theorem ck_none {T : List (Int × Int)} {i : Nat} (h : fm T i < 0) : ck T i = kc T (pr T i) i + 1 := by
  rw [ck_eq]
  have h1 : mxb (bs T i) (ck T) i ≤ kc T (pr T i) i := mxb_bound fun j _ hj => kn_ck (by rw [← bs_none h]; exact hj)
  rcases kc_at T (pr T i) i with e | ⟨j, a, b, c⟩
  · omega
  · have := mxb_le (f := ck T) a (bs_must a (show mustB T j i = true by unfold mustB; rw [b]; simp))
    omega
theorem ck_heard {T : List (Int × Int)} {i j : Nat} (hj : j < i) (h : fm T i = (j : Nat)) : ck T i = Nat.max (kc T (pr T i) i) (ck T j) + 1 := by
  rw [ck_eq]
  have h1 : mxb (bs T i) (ck T) i ≤ Nat.max (kc T (pr T i) i) (ck T j) := mxb_bound fun k _ hk => by
    rw [bs_heard hj h, Nat.testBit_or, Nat.testBit_or, Bool.or_eq_true, Bool.or_eq_true, Nat.shiftLeft_eq, Nat.one_mul, Nat.testBit_two_pow, decide_eq_true_eq] at hk
    rcases hk with hk | hk | hk
    · exact Nat.le_trans (kn_ck hk) (Nat.le_max_left _ _)
    · exact Nat.le_trans (Nat.le_of_lt (ck_lt hk)) (Nat.le_max_right _ _)
    · subst hk; exact Nat.le_max_right _ _
  have h2 : ck T j ≤ mxb (bs T i) (ck T) i := mxb_le hj (bs_must hj (by unfold mustB; rw [h]; simp))
  have h3 : kc T (pr T i) i ≤ mxb (bs T i) (ck T) i := by
    rcases kc_at T (pr T i) i with e | ⟨k, a, b, c⟩
    · omega
    · rw [c]; exact mxb_le (f := ck T) a (bs_must a (show mustB T k i = true by unfold mustB; rw [b]; simp))
  have h4 : Nat.max (kc T (pr T i) i) (ck T j) ≤ mxb (bs T i) (ck T) i := Nat.max_le.2 ⟨h3, h2⟩
  omega
/-- clocks so far, then noughts -/
def ckl (T : List (Int × Int)) (n i : Nat) : List Nat := cks T i ++ List.replicate (n - i) 0
theorem ckl_length (T : List (Int × Int)) {n i : Nat} (h : i ≤ n) : (ckl T n i).length = n := by simp [ckl, cks_length]; omega
theorem ckl_end (T : List (Int × Int)) (n : Nat) : ckl T n n = cks T n := by simp [ckl]
theorem ckl_row {T : List (Int × Int)} {n i j : Nat} (h : j < i) : row (ckl T n i) j = ck T j := by
  have : row (cks T i) j = ck T j := cks_row T h
  unfold row at this ⊢
  unfold ckl
  rw [List.getElem?_append_left (by rw [cks_length]; exact h)]
  exact this
theorem ckl_set {T : List (Int × Int)} {n i : Nat} (h : i < n) {v : Nat} (hv : v = ck T i) : (ckl T n i).set i v = ckl T n (i + 1) := by
  unfold ckl
  have h1 : n - i = (n - (i + 1)) + 1 := by omega
  rw [h1, List.replicate_succ, List.set_append_right _ _ (by rw [cks_length]; omega), cks_length, Nat.sub_self, List.set_cons_zero]
  simp only [cks]
  rw [List.append_assoc, List.singleton_append, hv]
  rfl
/-- the processes' last clocks -/
def kcl (T : List (Int × Int)) (i : Nat) : List Nat := [kc T 0 i, kc T 1 i, kc T 2 i, kc T 3 i, kc T 4 i]
theorem kcl_row (T : List (Int × Int)) (i : Nat) {a : Nat} (h : a < 5) : row (kcl T i) a = kc T (a : Int) i := by
  unfold row kcl
  rcases a with _ | _ | _ | _ | _ | a
  · rfl
  · rfl
  · rfl
  · rfl
  · rfl
  · omega
theorem kcl_set (T : List (Int × Int)) (i : Nat) {a v : Nat} (h : a < 5) (ha : pr T i = (a : Nat)) (hv : v = ck T i) : (kcl T i).set a v = kcl T (i + 1) := by
  unfold kcl
  simp only [kc]
  rw [ha, ← hv]
  rcases a with _ | _ | _ | _ | _ | a
  · simp
  · simp
  · simp
  · simp
  · simp
  · omega

/-! ### vectors -/
/-- an event, and all that happened before it -/
def fu (T : List (Int × Int)) (i : Nat) : Nat := bs T i ||| 1 <<< i
theorem fu_bit (T : List (Int × Int)) (i k : Nat) : (fu T i).testBit k = true ↔ k = i ∨ (bs T i).testBit k = true := by
  unfold fu
  rw [Nat.testBit_or, Bool.or_eq_true, Nat.shiftLeft_eq, Nat.one_mul, Nat.testBit_two_pow, decide_eq_true_eq]
  exact ⟨fun h => h.elim .inr (fun h => .inl h.symm), fun h => h.elim (fun h => .inr h.symm) .inl⟩
/-- how many events of process q are in a set, of those below m -/
def vn (T : List (Int × Int)) (x : Nat) (q : Int) (m : Nat) : Nat := cb m fun j => x.testBit j && pr T j == q
/-- the vector of event i at process q -/
def vc (T : List (Int × Int)) (i : Nat) (q : Int) : Nat := vn T (fu T i) q (i + 1)
/-- what process p knows of process q, when k events are told -/
def kv (T : List (Int × Int)) (p q : Int) (k : Nat) : Nat := vn T (kn T p k) q k
/-- with an event all ahead of it at its process -/
def Cl (T : List (Int × Int)) (x : Nat) : Prop := ∀ j k, x.testBit j = true → k < j → pr T k = pr T j → x.testBit k = true
theorem must_pr {T : List (Int × Int)} {j k : Nat} (h : pr T k = pr T j) : mustB T k j = true := by unfold mustB; rw [h]; simp
theorem bs_cl (T : List (Int × Int)) (i : Nat) : Cl T (bs T i) := fun j k h hk e => bs_trans T i j k h (bs_must hk (must_pr e))
theorem fu_cl (T : List (Int × Int)) (i : Nat) : Cl T (fu T i) := fun j k h hk e => by
  rcases (fu_bit T i j).1 h with rfl | h
  · exact (fu_bit T _ k).2 (.inr (bs_must hk (must_pr e)))
  · exact (fu_bit T i k).2 (.inr (bs_cl T i j k h hk e))
theorem kn_cl (T : List (Int × Int)) (p : Int) (i : Nat) : Cl T (kn T p i) := fun j k h hk e => by
  obtain ⟨m, a, b, c⟩ := (kn_bit T p i j).1 h
  refine (kn_bit T p i k).2 ⟨m, a, b, .inr ?_⟩
  rcases c with rfl | c
  · exact bs_must hk (must_pr e)
  · exact bs_cl T m j k c hk e
theorem vn_mono {T : List (Int × Int)} {x y : Nat} {q : Int} {m : Nat} (h : ∀ j, j < m → x.testBit j = true → pr T j = q → y.testBit j = true) : vn T x q m ≤ vn T y q m :=
  cb_mono fun j hj h1 => by
    simp only [Bool.and_eq_true, beq_iff_eq] at h1 ⊢
    exact ⟨h j hj h1.1 h1.2, h1.2⟩
theorem vn_lt {T : List (Int × Int)} {x y : Nat} {q : Int} {m : Nat} (h : ∀ j, j < m → x.testBit j = true → pr T j = q → y.testBit j = true) {k : Nat} (hk : k < m) (hp : pr T k = q) (hy : y.testBit k = true) (hx : x.testBit k = false) : vn T x q m < vn T y q m :=
  cb_lt (fun j hj h1 => by
    simp only [Bool.and_eq_true, beq_iff_eq] at h1 ⊢
    exact ⟨h j hj h1.1 h1.2, h1.2⟩) hk (by simp [hp, hy]) (by simp [hx])
/-- of two closed sets one has all of a process that the other one has -/
theorem cl_either {T : List (Int × Int)} {x y : Nat} (hx : Cl T x) (hy : Cl T y) (q : Int) : (∀ j, x.testBit j = true → pr T j = q → y.testBit j = true) ∨ (∀ j, y.testBit j = true → pr T j = q → x.testBit j = true) := by
  by_cases h : ∀ j, x.testBit j = true → pr T j = q → y.testBit j = true
  · exact .inl h
  · refine .inr fun j h1 h2 => ?_
    obtain ⟨k, hk⟩ := Classical.not_forall.1 h
    obtain ⟨hk1, hk⟩ := Classical.not_imp.1 hk
    obtain ⟨hk2, hk3⟩ := Classical.not_imp.1 hk
    rcases Nat.lt_trichotomy j k with h3 | h3 | h3
    · exact hx k j hk1 h3 (h2.trans hk2.symm)
    · subst h3; exact hk1
    · exact absurd (hy j k h1 h3 (hk2.trans h2.symm)) hk3
theorem vn_or {T : List (Int × Int)} {x y : Nat} (hx : Cl T x) (hy : Cl T y) (q : Int) (m : Nat) : vn T (x ||| y) q m = Nat.max (vn T x q m) (vn T y q m) := by
  rcases cl_either hx hy q with h | h
  · have h1 : vn T (x ||| y) q m = vn T y q m := Nat.le_antisymm (vn_mono fun j _ h1 h2 => by
      rw [Nat.testBit_or, Bool.or_eq_true] at h1
      rcases h1 with h1 | h1
      · exact h j h1 h2
      · exact h1) (vn_mono fun j _ h1 _ => by rw [Nat.testBit_or, h1, Bool.or_true])
    have h2 : vn T x q m ≤ vn T y q m := vn_mono fun j _ h1 h2 => h j h1 h2
    rw [h1]; exact (Nat.max_eq_right h2).symm
  · have h1 : vn T (x ||| y) q m = vn T x q m := Nat.le_antisymm (vn_mono fun j _ h1 h2 => by
      rw [Nat.testBit_or, Bool.or_eq_true] at h1
      rcases h1 with h1 | h1
      · exact h1
      · exact h j h1 h2) (vn_mono fun j _ h1 _ => by rw [Nat.testBit_or, h1, Bool.true_or])
    have h2 : vn T y q m ≤ vn T x q m := vn_mono fun j _ h1 h2 => h j h1 h2
    rw [h1]; exact (Nat.max_eq_left h2).symm
theorem vn_out {T : List (Int × Int)} {x : Nat} {q : Int} {m : Nat} (h : ∀ j, x.testBit j = true → j < m) (d : Nat) : vn T x q (m + d) = vn T x q m := by
  induction d with
  | zero => rfl
  | succ d ih =>
    have h1 : x.testBit (m + d) = false := by
      cases e : x.testBit (m + d) with
      | false => rfl
      | true => exact absurd (h _ e) (by omega)
    show vn T x q (m + d + 1) = _
    unfold vn at ih ⊢
    rw [cb_at (b := false) (by simp [h1]), ih]; rfl
theorem vn_to {T : List (Int × Int)} {x : Nat} {q : Int} {m n : Nat} (h : ∀ j, x.testBit j = true → j < m) (hn : m ≤ n) : vn T x q n = vn T x q m := by
  have := vn_out (T := T) (q := q) h (n - m)
  rw [show m + (n - m) = n by omega] at this
  exact this
theorem vn_le (T : List (Int × Int)) (x : Nat) (q : Int) (m : Nat) : vn T x q m ≤ m := cb_le _ _
theorem fu_in (T : List (Int × Int)) (i k : Nat) (h : (fu T i).testBit k = true) : k < i + 1 := by
  rcases (fu_bit T i k).1 h with rfl | h
  · omega
  · have := bs_in T i k h; omega
theorem kn_in (T : List (Int × Int)) (p : Int) (i k : Nat) (h : (kn T p i).testBit k = true) : k < i := by
  obtain ⟨j, a, _, c⟩ := (kn_bit T p i k).1 h
  rcases c with c | c
  · omega
  · have := bs_in T j k c; omega
theorem vc_bs (T : List (Int × Int)) (i : Nat) (q : Int) : vc T i q = vn T (bs T i) q i + (if pr T i = q then 1 else 0) := by
  unfold vc vn
  have h1 : (fu T i).testBit i = true := (fu_bit T i i).2 (.inl rfl)
  have h2 : cb i (fun j => (fu T i).testBit j && pr T j == q) = cb i (fun j => (bs T i).testBit j && pr T j == q) := cb_congr fun j hj => by
    have : (fu T i).testBit j = (bs T i).testBit j := by
      rw [Bool.eq_iff_iff, fu_bit]
      exact ⟨fun h => h.elim (fun e => by omega) id, .inr⟩
    rw [this]
  rw [cb_at (b := pr T i == q) (by rw [h1, Bool.true_and]), h2]
  simp
theorem kv_succ (T : List (Int × Int)) (p q : Int) (k : Nat) : kv T p q (k + 1) = if pr T k = p then vc T k q else kv T p q k := by
  unfold kv
  simp only [kn]
  by_cases h : pr T k = p
  · rw [if_pos h, if_pos h]; rfl
  · rw [if_neg h, if_neg h]
    exact vn_to (fun j hj => kn_in T p k j hj) (by omega)
theorem vc_none {T : List (Int × Int)} {i : Nat} (h : fm T i < 0) (q : Int) : vc T i q = kv T (pr T i) q i + (if pr T i = q then 1 else 0) := by
  rw [vc_bs, bs_none h]; rfl
theorem vc_heard {T : List (Int × Int)} {i j : Nat} (hj : j < i) (h : fm T i = (j : Nat)) (q : Int) : vc T i q = Nat.max (kv T (pr T i) q i) (vc T j q) + (if pr T i = q then 1 else 0) := by
  rw [vc_bs, bs_heard hj h, show bs T j ||| 1 <<< j = fu T j from rfl, vn_or (kn_cl T _ i) (fu_cl T j)]
  rw [vn_to (x := fu T j) (m := j + 1) (fun k hk => fu_in T j k hk) (by omega)]
  rfl
theorem kv_zero (T : List (Int × Int)) (p q : Int) : kv T p q 0 = 0 := rfl
theorem kv_le (T : List (Int × Int)) (p q : Int) (k : Nat) : kv T p q k ≤ k := vn_le _ _ _ _
theorem vc_le (T : List (Int × Int)) (i : Nat) (q : Int) : vc T i q ≤ i + 1 := vn_le _ _ _ _
/-- who knows of an event knows of all that it knows of -/
theorem fu_sub {T : List (Int × Int)} {i j : Nat} (h : (fu T j).testBit i = true) : ∀ k, (fu T i).testBit k = true → (fu T j).testBit k = true := fun k hk => by
  rcases (fu_bit T j i).1 h with rfl | h
  · exact hk
  · refine (fu_bit T j k).2 (.inr ?_)
    rcases (fu_bit T i k).1 hk with rfl | hk
    · exact h
    · exact bs_trans T j i k h hk
theorem vc_sub {T : List (Int × Int)} {i j : Nat} (h : (fu T j).testBit i = true) (q : Int) : vc T i q ≤ vc T j q := by
  have hij := fu_in T j i h
  unfold vc
  rw [← vn_to (x := fu T i) (m := i + 1) (n := j + 1) (fun k hk => fu_in T i k hk) (by omega)]
  exact vn_mono fun k _ hk _ => fu_sub h k hk
/-- AND JUST IF THAT ONE KNOWS OF AS MANY OF ITS PROCESS -/
theorem vc_knows {T : List (Int × Int)} {i j : Nat} (h : (fu T j).testBit i = false) : vc T j (pr T i) < vc T i (pr T i) := by
  have key : ∀ k, (fu T j).testBit k = true → pr T k = pr T i → k < i := fun k hk e => by
    rcases Nat.lt_trichotomy k i with h1 | h1 | h1
    · exact h1
    · subst h1; rw [h] at hk; cases hk
    · have := fu_cl T j k i hk h1 e.symm
      rw [h] at this; cases this
  have hb : ∀ k, (fu T i).testBit k = true → k < i + 1 + (j + 1) := fun k hk => by have := fu_in T i k hk; omega
  unfold vc
  rw [← vn_to (x := fu T i) (m := i + 1) (n := i + 1 + (j + 1)) (fun k hk => fu_in T i k hk) (by omega), ← vn_to (x := fu T j) (m := j + 1) (n := i + 1 + (j + 1)) (fun k hk => fu_in T j k hk) (by omega)]
  refine vn_lt (fun k _ h1 h2 => ?_) (k := i) (by omega) rfl ((fu_bit T i i).2 (.inl rfl)) h
  have h3 := key k h1 h2
  exact (fu_bit T i k).2 (.inr (bs_must h3 (must_pr h2)))
/-- one more of its own -/
theorem vc_more {T : List (Int × Int)} {i j : Nat} (h : (bs T j).testBit i = true) : vc T i (pr T j) < vc T j (pr T j) :=
  vc_knows (by
    cases e : (fu T i).testBit j with
    | false => rfl
    | true => have := fu_in T i j e; have := bs_in T j i h; omega)
theorem vc_iff (T : List (Int × Int)) (i j : Nat) : vc T i (pr T i) ≤ vc T j (pr T i) ↔ ((bs T j).testBit i = true ∨ i = j) := by
  constructor
  · intro h
    cases e : (fu T j).testBit i with
    | false => have := vc_knows e; omega
    | true => exact ((fu_bit T j i).1 e).symm
  · intro h
    exact vc_sub ((fu_bit T j i).2 h.symm) _
end Go.Proofs.YtkojkiggdbffhaaDoor.M
namespace Go.Proofs.YtkojkiggdbffhaaDoor.M

/-! ### how many of a process -/
/-- how many of the first k events were at process p -/
def evn (T : List (Int × Int)) (p k : Nat) : Nat := cb k fun j => pr T j == (p : Int)
theorem evn_succ (T : List (Int × Int)) (p k : Nat) : evn T p (k + 1) = evn T p k + if pr T k = (p : Int) then 1 else 0 := by
  unfold evn
  by_cases h : pr T k = (p : Int)
  · rw [cb_at (b := true) (by simp [h]), if_pos h]; rfl
  · rw [cb_at (b := false) (by simp [h]), if_neg h]; rfl
theorem evn_le (T : List (Int × Int)) (p k : Nat) : evn T p k ≤ k := cb_le _ _
theorem evn_mono (T : List (Int × Int)) (p : Nat) {k m : Nat} (h : k ≤ m) : evn T p k ≤ evn T p m := cb_more h _
theorem nth_evn {T : List (Int × Int)} {p i : Nat} (h : pr T i = (p : Int)) : nth T i = evn T p i := by unfold nth evn; rw [h]
theorem nth_lt_evn {T : List (Int × Int)} {p i k : Nat} (h : pr T i = (p : Int)) (hi : i < k) : nth T i < evn T p k := by
  have h1 := evn_succ T p i
  rw [if_pos h] at h1
  have h2 := evn_mono T p (show i + 1 ≤ k by omega)
  rw [nth_evn h]; omega
/-- of what goes on being so backwards, as many as the first ones -/
theorem first_iff {T : List (Int × Int)} {p : Nat} {Q : Nat → Bool} (n : Nat) (h : ∀ i j, i < j → j < n → pr T i = (p : Int) → pr T j = (p : Int) → Q j = true → Q i = true) :
    cb n (fun i => pr T i == (p : Int) && Q i) ≤ evn T p n ∧ ∀ j, j < n → pr T j = (p : Int) → (Q j = true ↔ nth T j < cb n (fun i => pr T i == (p : Int) && Q i)) := by
  induction n with
  | zero => exact ⟨Nat.zero_le _, fun j hj => by omega⟩
  | succ n ih =>
    obtain ⟨h1, h2⟩ := ih (fun i j a b => h i j a (by omega))
    have hs := evn_succ T p n
    by_cases hp : pr T n = (p : Int)
    · rw [if_pos hp] at hs
      cases hq : Q n with
      | true =>
        have hall : cb n (fun i => pr T i == (p : Int) && Q i) = evn T p n := by
          unfold evn
          refine cb_congr fun j hj => ?_
          cases e : pr T j == (p : Int) with
          | false => rfl
          | true => rw [Bool.true_and]; exact h j n hj (by omega) (by simpa using e) hp hq
        have hb : (fun i => pr T i == (p : Int) && Q i) n = true := by show (pr T n == (p : Int) && Q n) = true; rw [hq, hp]; simp
        rw [cb_at hb, hall, if_pos rfl]
        refine ⟨by omega, fun j hj e => ?_⟩
        constructor
        · intro _
          have := nth_lt_evn e hj
          omega
        · intro _
          by_cases ej : j = n
          · subst ej; exact hq
          · exact h j n (by omega) (by omega) e hp hq
      | false =>
        have hb : (fun i => pr T i == (p : Int) && Q i) n = false := by show (pr T n == (p : Int) && Q n) = false; rw [hq]; simp
        rw [cb_at hb]
        simp only [Bool.false_eq_true, if_false, Nat.add_zero]
        refine ⟨by omega, fun j hj e => ?_⟩
        by_cases ej : j = n
        · subst ej
          rw [hq]
          constructor
          · intro hh; cases hh
          · intro hh; have := nth_evn e; omega
        · exact h2 j (by omega) e
    · have hb : (fun i => pr T i == (p : Int) && Q i) n = false := by
        show (pr T n == (p : Int) && Q n) = false
        rw [show (pr T n == (p : Int)) = false by simpa using hp]; rfl
      rw [if_neg hp] at hs
      rw [cb_at hb]
      simp only [Bool.false_eq_true, if_false, Nat.add_zero]
      refine ⟨by omega, fun j hj e => ?_⟩
      by_cases ej : j = n
      · subst ej; exact absurd e hp
      · exact h2 j (by omega) e
theorem first_min (T : List (Int × Int)) (p m n : Nat) : cb n (fun i => pr T i == (p : Int) && decide (nth T i < m)) = min m (evn T p n) := by
  induction n with
  | zero => simp [cb, evn]
  | succ n ih =>
    rw [evn_succ]
    by_cases hp : pr T n = (p : Int)
    · rw [if_pos hp]
      by_cases hm : nth T n < m
      · have hb : (fun i => pr T i == (p : Int) && decide (nth T i < m)) n = true := by show (pr T n == (p : Int) && decide (nth T n < m)) = true; rw [hp, decide_eq_true hm]; simp
        rw [cb_at hb, ih, if_pos rfl]
        rw [nth_evn hp] at hm
        omega
      · have hb : (fun i => pr T i == (p : Int) && decide (nth T i < m)) n = false := by show (pr T n == (p : Int) && decide (nth T n < m)) = false; rw [decide_eq_false hm]; simp
        rw [cb_at hb, ih]
        rw [nth_evn hp] at hm
        simp only [Bool.false_eq_true, if_false, Nat.add_zero]
        omega
    · have hb : (fun i => pr T i == (p : Int) && decide (nth T i < m)) n = false := by
        show (pr T n == (p : Int) && decide (nth T n < m)) = false
        rw [show (pr T n == (p : Int)) = false by simpa using hp]; rfl
      rw [cb_at hb, ih, if_neg hp]
      rfl

/-! ### cuts -/
/-- is an event in a cut? -/
def inC (T : List (Int × Int)) (c : List Nat) (j : Nat) : Bool := decide (nth T j < row c (pr T j).toNat)
theorem inC_iff {T : List (Int × Int)} {c : List Nat} {j p : Nat} (h : pr T j = (p : Int)) : inC T c j = true ↔ nth T j < row c p := by
  unfold inC; rw [decide_eq_true_eq, h, Int.toNat_natCast]
/-- the events of a cut, as a set -/
def cset (T : List (Int × Int)) (c : List Nat) : Nat → Nat
  | 0 => 0
  | k + 1 => if inC T c k = true then cset T c k + 2 ^ k else cset T c k
theorem cset_lt (T : List (Int × Int)) (c : List Nat) (k : Nat) : cset T c k < 2 ^ k := by
  induction k with
  | zero => simp [cset]
  | succ k ih =>
    simp only [cset]
    rw [Nat.pow_succ]
    split <;> omega
theorem cset_bit (T : List (Int × Int)) (c : List Nat) (k j : Nat) : (cset T c k).testBit j = (decide (j < k) && inC T c j) := by
  induction k with
  | zero => simp [cset]
  | succ k ih =>
    simp only [cset]
    have hlt := cset_lt T c k
    by_cases h : inC T c k = true
    · rw [if_pos h]
      have e : cset T c k + 2 ^ k = 2 ^ k * 1 ||| cset T c k := by
        rw [← Nat.two_pow_add_eq_or_of_lt hlt]; omega
      rw [e, Nat.testBit_or, ih, Nat.mul_one, Nat.testBit_two_pow]
      by_cases hj : k = j
      · subst hj; simp [h]
      · by_cases hl : j < k
        · simp [hl, hj, show j < k + 1 by omega]
        · simp [hl, hj, show ¬ j < k + 1 by omega]
    · rw [if_neg h, ih]
      by_cases hj : j = k
      · subst hj; simp [h]
      · by_cases hl : j < k
        · simp [hl, show j < k + 1 by omega]
        · simp [hl, show ¬ j < k + 1 by omega]
/-- no event in the cut, of the first k, heard of one that is not -/
def whTo (T : List (Int × Int)) (c : List Nat) : Nat → Bool
  | 0 => true
  | k + 1 => whTo T c k && (!inC T c k || decide (fm T k < 0) || inC T c (fm T k).toNat)
theorem whTo_iff (T : List (Int × Int)) (c : List Nat) (n : Nat) : whTo T c n = true ↔ ∀ i, i < n → inC T c i = true → 0 ≤ fm T i → inC T c (fm T i).toNat = true := by
  induction n with
  | zero => simp [whTo]
  | succ n ih =>
    simp only [whTo, Bool.and_eq_true, Bool.or_eq_true, Bool.not_eq_true', decide_eq_true_eq, ih]
    constructor
    · rintro ⟨h1, h2⟩ i hi a b
      by_cases e : i = n
      · subst e
        rcases h2 with (h2 | h2) | h2
        · rw [a] at h2; cases h2
        · omega
        · exact h2
      · exact h1 i (by omega) a b
    · intro h
      refine ⟨fun i hi => h i (by omega), ?_⟩
      cases e : inC T c n with
      | false => exact .inl (.inl rfl)
      | true =>
        by_cases f : fm T n < 0
        · exact .inl (.inr f)
        · exact .inr (h n (by omega) e (by omega))
theorem whTo_not {T : List (Int × Int)} {c : List Nat} {i n : Nat} (hi : i < n) (h1 : inC T c i = true) (h2 : 0 ≤ fm T i) (h3 : inC T c (fm T i).toNat = false) : whTo T c n = false := by
  cases e : whTo T c n with
  | false => rfl
  | true => rw [(whTo_iff T c n).1 e i hi h1 h2] at h3; cases h3
/-- is a cut whole? -/
def whB (T : List (Int × Int)) (c : List Nat) : Bool := whTo T c T.length
/-- an event of its process ahead of one in the cut is in it -/
theorem inC_pr {T : List (Int × Int)} {c : List Nat} {i j : Nat} (hj : j < i) (e : pr T j = pr T i) (h : inC T c i = true) : inC T c j = true := by
  unfold inC at *
  rw [decide_eq_true_eq] at *
  have := nth_lt hj e
  rw [e]; omega
/-- A WHOLE CUT HAS ALL THAT HAPPENED BEFORE -/
theorem wh_bs {P : Int} {T : List (Int × Int)} (hk : TOk P T) (c : List Nat) : whB T c = true ↔ ∀ i, i < T.length → inC T c i = true → ∀ k, (bs T i).testBit k = true → inC T c k = true := by
  unfold whB
  rw [whTo_iff]
  constructor
  · intro h i
    induction i using Nat.strongRecOn with
    | _ i ih =>
      intro hi hc k hb
      obtain ⟨j, hj, hm, hkj⟩ := (bs_bit T i k).1 hb
      have hcj : inC T c j = true := by
        unfold mustB at hm
        simp only [Bool.or_eq_true, beq_iff_eq] at hm
        rcases hm with hm | hm
        · exact inC_pr hj hm hc
        · have := h i hi hc (by omega)
          rw [hm, Int.toNat_natCast] at this
          exact this
      rcases hkj with rfl | hkj
      · exact hcj
      · exact ih j hj (by omega) hcj k hkj
  · intro h i hi hc hf
    have hlt := hk.fmI i hi
    refine h i hi hc _ (bs_must (by omega) ?_)
    unfold mustB
    rw [Int.toNat_of_nonneg hf]
    simp
theorem wh_sub {P : Int} {T : List (Int × Int)} (hk : TOk P T) (c : List Nat) : whB T c = true ↔ ∀ i, i < T.length → (cset T c T.length).testBit i = true → subB (bs T i) (cset T c T.length) = true := by
  rw [wh_bs hk]
  constructor
  · intro h i hi hc
    rw [cset_bit, Bool.and_eq_true] at hc
    refine subB_iff.2 fun k hb => ?_
    rw [cset_bit, h i hi hc.2 k hb, Bool.and_true, decide_eq_true_eq]
    have := bs_in T i k hb; omega
  · intro h i hi hc k hb
    have := subB_iff.1 (h i hi (by rw [cset_bit, hc, Bool.and_true, decide_eq_true_eq]; exact hi)) k hb
    rw [cset_bit, Bool.and_eq_true] at this
    exact this.2
/-- a cut that may be -/
structure COk (P : Int) (T : List (Int × Int)) (c : List Nat) : Prop where
  len : (c.length : Int) = P
  rng : ∀ p, p < c.length → row c p ≤ evn T p T.length
theorem pr_nat {P : Int} {T : List (Int × Int)} (hk : TOk P T) {i : Nat} (hi : i < T.length) : ∃ p : Nat, pr T i = (p : Int) ∧ (p : Int) < P := by
  have h0 := hk.pr0 i hi
  have h1 := hk.prP i hi
  exact ⟨(pr T i).toNat, by omega, by omega⟩

/-! ### the line -/
/-- an event that is in the cut, with all that happened before -/
def lnB (T : List (Int × Int)) (c : List Nat) (i : Nat) : Bool := inC T c i && subB (bs T i) (cset T c T.length)
theorem lnB_iff {T : List (Int × Int)} {c : List Nat} {i : Nat} (hi : i < T.length) : lnB T c i = true ↔ inC T c i = true ∧ ∀ k, (bs T i).testBit k = true → inC T c k = true := by
  unfold lnB
  rw [Bool.and_eq_true, subB_iff]
  constructor
  · rintro ⟨h1, h2⟩
    refine ⟨h1, fun k hb => ?_⟩
    have := h2 k hb
    rw [cset_bit, Bool.and_eq_true] at this
    exact this.2
  · rintro ⟨h1, h2⟩
    refine ⟨h1, fun k hb => ?_⟩
    rw [cset_bit, h2 k hb, Bool.and_true, decide_eq_true_eq]
    have := bs_in T i k hb; omega
/-- and so is all that happened before it -/
theorem lnB_bs {T : List (Int × Int)} {c : List Nat} {i k : Nat} (hi : i < T.length) (h : lnB T c i = true) (hb : (bs T i).testBit k = true) : lnB T c k = true := by
  have hki := bs_in T i k hb
  obtain ⟨h1, h2⟩ := (lnB_iff hi).1 h
  exact (lnB_iff (by omega)).2 ⟨h2 k hb, fun m hm => h2 m (bs_trans T i k m hb hm)⟩
/-- of process p so many -/
def ln (T : List (Int × Int)) (c : List Nat) (p : Nat) : Nat := cb T.length fun i => pr T i == (p : Int) && lnB T c i
def line (T : List (Int × Int)) (c : List Nat) : List Nat := (List.range c.length).map (ln T c)
theorem line_length (T : List (Int × Int)) (c : List Nat) : (line T c).length = c.length := by simp [line]
theorem line_row (T : List (Int × Int)) {c : List Nat} {p : Nat} (h : p < c.length) : row (line T c) p = ln T c p := by simp [row, line, h]
theorem ln_iff {T : List (Int × Int)} {c : List Nat} {p : Nat} : ln T c p ≤ evn T p T.length ∧ ∀ j, j < T.length → pr T j = (p : Int) → (lnB T c j = true ↔ nth T j < ln T c p) :=
  first_iff T.length fun _ _ h1 h2 e1 e2 h => lnB_bs h2 h (bs_must h1 (must_pr (e1.trans e2.symm)))
theorem line_in {P : Int} {T : List (Int × Int)} (hk : TOk P T) {c : List Nat} (hc : (c.length : Int) = P) {j : Nat} (hj : j < T.length) : inC T (line T c) j = lnB T c j := by
  obtain ⟨p, hp, hpP⟩ := pr_nat hk hj
  rw [Bool.eq_iff_iff, inC_iff hp, line_row T (by omega), (ln_iff.2 j hj hp)]
theorem line_whole {P : Int} {T : List (Int × Int)} (hk : TOk P T) {c : List Nat} (hc : (c.length : Int) = P) : whB T (line T c) = true := by
  rw [wh_bs hk]
  intro i hi h k hb
  rw [line_in hk hc hi] at h
  have := bs_in T i k hb
  rw [line_in hk hc (by omega)]
  exact lnB_bs hi h hb
theorem line_le (T : List (Int × Int)) (c : List Nat) (p : Nat) : ln T c p ≤ row c p := by
  have h1 : ln T c p ≤ cb T.length fun i => pr T i == (p : Int) && decide (nth T i < row c p) := by
    unfold ln
    refine cb_mono fun j hj h => ?_
    rw [Bool.and_eq_true] at *
    obtain ⟨e, h⟩ := h
    refine ⟨e, ?_⟩
    rw [decide_eq_true_eq]
    exact (inC_iff (by simpa using e)).1 ((lnB_iff hj).1 h).1
  rw [first_min] at h1
  omega
theorem line_ok {P : Int} {T : List (Int × Int)} {c : List Nat} (hc : (c.length : Int) = P) : COk P T (line T c) :=
  ⟨by rw [line_length]; exact hc, fun p hp => by rw [line_length] at hp; rw [line_row T hp]; exact ln_iff.1⟩
/-- no whole cut in the cut goes beyond -/
theorem line_most {P : Int} {T : List (Int × Int)} (hk : TOk P T) {c d : List Nat} (hd : COk P T d) (hw : whB T d = true) (hle : ∀ p, p < d.length → row d p ≤ row c p) {p : Nat} (hp : p < d.length) : row d p ≤ ln T c p := by
  have h1 : (cb T.length fun i => pr T i == (p : Int) && decide (nth T i < row d p)) ≤ ln T c p := by
    unfold ln
    refine cb_mono fun j hj h => ?_
    rw [Bool.and_eq_true] at *
    obtain ⟨e, h⟩ := h
    refine ⟨e, ?_⟩
    rw [decide_eq_true_eq] at h
    have e' : pr T j = (p : Int) := by simpa using e
    have up : ∀ k, k < T.length → inC T d k = true → inC T c k = true := fun k hkk hh => by
      obtain ⟨q, hq, hqP⟩ := pr_nat hk hkk
      rw [inC_iff hq] at *
      have := hle q (by have := hd.len; omega)
      omega
    have hin : inC T d j = true := (inC_iff e').2 h
    refine (lnB_iff hj).2 ⟨up j hj hin, fun k hb => up k (by have := bs_in T j k hb; omega) ((wh_bs hk d).1 hw j hj hin k hb)⟩
  rw [first_min] at h1
  have := hd.rng p hp
  omega
/-- the greatest whole cut in a cut is one: what is whole, in it, and beyond which none goes, is the line -/
theorem line_one {P : Int} {T : List (Int × Int)} (hk : TOk P T) {c d : List Nat} (hc : COk P T c) (hd : COk P T d) (hw : whB T d = true) (hle : ∀ p, p < d.length → row d p ≤ row c p) (hm : ∀ p, p < d.length → ln T c p ≤ row d p) : d = line T c := by
  have hl : d.length = c.length := by have := hc.len; have := hd.len; omega
  apply List.ext_getElem
  · rw [line_length]; exact hl
  · intro p h1 h2
    have e1 : row d p = d[p] := by simp [row, h1]
    have e2 : row (line T c) p = (line T c)[p] := by simp [row, h2]
    rw [← e1, ← e2, line_row T (by omega)]
    have := hm p h1
    have := line_most hk hd hw hle h1
    omega
/-- of a whole cut it is the cut -/
theorem line_self {P : Int} {T : List (Int × Int)} (hk : TOk P T) {c : List Nat} (hc : COk P T c) (hw : whB T c = true) : line T c = c :=
  (line_one hk hc hc hw (fun _ _ => Nat.le_refl _) (fun p _ => line_le T c p)).symm

/-! ### a lattice -/
def most (c d : List Nat) : List Nat := (List.range c.length).map fun p => if row c p < row d p then row d p else row c p
def least (c d : List Nat) : List Nat := (List.range c.length).map fun p => if row c p < row d p then row c p else row d p
theorem most_length (c d : List Nat) : (most c d).length = c.length := by simp [most]
theorem least_length (c d : List Nat) : (least c d).length = c.length := by simp [least]
theorem most_row {c d : List Nat} {p : Nat} (h : p < c.length) : row (most c d) p = if row c p < row d p then row d p else row c p := by simp [row, most, h]
theorem least_row {c d : List Nat} {p : Nat} (h : p < c.length) : row (least c d) p = if row c p < row d p then row c p else row d p := by simp [row, least, h]
theorem most_in {P : Int} {T : List (Int × Int)} (hk : TOk P T) {c d : List Nat} (hc : (c.length : Int) = P) {j : Nat} (hj : j < T.length) : inC T (most c d) j = (inC T c j || inC T d j) := by
  obtain ⟨p, hp, hpP⟩ := pr_nat hk hj
  rw [Bool.eq_iff_iff, Bool.or_eq_true, inC_iff hp, inC_iff hp, inC_iff hp, most_row (by omega)]
  split <;> omega
theorem least_in {P : Int} {T : List (Int × Int)} (hk : TOk P T) {c d : List Nat} (hc : (c.length : Int) = P) {j : Nat} (hj : j < T.length) : inC T (least c d) j = (inC T c j && inC T d j) := by
  obtain ⟨p, hp, hpP⟩ := pr_nat hk hj
  rw [Bool.eq_iff_iff, Bool.and_eq_true, inC_iff hp, inC_iff hp, inC_iff hp, least_row (by omega)]
  split <;> omega
theorem most_ok {P : Int} {T : List (Int × Int)} {c d : List Nat} (hc : COk P T c) (hd : COk P T d) : COk P T (most c d) :=
  ⟨by rw [most_length]; exact hc.len, fun p hp => by
    rw [most_length] at hp
    rw [most_row hp]
    have := hc.rng p hp
    have := hd.rng p (by have := hc.len; have := hd.len; omega)
    split <;> omega⟩
theorem least_ok {P : Int} {T : List (Int × Int)} {c d : List Nat} (hc : COk P T c) : COk P T (least c d) :=
  ⟨by rw [least_length]; exact hc.len, fun p hp => by
    rw [least_length] at hp
    rw [least_row hp]
    have := hc.rng p hp
    split <;> omega⟩
theorem most_whole {P : Int} {T : List (Int × Int)} (hk : TOk P T) {c d : List Nat} (hc : (c.length : Int) = P) (h1 : whB T c = true) (h2 : whB T d = true) : whB T (most c d) = true := by
  rw [wh_bs hk] at *
  intro i hi h k hb
  have := bs_in T i k hb
  rw [most_in hk hc hi, Bool.or_eq_true] at h
  rw [most_in hk hc (by omega), Bool.or_eq_true]
  rcases h with h | h
  · exact .inl (h1 i hi h k hb)
  · exact .inr (h2 i hi h k hb)
theorem least_whole {P : Int} {T : List (Int × Int)} (hk : TOk P T) {c d : List Nat} (hc : (c.length : Int) = P) (h1 : whB T c = true) (h2 : whB T d = true) : whB T (least c d) = true := by
  rw [wh_bs hk] at *
  intro i hi h k hb
  have := bs_in T i k hb
  rw [least_in hk hc hi, Bool.and_eq_true] at h
  rw [least_in hk hc (by omega), Bool.and_eq_true]
  exact ⟨h1 i hi h.1 k hb, h2 i hi h.2 k hb⟩
end Go.Proofs.YtkojkiggdbffhaaDoor.M
namespace Go.Proofs.YtkojkiggdbffhaaDoor.M

/-! ### all cuts -/
/-- all cuts that go on from c by d numbers -/
def allL (T : List (Int × Int)) : Nat → List Nat → List (List Nat)
  | 0, c => [c]
  | d + 1, c => (List.range (evn T c.length T.length + 1)).flatMap fun k => allL T d (c ++ [k])
/-- how many of them are whole -/
def cts (T : List (Int × Int)) : Nat → List Nat → Nat
  | 0, c => if whB T c = true then 1 else 0
  | d + 1, c => ((List.range (evn T c.length T.length + 1)).map fun k => cts T d (c ++ [k])).sum
theorem cts_len (T : List (Int × Int)) (d : Nat) : ∀ c, cts T d c = ((allL T d c).filter (whB T)).length := by
  induction d with
  | zero => intro c; cases h : whB T c <;> simp [cts, allL, h]
  | succ d ih =>
    intro c
    simp only [cts, allL, List.filter_flatMap, List.length_flatMap]
    congr 1
    apply List.map_congr_left
    intro k _
    exact ih (c ++ [k])
theorem mem_allL (T : List (Int × Int)) (d : Nat) : ∀ c x, x ∈ allL T d c ↔ x.length = c.length + d ∧ (∀ p, p < c.length → row x p = row c p) ∧ ∀ p, c.length ≤ p → p < x.length → row x p ≤ evn T p T.length := by
  induction d with
  | zero =>
    intro c x
    simp only [allL, List.mem_singleton, Nat.add_zero]
    constructor
    · rintro rfl
      exact ⟨rfl, fun _ _ => rfl, fun p h1 h2 => by omega⟩
    · rintro ⟨h1, h2, _⟩
      apply List.ext_getElem h1
      intro p a b
      have := h2 p b
      simpa [row, a, b] using this
  | succ d ih =>
    intro c x
    simp only [allL, List.mem_flatMap, List.mem_range, ih, List.length_append, List.length_singleton]
    constructor
    · rintro ⟨k, hk, h1, h2, h3⟩
      refine ⟨by omega, fun p hp => ?_, fun p hp hx => ?_⟩
      · rw [h2 p (by omega), row_snoc, if_pos hp]
      · by_cases e : p = c.length
        · subst e
          rw [h2 _ (by omega), row_snoc, if_neg (by omega), if_pos rfl]
          omega
        · exact h3 p (by omega) hx
    · rintro ⟨h1, h2, h3⟩
      refine ⟨row x c.length, by have := h3 c.length (Nat.le_refl _) (by omega); omega, by omega, fun p hp => ?_, fun p hp hx => h3 p (by omega) hx⟩
      rw [row_snoc]
      by_cases e : p < c.length
      · rw [if_pos e]; exact h2 p e
      · rw [if_neg e, if_pos (by omega)]
        congr 1
        omega
theorem nodup_flat {α β : Type} {f : α → List β} : ∀ (l : List α), l.Nodup → (∀ a, a ∈ l → (f a).Nodup) → (∀ a b, a ∈ l → b ∈ l → a ≠ b → ∀ x, x ∈ f a → x ∉ f b) → (l.flatMap f).Nodup := by
  intro l
  induction l with
  | nil => intro _ _ _; simp
  | cons a l ih =>
    intro h1 h2 h3
    rw [List.flatMap_cons, List.nodup_append]
    rw [List.nodup_cons] at h1
    refine ⟨h2 a (by simp), ih h1.2 (fun b hb => h2 b (by simp [hb])) (fun b c hb hc => h3 b c (by simp [hb]) (by simp [hc])), ?_⟩
    intro x hx y hy e
    subst e
    obtain ⟨b, hb, hxb⟩ := List.mem_flatMap.1 hy
    exact h3 a b (by simp) (by simp [hb]) (fun e => h1.1 (e ▸ hb)) x hx hxb
theorem allL_nodup (T : List (Int × Int)) (d : Nat) : ∀ c, (allL T d c).Nodup := by
  induction d with
  | zero => intro c; simp [allL]
  | succ d ih =>
    intro c
    simp only [allL]
    refine nodup_flat _ List.nodup_range (fun k _ => ih _) (fun a b _ _ hab x hx hy => hab ?_)
    have ha := ((mem_allL T d _ x).1 hx).2.1 c.length (by simp)
    have hb := ((mem_allL T d _ x).1 hy).2.1 c.length (by simp)
    rw [row_snoc, if_neg (by omega), if_pos rfl] at ha hb
    omega
/-- how many cuts there are of the first p processes -/
def pE (T : List (Int × Int)) : Nat → Nat
  | 0 => 1
  | p + 1 => pE T p * (evn T p T.length + 1)
theorem sum_same (a n : Nat) : ((List.range n).map fun _ => a).sum = n * a := by
  induction n with
  | zero => simp
  | succ n ih => rw [List.range_succ, List.map_append, List.sum_append_nat, ih]; simp [Nat.succ_mul]
theorem allL_length (T : List (Int × Int)) (d : Nat) : ∀ c, (allL T d c).length * pE T c.length = pE T (c.length + d) := by
  induction d with
  | zero => intro c; simp [allL]
  | succ d ih =>
    intro c
    have hall : ∀ k, (allL T d (c ++ [k])).length * pE T (c.length + 1) = pE T (c.length + (d + 1)) := fun k => by
      have := ih (c ++ [k])
      rw [List.length_append, List.length_singleton] at this
      rw [this]; congr 1; omega
    have hpos : ∀ p, 0 < pE T p := fun p => by
      induction p with
      | zero => simp [pE]
      | succ p ihp => simp only [pE]; exact Nat.mul_pos ihp (by omega)
    have hsame : ∀ k, (allL T d (c ++ [k])).length = (allL T d (c ++ [0])).length := fun k => Nat.eq_of_mul_eq_mul_right (hpos (c.length + 1)) ((hall k).trans (hall 0).symm)
    have hsum : ((List.range (evn T c.length T.length + 1)).map fun k => (allL T d (c ++ [k])).length).sum = (evn T c.length T.length + 1) * (allL T d (c ++ [0])).length := by
      rw [List.map_congr_left (g := fun _ => (allL T d (c ++ [0])).length) (fun k _ => hsame k)]
      exact sum_same _ _
    simp only [allL, List.length_flatMap]
    rw [hsum, ← hall 0]
    simp only [pE]
    rw [Nat.mul_comm (evn T c.length T.length + 1), Nat.mul_assoc, Nat.mul_comm (evn T c.length T.length + 1)]
theorem cts_most (T : List (Int × Int)) (P : Nat) : cts T P [] ≤ pE T P := by
  rw [cts_len]
  have h := allL_length T P []
  rw [List.length_nil, Nat.zero_add] at h
  rw [← h]
  simp only [pE, Nat.mul_one]
  exact List.length_filter_le _ _

/-! ### sets that have all that happened before -/
/-- has a set, of events below n, all that happened before any of it? -/
def clS (T : List (Int × Int)) (s : Nat) : Nat → Bool
  | 0 => true
  | k + 1 => clS T s k && (!s.testBit k || subB (bs T k) s)
theorem clS_iff (T : List (Int × Int)) (s n : Nat) : clS T s n = true ↔ ∀ i, i < n → s.testBit i = true → ∀ k, (bs T i).testBit k = true → s.testBit k = true := by
  induction n with
  | zero => simp [clS]
  | succ n ih =>
    simp only [clS, Bool.and_eq_true, Bool.or_eq_true, Bool.not_eq_true', ih, subB_iff]
    constructor
    · rintro ⟨h1, h2⟩ i hi a k
      by_cases e : i = n
      · subst e
        rcases h2 with h2 | h2
        · rw [a] at h2; cases h2
        · exact h2 k
      · exact h1 i (by omega) a k
    · intro h
      refine ⟨fun i hi => h i (by omega), ?_⟩
      cases e : s.testBit n with
      | false => exact .inl rfl
      | true => exact .inr (h n (by omega) e)
/-- how many of each process a set has -/
def cof (T : List (Int × Int)) (s P : Nat) : List Nat := (List.range P).map fun (p : Nat) => cb T.length fun i => pr T i == ((p : Nat) : Int) && s.testBit i
theorem cof_length (T : List (Int × Int)) (s P : Nat) : (cof T s P).length = P := by simp [cof]
theorem cof_row (T : List (Int × Int)) (s : Nat) {P p : Nat} (h : p < P) : row (cof T s P) p = cb T.length fun i => pr T i == (p : Int) && s.testBit i := by simp [row, cof, h]
theorem cof_first {T : List (Int × Int)} {s : Nat} (h : clS T s T.length = true) (p : Nat) :
    cb T.length (fun i => pr T i == (p : Int) && s.testBit i) ≤ evn T p T.length ∧ ∀ j, j < T.length → pr T j = (p : Int) → (s.testBit j = true ↔ nth T j < cb T.length (fun i => pr T i == (p : Int) && s.testBit i)) :=
  first_iff (Q := s.testBit) T.length fun i j h1 h2 e1 e2 hh => (clS_iff T s _).1 h j h2 hh i (bs_must h1 (must_pr (e1.trans e2.symm)))
theorem cof_ok {T : List (Int × Int)} {s P : Nat} (h : clS T s T.length = true) : COk (P : Int) T (cof T s P) :=
  ⟨by rw [cof_length], fun p hp => by rw [cof_length] at hp; rw [cof_row T s hp]; exact (cof_first h p).1⟩
theorem cof_in {T : List (Int × Int)} {s P : Nat} (hk : TOk (P : Int) T) (h : clS T s T.length = true) {j : Nat} (hj : j < T.length) : inC T (cof T s P) j = s.testBit j := by
  obtain ⟨p, hp, hpP⟩ := pr_nat hk hj
  rw [Bool.eq_iff_iff, inC_iff hp, cof_row T s (by omega), (cof_first h p).2 j hj hp]
theorem cof_set {T : List (Int × Int)} {s P : Nat} (hk : TOk (P : Int) T) (hs : s < 2 ^ T.length) (h : clS T s T.length = true) : cset T (cof T s P) T.length = s := by
  apply Nat.eq_of_testBit_eq
  intro j
  rw [cset_bit]
  by_cases hj : j < T.length
  · rw [cof_in hk h hj]; simp [hj]
  · rw [Nat.testBit_lt_two_pow (Nat.lt_of_lt_of_le hs (Nat.pow_le_pow_right (by omega) (by omega : T.length ≤ j)))]
    simp [hj]
theorem cset_cl {P : Int} {T : List (Int × Int)} (hk : TOk P T) {c : List Nat} : clS T (cset T c T.length) T.length = whB T c := by
  rw [Bool.eq_iff_iff, clS_iff, wh_bs hk]
  constructor
  · intro h i hi a k hb
    have := h i hi (by rw [cset_bit, a]; simp [hi]) k hb
    rw [cset_bit, Bool.and_eq_true] at this
    exact this.2
  · intro h i hi a k hb
    rw [cset_bit, Bool.and_eq_true] at *
    have := bs_in T i k hb
    exact ⟨decide_eq_true (by omega), h i hi a.2 k hb⟩
theorem set_cof {P : Nat} {T : List (Int × Int)} {c : List Nat} (hc : COk (P : Int) T c) : cof T (cset T c T.length) P = c := by
  have hl := hc.len
  apply List.ext_getElem
  · rw [cof_length]; omega
  · intro p h1 h2
    have e1 : row (cof T (cset T c T.length) P) p = (cof T (cset T c T.length) P)[p] := by simp [row, h1]
    have e2 : row c p = c[p] := by simp [row, h2]
    rw [← e1, ← e2, cof_row T _ (by omega)]
    have : (cb T.length fun i => pr T i == (p : Int) && (cset T c T.length).testBit i) = cb T.length fun i => pr T i == (p : Int) && decide (nth T i < row c p) := by
      refine cb_congr fun j hj => ?_
      rw [cset_bit, decide_eq_true hj, Bool.true_and]
      cases e : pr T j == (p : Int) with
      | false => rfl
      | true =>
        rw [Bool.true_and, Bool.true_and, Bool.eq_iff_iff, inC_iff (by simpa using e), decide_eq_true_eq]
    rw [this, first_min]
    have := hc.rng p h2
    omega
/-- AS MANY WHOLE CUTS AS SETS THAT HAVE ALL THAT HAPPENED BEFORE -/
theorem cts_sets {P : Nat} {T : List (Int × Int)} (hk : TOk (P : Int) T) : cts T P [] = cb (2 ^ T.length) fun s => clS T s T.length := by
  rw [cts_len, cb_filter]
  have hmem : ∀ c, c ∈ (allL T P []).filter (whB T) ↔ COk (P : Int) T c ∧ whB T c = true := fun c => by
    rw [List.mem_filter, mem_allL]
    constructor
    · rintro ⟨⟨h1, _, h3⟩, h4⟩
      exact ⟨⟨by rw [h1]; simp, fun p hp => h3 p (by simp) hp⟩, h4⟩
    · rintro ⟨h1, h2⟩
      exact ⟨⟨by have := h1.len; simp; omega, fun p hp => by simp at hp, fun p _ hp => h1.rng p hp⟩, h2⟩
  have e : ((allL T P []).filter (whB T)).length = (((allL T P []).filter (whB T)).map fun c => cset T c T.length).length := by rw [List.length_map]
  rw [e]
  refine nodup_len_eq ?_ (List.nodup_range.filter _) (fun s => ?_)
  · have hnd : ((allL T P []).filter (whB T)).Nodup := (allL_nodup T P []).filter _
    rw [List.nodup_iff_pairwise_ne] at *
    rw [List.pairwise_map]
    refine List.Pairwise.imp_of_mem (fun {a b} ha hb hne e => hne ?_) hnd
    rw [← set_cof ((hmem a).1 ha).1, ← set_cof ((hmem b).1 hb).1, e]
  · rw [List.mem_map, List.mem_filter, List.mem_range]
    constructor
    · rintro ⟨c, hc, rfl⟩
      obtain ⟨h1, h2⟩ := (hmem c).1 hc
      exact ⟨cset_lt T c _, by rw [cset_cl hk]; exact h2⟩
    · rintro ⟨h1, h2⟩
      exact ⟨cof T s P, (hmem _).2 ⟨cof_ok h2, by rw [← cset_cl hk, cof_set hk h1 h2]; exact h2⟩, cof_set hk h1 h2⟩
theorem cts_pow {P : Nat} {T : List (Int × Int)} (hk : TOk (P : Int) T) : cts T P [] ≤ 2 ^ T.length := by
  rw [cts_sets hk]; exact cb_le _ _
/-- AT LEAST ONE FOR EACH EVENT, AND ONE -/
theorem cts_least {P : Nat} {T : List (Int × Int)} (hk : TOk (P : Int) T) : T.length + 1 ≤ cts T P [] := by
  rw [cts_sets hk]
  have hnd : ((List.range (T.length + 1)).map fun k => 2 ^ k - 1).Nodup := by
    rw [List.nodup_iff_pairwise_ne, List.pairwise_map]
    have h := (List.nodup_range (n := T.length + 1))
    rw [List.nodup_iff_pairwise_ne] at h
    refine h.imp fun {a b} hne e => hne ?_
    have h1 := Nat.two_pow_pos a
    have h2 := Nat.two_pow_pos b
    exact (Nat.pow_right_inj (by omega : 1 < 2)).1 (show 2 ^ a = 2 ^ b by omega)
  have := cb_ge_list (n := 2 ^ T.length) (p := fun s => clS T s T.length) hnd (fun x hx => by
    obtain ⟨k, hk2, rfl⟩ := List.mem_map.1 hx
    rw [List.mem_range] at hk2
    have hp := Nat.pow_le_pow_right (show 0 < 2 by omega) (show k ≤ T.length by omega)
    have h0 := Nat.two_pow_pos k
    refine ⟨by omega, (clS_iff T _ _).2 fun i hi a m hb => ?_⟩
    rw [Nat.testBit_two_pow_sub_one, decide_eq_true_eq] at *
    have := bs_in T i m hb
    omega)
  simpa using this
end Go.Proofs.YtkojkiggdbffhaaDoor.M
namespace Go.Proofs.YtkojkiggdbffhaaDoor.M

/-- of each event those behind it: of the first i events, and of event i those below k -/
def rq (T : List (Int × Int)) (n i k : Nat) : List Nat := (List.range n).map fun j => cnt01 (i + 1) fun e => (bs T e).testBit j && (decide (e < i) || decide (j < k))
theorem rq_length (T : List (Int × Int)) (n i k : Nat) : (rq T n i k).length = n := by simp [rq]
theorem rq_row (T : List (Int × Int)) {n i k j : Nat} (h : j < n) : row (rq T n i k) j = cnt01 (i + 1) fun e => (bs T e).testBit j && (decide (e < i) || decide (j < k)) := by simp [row, rq, h]
theorem rq_bit (T : List (Int × Int)) (n i k j e : Nat) : (row (rq T n i k) j).testBit e = true ↔ j < n ∧ (bs T e).testBit j = true ∧ (e < i ∨ (e = i ∧ j < k)) := by
  by_cases h : j < n
  · rw [rq_row T h, cnt01_bit]
    simp only [Bool.and_eq_true, Bool.or_eq_true, decide_eq_true_eq]
    constructor
    · rintro ⟨h1, h2, h3⟩
      refine ⟨h, h2, ?_⟩
      rcases h3 with h3 | h3
      · exact .inl h3
      · by_cases e2 : e < i
        · exact .inl e2
        · exact .inr ⟨by omega, h3⟩
    · rintro ⟨_, h2, h3⟩
      refine ⟨by omega, h2, ?_⟩
      rcases h3 with h3 | h3
      · exact .inl h3
      · exact .inr h3.2
  · rw [row_out _ _ (by rw [rq_length]; omega)]
    simp only [Nat.zero_testBit, Bool.false_eq_true, false_iff]
    exact fun hh => h hh.1
theorem rq_start (T : List (Int × Int)) (n : Nat) : rq T n 0 0 = List.replicate n 0 := by
  apply ext_rows
  · simp [rq_length]
  · intro j hj e
    rw [Bool.eq_iff_iff, rq_bit, row_replicate]
    simp
theorem rq_next (T : List (Int × Int)) (n i : Nat) : rq T n i i = rq T n (i + 1) 0 := by
  apply ext_rows
  · rw [rq_length, rq_length]
  · intro j hj e
    rw [Bool.eq_iff_iff, rq_bit, rq_bit]
    constructor
    · rintro ⟨h1, h2, h3⟩
      exact ⟨h1, h2, .inl (by omega)⟩
    · rintro ⟨h1, h2, h3⟩
      have := bs_in T e j h2
      refine ⟨h1, h2, ?_⟩
      by_cases e2 : e < i
      · exact .inl e2
      · exact .inr ⟨by omega, by omega⟩
theorem rq_hit {T : List (Int × Int)} {n i k : Nat} (hk : k < n) (h : (bs T i).testBit k = true) : (rq T n i k).set k (row (rq T n i k) k ||| 1 <<< i) = rq T n i (k + 1) := by
  apply ext_rows
  · simp [rq_length]
  · intro j hj e
    rw [Bool.eq_iff_iff, row_set, rq_bit]
    rw [List.length_set, rq_length] at hj
    by_cases e1 : k = j
    · subst e1
      rw [if_pos ⟨rfl, by rw [rq_length]; exact hk⟩, Nat.testBit_or, Bool.or_eq_true, rq_bit, Nat.shiftLeft_eq, Nat.one_mul, Nat.testBit_two_pow]
      simp only [decide_eq_true_eq]
      constructor
      · rintro (⟨h1, h2, h3⟩ | h1)
        · exact ⟨h1, h2, by omega⟩
        · subst h1; exact ⟨hk, h, .inr ⟨rfl, by omega⟩⟩
      · rintro ⟨h1, h2, h3⟩
        by_cases e2 : e < i
        · exact .inl ⟨h1, h2, .inl e2⟩
        · exact .inr (by omega)
    · rw [if_neg (fun hh => e1 hh.1), rq_bit]
      constructor
      · rintro ⟨h1, h2, h3⟩; exact ⟨h1, h2, by omega⟩
      · rintro ⟨h1, h2, h3⟩; exact ⟨h1, h2, by omega⟩
theorem rq_miss {T : List (Int × Int)} {n i k : Nat} (h : (bs T i).testBit k = false) : rq T n i k = rq T n i (k + 1) := by
  apply ext_rows
  · rw [rq_length, rq_length]
  · intro j hj e
    rw [Bool.eq_iff_iff, rq_bit, rq_bit]
    constructor
    · rintro ⟨h1, h2, h3⟩; exact ⟨h1, h2, by omega⟩
    · rintro ⟨h1, h2, h3⟩
      refine ⟨h1, h2, ?_⟩
      by_cases e2 : e < i
      · exact .inl e2
      · by_cases e3 : j = k
        · subst e3
          obtain rfl : e = i := by omega
          rw [h] at h2; cases h2
        · omega
/-- the order -/
def ro (T : List (Int × Int)) : List Nat := rq T T.length T.length 0
theorem ro_length (T : List (Int × Int)) : (ro T).length = T.length := rq_length _ _ _ _
theorem ro_bit (T : List (Int × Int)) (j i : Nat) : (row (ro T) j).testBit i = true ↔ i < T.length ∧ (bs T i).testBit j = true := by
  unfold ro
  rw [rq_bit]
  constructor
  · rintro ⟨_, h2, h3⟩; exact ⟨by omega, h2⟩
  · rintro ⟨h1, h2⟩
    have := bs_in T i j h2
    exact ⟨by omega, h2, .inl h1⟩
theorem ro_ok (T : List (Int × Int)) : Ok (ro T) := fun j => by
  rw [ro_length]
  apply Nat.lt_pow_two_of_testBit
  intro i hi
  cases e : (row (ro T) j).testBit i with
  | false => rfl
  | true => have := ((ro_bit T j i).1 e).1; omega
theorem ro_clo (T : List (Int × Int)) (i j : Nat) : Clo (ro T) i j ↔ (row (ro T) i).testBit j = true :=
  clo_of_closed (fun i j k h1 h2 => by
    rw [ro_bit] at *
    exact ⟨h2.1, bs_trans T k j i h2.2 h1.2⟩) i j
theorem clo_ro (T : List (Int × Int)) : clo (ro T) = ro T := by
  apply ext_rows (clo_length _)
  intro i _ j
  rw [Bool.eq_iff_iff, clo_bit, ro_clo]
theorem ro_ring (T : List (Int × Int)) : ¬ Ring (ro T) := fun ⟨i, h⟩ => by
  rw [ro_clo, ro_bit] at h
  have := bs_in T i i h.2
  omega
theorem turned_ro (T : List (Int × Int)) : turned (ro T) = before T := by
  apply ext_rows
  · rw [turned_length, ro_length, before_length]
  · intro i hi j
    rw [turned_length, ro_length] at hi
    rw [Bool.eq_iff_iff, turned_bit (ro_ok T), ro_clo, ro_bit, before_row T hi]
    exact ⟨fun h => h.2, fun h => ⟨hi, h⟩⟩
theorem before_bit (T : List (Int × Int)) (i j : Nat) : (row (before T) i).testBit j = true ↔ i < T.length ∧ (bs T i).testBit j = true := by
  by_cases hi : i < T.length
  · rw [before_row T hi]; exact ⟨fun h => ⟨hi, h⟩, fun h => h.2⟩
  · rw [row_out _ _ (by rw [before_length]; omega)]
    simp only [Nat.zero_testBit, Bool.false_eq_true, false_iff]
    exact fun h => hi h.1
theorem before_tr (T : List (Int × Int)) : Tr (before T) := by
  constructor
  · intro i
    cases e : (row (before T) i).testBit i with
    | false => rfl
    | true =>
      have := bs_in T i i ((before_bit T i i).1 e).2
      omega
  · intro i j k h1 h2
    rw [before_bit] at *
    exact ⟨h1.1, bs_trans T i j k h1.2 h2.2⟩
theorem before_ok' (T : List (Int × Int)) : Ok (before T) := by rw [← turned_ro]; exact turned_ok _
/-- ITS RANKS ARE THE PLAIN CLOCKS, LESS ONE -/
theorem ranks_ck {T : List (Int × Int)} (hn : T.length ≤ 12) (i : Nat) : i < T.length → row (ranks (before T)) i + 1 = ck T i := by
  induction i using Nat.strongRecOn with
  | _ i ih =>
    intro hi
    have hl : (before T).length = T.length := before_length T
    have hb := before_ok' T
    have ht := before_tr T
    apply Nat.le_antisymm
    · rcases ranks_step hb (by omega) ht i (by omega) with e | ⟨j, h1, h2, h3⟩
      · have := ck_pos T i; omega
      · have h4 := (before_bit T i j).1 h2
        have h5 := ih j (bs_in T i j h4.2) (by omega)
        have := ck_lt h4.2
        omega
    · rcases ck_step T i with ⟨e, _⟩ | ⟨j, h1, h2, h3⟩
      · omega
      · have h5 := ih j h1 (by omega)
        have := ranks_less hb (by omega) ht ((before_bit T i j).2 ⟨hi, h2⟩)
        omega
/-- IT IS NO WIDER THAN THERE ARE PROCESSES -/
theorem wide_ro {P : Nat} {T : List (Int × Int)} (hk : TOk (P : Int) T) (hn : T.length ≤ 12) : pc (widest (ro T)) ≤ P := by
  have hw := widest_is (ro T)
  have hlt := hw.lt
  rw [ro_length] at hlt
  rw [pc_cnt hn hlt, cb_cnt]
  refine pigeon_all (f := fun i => (pr T i).toNat) (fun i hi _ => ?_) (fun i j hi hj ha hb e => ?_)
  · have h0 := hk.pr0 i hi
    have h1 := hk.prP i hi
    show (pr T i).toNat < P
    omega
  · have e' : pr T i = pr T j := by
      have h0 := hk.pr0 i hi
      have h1 := hk.pr0 j hj
      have : (pr T i).toNat = (pr T j).toNat := e
      omega
    have hno : ∀ a b, a < b → b < T.length → pr T a = pr T b → (widest (ro T)).testBit a = true → (widest (ro T)).testBit b = true → False := fun a b h1 h2 h3 h4 h5 => by
      have hs := (and_zero_iff _ _).1 (side_iff.1 hw.ok a (by omega) h4) b ((ro_bit T a b).2 ⟨h2, bs_must h1 (must_pr h3)⟩)
      rw [h5] at hs; cases hs
    rcases Nat.lt_trichotomy i j with h | h | h
    · exact (hno i j h hj e' ha hb).elim
    · exact h
    · exact (hno j i h hi e'.symm hb ha).elim
/-- ITS CLOSED SETS ARE THE WHOLE CUTS -/
theorem downs_ro {P : Nat} {T : List (Int × Int)} (hk : TOk (P : Int) T) : downs (turned (ro T)) = cts T P [] := by
  rw [turned_ro, cts_sets hk]
  unfold downs
  rw [before_length]
  refine cb_congr fun s hs => ?_
  rw [Bool.eq_iff_iff, closB_iff, clS_iff]
  constructor
  · intro h i hi a k hb
    exact h i k a ((before_bit T i k).2 ⟨hi, hb⟩)
  · intro h i j a hb
    rw [before_bit] at hb
    exact h i hb.1 a j hb.2
end Go.Proofs.YtkojkiggdbffhaaDoor.M
namespace Go.Proofs.YtkojkiggdbffhaaDoor.M

/-- a list whose things rise is told by what is in it -/
theorem rising_one {lt : Nat → Nat → Prop} (asym : ∀ a b, lt a b → ¬ lt b a) : ∀ (l m : List Nat), l.Pairwise lt → m.Pairwise lt → (∀ x, x ∈ l ↔ x ∈ m) → l = m
  | [], [], _, _, _ => rfl
  | [], b :: m, _, _, h => absurd ((h b).2 (by simp)) (by simp)
  | a :: l, [], _, _, h => absurd ((h a).1 (by simp)) (by simp)
  | a :: l, b :: m, h1, h2, h => by
    rw [List.pairwise_cons] at h1 h2
    have e : a = b := by
      have ha := (h a).1 (by simp)
      have hb := (h b).2 (by simp)
      rw [List.mem_cons] at ha hb
      rcases ha with ha | ha
      · exact ha
      · rcases hb with hb | hb
        · exact hb.symm
        · exact absurd (h1.1 b hb) (asym _ _ (h2.1 a ha))
    subst e
    rw [rising_one asym l m h1.2 h2.2 fun x => ?_]
    have hx := h x
    rw [List.mem_cons, List.mem_cons] at hx
    constructor
    · intro hl
      rcases hx.1 (.inr hl) with rfl | h3
      · have := h1.1 x hl; exact absurd this (asym _ _ this)
      · exact h3
    · intro hm
      rcases hx.2 (.inr hm) with rfl | h3
      · have := h2.1 x hm; exact absurd this (asym _ _ this)
      · exact h3

/-- event i stands ahead of event j in the row -/
def kl (T : List (Int × Int)) (i j : Nat) : Prop := ck T i < ck T j ∨ (ck T i = ck T j ∧ pr T i < pr T j)
theorem kl_asym (T : List (Int × Int)) (a b : Nat) (h : kl T a b) : ¬ kl T b a := by unfold kl at *; omega
theorem kl_total {T : List (Int × Int)} {a b : Nat} (h : a ≠ b) : kl T a b ∨ kl T b a := by
  unfold kl
  by_cases e : ck T a = ck T b
  · by_cases e2 : pr T a = pr T b
    · exact absurd e (ck_apart h e2)
    · omega
  · omega
theorem kl_before {T : List (Int × Int)} {i j : Nat} (h : (bs T i).testBit j = true) : kl T j i := .inl (ck_lt h)
/-- L is the row of n events -/
structure IsRw (T : List (Int × Int)) (n : Nat) (L : List Nat) : Prop where
  mem : ∀ x, x ∈ L ↔ x < n
  up : L.Pairwise (kl T)
theorem IsRw.one {T : List (Int × Int)} {n : Nat} {L M : List Nat} (h : IsRw T n L) (h2 : IsRw T n M) : L = M :=
  rising_one (kl_asym T) L M h.up h2.up fun x => (h.mem x).trans (h2.mem x).symm
theorem IsRw.nodup {T : List (Int × Int)} {n : Nat} {L : List Nat} (h : IsRw T n L) : L.Nodup := h.up.imp fun {a b} h e => by subst e; exact kl_asym T a a h h
/-- what stands at place k, and at places below it -/
theorem IsRw.at {T : List (Int × Int)} {n : Nat} {L : List Nat} (h : IsRw T n L) {k : Nat} (hk : k < L.length) : row L k < n ∧ row L k ∉ L.take k ∧ ∀ j, (bs T (row L k)).testBit j = true → j ∈ L.take k := by
  have e : row L k = L[k] := by unfold row; simp [hk]
  rw [e]
  refine ⟨(h.mem _).1 (List.getElem_mem hk), fun hm => ?_, fun j hj => ?_⟩
  · obtain ⟨m, hm1, hm2⟩ := List.getElem_of_mem hm
    have hmk : m < k := by rw [List.length_take] at hm1; omega
    rw [List.getElem_take] at hm2
    have := List.pairwise_iff_getElem.1 h.up m k (by omega) hk hmk
    rw [hm2] at this
    exact kl_asym T _ _ this this
  · have h1 : j < n := by
      have := bs_in T _ j hj
      have := (h.mem _).1 (List.getElem_mem hk)
      omega
    obtain ⟨m, hm1, hm2⟩ := List.getElem_of_mem ((h.mem j).2 h1)
    have hb := kl_before hj
    rcases Nat.lt_trichotomy m k with h2 | h2 | h2
    · rw [List.mem_iff_getElem]
      exact ⟨m, by rw [List.length_take]; omega, by rw [List.getElem_take]; exact hm2⟩
    · subst h2
      rw [hm2] at hb
      exact absurd hb (kl_asym T _ _ hb)
    · have := List.pairwise_iff_getElem.1 h.up k m hk hm1 h2
      rw [hm2] at this
      exact absurd hb (kl_asym T _ _ this)
theorem IsRw.length {T : List (Int × Int)} {n : Nat} {L : List Nat} (h : IsRw T n L) : L.length = n := by
  have h1 : (List.range n).Nodup := List.nodup_range
  have h2 : L.Perm (List.range n) := (List.perm_ext_iff_of_nodup h.nodup h1).2 fun x => by rw [h.mem, List.mem_range]
  have := h2.length_eq
  rw [List.length_range] at this
  exact this
/-- the set of what is in a list -/
def orL : List Nat → Nat
  | [] => 0
  | x :: l => orL l ||| 1 <<< x
theorem orL_bit (l : List Nat) (k : Nat) : (orL l).testBit k = true ↔ k ∈ l := by
  induction l with
  | nil => simp [orL]
  | cons x l ih =>
    simp only [orL]
    rw [Nat.testBit_or, Bool.or_eq_true, ih, Nat.shiftLeft_eq, Nat.one_mul, Nat.testBit_two_pow, decide_eq_true_eq, List.mem_cons]
    exact ⟨fun h => h.elim .inr (fun h => .inl h.symm), fun h => h.elim (fun h => .inr h.symm) .inl⟩
/-- the set of the first k -/
def tk (L : List Nat) (k : Nat) : Nat := orL (L.take k)
theorem tk_bit (L : List Nat) (k j : Nat) : (tk L k).testBit j = true ↔ j ∈ L.take k := orL_bit _ _
theorem tk_succ {L : List Nat} {k : Nat} (h : k < L.length) : tk L (k + 1) = tk L k ||| 1 <<< row L k := by
  have e : row L k = L[k] := by unfold row; simp [h]
  apply Nat.eq_of_testBit_eq
  intro j
  rw [Bool.eq_iff_iff, tk_bit, Nat.testBit_or, Bool.or_eq_true, tk_bit, Nat.shiftLeft_eq, Nat.one_mul, Nat.testBit_two_pow, decide_eq_true_eq, e]
  rw [List.take_add_one, List.getElem?_eq_getElem h, List.mem_append]
  simp only [Option.toList_some, List.mem_singleton]
  exact ⟨fun h => h.elim .inl (fun h => .inr h.symm), fun h => h.elim .inl (fun h => .inr h.symm)⟩
theorem tk_lt {T : List (Int × Int)} {n : Nat} {L : List Nat} (h : IsRw T n L) (k : Nat) : tk L k < 2 ^ n := by
  apply Nat.lt_pow_two_of_testBit
  intro j hj
  cases e : (tk L k).testBit j with
  | false => rfl
  | true =>
    have h1 := (tk_bit L k j).1 e
    have := (h.mem j).1 (List.mem_of_mem_take h1)
    omega

/-! ### the document's row -/
/-- of clock c at process p, below i -/
def ri (T : List (Int × Int)) (c : Nat) (p : Int) : Nat → List Nat
  | 0 => []
  | i + 1 => if ck T i = c ∧ pr T i = p then ri T c p i ++ [i] else ri T c p i
/-- of clock c at processes below p -/
def rp (T : List (Int × Int)) (c m : Nat) : Nat → List Nat
  | 0 => []
  | p + 1 => rp T c m p ++ ri T c (p : Int) m
/-- of clocks up to c -/
def rc (T : List (Int × Int)) (m P : Nat) : Nat → List Nat
  | 0 => []
  | c + 1 => rc T m P c ++ rp T (c + 1) m P
theorem ri_mem (T : List (Int × Int)) (c : Nat) (p : Int) (i x : Nat) : x ∈ ri T c p i ↔ x < i ∧ ck T x = c ∧ pr T x = p := by
  induction i with
  | zero => simp [ri]
  | succ i ih =>
    simp only [ri]
    by_cases h : ck T i = c ∧ pr T i = p
    · rw [if_pos h, List.mem_append, ih, List.mem_singleton]
      constructor
      · rintro (⟨a, b⟩ | rfl)
        · exact ⟨by omega, b⟩
        · exact ⟨by omega, h⟩
      · rintro ⟨a, b⟩
        by_cases e : x = i
        · exact .inr e
        · exact .inl ⟨by omega, b⟩
    · rw [if_neg h, ih]
      constructor
      · rintro ⟨a, b⟩; exact ⟨by omega, b⟩
      · rintro ⟨a, b⟩
        by_cases e : x = i
        · subst e; exact absurd b h
        · exact ⟨by omega, b⟩
theorem ri_up (T : List (Int × Int)) (c : Nat) (p : Int) (i : Nat) : (ri T c p i).Pairwise (kl T) := by
  induction i with
  | zero => simp [ri]
  | succ i ih =>
    simp only [ri]
    by_cases h : ck T i = c ∧ pr T i = p
    · rw [if_pos h, List.pairwise_append]
      refine ⟨ih, by simp, fun a ha b hb => ?_⟩
      rw [List.mem_singleton] at hb
      subst hb
      have := (ri_mem T c p b a).1 ha
      exact absurd (this.2.1.trans h.1.symm) (ck_apart (by omega) (this.2.2.trans h.2.symm))
    · rw [if_neg h]; exact ih
theorem rp_mem (T : List (Int × Int)) (c m p x : Nat) : x ∈ rp T c m p ↔ x < m ∧ ck T x = c ∧ 0 ≤ pr T x ∧ pr T x < p := by
  induction p with
  | zero => simp [rp]
  | succ p ih => simp only [rp]; rw [List.mem_append, ih, ri_mem]; omega
theorem rp_up (T : List (Int × Int)) (c m p : Nat) : (rp T c m p).Pairwise (kl T) := by
  induction p with
  | zero => simp [rp]
  | succ p ih =>
    simp only [rp]
    rw [List.pairwise_append]
    refine ⟨ih, ri_up T c p m, fun a ha b hb => ?_⟩
    have h1 := (rp_mem T c m p a).1 ha
    have h2 := (ri_mem T c p m b).1 hb
    exact .inr ⟨by omega, by omega⟩
theorem rc_mem (T : List (Int × Int)) (m P c x : Nat) : x ∈ rc T m P c ↔ x < m ∧ 1 ≤ ck T x ∧ ck T x ≤ c ∧ 0 ≤ pr T x ∧ pr T x < P := by
  induction c with
  | zero => simp [rc]; omega
  | succ c ih => simp only [rc]; rw [List.mem_append, ih, rp_mem]; omega
theorem rc_up (T : List (Int × Int)) (m P c : Nat) : (rc T m P c).Pairwise (kl T) := by
  induction c with
  | zero => simp [rc]
  | succ c ih =>
    simp only [rc]
    rw [List.pairwise_append]
    refine ⟨ih, rp_up T (c + 1) m P, fun a ha b hb => ?_⟩
    have h1 := (rc_mem T m P c a).1 ha
    have h2 := (rp_mem T (c + 1) m P b).1 hb
    exact .inl (by omega)
theorem rc_is {P : Nat} {T : List (Int × Int)} (h : TOk (P : Int) T) : IsRw T T.length (rc T T.length P T.length) :=
  ⟨fun x => by
    rw [rc_mem]
    refine ⟨fun h => h.1, fun hx => ⟨hx, ck_pos T x, by have := ck_le T x; omega, h.pr0 x hx, h.prP x hx⟩⟩, rc_up T _ _ _⟩
end Go.Proofs.YtkojkiggdbffhaaDoor.M
namespace Go.Proofs.YtkojkiggdbffhaaDoor.M

/-! ### the greatest, from a number on -/
/-- the greatest of s and of f at the members of x below m -/
def mxf (x : Nat) (f : Nat → Nat) (s : Nat) : Nat → Nat
  | 0 => s
  | j + 1 => if x.testBit j = true ∧ mxf x f s j < f j then f j else mxf x f s j
theorem mxf_ge (x : Nat) (f : Nat → Nat) (s m : Nat) : s ≤ mxf x f s m := by
  induction m with
  | zero => exact Nat.le_refl _
  | succ m ih => simp only [mxf]; split <;> omega
theorem mxf_le {x : Nat} {f : Nat → Nat} {s m j : Nat} (hj : j < m) (h : x.testBit j = true) : f j ≤ mxf x f s m := by
  induction m with
  | zero => omega
  | succ m ih =>
    simp only [mxf]
    by_cases e : j = m
    · subst e
      split
      · exact Nat.le_refl _
      · rename_i h2
        have : ¬ mxf x f s j < f j := fun h3 => h2 ⟨h, h3⟩
        omega
    · have := ih (by omega)
      split <;> omega
theorem mxf_at (x : Nat) (f : Nat → Nat) (s m : Nat) : mxf x f s m = s ∨ ∃ j, j < m ∧ x.testBit j = true ∧ mxf x f s m = f j := by
  induction m with
  | zero => exact .inl rfl
  | succ m ih =>
    simp only [mxf]
    split
    · rename_i h; exact .inr ⟨m, by omega, h.1, rfl⟩
    · rcases ih with h | ⟨j, a, b, c⟩
      · exact .inl h
      · exact .inr ⟨j, by omega, b, c⟩
theorem mxf_one {x : Nat} {f : Nat → Nat} {s m c : Nat} (h0 : s ≤ c) (h1 : ∀ j, j < m → x.testBit j = true → f j ≤ c) (h2 : c = s ∨ ∃ j, j < m ∧ x.testBit j = true ∧ c ≤ f j) : mxf x f s m = c := by
  have ha : mxf x f s m ≤ c := by
    rcases mxf_at x f s m with e | ⟨j, a, b, e⟩
    · omega
    · rw [e]; exact h1 j a b
  have hb : c ≤ mxf x f s m := by
    rcases h2 with e | ⟨j, a, b, e⟩
    · have := mxf_ge x f s m; omega
    · have := mxf_le (s := s) (f := f) a b; omega
  omega

/-! ### Time -/
/-- the Time of event i: t tells the times -/
def hT (T : List (Int × Int)) (t : Nat → Nat) (i : Nat) : Nat := mxf (bs T i) t (t i) i
theorem hT_own (T : List (Int × Int)) (t : Nat → Nat) (i : Nat) : t i ≤ hT T t i := mxf_ge _ _ _ _
theorem hT_bs {T : List (Int × Int)} {t : Nat → Nat} {i j : Nat} (h : (bs T i).testBit j = true) : t j ≤ hT T t i := mxf_le (bs_in T i j h) h
theorem hT_at (T : List (Int × Int)) (t : Nat → Nat) (i : Nat) : hT T t i = t i ∨ ∃ j, (bs T i).testBit j = true ∧ hT T t i = t j := by
  rcases mxf_at (bs T i) t (t i) i with h | ⟨j, _, b, c⟩
  · exact .inl h
  · exact .inr ⟨j, b, c⟩
theorem hT_le {T : List (Int × Int)} {t : Nat → Nat} {i j : Nat} (h : (bs T i).testBit j = true) : hT T t j ≤ hT T t i := by
  rcases hT_at T t j with e | ⟨k, b, e⟩
  · rw [e]; exact hT_bs h
  · rw [e]; exact hT_bs (bs_trans T i j k h b)
/-- the two behind which an event stands: the one ahead of it at its process, and the one of which it heard -/
def imm (T : List (Int × Int)) (j i : Nat) : Bool := fm T i == (j : Int) || (pr T j == pr T i && nth T j + 1 == nth T i)
theorem cb_pred {p : Nat → Bool} {i : Nat} (h : 0 < cb i p) : ∃ a, a < i ∧ p a = true ∧ ∀ k, a < k → k < i → p k = false := by
  induction i with
  | zero => simp [cb] at h
  | succ i ih =>
    cases e : p i with
    | true => exact ⟨i, by omega, e, fun k h1 h2 => by omega⟩
    | false =>
      rw [cb_at e] at h
      obtain ⟨a, h1, h2, h3⟩ := ih (by simpa using h)
      refine ⟨a, by omega, h2, fun k h4 h5 => ?_⟩
      by_cases hk : k = i
      · subst hk; exact e
      · exact h3 k h4 (by omega)
theorem cb_gap {p : Nat → Bool} {a i : Nat} (ha : a < i) (hp : p a = true) (h : ∀ k, a < k → k < i → p k = false) : cb i p = cb a p + 1 := by
  induction i with
  | zero => omega
  | succ i ih =>
    by_cases e : a = i
    · subst e; rw [cb_at hp]; rfl
    · rw [cb_at (h i (by omega) (by omega)), ih (by omega) (fun k h1 h2 => h k h1 (by omega))]; rfl
/-- what is told ahead at its process stands just ahead, or before the one that does -/
theorem pr_imm {T : List (Int × Int)} {m i : Nat} (hm : m < i) (e : pr T m = pr T i) : ∃ a, a < i ∧ pr T a = pr T i ∧ nth T a + 1 = nth T i ∧ m ≤ a := by
  have h0 : 0 < cb i fun j => pr T j == pr T i := by
    have h1 := cb_more (show m + 1 ≤ i by omega) (fun j => pr T j == pr T i)
    rw [cb_at (n := m) (b := true) (by simp [e])] at h1
    simp at h1; omega
  obtain ⟨a, h1, h2, h3⟩ := cb_pred h0
  have hpa : pr T a = pr T i := by simpa using h2
  refine ⟨a, h1, hpa, ?_, ?_⟩
  · have := cb_gap h1 h2 h3
    unfold nth
    rw [this, hpa]
  · rcases Nat.lt_or_ge a m with h4 | h4
    · have := h3 m h4 hm
      rw [e] at this
      simp at this
    · exact h4
theorem imm_lt {P : Int} {T : List (Int × Int)} (hk : TOk P T) {j i : Nat} (hi : i < T.length) (h : imm T j i = true) : j < i := by
  unfold imm at h
  simp only [Bool.or_eq_true, Bool.and_eq_true, beq_iff_eq] at h
  rcases h with h | ⟨h1, h2⟩
  · have := hk.fmI i hi; omega
  · rcases Nat.lt_trichotomy j i with h3 | h3 | h3
    · exact h3
    · subst h3; omega
    · have := nth_lt h3 h1.symm; omega
theorem imm_bs {P : Int} {T : List (Int × Int)} (hk : TOk P T) {j i : Nat} (hi : i < T.length) (h : imm T j i = true) : (bs T i).testBit j = true := by
  have hj := imm_lt hk hi h
  refine bs_must hj ?_
  unfold imm at h
  unfold mustB
  simp only [Bool.or_eq_true, Bool.and_eq_true, beq_iff_eq] at h ⊢
  rcases h with h | h
  · exact .inr h
  · exact .inl h.1
/-- all that happened before is one of the two, or before one of them -/
theorem bs_imm (T : List (Int × Int)) (i k : Nat) (h : (bs T i).testBit k = true) : ∃ a, a < i ∧ imm T a i = true ∧ (k = a ∨ (bs T a).testBit k = true) := by
  obtain ⟨m, h1, h2, h3⟩ := (bs_bit T i k).1 h
  unfold mustB at h2
  simp only [Bool.or_eq_true, beq_iff_eq] at h2
  rcases h2 with h2 | h2
  · obtain ⟨a, a1, a2, a3, a4⟩ := pr_imm h1 h2
    refine ⟨a, a1, by unfold imm; simp [a2, a3], ?_⟩
    by_cases e : m = a
    · subst e; exact h3
    · have hb : (bs T a).testBit m = true := bs_must (by omega) (by unfold mustB; rw [h2, a2]; simp)
      rcases h3 with rfl | h3
      · exact .inr hb
      · exact .inr (bs_trans T a m k hb h3)
  · exact ⟨m, h1, by unfold imm; simp [h2], h3⟩

/-! ### Count -/
/-- one more than the greatest Count of those of the two that have this Time, of those below m -/
def hcn (T : List (Int × Int)) (t : Nat → Nat) (f : Nat → Nat) (i : Nat) : Nat → Nat
  | 0 => 0
  | j + 1 => if imm T j i = true ∧ hT T t j = hT T t i ∧ hcn T t f i j < f j + 1 then f j + 1 else hcn T t f i j
theorem hcn_congr {T : List (Int × Int)} {t f g : Nat → Nat} {i m : Nat} (h : ∀ j, j < m → f j = g j) : hcn T t f i m = hcn T t g i m := by
  induction m with
  | zero => rfl
  | succ m ih => simp only [hcn]; rw [ih (fun j hj => h j (by omega)), h m (by omega)]
theorem hcn_le {T : List (Int × Int)} {t f : Nat → Nat} {i m j : Nat} (hj : j < m) (h1 : imm T j i = true) (h2 : hT T t j = hT T t i) : f j < hcn T t f i m := by
  induction m with
  | zero => omega
  | succ m ih =>
    simp only [hcn]
    by_cases e : j = m
    · subst e
      split
      · omega
      · rename_i h3
        have : ¬ hcn T t f i j < f j + 1 := fun h4 => h3 ⟨h1, h2, h4⟩
        omega
    · have := ih (by omega)
      split <;> omega
theorem hcn_at (T : List (Int × Int)) (t f : Nat → Nat) (i m : Nat) : hcn T t f i m = 0 ∨ ∃ j, j < m ∧ imm T j i = true ∧ hT T t j = hT T t i ∧ hcn T t f i m = f j + 1 := by
  induction m with
  | zero => exact .inl rfl
  | succ m ih =>
    simp only [hcn]
    split
    · rename_i h; exact .inr ⟨m, by omega, h.1, h.2.1, rfl⟩
    · rcases ih with h | ⟨j, a, b⟩
      · exact .inl h
      · exact .inr ⟨j, by omega, b⟩
def hcs (T : List (Int × Int)) (t : Nat → Nat) : Nat → List Nat
  | 0 => []
  | i + 1 => hcs T t i ++ [hcn T t (row (hcs T t i)) i i]
/-- the Count of event i -/
def hC (T : List (Int × Int)) (t : Nat → Nat) (i : Nat) : Nat := hcn T t (row (hcs T t i)) i i
theorem hcs_length (T : List (Int × Int)) (t : Nat → Nat) (k : Nat) : (hcs T t k).length = k := by
  induction k with
  | zero => rfl
  | succ k ih => simp [hcs, ih]
theorem hcs_row (T : List (Int × Int)) (t : Nat → Nat) {k i : Nat} (h : i < k) : row (hcs T t k) i = hC T t i := by
  induction k with
  | zero => omega
  | succ k ih =>
    unfold row
    simp only [hcs]
    by_cases e : i = k
    · subst e
      rw [List.getElem?_append_right (by rw [hcs_length]; omega), hcs_length]
      simp [hC]
    · rw [List.getElem?_append_left (by rw [hcs_length]; omega)]
      exact ih (by omega)
theorem hC_eq (T : List (Int × Int)) (t : Nat → Nat) (i : Nat) : hC T t i = hcn T t (hC T t) i i := hcn_congr fun _ hj => hcs_row T t hj
theorem hC_lt {T : List (Int × Int)} {t : Nat → Nat} {j i : Nat} (hj : j < i) (h1 : imm T j i = true) (h2 : hT T t j = hT T t i) : hC T t j < hC T t i := by
  rw [hC_eq T t i]; exact hcn_le hj h1 h2
theorem hC_at (T : List (Int × Int)) (t : Nat → Nat) (i : Nat) : hC T t i = 0 ∨ ∃ j, j < i ∧ imm T j i = true ∧ hT T t j = hT T t i ∧ hC T t i = hC T t j + 1 := by
  have := hcn_at T t (hC T t) i i
  rw [← hC_eq] at this; exact this
/-- what decides a Count -/
theorem hC_one {T : List (Int × Int)} {t : Nat → Nat} {i c : Nat} (h0 : ∀ j, j < i → imm T j i = true → hT T t j = hT T t i → hC T t j < c) (h1 : c = 0 ∨ ∃ j, j < i ∧ imm T j i = true ∧ hT T t j = hT T t i ∧ c ≤ hC T t j + 1) : hC T t i = c := by
  have ha : hC T t i ≤ c := by
    rcases hC_at T t i with e | ⟨j, a, b, d, e⟩
    · omega
    · have := h0 j a b d; omega
  have hb : c ≤ hC T t i := by
    rcases h1 with e | ⟨j, a, b, d, e⟩
    · omega
    · have := hC_lt a b d; omega
  omega

/-! ### the laws -/
/-- one stamp is less than another one -/
def hL (T : List (Int × Int)) (t : Nat → Nat) (j i : Nat) : Prop := hT T t j < hT T t i ∨ (hT T t j = hT T t i ∧ hC T t j < hC T t i)
theorem hL_trans {T : List (Int × Int)} {t : Nat → Nat} {a b c : Nat} (h1 : hL T t a b) (h2 : hL T t b c) : hL T t a c := by unfold hL at *; omega
/-- WHO IS BEFORE IS LESS -/
theorem hyb_before {P : Int} {T : List (Int × Int)} (hk : TOk P T) (t : Nat → Nat) (i : Nat) : i < T.length → ∀ j, (bs T i).testBit j = true → hL T t j i := by
  induction i using Nat.strongRecOn with
  | _ i ih =>
    intro hi j h
    obtain ⟨a, h1, h2, h3⟩ := bs_imm T i j h
    have ha : hL T t a i := by
      have hle := hT_le (t := t) (imm_bs hk hi h2)
      by_cases e : hT T t a = hT T t i
      · exact .inr ⟨e, hC_lt h1 h2 e⟩
      · exact .inl (by omega)
    rcases h3 with rfl | h3
    · exact ha
    · exact hL_trans (ih a h1 (by omega) j h3) ha
/-- and counts no more than what happened before -/
theorem hyb_many {P : Int} {T : List (Int × Int)} (hk : TOk P T) (t : Nat → Nat) (i : Nat) : i < T.length → hC T t i ≤ cnt 24 (bs T i) := by
  induction i using Nat.strongRecOn with
  | _ i ih =>
    intro hi
    have hl := hk.len
    rcases hC_at T t i with e | ⟨j, a, b, _, e⟩
    · omega
    · have h1 := ih j a (by omega)
      have h2 := imm_bs hk hi b
      have h3 := cnt_lt 24 (bs T j) (bs T i) (fun k h => bs_trans T i j k h2 h) j (by omega) h2 (by
        cases e2 : (bs T j).testBit j with
        | false => rfl
        | true => have := bs_in T j j e2; omega)
      omega
/-- WHERE CLOCKS ARE RIGHT IT IS THE TIME -/
theorem hyb_true {P : Int} {T : List (Int × Int)} (hk : TOk P T) {t : Nat → Nat} {i : Nat} (hi : i < T.length) (h : ∀ k, (bs T i).testBit k = true → t k < t i) : hT T t i = t i ∧ hC T t i = 0 := by
  have h1 : hT T t i = t i := by
    rcases hT_at T t i with e | ⟨j, b, e⟩
    · exact e
    · have := h j b; have := hT_own T t i; omega
  refine ⟨h1, ?_⟩
  rcases hC_at T t i with e | ⟨j, a, b, d, _⟩
  · exact e
  · have hb := imm_bs hk hi b
    rw [h1] at d
    rcases hT_at T t j with e | ⟨k, c, e⟩
    · have := h j hb; omega
    · have := h k (bs_trans T i j k hb c); omega
/-- SET LATER ALL IS LATER -/
theorem hT_late (T : List (Int × Int)) (t : Nat → Nat) (d i : Nat) : hT T (fun k => t k + d) i = hT T t i + d := by
  refine mxf_one (show t i + d ≤ _ by have := hT_own T t i; omega) (fun j _ h => show t j + d ≤ _ by have := hT_bs (t := t) h; omega) ?_
  rcases hT_at T t i with e | ⟨j, b, e⟩
  · exact .inl (show _ = t i + d by omega)
  · exact .inr ⟨j, bs_in T i j b, b, show _ ≤ t j + d by omega⟩
theorem hC_late (T : List (Int × Int)) (t : Nat → Nat) (d i : Nat) : hC T (fun k => t k + d) i = hC T t i := by
  induction i using Nat.strongRecOn with
  | _ i ih =>
    refine hC_one (fun j h1 h2 h3 => ?_) ?_
    · rw [hT_late, hT_late] at h3
      rw [ih j h1]
      exact hC_lt h1 h2 (by omega)
    · rcases hC_at T t i with e | ⟨j, a, b, c, e⟩
      · exact .inl e
      · exact .inr ⟨j, a, b, by rw [hT_late, hT_late, c], by rw [ih j a]; omega⟩

/-! ### by the last of each process -/
/-- the last event of process p below k -/
def lastP (T : List (Int × Int)) (p : Int) : Nat → Option Nat
  | 0 => none
  | k + 1 => if pr T k = p then some k else lastP T p k
theorem lastP_some {T : List (Int × Int)} {p : Int} {k a : Nat} (h : lastP T p k = some a) : a < k ∧ pr T a = p ∧ ∀ m, a < m → m < k → pr T m ≠ p := by
  induction k with
  | zero => simp [lastP] at h
  | succ k ih =>
    simp only [lastP] at h
    by_cases e : pr T k = p
    · rw [if_pos e] at h
      cases h
      exact ⟨by omega, e, fun m h1 h2 => by omega⟩
    · rw [if_neg e] at h
      obtain ⟨h1, h2, h3⟩ := ih h
      refine ⟨by omega, h2, fun m h4 h5 => ?_⟩
      by_cases hm : m = k
      · subst hm; exact e
      · exact h3 m h4 (by omega)
theorem lastP_none {T : List (Int × Int)} {p : Int} {k : Nat} (h : lastP T p k = none) : ∀ m, m < k → pr T m ≠ p := by
  induction k with
  | zero => intro m hm; omega
  | succ k ih =>
    simp only [lastP] at h
    by_cases e : pr T k = p
    · rw [if_pos e] at h; cases h
    · rw [if_neg e] at h
      intro m hm
      by_cases hk : m = k
      · subst hk; exact e
      · exact ih h m (by omega)
/-- the two, told by the last of its process and the one of which it heard -/
theorem imm_iff {P : Int} {T : List (Int × Int)} (hk : TOk P T) {j i : Nat} (hi : i < T.length) : imm T j i = true ↔ (fm T i = (j : Int) ∨ lastP T (pr T i) i = some j) := by
  constructor
  · intro h
    have hj := imm_lt hk hi h
    unfold imm at h
    simp only [Bool.or_eq_true, Bool.and_eq_true, beq_iff_eq] at h
    rcases h with h | ⟨h1, h2⟩
    · exact .inl h
    · right
      cases e : lastP T (pr T i) i with
      | none => exact absurd h1 (lastP_none e j hj)
      | some a =>
        obtain ⟨a1, a2, a3⟩ := lastP_some e
        have hja : j ≤ a := by
          rcases Nat.lt_or_ge a j with h3 | h3
          · exact absurd h1 (a3 j h3 hj)
          · exact h3
        by_cases e2 : j = a
        · rw [e2]
        · have := nth_lt (show j < a by omega) (h1.trans a2.symm)
          have := nth_lt a1 a2
          omega
  · intro h
    unfold imm
    simp only [Bool.or_eq_true, Bool.and_eq_true, beq_iff_eq]
    rcases h with h | h
    · exact .inl h
    · obtain ⟨a1, a2, a3⟩ := lastP_some h
      refine .inr ⟨a2, ?_⟩
      have := cb_gap (p := fun k => pr T k == pr T i) a1 (by simp [a2]) (fun k h1 h2 => by simpa using a3 k h1 h2)
      unfold nth
      rw [this, a2]
end Go.Proofs.YtkojkiggdbffhaaDoor.M
namespace Go.Proofs.YtkojkiggdbffhaaDoor.M

/-- the times as numbers -/
def tm (zs : List Int) (k : Nat) : Nat := (zs[k]?.getD 0).toNat
/-- the latest Time known at process p ahead of event i -/
def kT (T : List (Int × Int)) (t : Nat → Nat) (p : Int) (i : Nat) : Int := match lastP T p i with | none => -1 | some a => (hT T t a : Nat)
/-- and its Count -/
def kC (T : List (Int × Int)) (t : Nat → Nat) (p : Int) (i : Nat) : Nat := match lastP T p i with | none => 0 | some a => hC T t a
theorem kT_zero (T : List (Int × Int)) (t : Nat → Nat) (p : Int) : kT T t p 0 = -1 := rfl
theorem kC_zero (T : List (Int × Int)) (t : Nat → Nat) (p : Int) : kC T t p 0 = 0 := rfl
theorem kT_succ (T : List (Int × Int)) (t : Nat → Nat) (p : Int) (i : Nat) : kT T t p (i + 1) = if pr T i = p then ((hT T t i : Nat) : Int) else kT T t p i := by
  unfold kT
  by_cases e : pr T i = p
  · simp [lastP, e]
  · simp [lastP, e]
theorem kC_succ (T : List (Int × Int)) (t : Nat → Nat) (p : Int) (i : Nat) : kC T t p (i + 1) = if pr T i = p then hC T t i else kC T t p i := by
  unfold kC
  by_cases e : pr T i = p
  · simp [lastP, e]
  · simp [lastP, e]
/-- is a stamp less than another one? -/
def lsB (a c b d : Int) : Bool := if a = b then decide (c < d) else decide (a < b)
/-- the stamp behind the latest -/
def nxT (x : Int) (z : Int) : Int := if x < z then z else x
def nxC (x c : Int) (z : Int) : Int := if x < z then 0 else c + 1
theorem hT_imm {T : List (Int × Int)} {P : Int} (hk : TOk P T) {t : Nat → Nat} {i c : Nat} (hi : i < T.length) (h0 : t i ≤ c) (h1 : ∀ j, imm T j i = true → hT T t j ≤ c) (h2 : c = t i ∨ ∃ j, imm T j i = true ∧ c ≤ hT T t j) : hT T t i = c := by
  refine mxf_one h0 (fun j _ h => ?_) ?_
  · obtain ⟨a, _, ha, h3⟩ := bs_imm T i j h
    have := h1 a ha
    rcases h3 with rfl | h3
    · have := hT_own T t j; omega
    · have := hT_bs (t := t) h3; omega
  · rcases h2 with h2 | ⟨j, h3, h4⟩
    · exact .inl h2
    · have hb := imm_bs hk hi h3
      rcases hT_at T t j with e | ⟨k, b, e⟩
      · exact .inr ⟨j, bs_in T i j hb, hb, by omega⟩
      · have hb2 := bs_trans T i j k hb b
        exact .inr ⟨k, bs_in T i k hb2, hb2, by omega⟩
/-- x, c is the latest stamp that event i knows -/
structure Lat (T : List (Int × Int)) (t : Nat → Nat) (i : Nat) (x : Int) (c : Nat) : Prop where
  le : ∀ j, imm T j i = true → (hT T t j : Int) < x ∨ ((hT T t j : Int) = x ∧ hC T t j ≤ c)
  at_ : x = -1 ∨ ∃ j, imm T j i = true ∧ x = hT T t j ∧ c = hC T t j
theorem Lat.step {T : List (Int × Int)} {P : Int} (hk : TOk P T) {t : Nat → Nat} {i : Nat} {x : Int} {c : Nat} (hi : i < T.length) (h : Lat T t i x c) : nxT x (t i) = hT T t i ∧ nxC x c (t i) = hC T t i := by
  unfold nxT nxC
  by_cases hx : x < (t i : Int)
  · rw [if_pos hx, if_pos hx]
    have e : hT T t i = t i := hT_imm hk hi (Nat.le_refl _) (fun j hj => by have := h.le j hj; omega) (.inl rfl)
    have e2 : hC T t i = 0 := hC_one (fun j hj h1 h2 => by have := h.le j h1; omega) (.inl rfl)
    rw [e, e2]
    exact ⟨rfl, rfl⟩
  · rw [if_neg hx, if_neg hx]
    obtain ⟨j, h1, h2, h3⟩ : ∃ j, imm T j i = true ∧ x = hT T t j ∧ c = hC T t j := by
      rcases h.at_ with h4 | h4
      · omega
      · exact h4
    have e : hT T t i = hT T t j := hT_imm hk hi (by omega) (fun k hk => by have := h.le k hk; omega) (.inr ⟨j, h1, Nat.le_refl _⟩)
    have e2 : hC T t i = c + 1 := hC_one (fun k hk h4 h5 => by have := h.le k h4; omega) (.inr ⟨j, imm_lt hk hi h1, h1, e.symm, by omega⟩)
    rw [e, e2]
    exact ⟨h2, by omega⟩
theorem lat_none {T : List (Int × Int)} {P : Int} (hk : TOk P T) {t : Nat → Nat} {i : Nat} (hi : i < T.length) (h : fm T i < 0) : Lat T t i (kT T t (pr T i) i) (kC T t (pr T i) i) := by
  constructor
  · intro j hj
    rcases (imm_iff hk hi).1 hj with e | e
    · omega
    · unfold kT kC; rw [e]; exact .inr ⟨rfl, Nat.le_refl _⟩
  · unfold kT kC
    cases e : lastP T (pr T i) i with
    | none => exact .inl rfl
    | some a => exact .inr ⟨a, (imm_iff hk hi).2 (.inr e), rfl, rfl⟩
theorem lat_heard {T : List (Int × Int)} {P : Int} (hk : TOk P T) {t : Nat → Nat} {i j : Nat} (hi : i < T.length) (h : fm T i = (j : Nat)) :
    (lsB (kT T t (pr T i) i) (kC T t (pr T i) i : Nat) (hT T t j : Nat) (hC T t j : Nat) = true → Lat T t i (hT T t j : Nat) (hC T t j)) ∧
    (lsB (kT T t (pr T i) i) (kC T t (pr T i) i : Nat) (hT T t j : Nat) (hC T t j : Nat) = false → Lat T t i (kT T t (pr T i) i) (kC T t (pr T i) i)) := by
  have hj : imm T j i = true := (imm_iff hk hi).2 (.inl h)
  unfold lsB
  constructor
  · intro hl
    refine ⟨fun k hk2 => ?_, .inr ⟨j, hj, rfl, rfl⟩⟩
    rcases (imm_iff hk hi).1 hk2 with e | e
    · obtain rfl : j = k := by omega
      exact .inr ⟨rfl, Nat.le_refl _⟩
    · have e1 : kT T t (pr T i) i = (hT T t k : Nat) := by unfold kT; rw [e]
      have e2 : kC T t (pr T i) i = hC T t k := by unfold kC; rw [e]
      rw [e1, e2] at hl
      split at hl <;> have := of_decide_eq_true hl <;> omega
  · intro hl
    constructor
    · intro k hk2
      rcases (imm_iff hk hi).1 hk2 with e | e
      · obtain rfl : j = k := by omega
        split at hl <;> have := of_decide_eq_false hl <;> omega
      · unfold kT kC; rw [e]; exact .inr ⟨rfl, Nat.le_refl _⟩
    · cases e : lastP T (pr T i) i with
      | none => unfold kT; rw [e]; exact .inl rfl
      | some a => unfold kT kC; rw [e]; exact .inr ⟨a, (imm_iff hk hi).2 (.inr e), rfl, rfl⟩

/-! ### bounds -/
theorem hC_le (T : List (Int × Int)) (t : Nat → Nat) (i : Nat) : hC T t i ≤ i := by
  induction i using Nat.strongRecOn with
  | _ i ih =>
    rcases hC_at T t i with e | ⟨j, a, _, _, e⟩
    · omega
    · have := ih j a; omega
theorem hT_bound {T : List (Int × Int)} {t : Nat → Nat} {B n i : Nat} (h : ∀ k, k < n → t k ≤ B) (hi : i < n) : hT T t i ≤ B := by
  rcases hT_at T t i with e | ⟨j, b, e⟩
  · rw [e]; exact h i hi
  · rw [e]; exact h j (by have := bs_in T i j b; omega)
theorem kC_bound (T : List (Int × Int)) (t : Nat → Nat) (p : Int) (i : Nat) : kC T t p i ≤ i := by
  unfold kC
  cases e : lastP T p i with
  | none => exact Nat.zero_le _
  | some a => have := (lastP_some e).1; have := hC_le T t a; show hC T t a ≤ i; omega
theorem kT_bound {T : List (Int × Int)} {t : Nat → Nat} {B n i : Nat} {p : Int} (h : ∀ k, k < n → t k ≤ B) (hi : i ≤ n) : -1 ≤ kT T t p i ∧ kT T t p i ≤ B := by
  unfold kT
  cases e : lastP T p i with
  | none => simp only []; omega
  | some a =>
    have h1 := (lastP_some e).1
    have := hT_bound (T := T) h (show a < n by omega)
    simp only []; omega

/-! ### as cells -/
def rowZ (m : List Int) (k : Nat) : Int := m[k]?.getD 0
theorem rowZ_set (m : List Int) (o : Nat) (v : Int) (x : Nat) : rowZ (m.set o v) x = if x = o ∧ x < m.length then v else rowZ m x := by
  unfold rowZ
  by_cases h : x = o
  · subst h
    by_cases h2 : x < m.length
    · simp [h2]
    · simp [h2]
  · rw [List.getElem?_set_ne (fun e => h e.symm), if_neg (fun e => h e.1)]
theorem ext_rowZ {a b : List Int} (hl : a.length = b.length) (h : ∀ x, x < a.length → rowZ a x = rowZ b x) : a = b := by
  apply List.ext_getElem hl
  intro x h1 h2
  have := h x h1
  simpa [rowZ, h1, h2] using this
/-- two numbers from o on -/
def set2 (m : List Int) (o : Nat) (v0 v1 : Int) : List Int := (m.set o v0).set (o + 1) v1
theorem set2_length (m : List Int) (o : Nat) (v0 v1 : Int) : (set2 m o v0 v1).length = m.length := by simp [set2]
theorem set2_at {m : List Int} {o x : Nat} {v0 v1 : Int} (hx : x < m.length) : rowZ (set2 m o v0 v1) x = if x = o then v0 else if x = o + 1 then v1 else rowZ m x := by
  unfold set2
  rw [rowZ_set, rowZ_set]
  simp only [List.length_set, hx, and_true]
  by_cases h1 : x = o + 1
  · rw [if_pos h1, if_neg (by omega), if_pos h1]
  · rw [if_neg h1, if_neg h1]
/-- the stamps of the first i events, cell by cell, then noughts -/
def stF (T : List (Int × Int)) (t : Nat → Nat) (i x : Nat) : Int := if x / 2 < i then (if x % 2 = 0 then (hT T t (x / 2) : Nat) else (hC T t (x / 2) : Nat)) else 0
def stl (T : List (Int × Int)) (t : Nat → Nat) (n i : Nat) : List Int := (List.range (n * 2)).map (stF T t i)
theorem stl_length (T : List (Int × Int)) (t : Nat → Nat) (n i : Nat) : (stl T t n i).length = n * 2 := by simp [stl]
theorem stl_row (T : List (Int × Int)) (t : Nat → Nat) {n i x : Nat} (h : x < n * 2) : rowZ (stl T t n i) x = stF T t i x := by
  unfold rowZ stl
  simp [h]
theorem stl_T (T : List (Int × Int)) (t : Nat → Nat) {n i k : Nat} (h : k < i) (hk : k < n) : rowZ (stl T t n i) (k * 2) = (hT T t k : Nat) := by
  rw [stl_row T t (by omega)]
  unfold stF
  rw [if_pos (by omega), if_pos (by omega), show k * 2 / 2 = k by omega]
theorem stl_C (T : List (Int × Int)) (t : Nat → Nat) {n i k : Nat} (h : k < i) (hk : k < n) : rowZ (stl T t n i) (k * 2 + 1) = (hC T t k : Nat) := by
  rw [stl_row T t (by omega)]
  unfold stF
  rw [if_pos (by omega), if_neg (by omega), show (k * 2 + 1) / 2 = k by omega]
theorem stl_zero (T : List (Int × Int)) (t : Nat → Nat) (n : Nat) : stl T t n 0 = List.replicate (n * 2) 0 := by
  apply List.ext_getElem
  · simp [stl]
  · intro x h1 h2
    simp [stl, stF]
theorem stl_set {T : List (Int × Int)} {t : Nat → Nat} {n i : Nat} {a c : Int} (ha : a = (hT T t i : Nat)) (hc : c = (hC T t i : Nat)) : set2 (stl T t n i) (i * 2) a c = stl T t n (i + 1) := by
  apply ext_rowZ
  · rw [set2_length, stl_length, stl_length]
  · intro x hx
    rw [set2_length] at hx
    rw [set2_at hx]
    rw [stl_length] at hx
    rw [stl_row T t hx, stl_row T t hx]
    unfold stF
    by_cases e1 : x = i * 2
    · rw [if_pos e1, if_pos (by omega), if_pos (by omega), show x / 2 = i by omega, ha]
    · rw [if_neg e1]
      by_cases e2 : x = i * 2 + 1
      · rw [if_pos e2, if_pos (by omega), if_neg (by omega), show x / 2 = i by omega, hc]
      · rw [if_neg e2]
        by_cases e3 : x / 2 < i
        · exact (if_pos e3).trans (if_pos (show x / 2 < i + 1 by omega)).symm
        · exact (if_neg e3).trans (if_neg (show ¬ x / 2 < i + 1 by omega)).symm
/-- what all processes know, cell by cell -/
def ksl (T : List (Int × Int)) (t : Nat → Nat) (i : Nat) : List Int := (List.range 10).map fun x => if x % 2 = 0 then kT T t ((x / 2 : Nat) : Int) i else (kC T t ((x / 2 : Nat) : Int) i : Nat)
theorem ksl_length (T : List (Int × Int)) (t : Nat → Nat) (i : Nat) : (ksl T t i).length = 10 := by simp [ksl]
theorem ksl_row (T : List (Int × Int)) (t : Nat → Nat) (i : Nat) {x : Nat} (h : x < 10) : rowZ (ksl T t i) x = if x % 2 = 0 then kT T t ((x / 2 : Nat) : Int) i else (kC T t ((x / 2 : Nat) : Int) i : Nat) := by
  unfold rowZ ksl
  simp only [List.getElem?_map, List.getElem?_range h, Option.map_some, Option.getD_some]
theorem ksl_T (T : List (Int × Int)) (t : Nat → Nat) (i : Nat) {a : Nat} (h : a < 5) : rowZ (ksl T t i) (a * 2) = kT T t (a : Int) i := by
  rw [ksl_row T t i (by omega), if_pos (by omega), show a * 2 / 2 = a by omega]
theorem ksl_C (T : List (Int × Int)) (t : Nat → Nat) (i : Nat) {a : Nat} (h : a < 5) : rowZ (ksl T t i) (a * 2 + 1) = (kC T t (a : Int) i : Nat) := by
  rw [ksl_row T t i (by omega), if_neg (by omega), show (a * 2 + 1) / 2 = a by omega]
theorem ksl_zero (T : List (Int × Int)) (t : Nat → Nat) : ksl T t 0 = [-1, 0, -1, 0, -1, 0, -1, 0, -1, 0] := rfl
theorem ksl_set {T : List (Int × Int)} {t : Nat → Nat} {i a : Nat} {v c : Int} (hp : pr T i = (a : Nat)) (hv : v = (hT T t i : Nat)) (hc : c = (hC T t i : Nat)) : set2 (ksl T t i) (a * 2) v c = ksl T t (i + 1) := by
  apply ext_rowZ
  · rw [set2_length, ksl_length, ksl_length]
  · intro x hx
    rw [set2_length] at hx
    rw [set2_at hx]
    rw [ksl_length] at hx
    rw [ksl_row T t _ hx, ksl_row T t _ hx, kT_succ, kC_succ, hp]
    by_cases e1 : x = a * 2
    · rw [if_pos e1, if_pos (by omega), if_pos (by omega), hv]
    · rw [if_neg e1]
      by_cases e2 : x = a * 2 + 1
      · rw [if_pos e2, if_neg (by omega), if_pos (by omega), hc]
      · have hne : ¬ ((a : Nat) : Int) = ((x / 2 : Nat) : Int) := by omega
        rw [if_neg e2, if_neg hne, if_neg hne]
end Go.Proofs.YtkojkiggdbffhaaDoor.M
