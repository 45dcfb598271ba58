/- Plain mathematics of clocks that count: plain clocks by the longest row of what happened before, and by the two behind which an event stands; who is before has less. Vectors by counting what happened before, and by the greater of two; before is just below. No program text is named. -/
import Derived.Test.YtlhpkpjcfjdgaaaDoorKno
namespace Go.Proofs.YtlhpkpjcfjdgaaaDoor.M

/-! ### plain clocks -/
/-- the greatest of f at the members of x below m -/
def mxb (x : Nat) (f : Nat → Nat) : Nat → Nat
  | 0 => 0
  | j + 1 => if x.testBit j = true ∧ mxb x f j < f j then f j else mxb x f j
theorem mxb_congr {x : Nat} {f g : Nat → Nat} {m : Nat} (h : ∀ j, j < m → f j = g j) : mxb x f m = mxb x g m := by
  induction m with
  | zero => rfl
  | succ m ih => simp only [mxb]; rw [ih (fun j hj => h j (by omega)), h m (by omega)]
theorem mxb_le {x : Nat} {f : Nat → Nat} {m j : Nat} (hj : j < m) (h : x.testBit j = true) : f j ≤ mxb x f m := by
  induction m with
  | zero => omega
  | succ m ih =>
    simp only [mxb]
    by_cases e : j = m
    · subst e
      split
      · exact Nat.le_refl _
      · rename_i h2
        have : ¬ mxb x f j < f j := fun h3 => h2 ⟨h, h3⟩
        omega
    · have := ih (by omega)
      split <;> omega
theorem mxb_at (x : Nat) (f : Nat → Nat) (m : Nat) : mxb x f m = 0 ∨ ∃ j, j < m ∧ x.testBit j = true ∧ mxb x f m = f j := by
  induction m with
  | zero => exact .inl rfl
  | succ m ih =>
    simp only [mxb]
    split
    · rename_i h; exact .inr ⟨m, by omega, h.1, rfl⟩
    · rcases ih with h | ⟨j, a, b, c⟩
      · exact .inl h
      · exact .inr ⟨j, by omega, b, c⟩
theorem mxb_bound {x : Nat} {f : Nat → Nat} {m c : Nat} (h : ∀ j, j < m → x.testBit j = true → f j ≤ c) : mxb x f m ≤ c := by
  rcases mxb_at x f m with e | ⟨j, a, b, e⟩
  · omega
  · rw [e]; exact h j a b
def cks (T : List (Int × Int)) : Nat → List Nat
  | 0 => []
  | i + 1 => cks T i ++ [mxb (bs T i) (row (cks T i)) i + 1]
/-- the plain clock of event i -/
def ck (T : List (Int × Int)) (i : Nat) : Nat := mxb (bs T i) (row (cks T i)) i + 1
/-- the plain clocks -/
def clocks (T : List (Int × Int)) : List Nat := cks T T.length
theorem cks_length (T : List (Int × Int)) (k : Nat) : (cks T k).length = k := by
  induction k with
  | zero => rfl
  | succ k ih => simp [cks, ih]
theorem clocks_length (T : List (Int × Int)) : (clocks T).length = T.length := cks_length T _
theorem cks_row (T : List (Int × Int)) {k i : Nat} (h : i < k) : row (cks T k) i = ck T i := by
  induction k with
  | zero => omega
  | succ k ih =>
    unfold row
    simp only [cks]
    by_cases e : i = k
    · subst e
      rw [List.getElem?_append_right (by rw [cks_length]; omega), cks_length]
      simp [ck]
    · rw [List.getElem?_append_left (by rw [cks_length]; omega)]
      exact ih (by omega)
theorem clocks_row (T : List (Int × Int)) {i : Nat} (h : i < T.length) : row (clocks T) i = ck T i := cks_row T h
theorem ck_eq (T : List (Int × Int)) (i : Nat) : ck T i = mxb (bs T i) (ck T) i + 1 := by
  unfold ck
  rw [mxb_congr (f := row (cks T i)) (g := fun j => mxb (bs T j) (row (cks T j)) j + 1) (fun j hj => cks_row T hj)]
theorem ck_pos (T : List (Int × Int)) (i : Nat) : 1 ≤ ck T i := by rw [ck_eq]; omega
/-- WHO IS BEFORE HAS LESS -/
theorem ck_lt {T : List (Int × Int)} {i j : Nat} (h : (bs T i).testBit j = true) : ck T j < ck T i := by
  have := mxb_le (f := ck T) (bs_in T i j h) h
  rw [ck_eq T i]; omega
/-- each clock is one more than that of one before, or 1 -/
theorem ck_step (T : List (Int × Int)) (i : Nat) : (ck T i = 1 ∧ bs T i = 0) ∨ ∃ j, j < i ∧ (bs T i).testBit j = true ∧ ck T j + 1 = ck T i := by
  rcases mxb_at (bs T i) (ck T) i with h | ⟨j, a, b, c⟩
  · refine .inl ⟨by rw [ck_eq, h], Nat.eq_of_testBit_eq fun k => ?_⟩
    cases hk : (bs T i).testBit k with
    | false => simp
    | true =>
      have h1 := mxb_le (f := ck T) (bs_in T i k hk) hk
      have := ck_pos T k
      omega
  · exact .inr ⟨j, a, b, by rw [ck_eq T i, c]⟩
theorem ck_le (T : List (Int × Int)) (i : Nat) : ck T i ≤ i + 1 := by
  induction i using Nat.strongRecOn with
  | _ i ih =>
    rw [ck_eq]
    have := mxb_bound (x := bs T i) (f := ck T) (m := i) (c := i) (fun j hj _ => by have := ih j hj; omega)
    omega
/-- no two events of a process have one clock -/
theorem ck_apart {T : List (Int × Int)} {i j : Nat} (hne : i ≠ j) (e : pr T i = pr T j) : ck T i ≠ ck T j := by
  rcases Nat.lt_or_ge i j with h | h
  · have := ck_lt (bs_must h (show mustB T i j = true by unfold mustB; rw [e]; simp)); omega
  · have := ck_lt (bs_must (show j < i by omega) (show mustB T j i = true by unfold mustB; rw [e]; simp)); omega
/-- the clock of the last event of process p, when k events are told -/
def kc (T : List (Int × Int)) (p : Int) : Nat → Nat
  | 0 => 0
  | k + 1 => if pr T k = p then ck T k else kc T p k
theorem kc_at (T : List (Int × Int)) (p : Int) (k : Nat) : kc T p k = 0 ∨ ∃ j, j < k ∧ pr T j = p ∧ kc T p k = ck T j := by
  induction k with
  | zero => exact .inl rfl
  | succ k ih =>
    simp only [kc]
    split
    · rename_i h; exact .inr ⟨k, by omega, h, rfl⟩
    · rcases ih with h | ⟨j, a, b, c⟩
      · exact .inl h
      · exact .inr ⟨j, by omega, b, c⟩
theorem kc_le {T : List (Int × Int)} {p : Int} {k j : Nat} (hj : j < k) (h : pr T j = p) : ck T j ≤ kc T p k := by
  induction k with
  | zero => omega
  | succ k ih =>
    simp only [kc]
    by_cases e : j = k
    · subst e; rw [if_pos h]; exact Nat.le_refl _
    · by_cases hp : pr T k = p
      · rw [if_pos hp]
        exact Nat.le_of_lt (ck_lt (bs_must (by omega) (by unfold mustB; rw [h, hp]; simp)))
      · rw [if_neg hp]; exact ih (by omega)
theorem kc_bound (T : List (Int × Int)) (p : Int) (k : Nat) : kc T p k ≤ k := by
  rcases kc_at T p k with h | ⟨j, a, _, c⟩
  · omega
  · have := ck_le T j; omega
theorem kn_ck {T : List (Int × Int)} {p : Int} {i j : Nat} (h : (kn T p i).testBit j = true) : ck T j ≤ kc T p i := by
  obtain ⟨m, a, b, c⟩ := (kn_bit T p i j).1 h
  have h1 := kc_le a b
  rcases c with rfl | c
  · exact h1
  · have := ck_lt c; omega
theorem ck_none {T : List (Int × Int)} {i : Nat} (h : fm T i < 0) : ck T i = kc T (pr T i) i + 1 := by
  rw [ck_eq]
  have h1 : mxb (bs T i) (ck T) i ≤ kc T (pr T i) i := mxb_bound fun j _ hj => kn_ck (by rw [← bs_none h]; exact hj)
  rcases kc_at T (pr T i) i with e | ⟨j, a, b, c⟩
  · omega
  · have := mxb_le (f := ck T) a (bs_must a (show mustB T j i = true by unfold mustB; rw [b]; simp))
    omega
theorem ck_heard {T : List (Int × Int)} {i j : Nat} (hj : j < i) (h : fm T i = (j : Nat)) : ck T i = Nat.max (kc T (pr T i) i) (ck T j) + 1 := by
  rw [ck_eq]
  have h1 : mxb (bs T i) (ck T) i ≤ Nat.max (kc T (pr T i) i) (ck T j) := mxb_bound fun k _ hk => by
    rw [bs_heard hj h, Nat.testBit_or, Nat.testBit_or, Bool.or_eq_true, Bool.or_eq_true, Nat.shiftLeft_eq, Nat.one_mul, Nat.testBit_two_pow, decide_eq_true_eq] at hk
    rcases hk with hk | hk | hk
    · exact Nat.le_trans (kn_ck hk) (Nat.le_max_left _ _)
    · exact Nat.le_trans (Nat.le_of_lt (ck_lt hk)) (Nat.le_max_right _ _)
    · subst hk; exact Nat.le_max_right _ _
  have h2 : ck T j ≤ mxb (bs T i) (ck T) i := mxb_le hj (bs_must hj (by unfold mustB; rw [h]; simp))
  have h3 : kc T (pr T i) i ≤ mxb (bs T i) (ck T) i := by
    rcases kc_at T (pr T i) i with e | ⟨k, a, b, c⟩
    · omega
    · rw [c]; exact mxb_le (f := ck T) a (bs_must a (show mustB T k i = true by unfold mustB; rw [b]; simp))
  have h4 : Nat.max (kc T (pr T i) i) (ck T j) ≤ mxb (bs T i) (ck T) i := Nat.max_le.2 ⟨h3, h2⟩
  omega
/-- clocks so far, then noughts -/
def ckl (T : List (Int × Int)) (n i : Nat) : List Nat := cks T i ++ List.replicate (n - i) 0
theorem ckl_length (T : List (Int × Int)) {n i : Nat} (h : i ≤ n) : (ckl T n i).length = n := by simp [ckl, cks_length]; omega
theorem ckl_end (T : List (Int × Int)) (n : Nat) : ckl T n n = cks T n := by simp [ckl]
theorem ckl_row {T : List (Int × Int)} {n i j : Nat} (h : j < i) : row (ckl T n i) j = ck T j := by
  have : row (cks T i) j = ck T j := cks_row T h
  unfold row at this ⊢
  unfold ckl
  rw [List.getElem?_append_left (by rw [cks_length]; exact h)]
  exact this
theorem ckl_set {T : List (Int × Int)} {n i : Nat} (h : i < n) {v : Nat} (hv : v = ck T i) : (ckl T n i).set i v = ckl T n (i + 1) := by
  unfold ckl
  have h1 : n - i = (n - (i + 1)) + 1 := by omega
  rw [h1, List.replicate_succ, List.set_append_right _ _ (by rw [cks_length]; omega), cks_length, Nat.sub_self, List.set_cons_zero]
  simp only [cks]
  rw [List.append_assoc, List.singleton_append, hv]
  rfl
/-- the processes' last clocks -/
def kcl (T : List (Int × Int)) (i : Nat) : List Nat := [kc T 0 i, kc T 1 i, kc T 2 i, kc T 3 i, kc T 4 i]
theorem kcl_row (T : List (Int × Int)) (i : Nat) {a : Nat} (h : a < 5) : row (kcl T i) a = kc T (a : Int) i := by
  unfold row kcl
  rcases a with _ | _ | _ | _ | _ | a
  · rfl
  · rfl
  · rfl
  · rfl
  · rfl
  · omega
theorem kcl_set (T : List (Int × Int)) (i : Nat) {a v : Nat} (h : a < 5) (ha : pr T i = (a : Nat)) (hv : v = ck T i) : (kcl T i).set a v = kcl T (i + 1) := by
  unfold kcl
  simp only [kc]
  rw [ha, ← hv]
  rcases a with _ | _ | _ | _ | _ | a
  · simp
  · simp
  · simp
  · simp
  · simp
  · omega

/-! ### vectors -/
/-- an event, and all that happened before it -/
def fu (T : List (Int × Int)) (i : Nat) : Nat := bs T i ||| 1 <<< i
theorem fu_bit (T : List (Int × Int)) (i k : Nat) : (fu T i).testBit k = true ↔ k = i ∨ (bs T i).testBit k = true := by
  unfold fu
  rw [Nat.testBit_or, Bool.or_eq_true, Nat.shiftLeft_eq, Nat.one_mul, Nat.testBit_two_pow, decide_eq_true_eq]
  exact ⟨fun h => h.elim .inr (fun h => .inl h.symm), fun h => h.elim (fun h => .inr h.symm) .inl⟩
/-- how many events of process q are in a set, of those below m -/
def vn (T : List (Int × Int)) (x : Nat) (q : Int) (m : Nat) : Nat := cb m fun j => x.testBit j && pr T j == q
/-- the vector of event i at process q -/
def vc (T : List (Int × Int)) (i : Nat) (q : Int) : Nat := vn T (fu T i) q (i + 1)
/-- what process p knows of process q, when k events are told -/
def kv (T : List (Int × Int)) (p q : Int) (k : Nat) : Nat := vn T (kn T p k) q k
/-- with an event all ahead of it at its process -/
def Cl (T : List (Int × Int)) (x : Nat) : Prop := ∀ j k, x.testBit j = true → k < j → pr T k = pr T j → x.testBit k = true
theorem must_pr {T : List (Int × Int)} {j k : Nat} (h : pr T k = pr T j) : mustB T k j = true := by unfold mustB; rw [h]; simp
theorem bs_cl (T : List (Int × Int)) (i : Nat) : Cl T (bs T i) := fun j k h hk e => bs_trans T i j k h (bs_must hk (must_pr e))
theorem fu_cl (T : List (Int × Int)) (i : Nat) : Cl T (fu T i) := fun j k h hk e => by
  rcases (fu_bit T i j).1 h with rfl | h
  · exact (fu_bit T _ k).2 (.inr (bs_must hk (must_pr e)))
  · exact (fu_bit T i k).2 (.inr (bs_cl T i j k h hk e))
theorem kn_cl (T : List (Int × Int)) (p : Int) (i : Nat) : Cl T (kn T p i) := fun j k h hk e => by
  obtain ⟨m, a, b, c⟩ := (kn_bit T p i j).1 h
  refine (kn_bit T p i k).2 ⟨m, a, b, .inr ?_⟩
  rcases c with rfl | c
  · exact bs_must hk (must_pr e)
  · exact bs_cl T m j k c hk e
theorem vn_mono {T : List (Int × Int)} {x y : Nat} {q : Int} {m : Nat} (h : ∀ j, j < m → x.testBit j = true → pr T j = q → y.testBit j = true) : vn T x q m ≤ vn T y q m :=
  cb_mono fun j hj h1 => by
    simp only [Bool.and_eq_true, beq_iff_eq] at h1 ⊢
    exact ⟨h j hj h1.1 h1.2, h1.2⟩
theorem vn_lt {T : List (Int × Int)} {x y : Nat} {q : Int} {m : Nat} (h : ∀ j, j < m → x.testBit j = true → pr T j = q → y.testBit j = true) {k : Nat} (hk : k < m) (hp : pr T k = q) (hy : y.testBit k = true) (hx : x.testBit k = false) : vn T x q m < vn T y q m :=
  cb_lt (fun j hj h1 => by
    simp only [Bool.and_eq_true, beq_iff_eq] at h1 ⊢
    exact ⟨h j hj h1.1 h1.2, h1.2⟩) hk (by simp [hp, hy]) (by simp [hx])
/-- of two closed sets one has all of a process that the other one has -/
theorem cl_either {T : List (Int × Int)} {x y : Nat} (hx : Cl T x) (hy : Cl T y) (q : Int) : (∀ j, x.testBit j = true → pr T j = q → y.testBit j = true) ∨ (∀ j, y.testBit j = true → pr T j = q → x.testBit j = true) := by
  by_cases h : ∀ j, x.testBit j = true → pr T j = q → y.testBit j = true
  · exact .inl h
  · refine .inr fun j h1 h2 => ?_
    obtain ⟨k, hk⟩ := Classical.not_forall.1 h
    obtain ⟨hk1, hk⟩ := Classical.not_imp.1 hk
    obtain ⟨hk2, hk3⟩ := Classical.not_imp.1 hk
    rcases Nat.lt_trichotomy j k with h3 | h3 | h3
    · exact hx k j hk1 h3 (h2.trans hk2.symm)
    · subst h3; exact hk1
    · exact absurd (hy j k h1 h3 (hk2.trans h2.symm)) hk3
theorem vn_or {T : List (Int × Int)} {x y : Nat} (hx : Cl T x) (hy : Cl T y) (q : Int) (m : Nat) : vn T (x ||| y) q m = Nat.max (vn T x q m) (vn T y q m) := by
  rcases cl_either hx hy q with h | h
  · have h1 : vn T (x ||| y) q m = vn T y q m := Nat.le_antisymm (vn_mono fun j _ h1 h2 => by
      rw [Nat.testBit_or, Bool.or_eq_true] at h1
      rcases h1 with h1 | h1
      · exact h j h1 h2
      · exact h1) (vn_mono fun j _ h1 _ => by rw [Nat.testBit_or, h1, Bool.or_true])
    have h2 : vn T x q m ≤ vn T y q m := vn_mono fun j _ h1 h2 => h j h1 h2
    rw [h1]; exact (Nat.max_eq_right h2).symm
  · have h1 : vn T (x ||| y) q m = vn T x q m := Nat.le_antisymm (vn_mono fun j _ h1 h2 => by
      rw [Nat.testBit_or, Bool.or_eq_true] at h1
      rcases h1 with h1 | h1
      · exact h1
      · exact h j h1 h2) (vn_mono fun j _ h1 _ => by rw [Nat.testBit_or, h1, Bool.true_or])
    have h2 : vn T y q m ≤ vn T x q m := vn_mono fun j _ h1 h2 => h j h1 h2
    rw [h1]; exact (Nat.max_eq_left h2).symm
theorem vn_out {T : List (Int × Int)} {x : Nat} {q : Int} {m : Nat} (h : ∀ j, x.testBit j = true → j < m) (d : Nat) : vn T x q (m + d) = vn T x q m := by
  induction d with
  | zero => rfl
  | succ d ih =>
    have h1 : x.testBit (m + d) = false := by
      cases e : x.testBit (m + d) with
      | false => rfl
      | true => exact absurd (h _ e) (by omega)
    show vn T x q (m + d + 1) = _
    unfold vn at ih ⊢
    rw [cb_at (b := false) (by simp [h1]), ih]; rfl
theorem vn_to {T : List (Int × Int)} {x : Nat} {q : Int} {m n : Nat} (h : ∀ j, x.testBit j = true → j < m) (hn : m ≤ n) : vn T x q n = vn T x q m := by
  have := vn_out (T := T) (q := q) h (n - m)
  rw [show m + (n - m) = n by omega] at this
  exact this
theorem vn_le (T : List (Int × Int)) (x : Nat) (q : Int) (m : Nat) : vn T x q m ≤ m := cb_le _ _
theorem fu_in (T : List (Int × Int)) (i k : Nat) (h : (fu T i).testBit k = true) : k < i + 1 := by
  rcases (fu_bit T i k).1 h with rfl | h
  · omega
  · have := bs_in T i k h; omega
theorem kn_in (T : List (Int × Int)) (p : Int) (i k : Nat) (h : (kn T p i).testBit k = true) : k < i := by
  obtain ⟨j, a, _, c⟩ := (kn_bit T p i k).1 h
  rcases c with c | c
  · omega
  · have := bs_in T j k c; omega
theorem vc_bs (T : List (Int × Int)) (i : Nat) (q : Int) : vc T i q = vn T (bs T i) q i + (if pr T i = q then 1 else 0) := by
  unfold vc vn
  have h1 : (fu T i).testBit i = true := (fu_bit T i i).2 (.inl rfl)
  have h2 : cb i (fun j => (fu T i).testBit j && pr T j == q) = cb i (fun j => (bs T i).testBit j && pr T j == q) := cb_congr fun j hj => by
    have : (fu T i).testBit j = (bs T i).testBit j := by
      rw [Bool.eq_iff_iff, fu_bit]
      exact ⟨fun h => h.elim (fun e => by omega) id, .inr⟩
    rw [this]
  rw [cb_at (b := pr T i == q) (by rw [h1, Bool.true_and]), h2]
  simp
theorem kv_succ (T : List (Int × Int)) (p q : Int) (k : Nat) : kv T p q (k + 1) = if pr T k = p then vc T k q else kv T p q k := by
  unfold kv
  simp only [kn]
  by_cases h : pr T k = p
  · rw [if_pos h, if_pos h]; rfl
  · rw [if_neg h, if_neg h]
    exact vn_to (fun j hj => kn_in T p k j hj) (by omega)
theorem vc_none {T : List (Int × Int)} {i : Nat} (h : fm T i < 0) (q : Int) : vc T i q = kv T (pr T i) q i + (if pr T i = q then 1 else 0) := by
  rw [vc_bs, bs_none h]; rfl
theorem vc_heard {T : List (Int × Int)} {i j : Nat} (hj : j < i) (h : fm T i = (j : Nat)) (q : Int) : vc T i q = Nat.max (kv T (pr T i) q i) (vc T j q) + (if pr T i = q then 1 else 0) := by
  rw [vc_bs, bs_heard hj h, show bs T j ||| 1 <<< j = fu T j from rfl, vn_or (kn_cl T _ i) (fu_cl T j)]
  rw [vn_to (x := fu T j) (m := j + 1) (fun k hk => fu_in T j k hk) (by omega)]
  rfl
theorem kv_zero (T : List (Int × Int)) (p q : Int) : kv T p q 0 = 0 := rfl
theorem kv_le (T : List (Int × Int)) (p q : Int) (k : Nat) : kv T p q k ≤ k := vn_le _ _ _ _
theorem vc_le (T : List (Int × Int)) (i : Nat) (q : Int) : vc T i q ≤ i + 1 := vn_le _ _ _ _
/-- who knows of an event knows of all that it knows of -/
theorem fu_sub {T : List (Int × Int)} {i j : Nat} (h : (fu T j).testBit i = true) : ∀ k, (fu T i).testBit k = true → (fu T j).testBit k = true := fun k hk => by
  rcases (fu_bit T j i).1 h with rfl | h
  · exact hk
  · refine (fu_bit T j k).2 (.inr ?_)
    rcases (fu_bit T i k).1 hk with rfl | hk
    · exact h
    · exact bs_trans T j i k h hk
theorem vc_sub {T : List (Int × Int)} {i j : Nat} (h : (fu T j).testBit i = true) (q : Int) : vc T i q ≤ vc T j q := by
  have hij := fu_in T j i h
  unfold vc
  rw [← vn_to (x := fu T i) (m := i + 1) (n := j + 1) (fun k hk => fu_in T i k hk) (by omega)]
  exact vn_mono fun k _ hk _ => fu_sub h k hk
/-- AND JUST IF THAT ONE KNOWS OF AS MANY OF ITS PROCESS -/
theorem vc_knows {T : List (Int × Int)} {i j : Nat} (h : (fu T j).testBit i = false) : vc T j (pr T i) < vc T i (pr T i) := by
  have key : ∀ k, (fu T j).testBit k = true → pr T k = pr T i → k < i := fun k hk e => by
    rcases Nat.lt_trichotomy k i with h1 | h1 | h1
    · exact h1
    · subst h1; rw [h] at hk; cases hk
    · have := fu_cl T j k i hk h1 e.symm
      rw [h] at this; cases this
  have hb : ∀ k, (fu T i).testBit k = true → k < i + 1 + (j + 1) := fun k hk => by have := fu_in T i k hk; omega
  unfold vc
  rw [← vn_to (x := fu T i) (m := i + 1) (n := i + 1 + (j + 1)) (fun k hk => fu_in T i k hk) (by omega), ← vn_to (x := fu T j) (m := j + 1) (n := i + 1 + (j + 1)) (fun k hk => fu_in T j k hk) (by omega)]
  refine vn_lt (fun k _ h1 h2 => ?_) (k := i) (by omega) rfl ((fu_bit T i i).2 (.inl rfl)) h
  have h3 := key k h1 h2
  exact (fu_bit T i k).2 (.inr (bs_must h3 (must_pr h2)))
/-- one more of its own -/
theorem vc_more {T : List (Int × Int)} {i j : Nat} (h : (bs T j).testBit i = true) : vc T i (pr T j) < vc T j (pr T j) :=
  vc_knows (by
    cases e : (fu T i).testBit j with
    | false => rfl
    | true => have := fu_in T i j e; have := bs_in T j i h; omega)
theorem vc_iff (T : List (Int × Int)) (i j : Nat) : vc T i (pr T i) ≤ vc T j (pr T i) ↔ ((bs T j).testBit i = true ∨ i = j) := by
  constructor
  · intro h
    cases e : (fu T j).testBit i with
    | false => have := vc_knows e; omega
    | true => exact ((fu_bit T j i).1 e).symm
  · intro h
    exact vc_sub ((fu_bit T j i).2 h.symm) _
end Go.Proofs.YtlhpkpjcfjdgaaaDoor.M
