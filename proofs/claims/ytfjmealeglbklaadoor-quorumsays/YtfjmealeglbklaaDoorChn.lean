/- Plain mathematics of orders told by rows of bits: ranks as they are counted round by round, the widest set as it is looked for from the least number on and from the greatest one down, and rows as they are tried thing by thing; Mirsky's and Dilworth's theorems of them. No program text is named. -/
import Derived.Test.YtfjmealeglbklaaDoorDil
namespace Go.Proofs.YtfjmealeglbklaaDoor.M

/-! ### ranks -/
def rput (o : List Nat) (i j : Nat) : List Nat := o.set i (max (row o i) (row o j + 1))
def rinner (o : List Nat) (i : Nat) (js : List Nat) : List Nat := js.foldl (fun o j => rput o i j) o
def rround (t o : List Nat) (k : Nat) : List Nat := (List.range k).foldl (fun o i => rinner o i (bits (row t i))) o
def rrounds (t : List Nat) : Nat → List Nat
  | 0 => List.replicate t.length 0
  | k + 1 => rround t (rrounds t k) t.length
def ranks (t : List Nat) : List Nat := rrounds t t.length
theorem rput_length (o : List Nat) (i j : Nat) : (rput o i j).length = o.length := by simp [rput]
theorem rinner_length (o : List Nat) (i : Nat) (js : List Nat) : (rinner o i js).length = o.length := by
  unfold rinner
  induction js generalizing o with
  | nil => rfl
  | cons j js ih => rw [List.foldl_cons, ih, rput_length]
theorem rinner_snoc (o : List Nat) (i : Nat) (js : List Nat) (j : Nat) : rinner o i (js ++ [j]) = rput (rinner o i js) i j := by simp [rinner]
theorem rround_succ (t o : List Nat) (k : Nat) : rround t o (k + 1) = rinner (rround t o k) k (bits (row t k)) := by
  simp [rround, List.range_succ]
theorem rround_length (t o : List Nat) (k : Nat) : (rround t o k).length = o.length := by
  induction k with
  | zero => simp [rround]
  | succ k ih => rw [rround_succ, rinner_length, ih]
theorem rrounds_length (t : List Nat) (k : Nat) : (rrounds t k).length = t.length := by
  induction k with
  | zero => simp [rrounds]
  | succ k ih => simp only [rrounds]; rw [rround_length, ih]
theorem ranks_length (t : List Nat) : (ranks t).length = t.length := rrounds_length t _
/-- what is an upper bound stays one -/
def UB (t : List Nat) (ub : Nat → Nat) : Prop := ∀ i j, (row t i).testBit j = true → ub j < ub i
theorem rput_ub {t : List Nat} {ub : Nat → Nat} (hu : UB t ub) {o : List Nat} (h : ∀ a, row o a ≤ ub a) {i j : Nat} (hj : (row t i).testBit j = true) : ∀ a, row (rput o i j) a ≤ ub a := by
  intro a
  unfold rput
  rw [row_set]
  split
  · rename_i e
    obtain ⟨rfl, _⟩ := e
    have h1 := h i
    have h2 := h j
    have h3 := hu i j hj
    exact Nat.max_le.2 ⟨h1, by omega⟩
  · exact h a
theorem rinner_ub {t : List Nat} {ub : Nat → Nat} (hu : UB t ub) {o : List Nat} (h : ∀ a, row o a ≤ ub a) {i : Nat} (js : List Nat) (hj : ∀ j ∈ js, (row t i).testBit j = true) : ∀ a, row (rinner o i js) a ≤ ub a := by
  unfold rinner
  induction js generalizing o with
  | nil => exact h
  | cons j js ih => rw [List.foldl_cons]; exact ih (rput_ub hu h (hj j (List.mem_cons_self ..))) (fun x hx => hj x (List.mem_cons_of_mem _ hx))
theorem rround_ub {t : List Nat} {ub : Nat → Nat} (hu : UB t ub) {o : List Nat} (h : ∀ a, row o a ≤ ub a) (k : Nat) : ∀ a, row (rround t o k) a ≤ ub a := by
  induction k with
  | zero => simpa [rround] using h
  | succ k ih => rw [rround_succ]; exact rinner_ub hu ih _ (fun j hj => (mem_bits.1 hj).2)
theorem row_replicate (n a : Nat) : row (List.replicate n 0) a = 0 := by
  unfold row
  rw [List.getElem?_replicate]
  split <;> rfl
theorem rrounds_ub {t : List Nat} {ub : Nat → Nat} (hu : UB t ub) (k : Nat) : ∀ a, row (rrounds t k) a ≤ ub a := by
  induction k with
  | zero => intro a; simp only [rrounds]; rw [row_replicate]; exact Nat.zero_le _
  | succ k ih => exact rround_ub hu ih _
/-- and it only grows -/
theorem rput_mono (o : List Nat) (i j a : Nat) : row o a ≤ row (rput o i j) a := by
  unfold rput
  rw [row_set]
  split
  · rename_i e
    obtain ⟨rfl, _⟩ := e
    exact Nat.le_max_left _ _
  · exact Nat.le_refl _
theorem rinner_mono (o : List Nat) (i : Nat) (js : List Nat) (a : Nat) : row o a ≤ row (rinner o i js) a := by
  unfold rinner
  induction js generalizing o with
  | nil => exact Nat.le_refl _
  | cons j js ih => rw [List.foldl_cons]; exact Nat.le_trans (rput_mono o i j a) (ih _)
theorem rinner_gets (o : List Nat) (i : Nat) (js : List Nat) (hi : i < o.length) {j : Nat} (hj : j ∈ js) : row o j + 1 ≤ row (rinner o i js) i := by
  unfold rinner
  induction js generalizing o with
  | nil => cases hj
  | cons x js ih =>
    rw [List.foldl_cons]
    rcases List.mem_cons.1 hj with rfl | hj
    · refine Nat.le_trans ?_ (rinner_mono (rput o i j) i js i)
      unfold rput
      rw [row_set, if_pos ⟨rfl, hi⟩]
      exact Nat.le_max_right _ _
    · have := ih (rput o i x) (by rw [rput_length]; exact hi) hj
      have h2 := rput_mono o i x j
      omega
theorem rround_mono (t o : List Nat) (k a : Nat) : row o a ≤ row (rround t o k) a := by
  induction k with
  | zero => simp [rround]
  | succ k ih => rw [rround_succ]; exact Nat.le_trans ih (rinner_mono _ _ _ _)
theorem rround_gets {t : List Nat} (ht : Ok t) (hn : t.length ≤ 12) {o : List Nat} (k : Nat) {i j : Nat} (hi : i < k) (hio : i < o.length) (hij : (row t i).testBit j = true) : row o j + 1 ≤ row (rround t o k) i := by
  induction k with
  | zero => omega
  | succ k ih =>
    rw [rround_succ]
    by_cases e : i = k
    · subst e
      have h1 := rinner_gets (rround t o i) i (bits (row t i)) (by rw [rround_length]; exact hio) (mem_bits.2 ⟨by have := ht.bit hij; omega, hij⟩)
      have h2 := rround_mono t o i j
      omega
    · exact Nat.le_trans (ih (by omega)) (rinner_mono _ _ _ _)
/-- the longest row ahead, at most k long -/
def mx : Nat → (Nat → Bool) → (Nat → Nat) → Nat
  | 0, _, _ => 0
  | n + 1, p, f => if p n then max (mx n p f) (f n + 1) else mx n p f
theorem mx_ge {n : Nat} {p : Nat → Bool} {f : Nat → Nat} {j : Nat} (hj : j < n) (hp : p j = true) : f j + 1 ≤ mx n p f := by
  induction n with
  | zero => omega
  | succ n ih =>
    simp only [mx]
    by_cases e : j = n
    · subst e; rw [if_pos hp]; exact Nat.le_max_right _ _
    · have := ih (by omega)
      split
      · exact Nat.le_trans this (Nat.le_max_left _ _)
      · exact this
theorem mx_or (n : Nat) (p : Nat → Bool) (f : Nat → Nat) : mx n p f = 0 ∨ ∃ j, j < n ∧ p j = true ∧ mx n p f = f j + 1 := by
  induction n with
  | zero => exact .inl rfl
  | succ n ih =>
    simp only [mx]
    by_cases hp : p n = true
    · rw [if_pos hp]
      rcases Nat.le_total (mx n p f) (f n + 1) with h | h
      · rw [Nat.max_eq_right h]; exact .inr ⟨n, by omega, hp, rfl⟩
      · rw [Nat.max_eq_left h]
        rcases ih with h1 | ⟨j, h1, h2, h3⟩
        · exact .inl h1
        · exact .inr ⟨j, by omega, h2, h3⟩
    · rw [if_neg hp]
      rcases ih with h1 | ⟨j, h1, h2, h3⟩
      · exact .inl h1
      · exact .inr ⟨j, by omega, h2, h3⟩
theorem mx_le {n : Nat} {p q : Nat → Bool} {f g : Nat → Nat} (hp : ∀ j, j < n → p j = true → q j = true) (hf : ∀ j, j < n → p j = true → f j ≤ g j) : mx n p f ≤ mx n q g := by
  rcases mx_or n p f with h | ⟨j, h1, h2, h3⟩
  · omega
  · have := mx_ge (f := g) h1 (hp j h1 h2)
    have := hf j h1 h2
    omega
theorem mx_congr {n : Nat} {p : Nat → Bool} {f g : Nat → Nat} (hf : ∀ j, j < n → p j = true → f j = g j) : mx n p f = mx n p g :=
  Nat.le_antisymm (mx_le (fun _ _ h => h) fun j hj hp => Nat.le_of_eq (hf j hj hp)) (mx_le (fun _ _ h => h) fun j hj hp => Nat.le_of_eq (hf j hj hp).symm)
def rk (t : List Nat) : Nat → Nat → Nat
  | 0, _ => 0
  | k + 1, i => mx t.length (row t i).testBit (rk t k)
/-- rows that are one way and go on -/
def Tr (t : List Nat) : Prop := (∀ i, (row t i).testBit i = false) ∧ ∀ i j k, (row t i).testBit j = true → (row t j).testBit k = true → (row t i).testBit k = true
theorem rk_stable {t : List Nat} (hr : Tr t) (k : Nat) : ∀ i, cnt t.length (row t i) ≤ k → rk t k i = rk t (k + 1) i := by
  induction k with
  | zero =>
    intro i h
    simp only [rk]
    rcases mx_or t.length (row t i).testBit (rk t 0) with h1 | ⟨j, h1, h2, h3⟩
    · exact h1.symm
    · have := cnt_lt t.length 0 (row t i) (fun j h => by simp at h) j h1 h2 (by simp)
      omega
  | succ k ih =>
    intro i h
    show mx t.length (row t i).testBit (rk t k) = mx t.length (row t i).testBit (rk t (k + 1))
    apply mx_congr
    intro j hj hp
    apply ih
    have := cnt_lt t.length (row t j) (row t i) (fun x hx => hr.2 i j x hp hx) j hj hp (hr.1 j)
    omega
theorem rk_fix {t : List Nat} (hr : Tr t) (i : Nat) : rk t t.length i = mx t.length (row t i).testBit (rk t t.length) :=
  rk_stable hr t.length i (cnt_le _ _)
theorem rk_ub {t : List Nat} (ht : Ok t) (hr : Tr t) : UB t (rk t t.length) := fun i j h => by
  have := mx_ge (f := rk t t.length) (ht.bit h) h
  rw [← rk_fix hr i] at this
  omega
theorem rrounds_rk {t : List Nat} (ht : Ok t) (hn : t.length ≤ 12) (k : Nat) : ∀ i, i < t.length → rk t k i ≤ row (rrounds t k) i := by
  induction k with
  | zero => intro i _; exact Nat.zero_le _
  | succ k ih =>
    intro i hi
    simp only [rk]
    rcases mx_or t.length (row t i).testBit (rk t k) with h | ⟨j, h1, h2, h3⟩
    · rw [h]; exact Nat.zero_le _
    · rw [h3]
      have h4 := rround_gets ht hn (o := rrounds t k) t.length hi (by rw [rrounds_length]; exact hi) h2
      have h5 := ih j h1
      show rk t k j + 1 ≤ row (rround t (rrounds t k) t.length) i
      omega
theorem ranks_rk {t : List Nat} (ht : Ok t) (hn : t.length ≤ 12) (hr : Tr t) (i : Nat) (hi : i < t.length) : row (ranks t) i = rk t t.length i :=
  Nat.le_antisymm (rrounds_ub (rk_ub ht hr) _ i) (rrounds_rk ht hn _ i hi)
/-- MIRSKY, of the ranks -/
theorem ranks_less {t : List Nat} (ht : Ok t) (hn : t.length ≤ 12) (hr : Tr t) {i j : Nat} (h : (row t i).testBit j = true) : row (ranks t) j < row (ranks t) i := by
  rw [ranks_rk ht hn hr j (ht.bit h), ranks_rk ht hn hr i (bit_in h)]
  exact rk_ub ht hr i j h
theorem ranks_step {t : List Nat} (ht : Ok t) (hn : t.length ≤ 12) (hr : Tr t) (i : Nat) (hi : i < t.length) : row (ranks t) i = 0 ∨ ∃ j, j < t.length ∧ (row t i).testBit j = true ∧ row (ranks t) j + 1 = row (ranks t) i := by
  rw [ranks_rk ht hn hr i hi, rk_fix hr i]
  rcases mx_or t.length (row t i).testBit (rk t t.length) with h | ⟨j, h1, h2, h3⟩
  · exact .inl h
  · exact .inr ⟨j, h1, h2, by rw [ranks_rk ht hn hr j h1, h3]⟩
theorem rk_le {t u : List Nat} (hl : t.length = u.length) (h : ∀ i j, (row t i).testBit j = true → (row u i).testBit j = true) (k : Nat) : ∀ i, rk t k i ≤ rk u k i := by
  induction k with
  | zero => intro i; exact Nat.le_refl _
  | succ k ih => intro i; simp only [rk]; rw [← hl]; exact mx_le (fun j _ hp => h i j hp) (fun j _ _ => ih j)
theorem ranks_le {t u : List Nat} (ht : Ok t) (hu : Ok u) (hn : t.length ≤ 12) (hl : t.length = u.length) (hr : Tr t) (hs : Tr u) (h : ∀ i j, (row t i).testBit j = true → (row u i).testBit j = true) (i : Nat) (hi : i < t.length) : row (ranks t) i ≤ row (ranks u) i := by
  rw [ranks_rk ht hn hr i hi, ranks_rk hu (by omega) hs i (by omega), ← hl]
  exact rk_le hl h _ i
theorem rk_lt12 {t : List Nat} (k i : Nat) : rk t k i ≤ k := by
  induction k generalizing i with
  | zero => exact Nat.le_refl _
  | succ k ih =>
    simp only [rk]
    rcases mx_or t.length (row t i).testBit (rk t k) with h | ⟨j, _, _, h3⟩
    · omega
    · have := ih j; omega
theorem rrounds_le12 {t : List Nat} (ht : Ok t) (hn : t.length ≤ 12) (hr : Tr t) (k a : Nat) : row (rrounds t k) a ≤ 12 := by
  have := rrounds_ub (rk_ub ht hr) k a
  have h2 := rk_lt12 (t := t) t.length a
  omega
/-- the document's road: all things, one by one -/
def rin (t o : List Nat) (i : Nat) : Nat → List Nat
  | 0 => o
  | j + 1 => if (row t i).testBit j then rput (rin t o i j) i j else rin t o i j
theorem rin_length (t o : List Nat) (i n : Nat) : (rin t o i n).length = o.length := by
  induction n with
  | zero => rfl
  | succ n ih => simp only [rin]; split <;> simp [rput_length, ih]
theorem rin_fold (t o : List Nat) (i n : Nat) : rin t o i n = rinner o i ((List.range n).filter fun j => (row t i).testBit j) := by
  induction n with
  | zero => rfl
  | succ n ih =>
    simp only [rin]
    rw [List.range_succ, List.filter_append]
    by_cases h : (row t i).testBit n = true
    · rw [if_pos h, ih, ← rinner_snoc]
      simp [h]
    · rw [if_neg h, ih]
      simp [h]
theorem range_split (n m : Nat) (p : Nat → Bool) (h : ∀ j, n ≤ j → p j = false) : (List.range (n + m)).filter p = (List.range n).filter p := by
  induction m with
  | zero => rfl
  | succ m ih =>
    rw [← Nat.add_assoc, List.range_succ, List.filter_append, ih]
    simp [h (n + m) (by omega)]
theorem rin_all {t : List Nat} (ht : Ok t) (hn : t.length ≤ 12) (o : List Nat) (i : Nat) : rin t o i t.length = rinner o i (bits (row t i)) := by
  rw [rin_fold]
  congr 1
  unfold bits
  have := range_split t.length (12 - t.length) (fun j => (row t i).testBit j) (fun j hj => by
    cases h : (row t i).testBit j with
    | false => rfl
    | true => have := ht.bit h; omega)
  rw [show t.length + (12 - t.length) = 12 by omega] at this
  exact this.symm
theorem rin_ub {t : List Nat} {ub : Nat → Nat} (hu : UB t ub) {o : List Nat} (h : ∀ a, row o a ≤ ub a) (i n : Nat) : ∀ a, row (rin t o i n) a ≤ ub a := by
  rw [rin_fold]
  exact rinner_ub hu h _ (fun j hj => by simpa using (List.mem_filter.1 hj).2)
theorem rput_same {o : List Nat} {i j : Nat} (h : ¬ row o i < row o j + 1) (hi : i < o.length) : rput o i j = o := by
  unfold rput
  rw [Nat.max_eq_left (by omega)]
  unfold row
  rw [List.getElem?_eq_getElem hi]
  simp
theorem rput_up {o : List Nat} {i j : Nat} (h : row o i < row o j + 1) : rput o i j = o.set i (row o j + 1) := by
  unfold rput
  rw [Nat.max_eq_right (by omega)]

/-! ### side by side -/
def pc (s : Nat) : Nat := cnt 12 s
def side (c : List Nat) (s : Nat) : Bool := (bits s).all fun i => row c i &&& s == 0
theorem side_iff {c : List Nat} {s : Nat} : side c s = true ↔ ∀ i, i < 12 → s.testBit i = true → row c i &&& s = 0 := by
  unfold side
  rw [List.all_eq_true]
  constructor
  · intro h i hi hs; simpa using h i (mem_bits.2 ⟨hi, hs⟩)
  · intro h i hi; have := mem_bits.1 hi; simp [h i this.1 this.2]
theorem side_zero (c : List Nat) : side c 0 = true := side_iff.2 fun i _ h => by simp at h
theorem and_zero_iff (a b : Nat) : a &&& b = 0 ↔ ∀ j, a.testBit j = true → b.testBit j = false := by
  constructor
  · intro h j ha
    have := Nat.testBit_and a b j
    rw [h, ha] at this
    simpa using this.symm
  · intro h
    apply Nat.eq_of_testBit_eq
    intro j
    rw [Nat.testBit_and, Nat.zero_testBit]
    cases ha : a.testBit j with
    | false => rfl
    | true => rw [h j ha]; rfl
theorem cnt_above (n m s : Nat) (hs : s < 2 ^ n) : cnt (n + m) s = cnt n s := by
  induction m with
  | zero => rfl
  | succ m ih =>
    rw [← Nat.add_assoc]
    simp only [cnt]
    rw [ih]
    have : s.testBit (n + m) = false := Nat.testBit_lt_two_pow (Nat.lt_of_lt_of_le hs (Nat.pow_le_pow_right (by omega) (by omega)))
    rw [this]; simp
theorem pc_cnt {n s : Nat} (hn : n ≤ 12) (hs : s < 2 ^ n) : pc s = cnt n s := by
  unfold pc
  have := cnt_above n (12 - n) s hs
  rw [show n + (12 - n) = 12 by omega] at this
  exact this
theorem pc_zero {s : Nat} (hs : s < 4096) (h : pc s = 0) : s = 0 := by
  apply Nat.eq_of_testBit_eq
  intro j
  rw [Nat.zero_testBit]
  cases hb : s.testBit j with
  | false => rfl
  | true =>
    have hj : j < 12 := lt_of_testBit (n := 12) hs hb
    have := cnt_lt 12 0 s (fun j h => by simp at h) j hj hb (by simp)
    unfold pc at h
    omega
/-- the widest set, the least number of several -/
structure IsW (c : List Nat) (b : Nat) : Prop where
  lt : b < 2 ^ c.length
  ok : side c b = true
  best : ∀ s, s < 2 ^ c.length → side c s = true → pc s ≤ pc b ∧ (pc s = pc b → b ≤ s)
theorem IsW.one {c : List Nat} {a b : Nat} (ha : IsW c a) (hb : IsW c b) : a = b := by
  have h1 := ha.best b hb.lt hb.ok
  have h2 := hb.best a ha.lt ha.ok
  have e : pc a = pc b := Nat.le_antisymm h2.1 h1.1
  exact Nat.le_antisymm (h1.2 e.symm) (h2.2 e)
def wUp (c : List Nat) : Nat → Nat
  | 0 => 0
  | s + 1 => if pc (wUp c s) < pc s && side c s then s else wUp c s
theorem wUp_inv (c : List Nat) (k : Nat) : (wUp c k < k ∨ wUp c k = 0) ∧ side c (wUp c k) = true ∧ ∀ s, s < k → side c s = true → pc s ≤ pc (wUp c k) ∧ (pc s = pc (wUp c k) → wUp c k ≤ s) := by
  induction k with
  | zero => exact ⟨.inr rfl, side_zero c, fun s hs => by omega⟩
  | succ k ih =>
    obtain ⟨h1, h2, h3⟩ := ih
    simp only [wUp]
    by_cases hc : (decide (pc (wUp c k) < pc k) && side c k) = true
    · rw [if_pos hc]
      simp only [Bool.and_eq_true, decide_eq_true_eq] at hc
      refine ⟨.inl (by omega), hc.2, fun s hs hside => ?_⟩
      by_cases e : s = k
      · subst e; exact ⟨Nat.le_refl _, fun _ => Nat.le_refl _⟩
      · have := h3 s (by omega) hside
        omega
    · rw [if_neg hc]
      refine ⟨by omega, h2, fun s hs hside => ?_⟩
      by_cases e : s = k
      · subst e
        simp only [Bool.and_eq_true, decide_eq_true_eq, not_and, hside] at hc
        have : ¬ pc (wUp c s) < pc s := fun h => hc h trivial
        refine ⟨by omega, fun _ => ?_⟩
        rcases h1 with h1 | h1 <;> omega
      · exact h3 s (by omega) hside
def widest (c : List Nat) : Nat := wUp c (2 ^ c.length)
theorem widest_is (c : List Nat) : IsW c (widest c) := by
  obtain ⟨h1, h2, h3⟩ := wUp_inv c (2 ^ c.length)
  refine ⟨?_, h2, h3⟩
  rcases h1 with h1 | h1
  · exact h1
  · unfold widest; rw [h1]; exact Nat.two_pow_pos _
/-- the document's road: from the greatest one down -/
structure WDn (c : List Nat) (lo b : Nat) : Prop where
  lt : b < 2 ^ c.length
  ok : side c b = true
  best : ∀ s, lo ≤ s → s < 2 ^ c.length → side c s = true → pc s ≤ pc b ∧ (pc s = pc b → b ≤ s)
theorem WDn.start (c : List Nat) : WDn c (2 ^ c.length) 0 := ⟨Nat.two_pow_pos _, side_zero c, fun s h1 h2 => by omega⟩
theorem WDn.put {c : List Nat} {lo b : Nat} (h : WDn c (lo + 1) b) (hlo : lo < 2 ^ c.length) (h1 : pc b ≤ pc lo) (h2 : side c lo = true) : WDn c lo lo :=
  ⟨hlo, h2, fun s hs hs2 hside => by
    by_cases e : s = lo
    · subst e; exact ⟨Nat.le_refl _, fun _ => Nat.le_refl _⟩
    · have := h.best s (by omega) hs2 hside
      omega⟩
theorem WDn.keep {c : List Nat} {lo b : Nat} (h : WDn c (lo + 1) b) (h1 : ¬ (pc b ≤ pc lo ∧ side c lo = true)) : WDn c lo b :=
  ⟨h.lt, h.ok, fun s hs hs2 hside => by
    by_cases e : s = lo
    · subst e
      have : ¬ pc b ≤ pc s := fun h => h1 ⟨h, hside⟩
      omega
    · exact h.best s (by omega) hs2 hside⟩
theorem WDn.done {c : List Nat} {b : Nat} (hn : c.length ≤ 12) (h : WDn c 1 b) : b = widest c := by
  have h4 : 2 ^ c.length ≤ 4096 := Nat.pow_le_pow_right (n := 2) (by omega) hn
  refine IsW.one ⟨h.lt, h.ok, fun s hs hside => ?_⟩ (widest_is c)
  by_cases e : s = 0
  · subst e
    have h0 : pc 0 = 0 := by decide
    rw [h0]
    refine ⟨Nat.zero_le _, fun e => ?_⟩
    have := pc_zero (s := b) (by have := h.lt; omega) e.symm
    omega
  · exact h.best s (by omega) hs hside

/-! ### rows by trying -/
def lt (c : List Nat) (i j : Nat) : Bool := (row c i).testBit j
def near (c : List Nat) (i j : Nat) : Bool := lt c i j || lt c j i
/-- the number of the first row not in use -/
def nxt (told : List Nat) : Nat := told.foldl (fun a x => max a (x + 1)) 0
theorem nxt_nil : nxt [] = 0 := rfl
theorem nxt_snoc (told : List Nat) (k : Nat) : nxt (told ++ [k]) = max (nxt told) (k + 1) := by simp [nxt]
theorem nxt_from (told : List Nat) (a : Nat) : a ≤ told.foldl (fun a x => max a (x + 1)) a ∧ ∀ x, x ∈ told → x < told.foldl (fun a x => max a (x + 1)) a := by
  induction told generalizing a with
  | nil => exact ⟨Nat.le_refl _, fun x h => by cases h⟩
  | cons y l ih =>
    rw [List.foldl_cons]
    have h := ih (max a (y + 1))
    have h1 := Nat.le_max_left a (y + 1)
    have h2 := Nat.le_max_right a (y + 1)
    refine ⟨by omega, fun x hx => ?_⟩
    rcases List.mem_cons.1 hx with rfl | hx
    · omega
    · exact h.2 x hx
theorem nxt_gt {told : List Nat} {x : Nat} (h : x ∈ told) : x < nxt told := (nxt_from told 0).2 x h
theorem nxt_le_from {told : List Nat} {a m : Nat} (ha : a ≤ m) (h : ∀ x, x ∈ told → x < m) : told.foldl (fun a x => max a (x + 1)) a ≤ m := by
  induction told generalizing a with
  | nil => exact ha
  | cons y l ih =>
    rw [List.foldl_cons]
    have := h y (List.mem_cons_self ..)
    exact ih (Nat.max_le.2 ⟨ha, by omega⟩) (fun x hx => h x (List.mem_cons_of_mem _ hx))
theorem nxt_le {told : List Nat} {m : Nat} (h : ∀ x, x ∈ told → x < m) : nxt told ≤ m := nxt_le_from (Nat.zero_le _) h
theorem row_mem {l : List Nat} {j : Nat} (h : j < l.length) : row l j ∈ l := by
  unfold row
  rw [List.getElem?_eq_getElem h]
  exact List.getElem_mem h
theorem mem_row {l : List Nat} {x : Nat} (h : x ∈ l) : ∃ j, j < l.length ∧ row l j = x := by
  obtain ⟨j, hj, rfl⟩ := List.getElem_of_mem h
  exact ⟨j, hj, by simp [row, hj]⟩
theorem row_snoc (l : List Nat) (k j : Nat) : row (l ++ [k]) j = if j < l.length then row l j else if j = l.length then k else 0 := by
  unfold row
  rw [List.getElem?_append]
  split
  · rfl
  · rename_i h
    by_cases e : j = l.length
    · subst e; simp
    · rw [if_neg e, List.getElem?_eq_none (by simp; omega)]; rfl
def fits (c : List Nat) (told : List Nat) (k : Nat) : Bool := (List.range told.length).all fun j => row told j != k || near c told.length j
theorem fits_iff {c told : List Nat} {k : Nat} : fits c told k = true ↔ ∀ j, j < told.length → row told j = k → near c told.length j = true := by
  unfold fits
  rw [List.all_eq_true]
  constructor
  · intro h j hj e
    have := h j (List.mem_range.2 hj)
    simpa [e] using this
  · intro h j hj
    have := h j (List.mem_range.1 hj)
    by_cases e : row told j = k
    · simp [this e]
    · simp [e]
def srch (c : List Nat) (most : Nat) : Nat → List Nat → Option (List Nat)
  | 0, told => some told
  | d + 1, told => (List.range (min (nxt told + 1) most)).findSome? fun k => if fits c told k then srch c most d (told ++ [k]) else none
/-- what comes of one row -/
def try1 (c : List Nat) (most d : Nat) (told : List Nat) (k : Nat) : Option (List Nat) := if fits c told k then srch c most d (told ++ [k]) else none
theorem srch_succ (c : List Nat) (most d : Nat) (told : List Nat) : srch c most (d + 1) told = (List.range (min (nxt told + 1) most)).findSome? (try1 c most d told) := rfl
theorem find_first {α : Type} {f : Nat → Option α} {k m : Nat} {r : α} (hk : k < m) (h1 : ∀ j, j < k → f j = none) (h2 : f k = some r) : (List.range m).findSome? f = some r := by
  induction m with
  | zero => omega
  | succ m ih =>
    rw [List.range_succ, List.findSome?_append]
    by_cases e : k = m
    · subst e
      rw [List.findSome?_eq_none_iff.2 (fun x hx => h1 x (List.mem_range.1 hx))]
      simp [h2]
    · rw [ih (by omega)]; rfl
theorem find_none {α : Type} {f : Nat → Option α} {m : Nat} (h1 : ∀ j, j < m → f j = none) : (List.range m).findSome? f = none :=
  List.findSome?_eq_none_iff.2 (fun x hx => h1 x (List.mem_range.1 hx))
theorem srch_hit {c : List Nat} {most d : Nat} {told r : List Nat} {k : Nat} (hk : k ≤ nxt told) (hm : k < most) (h1 : ∀ j, j < k → try1 c most d told j = none) (h2 : try1 c most d told k = some r) : srch c most (d + 1) told = some r :=
  find_first (by omega) h1 h2
theorem srch_miss {c : List Nat} {most d : Nat} {told : List Nat} (h1 : ∀ j, j ≤ nxt told → j < most → try1 c most d told j = none) : srch c most (d + 1) told = none :=
  find_none (fun j hj => h1 j (by omega) (by omega))
theorem try1_of {c : List Nat} {most d : Nat} {told : List Nat} {k : Nat} (h : fits c told k = true) : try1 c most d told k = srch c most d (told ++ [k]) := by unfold try1; rw [if_pos h]
theorem try1_no {c : List Nat} {most d : Nat} {told : List Nat} {k : Nat} (h : fits c told k = false) : try1 c most d told k = none := by unfold try1; rw [h]; rfl
/-- rows told so far that are as they should be -/
def Good (c : List Nat) (most : Nat) (told : List Nat) : Prop := ∀ i, i < told.length → row told i < most ∧ row told i ≤ nxt (told.take i) ∧ ∀ j, j < i → row told j = row told i → near c i j = true
theorem Good.snoc {c told : List Nat} {most k : Nat} (h : Good c most told) (hm : k < most) (hk : k ≤ nxt told) (hf : fits c told k = true) : Good c most (told ++ [k]) := by
  intro i hi
  rw [List.length_append, List.length_singleton] at hi
  by_cases e : i = told.length
  · subst e
    rw [row_snoc, if_neg (Nat.lt_irrefl _), if_pos rfl, List.take_append_of_le_length (Nat.le_refl _), List.take_length]
    refine ⟨hm, hk, fun j hj ej => ?_⟩
    rw [row_snoc, if_pos hj] at ej
    exact fits_iff.1 hf j hj ej
  · have hi' : i < told.length := by omega
    rw [row_snoc, if_pos hi', List.take_append_of_le_length (by omega)]
    obtain ⟨h1, h2, h3⟩ := h i hi'
    refine ⟨h1, h2, fun j hj ej => ?_⟩
    rw [row_snoc, if_pos (by omega)] at ej
    exact h3 j hj ej
theorem srch_good {c : List Nat} {most : Nat} (d : Nat) : ∀ told r, srch c most d told = some r → Good c most told → r.length = told.length + d ∧ Good c most r := by
  induction d with
  | zero => intro told r h hg; cases h; exact ⟨rfl, hg⟩
  | succ d ih =>
    intro told r h hg
    rw [srch_succ] at h
    obtain ⟨k, hk, h1⟩ := List.exists_of_findSome?_eq_some h
    have hk' := List.mem_range.1 hk
    cases hf : fits c told k with
    | false => rw [try1_no hf] at h1; cases h1
    | true =>
      rw [try1_of hf] at h1
      have := ih _ _ h1 (hg.snoc (by omega) (by omega) hf)
      rw [List.length_append, List.length_singleton] at this
      exact ⟨by omega, this.2⟩
/-- a way to go on -/
def Ext (c : List Nat) (n most : Nat) (told : List Nat) (g : Nat → Nat) : Prop := (∀ i, i < n → g i < most) ∧ (∀ i j, i < n → j < n → g i = g j → i = j ∨ near c i j = true) ∧ ∀ j, j < told.length → g j = row told j
theorem near_symm (c : List Nat) (i j : Nat) : near c i j = near c j i := by unfold near; rw [Bool.or_comm]
def swap (a b x : Nat) : Nat := if x = a then b else if x = b then a else x
theorem swap_inj {a b x y : Nat} (h : swap a b x = swap a b y) : x = y := by
  unfold swap at h
  split at h <;> split at h <;> (try split at h) <;> (try split at h) <;> omega
theorem srch_some {c : List Nat} {most n : Nat} (d : Nat) : ∀ told, told.length + d = n → (∃ g, Ext c n most told g) → ∃ r, srch c most d told = some r := by
  induction d with
  | zero => intro told _ _; exact ⟨told, rfl⟩
  | succ d ih =>
    rintro told hl ⟨g, h1, h2, h3⟩
    have hi : told.length < n := by omega
    -- a way on with a number that may be tried
    have H : ∃ k, k ≤ nxt told ∧ k < most ∧ ∃ g', Ext c n most (told ++ [k]) g' := by
      by_cases hk : g told.length ≤ nxt told
      · refine ⟨g told.length, hk, h1 _ hi, g, h1, h2, fun j hj => ?_⟩
        rw [row_snoc]
        rw [List.length_append, List.length_singleton] at hj
        split
        · rename_i hj2; exact h3 j hj2
        · have : j = told.length := by omega
          rw [if_pos this, this]
      · have hm := h1 _ hi
        refine ⟨nxt told, Nat.le_refl _, by omega, fun i => swap (g told.length) (nxt told) (g i), fun i hin => ?_, fun i j hin hjn e => h2 i j hin hjn (swap_inj e), fun j hj => ?_⟩
        · have := h1 i hin
          show swap (g told.length) (nxt told) (g i) < most
          unfold swap
          split
          · omega
          · split <;> omega
        · rw [row_snoc]
          rw [List.length_append, List.length_singleton] at hj
          split
          · rename_i hj2
            show swap (g told.length) (nxt told) (g j) = row told j
            rw [h3 j hj2]
            have := nxt_gt (row_mem hj2)
            unfold swap
            rw [if_neg (by omega), if_neg (by omega)]
          · have : j = told.length := by omega
            rw [if_pos this, this]
            show swap (g told.length) (nxt told) (g told.length) = nxt told
            unfold swap
            rw [if_pos rfl]
    obtain ⟨k, hk1, hk2, g', hg'⟩ := H
    obtain ⟨r, hr⟩ := ih (told ++ [k]) (by rw [List.length_append, List.length_singleton]; omega) ⟨g', hg'⟩
    have hf : fits c told k = true := fits_iff.2 (fun j hj e => by
      have e1 := hg'.2.2 j (by rw [List.length_append, List.length_singleton]; omega)
      have e2 := hg'.2.2 told.length (by rw [List.length_append, List.length_singleton]; omega)
      rw [row_snoc, if_pos hj, e] at e1
      rw [row_snoc, if_neg (Nat.lt_irrefl _), if_pos rfl] at e2
      rcases hg'.2.1 told.length j hi (by omega) (e2.trans e1.symm) with h | h
      · omega
      · exact h)
    cases hs : srch c most (d + 1) told with
    | some r' => exact ⟨r', rfl⟩
    | none =>
      rw [srch_succ] at hs
      have := List.findSome?_eq_none_iff.1 hs k (List.mem_range.2 (by omega))
      rw [try1_of hf, hr] at this
      cases this
/-- all row numbers below the first one not in use are in use -/
def RG (told : List Nat) : Prop := ∀ k, k < nxt told → k ∈ told
theorem RG.nil : RG [] := fun k h => by rw [nxt_nil] at h; omega
theorem RG.snoc {told : List Nat} (h : RG told) {k : Nat} (hk : k ≤ nxt told) : RG (told ++ [k]) := by
  intro x hx
  rw [nxt_snoc] at hx
  by_cases e : x = k
  · subst e; simp
  · have : x < nxt told := by
      rcases Nat.le_total (nxt told) (k + 1) with h1 | h1
      · rw [Nat.max_eq_right h1] at hx; omega
      · rw [Nat.max_eq_left h1] at hx; exact hx
    exact List.mem_append_left _ (h x this)
/-- the things that are in a row -/
def mask (told : List Nat) (k : Nat) : Nat := cnt01 told.length fun j => row told j == k
theorem mask_bit (told : List Nat) (k j : Nat) : (mask told k).testBit j = true ↔ j < told.length ∧ row told j = k := by
  unfold mask
  rw [cnt01_bit]
  simp
theorem mask_zero {told : List Nat} (h : RG told) (k : Nat) : mask told k = 0 ↔ nxt told ≤ k := by
  constructor
  · intro h0
    rcases Nat.lt_or_ge k (nxt told) with h1 | h1
    · obtain ⟨j, hj, e⟩ := mem_row (h k h1)
      have := (mask_bit told k j).2 ⟨hj, e⟩
      rw [h0] at this; simp at this
    · exact h1
  · intro h1
    apply Nat.eq_of_testBit_eq
    intro j
    rw [Nat.zero_testBit]
    cases hb : (mask told k).testBit j with
    | false => rfl
    | true =>
      obtain ⟨hj, e⟩ := (mask_bit told k j).1 hb
      have := nxt_gt (row_mem hj)
      omega
theorem mask_lt (told : List Nat) (k : Nat) : mask told k < 2 ^ told.length := by
  apply Nat.lt_pow_two_of_testBit
  intro i hi
  cases hb : (mask told k).testBit i with
  | false => rfl
  | true => have := ((mask_bit told k i).1 hb).1; omega
def masks (told : List Nat) (most : Nat) : List Nat := (List.range most).map (mask told)
theorem masks_length (told : List Nat) (most : Nat) : (masks told most).length = most := by simp [masks]
theorem masks_row (told : List Nat) (most k : Nat) (h : k < most) : row (masks told most) k = mask told k := by simp [row, masks, h]
theorem masks_set (told : List Nat) (most k : Nat) : (masks told most).set k (mask told k ||| 1 <<< told.length) = masks (told ++ [k]) most := by
  apply ext_rows (by simp [masks_length])
  intro a ha j
  rw [List.length_set, masks_length] at ha
  rw [masks_row _ _ _ ha, row_set, masks_length, Bool.eq_iff_iff, mask_bit, List.length_append, List.length_singleton, row_snoc]
  by_cases e : k = a
  · subst e
    rw [if_pos ⟨rfl, ha⟩, Nat.testBit_or, Bool.or_eq_true, mask_bit, Nat.shiftLeft_eq, Nat.one_mul, Nat.testBit_two_pow]
    simp only [decide_eq_true_eq]
    constructor
    · rintro (⟨h1, h2⟩ | h)
      · exact ⟨by omega, by rw [if_pos h1]; exact h2⟩
      · subst h; simp
    · rintro ⟨h1, h2⟩
      by_cases e2 : j < told.length
      · rw [if_pos e2] at h2; exact .inl ⟨e2, h2⟩
      · exact .inr (by omega)
  · rw [if_neg (fun h => e h.1), masks_row _ _ _ ha, mask_bit]
    constructor
    · rintro ⟨h1, h2⟩
      exact ⟨by omega, by rw [if_pos h1]; exact h2⟩
    · rintro ⟨h1, h2⟩
      by_cases e2 : j < told.length
      · rw [if_pos e2] at h2; exact ⟨e2, h2⟩
      · rw [if_neg e2, if_pos (by omega)] at h2; exact absurd h2 e
theorem masks_back (told : List Nat) (most k : Nat) : (masks (told ++ [k]) most).set k (mask told k) = masks told most := by
  rw [← masks_set told most k, List.set_set]
  apply List.ext_getElem (by simp)
  intro a h1 h2
  rw [List.getElem_set]
  split
  · rename_i e; subst e; simp [masks]
  · rfl
theorem fits_mask {c told : List Nat} {k m : Nat} (hm : ∀ j, j < told.length → m.testBit j = near c told.length j) : fits c told k = true ↔ ∀ j, (mask told k).testBit j = true → m.testBit j = true := by
  rw [fits_iff]
  constructor
  · intro h j hj
    obtain ⟨h1, h2⟩ := (mask_bit told k j).1 hj
    rw [hm j h1]; exact h j h1 h2
  · intro h j hj e
    rw [← hm j hj]
    exact h j ((mask_bit told k j).2 ⟨hj, e⟩)

/-! ### an order's rows -/
theorem strict_of {c : List Nat} (h : Tr c) : Strict (lt c) := ⟨h.1, h.2⟩
theorem side_anti {c : List Nat} {n s : Nat} (hn : n ≤ 12) (hs : s < 2 ^ n) : side c s = true ↔ Anti n (lt c) s.testBit := by
  rw [side_iff]
  constructor
  · intro h i j hi hj h1 h2
    cases hb : lt c i j with
    | false => rfl
    | true =>
      have := (and_zero_iff _ _).1 (h i (by omega) h1) j hb
      rw [h2] at this; cases this
  · intro h i hi h1
    rw [and_zero_iff]
    intro j hj
    cases h2 : s.testBit j with
    | false => rfl
    | true =>
      have := h i j (lt_of_testBit hs h1) (lt_of_testBit hs h2) h1 h2
      unfold lt at this
      rw [hj] at this; cases this
theorem widest_bound {c : List Nat} (hn : c.length ≤ 12) : Bound c.length (lt c) (fun _ => true) (pc (widest c)) := by
  intro A _ ha
  have hlt : cnt01 c.length A < 2 ^ c.length := by
    apply Nat.lt_pow_two_of_testBit
    intro i hi
    rw [cnt01_bit]
    simp; omega
  have hbit : ∀ j, j < c.length → (cnt01 c.length A).testBit j = A j := fun j hj => by rw [cnt01_bit]; simp [hj]
  have hs : side c (cnt01 c.length A) = true := (side_anti hn hlt).2 (fun i j hi hj h1 h2 => ha i j hi hj (by rw [← hbit i hi]; exact h1) (by rw [← hbit j hj]; exact h2))
  have h := ((widest_is c).best _ hlt hs).1
  rw [pc_cnt hn hlt, cb_cnt, cb_congr (q := A) hbit] at h
  exact h
def rows (c : List Nat) : List Nat := (srch c (pc (widest c)) c.length []).getD []
theorem rows_some {c : List Nat} (hn : c.length ≤ 12) (ht : Tr c) : srch c (pc (widest c)) c.length [] = some (rows c) := by
  obtain ⟨f, hf1, hf2⟩ := dilworth (strict_of ht) c.length _ (fun _ => true) (Nat.le_refl _) _ (widest_bound hn)
  obtain ⟨r, hr⟩ := srch_some (c := c) (most := pc (widest c)) (n := c.length) c.length [] (by simp) ⟨f, fun i hi => hf1 i hi rfl, fun i j hi hj e => by
    rcases hf2 i j hi hj rfl rfl e with h | h | h
    · exact .inl h
    · exact .inr (by unfold near; rw [h]; rfl)
    · exact .inr (by unfold near; rw [h, Bool.or_true]), fun j hj => by simp at hj⟩
  unfold rows
  rw [hr]; rfl
theorem rows_good {c : List Nat} (hn : c.length ≤ 12) (ht : Tr c) : (rows c).length = c.length ∧ Good c (pc (widest c)) (rows c) := by
  have := srch_good _ _ _ (rows_some hn ht) (fun i hi => by simp at hi)
  simpa using this
/-- DILWORTH, of the rows -/
theorem rows_many {c : List Nat} (hn : c.length ≤ 12) (ht : Tr c) : nxt (rows c) = pc (widest c) := by
  obtain ⟨hl, hg⟩ := rows_good hn ht
  have hw := widest_is c
  apply Nat.le_antisymm
  · apply nxt_le
    intro x hx
    obtain ⟨j, hj, rfl⟩ := mem_row hx
    exact (hg j hj).1
  · rw [pc_cnt hn hw.lt, cb_cnt]
    have ha := (side_anti hn hw.lt).1 hw.ok
    refine pigeon_all (f := row (rows c)) (fun i hi _ => nxt_gt (row_mem (by omega))) (fun i j hi hj h1 h2 e => ?_)
    have key : ∀ i j, i < c.length → j < i → (widest c).testBit i = true → (widest c).testBit j = true → row (rows c) j = row (rows c) i → False := by
      intro i j hi hj h1 h2 e
      have := (hg i (by omega)).2.2 j hj e
      unfold near at this
      rw [ha i j hi (by omega) h1 h2, ha j i (by omega) hi h2 h1] at this
      cases this
    rcases Nat.lt_trichotomy i j with h | h | h
    · exact (key j i hj h h2 h1 e).elim
    · exact h
    · exact (key i j hi h h1 h2 e.symm).elim
end Go.Proofs.YtfjmealeglbklaaDoor.M
