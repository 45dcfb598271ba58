/- Plain mathematics: the rows of all things of an order, thing by thing: which may come next, when a list is a row, and the first row; no program text is named. -/
import Derived.Test.YtfjmealeglbklaaDoorDwn
namespace Go.Proofs.YtfjmealeglbklaaDoor.M

/-- t has of each thing all ahead: may thing i come next, behind all of done? -/
def subB (a b : Nat) : Bool := a &&& b == a
theorem subB_iff {a b : Nat} : subB a b = true ↔ ∀ j, a.testBit j = true → b.testBit j = true := by
  unfold subB
  rw [beq_iff_eq]
  constructor
  · intro h j hj
    have := Nat.testBit_and a b j
    rw [h, hj] at this
    simpa using this.symm
  · intro h
    apply Nat.eq_of_testBit_eq
    intro j
    rw [Nat.testBit_and]
    cases ha : a.testBit j with
    | false => rfl
    | true => rw [h j ha]; rfl
def nextB (t : List Nat) (done i : Nat) : Bool := !done.testBit i && subB (row t i) done
def left (done : Nat) : Nat → Bool := fun x => !done.testBit x
theorem nextB_first {c t : List Nat} (hd : Dual c t) {done i : Nat} : nextB t done i = firstB c.length (lt c) (left done) i := by
  rw [Bool.eq_iff_iff, firstB_iff]
  unfold nextB left
  rw [Bool.and_eq_true, subB_iff]
  constructor
  · rintro ⟨h1, h2⟩
    refine ⟨h1, fun j hj hl => ?_⟩
    cases hlt : lt c j i with
    | false => rfl
    | true =>
      have := h2 j (by rw [hd.2]; exact hlt)
      rw [this] at hl; cases hl
  · rintro ⟨h1, h2⟩
    refine ⟨h1, fun j hj => ?_⟩
    rw [hd.2] at hj
    cases hb : done.testBit j with
    | true => rfl
    | false =>
      have := h2 j (bit_in hj) (by rw [hb]; rfl)
      unfold lt at this
      rw [hj] at this; cases this
theorem left_put (done i : Nat) : left (done ||| 1 <<< i) = del (left done) i := by
  funext j
  unfold left del
  rw [Nat.testBit_or, Nat.shiftLeft_eq, Nat.one_mul, Nat.testBit_two_pow]
  by_cases e : i = j
  · subst e; simp
  · have : (j != i) = true := by simp; exact fun h => e h.symm
    rw [this]
    simp [e]
/-- a list goes on behind done -/
def goesB (t : List Nat) (done : Nat) : List Nat → Bool
  | [] => true
  | x :: l => decide (x < t.length) && nextB t done x && goesB t (done ||| 1 <<< x) l
theorem goes_lin {c t : List Nat} (hd : Dual c t) (htr : Tr c) : ∀ (l : List Nat) (done : Nat), (Lin c.length (lt c) (left done) l ↔ goesB t done l = true ∧ l.length = cb c.length (left done)) := by
  intro l
  induction l with
  | nil =>
    intro done
    constructor
    · intro h
      refine ⟨rfl, ?_⟩
      rw [cb_none (fun j hj => by
        cases hS : left done j with
        | false => rfl
        | true => have := (h.mem j).2 ⟨hj, hS⟩; cases this)]
      rfl
    · rintro ⟨_, h⟩
      refine ⟨List.nodup_nil, fun x => ⟨fun hx => (by cases hx), fun ⟨hx, hS⟩ => ?_⟩, fun x y hx => (by cases hx)⟩
      have := del_cb hx hS
      simp at h; omega
  | cons x l ih =>
    intro done
    rw [lin_cons (strict_of htr)]
    simp only [goesB, Bool.and_eq_true, decide_eq_true_eq]
    rw [nextB_first hd, ← hd.1, ← left_put, ih]
    constructor
    · rintro ⟨h1, h2, h3, h4⟩
      refine ⟨⟨⟨h1, h2⟩, h3⟩, ?_⟩
      have := del_cb h1 (firstB_iff.1 h2).1
      rw [left_put] at h4
      simp; omega
    · rintro ⟨⟨⟨h1, h2⟩, h3⟩, h4⟩
      refine ⟨h1, h2, h3, ?_⟩
      have := del_cb h1 (firstB_iff.1 h2).1
      rw [left_put]
      simp at h4; omega
/-! ### the first row -/
def pick (t : List Nat) (done : Nat) : Nat := ((List.range t.length).find? (nextB t done)).getD 0
def firstL (t : List Nat) : Nat → Nat → List Nat
  | 0, _ => []
  | k + 1, done => pick t done :: firstL t k (done ||| 1 <<< pick t done)
theorem Strict.flip {lt : Nat → Nat → Bool} (h : Strict lt) : Strict (fun i j => lt j i) := ⟨h.irr, fun i j k a b => h.tr k j i b a⟩
theorem next_exists {c t : List Nat} (hd : Dual c t) (htr : Tr c) {done : Nat} (h : 0 < cb c.length (left done)) : ∃ i, i < c.length ∧ nextB t done i = true := by
  obtain ⟨i, hi, hS, hm⟩ := topmost (strict_of htr).flip c.length _ (left done) (Nat.le_refl _) (cb_pos h)
  exact ⟨i, hi, by rw [nextB_first hd]; exact firstB_iff.2 ⟨hS, hm⟩⟩
theorem find_least {p : Nat → Bool} {n i : Nat} (hi : i < n) (hp : p i = true) : ∃ k, (List.range n).find? p = some k ∧ k < n ∧ p k = true ∧ ∀ j, j < k → p j = false := by
  induction n generalizing i with
  | zero => omega
  | succ n ih =>
    rw [List.range_succ, List.find?_append]
    by_cases h : ∃ j, j < n ∧ p j = true
    · obtain ⟨j, hj, hpj⟩ := h
      obtain ⟨k, a, b, c, d⟩ := ih hj hpj
      exact ⟨k, by rw [a]; rfl, by omega, c, d⟩
    · have e : i = n := by
        rcases Nat.lt_or_ge i n with h1 | h1
        · exact absurd ⟨i, h1, hp⟩ h
        · omega
      have hno : (List.range n).find? p = none := List.find?_eq_none.2 (fun x hx hpx => h ⟨x, List.mem_range.1 hx, hpx⟩)
      refine ⟨n, ?_, by omega, by rw [← e]; exact hp, fun u hu => ?_⟩
      · rw [hno]; simp [← e, hp]
      · cases hpu : p u with
        | false => rfl
        | true => exact absurd ⟨u, hu, hpu⟩ h
theorem pick_spec {c t : List Nat} (hd : Dual c t) (htr : Tr c) {done : Nat} (h : 0 < cb c.length (left done)) : pick t done < c.length ∧ nextB t done (pick t done) = true ∧ ∀ j, j < pick t done → nextB t done j = false := by
  obtain ⟨i, hi, hp⟩ := next_exists hd htr h
  obtain ⟨k, a, b, c', d⟩ := find_least (p := nextB t done) hi hp
  unfold pick
  rw [← hd.1, a]
  exact ⟨b, c', d⟩
theorem first_goes {c t : List Nat} (hd : Dual c t) (htr : Tr c) (k : Nat) : ∀ done, cb c.length (left done) = k → goesB t done (firstL t k done) = true ∧ (firstL t k done).length = k := by
  induction k with
  | zero => intro done _; exact ⟨rfl, rfl⟩
  | succ k ih =>
    intro done h
    obtain ⟨h1, h2, _⟩ := pick_spec hd htr (done := done) (by omega)
    have h3 := del_cb h1 (firstB_iff.1 (by rw [← nextB_first hd]; exact h2)).1
    rw [← left_put] at h3
    obtain ⟨a, b⟩ := ih (done ||| 1 <<< pick t done) (by omega)
    simp only [firstL, goesB, Bool.and_eq_true, decide_eq_true_eq, List.length_cons]
    rw [← hd.1]
    exact ⟨⟨⟨h1, h2⟩, a⟩, by rw [b]⟩
/-- ahead at the first place where two lists differ, or the same -/
def LexLe : List Nat → List Nat → Prop
  | [], [] => True
  | a :: x, b :: y => a < b ∨ (a = b ∧ LexLe x y)
  | _, _ => False
theorem first_least {c t : List Nat} (hd : Dual c t) (htr : Tr c) (k : Nat) : ∀ (done : Nat) (l : List Nat), cb c.length (left done) = k → goesB t done l = true → l.length = k → LexLe (firstL t k done) l := by
  induction k with
  | zero =>
    intro done l _ _ hl
    obtain rfl := List.eq_nil_of_length_eq_zero hl
    trivial
  | succ k ih =>
    intro done l h hg hl
    cases l with
    | nil => simp at hl
    | cons x l =>
      simp only [goesB, Bool.and_eq_true, decide_eq_true_eq] at hg
      obtain ⟨⟨hx, hnx⟩, hg⟩ := hg
      obtain ⟨h1, h2, hmin⟩ := pick_spec hd htr (done := done) (by omega)
      simp only [firstL, LexLe]
      rcases Nat.lt_trichotomy (pick t done) x with h3 | h3 | h3
      · exact .inl h3
      · refine .inr ⟨h3, ?_⟩
        have h4 := del_cb h1 (firstB_iff.1 (by rw [← nextB_first hd]; exact h2)).1
        rw [← left_put] at h4
        refine ih _ l (by omega) (by rw [h3]; exact hg) (by simp at hl; omega)
      · rw [hmin x h3] at hnx; cases hnx
end Go.Proofs.YtfjmealeglbklaaDoor.M
