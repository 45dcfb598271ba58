/- Plain mathematics of orders told by rows of bits (no program text is named here): the closure of a relation of few things, what it is to have a step more, and what it is turned round; each by its bits, no condition but that all rows are sets of as many things as there are rows. -/
namespace Go.Proofs.YtfjmealeglbklaaDoor.M

/-- Row i of a list of sets. -/
def row (m : List Nat) (i : Nat) : Nat := m[i]?.getD 0
/-- All rows are sets of as many things as there are rows. -/
def Ok (m : List Nat) : Prop := ∀ i, row m i < 2 ^ m.length

theorem row_out (m : List Nat) (i : Nat) (h : m.length ≤ i) : row m i = 0 := by
  unfold row; rw [List.getElem?_eq_none h]; rfl
theorem row_set (m : List Nat) (i k v : Nat) : row (m.set i v) k = if i = k ∧ k < m.length then v else row m k := by
  unfold row
  rw [List.getElem?_set]
  by_cases h : i = k
  · subst h
    by_cases h2 : i < m.length
    · simp [h2]
    · simp [h2]
  · simp [h]
theorem lt_of_testBit {s n j : Nat} (h : s < 2 ^ n) (hj : s.testBit j = true) : j < n := by
  rcases Nat.lt_or_ge j n with h1 | h1
  · exact h1
  · have := Nat.testBit_lt_two_pow (i := j) (Nat.lt_of_lt_of_le h (Nat.pow_le_pow_right (by omega) h1))
    rw [this] at hj; cases hj
theorem Ok.bit {m : List Nat} (h : Ok m) {i j : Nat} (hj : (row m i).testBit j = true) : j < m.length := lt_of_testBit (h i) hj
theorem bit_in {m : List Nat} {i j : Nat} (hj : (row m i).testBit j = true) : i < m.length := by
  rcases Nat.lt_or_ge i m.length with h | h
  · exact h
  · rw [row_out m i h] at hj; simp at hj
theorem ext_rows {a b : List Nat} (hl : a.length = b.length) (h : ∀ i, i < a.length → ∀ j, (row a i).testBit j = (row b i).testBit j) : a = b := by
  apply List.ext_getElem hl
  intro i h1 h2
  have := Nat.eq_of_testBit_eq (h i h1)
  simpa [row, h1, h2] using this

/-! ### counting -/
def cnt : Nat → Nat → Nat
  | 0, _ => 0
  | n + 1, s => cnt n s + (if s.testBit n then 1 else 0)
theorem cnt_le (n s : Nat) : cnt n s ≤ n := by
  induction n with
  | zero => simp [cnt]
  | succ n ih => simp only [cnt]; split <;> omega
theorem cnt_mono (n s t : Nat) (h : ∀ j, s.testBit j = true → t.testBit j = true) : cnt n s ≤ cnt n t := by
  induction n with
  | zero => simp [cnt]
  | succ n ih =>
    simp only [cnt]
    by_cases h1 : s.testBit n = true
    · rw [if_pos h1, if_pos (h n h1)]; omega
    · rw [if_neg h1]; split <;> omega
theorem cnt_lt (n s t : Nat) (h : ∀ j, s.testBit j = true → t.testBit j = true) (j : Nat) (hj : j < n) (h1 : t.testBit j = true) (h2 : s.testBit j = false) : cnt n s < cnt n t := by
  induction n with
  | zero => omega
  | succ n ih =>
    simp only [cnt]
    by_cases e : j = n
    · subst e
      rw [if_pos h1, if_neg (by rw [h2]; simp)]
      have := cnt_mono j s t h; omega
    · have := ih (by omega)
      by_cases h3 : s.testBit n = true
      · rw [if_pos h3, if_pos (h n h3)]; omega
      · rw [if_neg h3]; split <;> omega

def iter (f : Nat → Nat) : Nat → Nat → Nat
  | 0, s => s
  | k + 1, s => f (iter f k s)

theorem iter_cnt (f : Nat → Nat) (n s : Nat) (hs : s < 2 ^ n) (hf : ∀ t, t < 2 ^ n → f t < 2 ^ n) (hg : ∀ t j, t.testBit j = true → (f t).testBit j = true) (k : Nat) :
    iter f k s < 2 ^ n ∧ (f (iter f k s) = iter f k s ∨ k ≤ cnt n (iter f k s)) := by
  induction k with
  | zero => exact ⟨hs, .inr (Nat.zero_le _)⟩
  | succ k ih =>
    obtain ⟨h1, h2⟩ := ih
    refine ⟨hf _ h1, ?_⟩
    rcases h2 with h2 | h2
    · left; show f (f (iter f k s)) = f (iter f k s); rw [h2]; exact h2
    · by_cases e : f (iter f k s) = iter f k s
      · left; show f (f (iter f k s)) = f (iter f k s); rw [e]; exact e
      · right
        show k + 1 ≤ cnt n (f (iter f k s))
        have hex : ∃ j, (f (iter f k s)).testBit j ≠ (iter f k s).testBit j := by
          apply Classical.byContradiction
          intro hn
          apply e
          apply Nat.eq_of_testBit_eq
          intro j
          apply Classical.byContradiction
          intro hj
          exact hn ⟨j, hj⟩
        obtain ⟨j, hj⟩ := hex
        have hjs : (iter f k s).testBit j = false := by
          cases hb : (iter f k s).testBit j with
          | false => rfl
          | true => exact absurd ((hg _ j hb).trans hb.symm) hj
        have hjf : (f (iter f k s)).testBit j = true := by
          cases hb : (f (iter f k s)).testBit j with
          | true => rfl
          | false => exact absurd (hb.trans hjs.symm) hj
        have := cnt_lt n (iter f k s) (f (iter f k s)) (hg _) j (lt_of_testBit (hf _ h1) hjf) hjf hjs
        omega

theorem iter_fixed (f : Nat → Nat) (n s : Nat) (hs : s < 2 ^ n) (hf : ∀ t, t < 2 ^ n → f t < 2 ^ n) (hg : ∀ t j, t.testBit j = true → (f t).testBit j = true) :
    f (iter f n s) = iter f n s := by
  have h := iter_cnt f n s hs hf hg n
  rcases h.2 with e | e
  · exact e
  · rcases (iter_cnt f n s hs hf hg (n + 1)).2 with e2 | e2
    · apply Nat.eq_of_testBit_eq
      intro j
      cases hb : (iter f n s).testBit j with
      | true => exact hg _ j hb
      | false =>
        cases hc : (f (iter f n s)).testBit j with
        | false => rfl
        | true =>
          have h3 := cnt_lt n (iter f n s) (f (iter f n s)) (hg _) j (lt_of_testBit (hf _ h.1) hc) hc hb
          have h4 := cnt_le n (f (iter f n s)); omega
    · have := cnt_le n (iter f (n + 1) s); omega

/-! ### one step on, and the closure -/
def gstepTo (r : List Nat) (s : Nat) : Nat → Nat
  | 0 => s
  | j + 1 => if s.testBit j then gstepTo r s j ||| row r j else gstepTo r s j
def gstep (r : List Nat) (s : Nat) : Nat := gstepTo r s r.length

theorem gstepTo_bit (r : List Nat) (s n k : Nat) : (gstepTo r s n).testBit k = true ↔ s.testBit k = true ∨ ∃ j, j < n ∧ s.testBit j = true ∧ (row r j).testBit k = true := by
  induction n with
  | zero => simp [gstepTo]
  | succ n ih =>
    simp only [gstepTo]
    by_cases h : s.testBit n = true
    · rw [if_pos h, Nat.testBit_or, Bool.or_eq_true, ih]
      constructor
      · rintro ((h1 | ⟨j, h1, h2, h3⟩) | h1)
        · exact .inl h1
        · exact .inr ⟨j, by omega, h2, h3⟩
        · exact .inr ⟨n, by omega, h, h1⟩
      · rintro (h1 | ⟨j, h1, h2, h3⟩)
        · exact .inl (.inl h1)
        · by_cases e : j = n
          · subst e; exact .inr h3
          · exact .inl (.inr ⟨j, by omega, h2, h3⟩)
    · rw [if_neg h, ih]
      constructor
      · rintro (h1 | ⟨j, h1, h2, h3⟩)
        · exact .inl h1
        · exact .inr ⟨j, by omega, h2, h3⟩
      · rintro (h1 | ⟨j, h1, h2, h3⟩)
        · exact .inl h1
        · by_cases e : j = n
          · subst e; exact absurd h2 h
          · exact .inr ⟨j, by omega, h2, h3⟩
theorem gstep_bit (r : List Nat) (s k : Nat) : (gstep r s).testBit k = true ↔ s.testBit k = true ∨ ∃ j, s.testBit j = true ∧ (row r j).testBit k = true := by
  unfold gstep
  rw [gstepTo_bit]
  constructor
  · rintro (h | ⟨j, _, h2, h3⟩)
    · exact .inl h
    · exact .inr ⟨j, h2, h3⟩
  · rintro (h | ⟨j, h2, h3⟩)
    · exact .inl h
    · exact .inr ⟨j, bit_in h3, h2, h3⟩
theorem gstepTo_lt (r : List Nat) (hr : Ok r) (s n : Nat) (hs : s < 2 ^ r.length) : gstepTo r s n < 2 ^ r.length := by
  induction n with
  | zero => exact hs
  | succ n ih =>
    simp only [gstepTo]
    split
    · exact Nat.or_lt_two_pow ih (hr n)
    · exact ih
theorem gstep_lt (r : List Nat) (hr : Ok r) (s : Nat) (hs : s < 2 ^ r.length) : gstep r s < 2 ^ r.length := gstepTo_lt r hr s _ hs

/-- Thing j is behind thing i, at once or over others. -/
def Clo (r : List Nat) (i j : Nat) : Prop := (iter (gstep r) r.length (row r i)).testBit j = true

theorem clo_lt {r : List Nat} (hr : Ok r) (i k : Nat) : iter (gstep r) k (row r i) < 2 ^ r.length := by
  induction k with
  | zero => exact hr i
  | succ k ih => exact gstep_lt r hr _ ih
theorem iter_base {r : List Nat} {s j : Nat} (k : Nat) (h : s.testBit j = true) : (iter (gstep r) k s).testBit j = true := by
  induction k with
  | zero => exact h
  | succ k ih => exact (gstep_bit r _ j).2 (.inl ih)
theorem clo_base {r : List Nat} {i j : Nat} (h : (row r i).testBit j = true) : Clo r i j := iter_base _ h
theorem clo_step {r : List Nat} (hr : Ok r) {i j k : Nat} (h : Clo r i j) (h2 : (row r j).testBit k = true) : Clo r i k := by
  have hf := iter_fixed (gstep r) r.length (row r i) (hr i) (gstep_lt r hr) (fun t j ht => (gstep_bit r t j).2 (.inl ht))
  unfold Clo
  rw [← hf]
  exact (gstep_bit r _ k).2 (.inr ⟨j, h, h2⟩)
theorem iter_least {r : List Nat} {s : Nat} (T : Nat → Prop) (h0 : ∀ j, s.testBit j = true → T j) (h1 : ∀ j k, T j → (row r j).testBit k = true → T k) (k : Nat) :
    ∀ j, (iter (gstep r) k s).testBit j = true → T j := by
  induction k with
  | zero => exact h0
  | succ k ih =>
    intro j hj
    rcases (gstep_bit r _ j).1 hj with h | ⟨m, h2, h3⟩
    · exact ih j h
    · exact h1 m j (ih m h2) h3
theorem clo_least {r : List Nat} {i : Nat} (T : Nat → Prop) (h0 : ∀ j, (row r i).testBit j = true → T j) (h1 : ∀ j k, T j → (row r j).testBit k = true → T k) {j : Nat} (h : Clo r i j) : T j :=
  iter_least T h0 h1 r.length j h
theorem clo_trans {r : List Nat} (hr : Ok r) {i j k : Nat} (h : Clo r i j) (h2 : Clo r j k) : Clo r i k :=
  clo_least (fun k => Clo r i k) (fun _ hk => clo_step hr h hk) (fun _ _ ha hb => clo_step hr ha hb) h2
theorem clo_in {r : List Nat} {i j : Nat} (h : Clo r i j) : i < r.length := by
  rcases Nat.lt_or_ge i r.length with h1 | h1
  · exact h1
  · have : ∀ j, Clo r i j → False := fun j hj => clo_least (fun _ => False) (fun j hj => by rw [row_out r i h1] at hj; simp at hj) (fun _ _ hf _ => hf) hj
    exact (this j h).elim
theorem clo_to {r : List Nat} (hr : Ok r) {i j : Nat} (h : Clo r i j) : j < r.length := lt_of_testBit (clo_lt hr i _) h

/-- The closed rows. -/
def clo (r : List Nat) : List Nat := (List.range r.length).map fun i => iter (gstep r) r.length (row r i)
theorem clo_length (r : List Nat) : (clo r).length = r.length := by simp [clo]
theorem clo_row (r : List Nat) (i : Nat) (h : i < r.length) : row (clo r) i = iter (gstep r) r.length (row r i) := by
  simp [row, clo, h]
theorem clo_bit (r : List Nat) (i j : Nat) : (row (clo r) i).testBit j = true ↔ Clo r i j := by
  rcases Nat.lt_or_ge i r.length with h | h
  · rw [clo_row r i h]; rfl
  · rw [row_out _ i (by rw [clo_length]; exact h)]
    constructor
    · intro h2; simp at h2
    · intro h2; have := clo_in h2; omega
theorem clo_ok {r : List Nat} (hr : Ok r) : Ok (clo r) := by
  intro i
  rw [clo_length]
  rcases Nat.lt_or_ge i r.length with h | h
  · rw [clo_row r i h]; exact clo_lt hr i _
  · rw [row_out _ i (by rw [clo_length]; exact h)]; exact Nat.two_pow_pos _

/-- Rows that are closed already are their own closure. -/
theorem clo_of_closed {r : List Nat} (h : ∀ i j k, (row r i).testBit j = true → (row r j).testBit k = true → (row r i).testBit k = true) (i j : Nat) : Clo r i j ↔ (row r i).testBit j = true :=
  ⟨fun hc => clo_least (fun j => (row r i).testBit j = true) (fun _ h => h) (fun j k ha hb => h i j k ha hb) hc, clo_base⟩
theorem clo_clo {r : List Nat} (hr : Ok r) : clo (clo r) = clo r := by
  apply ext_rows (by simp [clo_length])
  intro i _ j
  rw [Bool.eq_iff_iff, clo_bit, clo_of_closed]
  intro i j k h1 h2
  rw [clo_bit] at *
  exact clo_trans hr h1 h2

/-! ### reached: all rows at once, in place -/
def bits (s : Nat) : List Nat := (List.range 12).filter fun j => s.testBit j
theorem mem_bits {s j : Nat} : j ∈ bits s ↔ j < 12 ∧ s.testBit j = true := by simp [bits]

def put (m : List Nat) (i j : Nat) : List Nat := m.set i (row m i ||| row m j)
def inner (m : List Nat) (i : Nat) (js : List Nat) : List Nat := js.foldl (fun m j => put m i j) m
def round (m : List Nat) (k : Nat) : List Nat := (List.range k).foldl (fun m i => inner m i (bits (row m i))) m
def rounds (m : List Nat) : Nat → List Nat
  | 0 => m
  | k + 1 => round (rounds m k) (rounds m k).length

theorem put_length (m : List Nat) (i j : Nat) : (put m i j).length = m.length := by simp [put]
theorem inner_length (m : List Nat) (i : Nat) (js : List Nat) : (inner m i js).length = m.length := by
  unfold inner
  induction js generalizing m with
  | nil => rfl
  | cons j js ih => rw [List.foldl_cons, ih, put_length]
theorem inner_snoc (m : List Nat) (i : Nat) (js : List Nat) (j : Nat) : inner m i (js ++ [j]) = put (inner m i js) i j := by simp [inner]
theorem round_succ (m : List Nat) (k : Nat) : round m (k + 1) = inner (round m k) k (bits (row (round m k) k)) := by
  simp [round, List.range_succ]
theorem round_length (m : List Nat) (k : Nat) : (round m k).length = m.length := by
  induction k with
  | zero => simp [round]
  | succ k ih => rw [round_succ, inner_length, ih]
theorem rounds_length (m : List Nat) (k : Nat) : (rounds m k).length = m.length := by
  induction k with
  | zero => rfl
  | succ k ih => simp only [rounds]; rw [round_length, ih]

theorem put_bit (m : List Nat) (i j a b : Nat) : (row (put m i j) a).testBit b = true ↔ (row m a).testBit b = true ∨ (a = i ∧ i < m.length ∧ (row m j).testBit b = true) := by
  unfold put
  rw [row_set]
  by_cases h : i = a ∧ a < m.length
  · obtain ⟨rfl, h2⟩ := h
    rw [if_pos ⟨rfl, h2⟩, Nat.testBit_or, Bool.or_eq_true]
    simp [h2]
  · rw [if_neg h]
    constructor
    · exact .inl
    · rintro (h1 | ⟨rfl, h2, _⟩)
      · exact h1
      · exact absurd ⟨rfl, h2⟩ h
theorem put_ok {m : List Nat} (h : Ok m) (i j : Nat) : Ok (put m i j) := by
  intro a
  rw [put_length]
  unfold put
  rw [row_set]
  split
  · exact Nat.or_lt_two_pow (h i) (h j)
  · exact h a
theorem inner_ok {m : List Nat} (h : Ok m) (i : Nat) (js : List Nat) : Ok (inner m i js) := by
  unfold inner
  induction js generalizing m with
  | nil => exact h
  | cons j js ih => rw [List.foldl_cons]; exact ih (put_ok h i j)
theorem round_ok {m : List Nat} (h : Ok m) (k : Nat) : Ok (round m k) := by
  induction k with
  | zero => simpa [round] using h
  | succ k ih => rw [round_succ]; exact inner_ok ih _ _
theorem rounds_ok {m : List Nat} (h : Ok m) (k : Nat) : Ok (rounds m k) := by
  induction k with
  | zero => exact h
  | succ k ih => exact round_ok ih _

/-- what is in all rows only grows -/
theorem inner_mono {m : List Nat} (i : Nat) (js : List Nat) {a b : Nat} (h : (row m a).testBit b = true) : (row (inner m i js) a).testBit b = true := by
  unfold inner
  induction js generalizing m with
  | nil => exact h
  | cons j js ih => rw [List.foldl_cons]; exact ih ((put_bit m i j a b).2 (.inl h))
theorem inner_gets {m : List Nat} (i : Nat) (js : List Nat) {j b : Nat} (hi : i < m.length) (hj : j ∈ js) (h : (row m j).testBit b = true) : (row (inner m i js) i).testBit b = true := by
  unfold inner
  induction js generalizing m with
  | nil => cases hj
  | cons x js ih =>
    rw [List.foldl_cons]
    rcases List.mem_cons.1 hj with rfl | hj
    · exact inner_mono i js ((put_bit m i j i b).2 (.inr ⟨rfl, hi, h⟩))
    · exact ih (by rw [put_length]; exact hi) hj ((put_bit m i x j b).2 (.inl h))
theorem round_mono {m : List Nat} (k : Nat) {a b : Nat} (h : (row m a).testBit b = true) : (row (round m k) a).testBit b = true := by
  induction k with
  | zero => simpa [round] using h
  | succ k ih => rw [round_succ]; exact inner_mono _ _ ih
theorem round_gets {m : List Nat} (hm : Ok m) (hn : m.length ≤ 12) (k : Nat) {i j b : Nat} (hi : i < k) (hij : (row m i).testBit j = true) (h : (row m j).testBit b = true) : (row (round m k) i).testBit b = true := by
  induction k with
  | zero => omega
  | succ k ih =>
    rw [round_succ]
    by_cases e : i = k
    · subst e
      exact inner_gets i _ (by rw [round_length]; exact bit_in hij) (mem_bits.2 ⟨by have := hm.bit hij; omega, round_mono _ hij⟩) (round_mono _ h)
    · exact inner_mono _ _ (ih (by omega))

/-- nothing is in a row that is not behind -/
def Sound (r m : List Nat) : Prop := ∀ i j, (row m i).testBit j = true → Clo r i j
theorem put_sound {r m : List Nat} (hr : Ok r) (hm : Sound r m) {i j : Nat} (hj : Clo r i j) : Sound r (put m i j) := by
  intro a b h
  rcases (put_bit m i j a b).1 h with h | ⟨rfl, _, h⟩
  · exact hm a b h
  · exact clo_trans hr hj (hm j b h)
theorem inner_sound {r m : List Nat} (hr : Ok r) (hm : Sound r m) {i : Nat} (js : List Nat) (hj : ∀ j ∈ js, Clo r i j) : Sound r (inner m i js) := by
  unfold inner
  induction js generalizing m with
  | nil => exact hm
  | cons j js ih => rw [List.foldl_cons]; exact ih (put_sound hr hm (hj j (List.mem_cons_self ..))) (fun x hx => hj x (List.mem_cons_of_mem _ hx))
theorem round_sound {r m : List Nat} (hr : Ok r) (hm : Sound r m) (k : Nat) : Sound r (round m k) := by
  induction k with
  | zero => simpa [round] using hm
  | succ k ih => rw [round_succ]; exact inner_sound hr ih _ (fun j hj => ih _ _ (mem_bits.1 hj).2)
theorem rounds_sound {r : List Nat} (hr : Ok r) (k : Nat) : Sound r (rounds r k) := by
  induction k with
  | zero => exact fun i j h => clo_base h
  | succ k ih => exact round_sound hr ih _
theorem rounds_base {r : List Nat} (k : Nat) {i j : Nat} (h : (row r i).testBit j = true) : (row (rounds r k) i).testBit j = true := by
  induction k with
  | zero => exact h
  | succ k ih => exact round_mono _ ih
theorem rounds_full {r : List Nat} (hr : Ok r) (hn : r.length ≤ 12) (k i : Nat) : ∀ j, (iter (gstep r) k (row r i)).testBit j = true → (row (rounds r k) i).testBit j = true := by
  induction k with
  | zero => exact fun j h => h
  | succ k ih =>
    intro j h
    simp only [rounds]
    rcases (gstep_bit r _ j).1 h with h | ⟨m, h2, h3⟩
    · exact round_mono _ (ih j h)
    · have h4 := ih m h2
      exact round_gets (rounds_ok hr k) (by rw [rounds_length]; exact hn) _ (bit_in h4) h4 (rounds_base k h3)
theorem rounds_clo {r : List Nat} (hr : Ok r) (hn : r.length ≤ 12) : rounds r r.length = clo r := by
  apply ext_rows (by rw [rounds_length, clo_length])
  intro i _ j
  rw [Bool.eq_iff_iff, clo_bit]
  exact ⟨rounds_sound hr _ i j, rounds_full hr hn _ i j⟩

/-! ### turned round -/
def cnt01 : Nat → (Nat → Bool) → Nat
  | 0, _ => 0
  | k + 1, f => cnt01 k f ||| (if f k then 1 <<< k else 0)
def turn (c : List Nat) (k : Nat) : List Nat := (List.range c.length).map fun j => cnt01 k fun i => (row c i).testBit j
theorem cnt01_bit (k : Nat) (f : Nat → Bool) (i : Nat) : (cnt01 k f).testBit i = (decide (i < k) && f i) := by
  induction k with
  | zero => simp [cnt01]
  | succ k ih =>
    simp only [cnt01]
    rw [Nat.testBit_or, ih]
    by_cases e : i = k
    · subst e
      cases f i <;> simp
    · have h1 : (if f k = true then 1 <<< k else 0).testBit i = false := by
        split
        · rw [Nat.shiftLeft_eq, Nat.one_mul, Nat.testBit_two_pow]; simp; omega
        · simp
      rw [h1]
      have h2 : decide (i < k + 1) = decide (i < k) := by rw [Bool.eq_iff_iff]; simp; omega
      rw [h2]; simp
theorem turn_length (c : List Nat) (k : Nat) : (turn c k).length = c.length := by simp [turn]
theorem turn_bit (c : List Nat) (k : Nat) (j i : Nat) : (row (turn c k) j).testBit i = true ↔ j < c.length ∧ i < k ∧ (row c i).testBit j = true := by
  rcases Nat.lt_or_ge j c.length with h | h
  · have : row (turn c k) j = cnt01 k fun i => (row c i).testBit j := by simp [row, turn, h]
    rw [this, cnt01_bit]; simp [h]
  · rw [row_out _ j (by rw [turn_length]; exact h)]
    constructor
    · intro h2; simp at h2
    · rintro ⟨h2, _⟩; omega
theorem turn_ok (c : List Nat) (k : Nat) (hk : k ≤ c.length) : Ok (turn c k) := by
  intro j
  apply Nat.lt_pow_two_of_testBit
  intro i hi
  cases hb : (row (turn c k) j).testBit i with
  | false => rfl
  | true => have := (turn_bit c k j i).1 hb; rw [turn_length] at hi; omega

/-- the rows turned round, thing by thing, in place -/
def tinner (t : List Nat) (i : Nat) (js : List Nat) : List Nat := js.foldl (fun t j => t.set j (row t j ||| 1 <<< i)) t
theorem tinner_length (t : List Nat) (i : Nat) (js : List Nat) : (tinner t i js).length = t.length := by
  unfold tinner
  induction js generalizing t with
  | nil => rfl
  | cons j js ih => rw [List.foldl_cons, ih]; simp
theorem tinner_snoc (t : List Nat) (i : Nat) (js : List Nat) (j : Nat) : tinner t i (js ++ [j]) = (tinner t i js).set j (row (tinner t i js) j ||| 1 <<< i) := by simp [tinner]
theorem tinner_bit (t : List Nat) (i : Nat) (js : List Nat) (j k : Nat) : (row (tinner t i js) j).testBit k = true ↔ (row t j).testBit k = true ∨ (j ∈ js ∧ k = i ∧ j < t.length) := by
  unfold tinner
  induction js generalizing t with
  | nil => simp
  | cons x js ih =>
    rw [List.foldl_cons, ih, row_set, List.length_set]
    by_cases h : x = j ∧ j < t.length
    · obtain ⟨rfl, h2⟩ := h
      rw [if_pos ⟨rfl, h2⟩, Nat.testBit_or, Bool.or_eq_true, Nat.shiftLeft_eq, Nat.one_mul, Nat.testBit_two_pow, decide_eq_true_eq]
      constructor
      · rintro ((h1 | h1) | ⟨h1, h3, h4⟩)
        · exact .inl h1
        · exact .inr ⟨List.mem_cons_self .., h1.symm, h2⟩
        · exact .inr ⟨List.mem_cons_of_mem _ h1, h3, h4⟩
      · rintro (h1 | ⟨_, h3, _⟩)
        · exact .inl (.inl h1)
        · exact .inl (.inr h3.symm)
    · rw [if_neg h]
      constructor
      · rintro (h1 | ⟨h1, h3, h4⟩)
        · exact .inl h1
        · exact .inr ⟨List.mem_cons_of_mem _ h1, h3, h4⟩
      · rintro (h1 | ⟨h1, h3, h4⟩)
        · exact .inl h1
        · rcases List.mem_cons.1 h1 with rfl | h1
          · exact absurd ⟨rfl, h4⟩ h
          · exact .inr ⟨h1, h3, h4⟩
theorem turn_succ {c : List Nat} (hn : c.length ≤ 12) (i : Nat) : tinner (turn c i) i (bits (row c i)) = turn c (i + 1) := by
  apply ext_rows (by rw [tinner_length, turn_length, turn_length])
  intro j hj k
  rw [tinner_length, turn_length] at hj
  rw [Bool.eq_iff_iff, tinner_bit, turn_bit, turn_bit, mem_bits, turn_length]
  constructor
  · rintro (⟨h1, h2, h3⟩ | ⟨⟨_, h2⟩, rfl, h4⟩)
    · exact ⟨h1, by omega, h3⟩
    · exact ⟨h4, by omega, h2⟩
  · rintro ⟨h1, h2, h3⟩
    by_cases e : k = i
    · subst e; exact .inr ⟨⟨by omega, h3⟩, rfl, h1⟩
    · exact .inl ⟨h1, by omega, h3⟩
theorem turn_zero (c : List Nat) : turn c 0 = List.replicate c.length 0 := by
  apply ext_rows (by rw [turn_length, List.length_replicate])
  intro j _ k
  rw [Bool.eq_iff_iff, turn_bit]
  constructor
  · rintro ⟨_, h, _⟩; omega
  · intro h
    have : row (List.replicate c.length 0) j = 0 := by unfold row; rw [List.getElem?_replicate]; split <;> rfl
    rw [this] at h; simp at h
theorem tinner_lt {t : List Nat} {n : Nat} (h : ∀ j, row t j < 2 ^ n) {i : Nat} (hi : i < n) (js : List Nat) (j : Nat) : row (tinner t i js) j < 2 ^ n := by
  apply Nat.lt_pow_two_of_testBit
  intro k hk
  cases hb : (row (tinner t i js) j).testBit k with
  | false => rfl
  | true =>
    rcases (tinner_bit t i js j k).1 hb with h1 | ⟨_, h3, _⟩
    · have := lt_of_testBit (h j) h1; omega
    · omega

/-- the rows turned round -/
def turned (r : List Nat) : List Nat := turn (clo r) r.length
theorem turned_length (r : List Nat) : (turned r).length = r.length := by simp [turned, turn_length, clo_length]
theorem turned_ok (r : List Nat) : Ok (turned r) := turn_ok _ _ (by rw [clo_length]; exact Nat.le_refl _)
theorem turned_bit {r : List Nat} (hr : Ok r) (j i : Nat) : (row (turned r) j).testBit i = true ↔ Clo r i j := by
  unfold turned
  rw [turn_bit, clo_bit, clo_length]
  exact ⟨fun h => h.2.2, fun h => ⟨clo_to hr h, clo_in h, h⟩⟩
theorem turned_closed {r : List Nat} (hr : Ok r) (i j : Nat) : Clo (turned r) i j ↔ Clo r j i := by
  rw [clo_of_closed, turned_bit hr]
  intro i j k h1 h2
  rw [turned_bit hr] at *
  exact clo_trans hr h2 h1
theorem turned_turned {r : List Nat} (hr : Ok r) : turned (turned r) = clo r := by
  apply ext_rows (by rw [turned_length, turned_length, clo_length])
  intro i _ j
  rw [Bool.eq_iff_iff, turned_bit (turned_ok r), turned_closed hr, clo_bit]

/-- a thing behind itself -/
def Ring (r : List Nat) : Prop := ∃ i, Clo r i i
theorem turned_ring {r : List Nat} (hr : Ok r) : Ring (turned r) ↔ Ring r :=
  ⟨fun ⟨i, h⟩ => ⟨i, (turned_closed hr i i).1 h⟩, fun ⟨i, h⟩ => ⟨i, (turned_closed hr i i).2 h⟩⟩
theorem clo_ring {r : List Nat} (hr : Ok r) : Ring (clo r) ↔ Ring r := by
  have : ∀ i j, Clo (clo r) i j ↔ Clo r i j := fun i j => by rw [← clo_bit, clo_clo hr, clo_bit]
  exact ⟨fun ⟨i, h⟩ => ⟨i, (this i i).1 h⟩, fun ⟨i, h⟩ => ⟨i, (this i i).2 h⟩⟩

/-! ### a step more -/
def more (r : List Nat) (a b : Nat) : List Nat := r.set a (row r a ||| 1 <<< b)
theorem more_length (r : List Nat) (a b : Nat) : (more r a b).length = r.length := by simp [more]
theorem more_bit {r : List Nat} {a b : Nat} (ha : a < r.length) (i j : Nat) : (row (more r a b) i).testBit j = true ↔ (row r i).testBit j = true ∨ (i = a ∧ j = b) := by
  unfold more
  rw [row_set]
  by_cases h : a = i
  · subst h
    rw [if_pos ⟨rfl, ha⟩, Nat.testBit_or, Bool.or_eq_true, Nat.shiftLeft_eq, Nat.one_mul, Nat.testBit_two_pow]
    constructor
    · rintro (h1 | h1)
      · exact .inl h1
      · exact .inr ⟨rfl, (of_decide_eq_true h1).symm⟩
    · rintro (h1 | ⟨_, h1⟩)
      · exact .inl h1
      · exact .inr (decide_eq_true h1.symm)
  · rw [if_neg (fun h2 => h h2.1)]
    constructor
    · exact .inl
    · rintro (h1 | ⟨rfl, _⟩)
      · exact h1
      · exact absurd rfl h
theorem more_ok {r : List Nat} (hr : Ok r) {a b : Nat} (hb : b < r.length) : Ok (more r a b) := by
  intro i
  rw [more_length]
  unfold more
  rw [row_set]
  split
  · refine Nat.or_lt_two_pow (hr a) ?_
    rw [Nat.shiftLeft_eq, Nat.one_mul]; exact Nat.pow_lt_pow_right (by omega) hb
  · exact hr i
/-- what is behind what, with a step more -/
theorem clo_more {r : List Nat} (hr : Ok r) {a b : Nat} (ha : a < r.length) (hb : b < r.length) (i j : Nat) :
    Clo (more r a b) i j ↔ Clo r i j ∨ ((i = a ∨ Clo r i a) ∧ (j = b ∨ Clo r b j)) := by
  have hm := more_ok (a := a) hr hb
  have up : ∀ i j, Clo r i j → Clo (more r a b) i j := fun i j h =>
    clo_least (fun j => Clo (more r a b) i j) (fun j h => clo_base ((more_bit ha i j).2 (.inl h))) (fun j k h1 h2 => clo_step hm h1 ((more_bit ha j k).2 (.inl h2))) h
  have hab : Clo (more r a b) a b := clo_base ((more_bit ha a b).2 (.inr ⟨rfl, rfl⟩))
  constructor
  · intro h
    refine clo_least (fun j => Clo r i j ∨ ((i = a ∨ Clo r i a) ∧ (j = b ∨ Clo r b j))) ?_ ?_ h
    · intro j hj
      rcases (more_bit ha i j).1 hj with h1 | ⟨rfl, rfl⟩
      · exact .inl (clo_base h1)
      · exact .inr ⟨.inl rfl, .inl rfl⟩
    · intro j k h1 h2
      rcases (more_bit ha j k).1 h2 with h3 | ⟨rfl, rfl⟩
      · rcases h1 with h1 | ⟨h4, h5⟩
        · exact .inl (clo_step hr h1 h3)
        · refine .inr ⟨h4, .inr ?_⟩
          rcases h5 with rfl | h5
          · exact clo_base h3
          · exact clo_step hr h5 h3
      · rcases h1 with h1 | ⟨h4, _⟩
        · exact .inr ⟨.inr h1, .inl rfl⟩
        · exact .inr ⟨h4, .inl rfl⟩
  · rintro (h | ⟨h1, h2⟩)
    · exact up i j h
    · have h3 : Clo (more r a b) i b := by
        rcases h1 with rfl | h1
        · exact hab
        · exact clo_trans hm (up _ _ h1) hab
      rcases h2 with rfl | h2
      · exact h3
      · exact clo_trans hm h3 (up _ _ h2)
theorem clo_more_clo {r : List Nat} (hr : Ok r) {a b : Nat} (ha : a < r.length) (hb : b < r.length) : clo (more (clo r) a b) = clo (more r a b) := by
  have h : ∀ i j, Clo (clo r) i j ↔ Clo r i j := fun i j => by rw [← clo_bit, clo_clo hr, clo_bit]
  apply ext_rows (by simp [clo_length, more_length])
  intro i _ j
  rw [Bool.eq_iff_iff, clo_bit, clo_bit, clo_more (clo_ok hr) (by rw [clo_length]; exact ha) (by rw [clo_length]; exact hb), clo_more hr ha hb]
  simp only [h]
theorem more_ring {r : List Nat} (hr : Ok r) (hno : ¬ Ring r) {a b : Nat} (ha : a < r.length) (hb : b < r.length) : Ring (more r a b) ↔ (a = b ∨ Clo r b a) := by
  constructor
  · rintro ⟨i, h⟩
    rcases (clo_more hr ha hb i i).1 h with h | ⟨h1, h2⟩
    · exact absurd ⟨i, h⟩ hno
    · rcases h1 with rfl | h1
      · rcases h2 with h2 | h2
        · exact .inl h2
        · exact .inr h2
      · rcases h2 with rfl | h2
        · exact .inr h1
        · exact .inr (clo_trans hr h2 h1)
  · rintro (rfl | h)
    · exact ⟨a, (clo_more hr ha hb a a).2 (.inr ⟨.inl rfl, .inl rfl⟩)⟩
    · exact ⟨a, (clo_more hr ha hb a a).2 (.inr ⟨.inl rfl, .inr h⟩)⟩
end Go.Proofs.YtfjmealeglbklaaDoor.M
