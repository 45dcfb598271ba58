/- Plain mathematics of words whose letters are told by numbers: of each letter the set of those with which it may change places; where the least letter stands that may come first; what is left behind it is the least word of the rest. No program text is named. -/
import Derived.Test.YtejnjokjkinpkaaDoorWtp
import Derived.Test.YtejnjokjkinpkaaDoorWsw
namespace Go.Proofs.YtejnjokjkinpkaaDoor.M

/-- may two letters change places, as the sets say it? -/
def fr (F : List Nat) (a b : Nat) : Bool := (row F a).testBit b
/-- nothing is wrong with a letter's set -/
def gdL (F : List Nat) (a : Nat) : Prop := fr F a a = false ∧ ∀ b, fr F a b = true → fr F b a = true
theorem fr_in {F : List Nat} {a b : Nat} (h : fr F a b = true) : a < F.length := bit_in h
theorem fr_to {F : List Nat} (hO : Ok F) {a b : Nat} (h : fr F a b = true) : b < F.length := hO.bit h
theorem fr_out {F : List Nat} {a b : Nat} (h : ¬ a < F.length) : fr F a b = false := by
  cases e : fr F a b with
  | false => rfl
  | true => exact absurd (fr_in e) h
theorem fr_Fr {F : List Nat} (h : ∀ a, a < F.length → gdL F a) : Fr (fr F) := by
  have s : ∀ a b, fr F a b = true → fr F b a = true := fun a b e => (h a (fr_in e)).2 b e
  refine ⟨fun a => ?_, fun a b => ?_⟩
  · by_cases ha : a < F.length
    · exact (h a ha).1
    · exact fr_out ha
  · rw [Bool.eq_iff_iff]; exact ⟨s a b, s b a⟩
def frB (F : List Nat) : Bool := (List.range F.length).all fun a => !fr F a a && (List.range F.length).all fun b => !fr F a b || fr F b a
theorem frB_iff {F : List Nat} (hO : Ok F) : frB F = true ↔ ∀ a, a < F.length → gdL F a := by
  unfold frB
  rw [List.all_eq_true]
  constructor
  · intro h a ha
    have := h a (List.mem_range.2 ha)
    rw [Bool.and_eq_true, List.all_eq_true] at this
    refine ⟨by simpa using this.1, fun b hb => ?_⟩
    have h2 := this.2 b (List.mem_range.2 (fr_to hO hb))
    rw [hb] at h2
    simpa using h2
  · intro h a ha
    have ⟨h1, h2⟩ := h a (List.mem_range.1 ha)
    rw [Bool.and_eq_true, List.all_eq_true]
    refine ⟨by rw [h1]; rfl, fun b _ => ?_⟩
    cases e : fr F a b with
    | false => rfl
    | true => rw [h2 b e]; rfl
theorem frB_not {F : List Nat} (hO : Ok F) {a : Nat} (ha : a < F.length) (h : ¬ gdL F a) : frB F = false := by
  cases e : frB F with
  | false => rfl
  | true => exact absurd ((frB_iff hO).1 e a ha) h
/-! ### what may come first -/
/-- the letters of the first i places -/
def ahd (u : List Nat) : Nat → Nat
  | 0 => 0
  | i + 1 => ahd u i ||| 1 <<< row u i
theorem ahd_bit (u : List Nat) (i x : Nat) : (ahd u i).testBit x = true ↔ ∃ j, j < i ∧ row u j = x := by
  induction i with
  | zero => simp [ahd]
  | succ i ih =>
    simp only [ahd]
    rw [Nat.testBit_or, Bool.or_eq_true, ih, Nat.shiftLeft_eq, Nat.one_mul, Nat.testBit_two_pow, decide_eq_true_eq]
    constructor
    · rintro (⟨j, a, b⟩ | h)
      · exact ⟨j, by omega, b⟩
      · exact ⟨i, by omega, h⟩
    · rintro ⟨j, a, b⟩
      by_cases e : j = i
      · subst e; exact .inr b
      · exact .inl ⟨j, by omega, b⟩
theorem ahd_lt {u : List Nat} {n i : Nat} (h : ∀ j, j < i → row u j < n) : ahd u i < 2 ^ n := by
  apply Nat.lt_pow_two_of_testBit
  intro x hx
  cases e : (ahd u i).testBit x with
  | false => rfl
  | true =>
    obtain ⟨j, a, b⟩ := (ahd_bit u i x).1 e
    have := h j a; omega
/-- may the letter at i change places with all ahead of it? -/
def pas (F : List Nat) (u : List Nat) (i : Nat) : Prop := ∀ j, j < i → fr F (row u i) (row u j) = true
theorem pas_iff (F : List Nat) (u : List Nat) (i : Nat) : pas F u i ↔ ∀ x, (ahd u i).testBit x = true → (row F (row u i)).testBit x = true := by
  constructor
  · intro h x hx
    obtain ⟨j, a, b⟩ := (ahd_bit u i x).1 hx
    rw [← b]; exact h j a
  · intro h j hj
    exact h _ ((ahd_bit u i _).2 ⟨j, hj, rfl⟩)
/-- where the least of them stands, among the first i places -/
def lat (F : List Nat) (u : List Nat) : Nat → Nat
  | 0 => 0
  | i + 1 => if row u i < row u (lat F u i) ∧ ∀ j, j < i → fr F (row u i) (row u j) = true then i else lat F u i
theorem lat_le (F : List Nat) (u : List Nat) : ∀ i, lat F u i ≤ i - 1
  | 0 => Nat.le_refl _
  | i + 1 => by
    simp only [lat]
    split
    · omega
    · have := lat_le F u i; omega
theorem lat_is (F : List Nat) (u : List Nat) : ∀ i, 0 < i → pas F u (lat F u i) ∧ ∀ j, j < i → pas F u j → row u (lat F u i) ≤ row u j
  | 1, _ => by
    have e : lat F u 1 = 0 := by have := lat_le F u 1; omega
    rw [e]
    refine ⟨fun j hj => absurd hj (Nat.not_lt_zero _), fun j hj _ => ?_⟩
    obtain rfl : j = 0 := by omega
    exact Nat.le_refl _
  | i + 2, _ => by
    obtain ⟨h1, h2⟩ := lat_is F u (i + 1) (by omega)
    rw [lat]
    split
    · rename_i hc
      refine ⟨hc.2, fun j hj hp => ?_⟩
      by_cases e : j = i + 1
      · subst e; exact Nat.le_refl _
      · have := h2 j (by omega) hp; omega
    · rename_i hc
      refine ⟨h1, fun j hj hp => ?_⟩
      by_cases e : j = i + 1
      · subst e
        rcases Nat.lt_or_ge (row u (i + 1)) (row u (lat F u (i + 1))) with h | h
        · exact absurd ⟨h, hp⟩ hc
        · exact h
      · exact h2 j (by omega) hp
theorem may_pas {F : List Nat} (hf : Fr (fr F)) (x : Nat) : ∀ (u : List Nat), may (fr F) x u = true ↔ ∃ i, i < u.length ∧ row u i = x ∧ pas F u i
  | [] => by simp [may]
  | y :: r => by
    simp only [may]
    by_cases e : y = x
    · subst e
      rw [if_pos rfl]
      exact ⟨fun _ => ⟨0, by simp, rfl, fun j hj => absurd hj (Nat.not_lt_zero _)⟩, fun _ => rfl⟩
    · rw [if_neg e, Bool.and_eq_true, may_pas hf x r]
      constructor
      · rintro ⟨h0, i, h1, h2, h3⟩
        refine ⟨i + 1, by simp; omega, by simpa [row] using h2, fun j hj => ?_⟩
        have e1 : row (y :: r) (i + 1) = x := by simpa [row] using h2
        rw [e1]
        cases j with
        | zero => simpa [row] using h0
        | succ j =>
          have := h3 j (by omega)
          rw [h2] at this
          simpa [row] using this
      · rintro ⟨i, h1, h2, h3⟩
        cases i with
        | zero => exact absurd (by simpa [row] using h2) e
        | succ i =>
          have e1 : row (y :: r) (i + 1) = x := h2
          have h0 := h3 0 (by omega)
          rw [e1] at h0
          refine ⟨by simpa [row] using h0, i, by simpa using h1, by simpa [row] using h2, fun j hj => ?_⟩
          have := h3 (j + 1) (by omega)
          simpa [row] using this
theorem pas_first {F : List Nat} (hf : Fr (fr F)) {u : List Nat} {i : Nat} (hi : i < u.length) (h : pas F u i) : u.erase (row u i) = u.take i ++ u.drop (i + 1) := by
  have hn : row u i ∉ u.take i := by
    intro hm
    obtain ⟨j, hj, e⟩ := List.getElem_of_mem hm
    rw [List.length_take] at hj
    have h1 := h j (by omega)
    have e2 : row u j = row u i := by
      rw [← e]
      simp [row, show j < u.length by omega]
    rw [e2, hf.self] at h1
    cases h1
  have hw : u = u.take i ++ row u i :: u.drop (i + 1) := by
    have e1 : u.take i ++ u.drop i = u := List.take_append_drop i u
    have e2 : u.drop i = u[i] :: u.drop (i + 1) := List.drop_eq_getElem_cons hi
    have e3 : row u i = u[i] := by simp [row, hi]
    rw [e3, ← e2]
    exact e1.symm
  have h3 : (u.take i ++ row u i :: u.drop (i + 1)).erase (row u i) = u.take i ++ u.drop (i + 1) := by
    rw [List.erase_append_right _ hn, List.erase_cons_head]
  rw [← hw] at h3
  exact h3
/-- the least word: the least letter that may come first, then the least word of the rest -/
theorem lword_step {F : List Nat} (hf : Fr (fr F)) {m : Nat} {u : List Nat} (hu : ∀ x, x ∈ u → x < m) (h0 : 0 < u.length) : lat F u u.length < u.length ∧ lword (fr F) m u = row u (lat F u u.length) :: lword (fr F) m (u.take (lat F u u.length) ++ u.drop (lat F u u.length + 1)) := by
  obtain ⟨a1, a2⟩ := lat_is F u u.length h0
  have hl : lat F u u.length < u.length := by have := lat_le F u u.length; omega
  refine ⟨hl, ?_⟩
  generalize lat F u u.length = t at *
  have hm : may (fr F) (row u t) u = true := (may_pas hf _ u).2 ⟨t, hl, rfl, a1⟩
  have hx := hu _ (row_mem hl)
  obtain ⟨z, hz, hzx⟩ := least_is (p := fun x => may (fr F) x u) hx hm
  obtain ⟨z1, z2, z3⟩ := least_some hz
  obtain ⟨i, i1, i2, i3⟩ := (may_pas hf z u).1 z2
  have := a2 i i1 i3
  have e : z = row u t := by omega
  subst e
  have hlen : (u.take t ++ u.drop (t + 1)).length + 1 = u.length := by simp; omega
  unfold lword
  rw [← hlen]
  simp only [lwd, hz]
  rw [pas_first hf hl a1]
theorem lword_nil (f : Nat → Nat → Bool) (m : Nat) : lword f m [] = [] := rfl
theorem lword_length {F : List Nat} (hf : Fr (fr F)) {m : Nat} {u : List Nat} (hu : ∀ x, x ∈ u → x < m) : (lword (fr F) m u).length = u.length := (lword_eqv hf hu).length hf
theorem lword_mem {F : List Nat} (hf : Fr (fr F)) {m : Nat} {u : List Nat} (hu : ∀ x, x ∈ u → x < m) : ∀ x, x ∈ lword (fr F) m u → x < m := fun x hx => hu x (((lword_eqv hf hu).mem hf x).1 hx)
/-! ### the least word in one row, letter by letter -/
/-- a row in which k letters are laid already: what is laid, and the least word of the rest, is the least word -/
def LwAt (F : List Nat) (m : Nat) (w l : List Nat) (k : Nat) : Prop := l.length = w.length ∧ k ≤ w.length ∧ (∀ x, x ∈ l → x < m) ∧ l.take k ++ lword (fr F) m (l.drop k) = lword (fr F) m w
theorem LwAt.start {F : List Nat} {m : Nat} {w : List Nat} (h : ∀ x, x ∈ w → x < m) : LwAt F m w w 0 := ⟨rfl, Nat.zero_le _, h, rfl⟩
/-- a letter is drawn to the front of what is not laid yet -/
def drawn (l : List Nat) (k t : Nat) : List Nat := l.take k ++ (row l (k + t) :: ((l.drop k).take t ++ (l.drop k).drop (t + 1)))
theorem row_drop (l : List Nat) (k i : Nat) : row (l.drop k) i = row l (k + i) := by unfold row; rw [List.getElem?_drop]
theorem LwAt.step {F : List Nat} (hf : Fr (fr F)) {m : Nat} {w l : List Nat} {k : Nat} (h : LwAt F m w l k) (hk : k < w.length) : lat F (l.drop k) (w.length - k) < w.length - k ∧ LwAt F m w (drawn l k (lat F (l.drop k) (w.length - k))) (k + 1) := by
  obtain ⟨h1, h2, h3, h4⟩ := h
  have hl : (l.drop k).length = w.length - k := by rw [List.length_drop]; omega
  have hm : ∀ x, x ∈ l.drop k → x < m := fun x hx => h3 x (List.mem_of_mem_drop hx)
  obtain ⟨s1, s2⟩ := lword_step hf hm (by omega)
  rw [hl] at s1 s2
  refine ⟨s1, ?_⟩
  generalize lat F (l.drop k) (w.length - k) = t at *
  have htk : (l.take k).length = k := by rw [List.length_take]; omega
  refine ⟨?_, by omega, ?_, ?_⟩
  · unfold drawn; simp; omega
  · intro x hx
    unfold drawn at hx
    rcases List.mem_append.1 hx with hx | hx
    · exact h3 x (List.mem_of_mem_take hx)
    · rcases List.mem_cons.1 hx with hx | hx
      · rw [hx]; exact h3 _ (row_mem (by omega))
      · rcases List.mem_append.1 hx with hx | hx
        · exact hm x (List.mem_of_mem_take hx)
        · exact hm x (List.mem_of_mem_drop hx)
  · rw [← h4, s2, row_drop]
    have e1 : (drawn l k t).take (k + 1) = l.take k ++ [row l (k + t)] := by
      unfold drawn
      rw [List.take_append, htk, List.take_of_length_le (by omega), show k + 1 - k = 1 by omega]
      rfl
    have e2 : (drawn l k t).drop (k + 1) = (l.drop k).take t ++ (l.drop k).drop (t + 1) := by
      unfold drawn
      rw [List.drop_append, htk, List.drop_of_length_le (by omega), show k + 1 - k = 1 by omega]
      rfl
    rw [e1, e2, List.append_assoc]
    rfl
theorem LwAt.done {F : List Nat} {m : Nat} {w l : List Nat} (h : LwAt F m w l w.length) : l = lword (fr F) m w := by
  obtain ⟨h1, _, _, h4⟩ := h
  rw [List.take_of_length_le (by omega), List.drop_of_length_le (by omega), lword_nil, List.append_nil] at h4
  exact h4
end Go.Proofs.YtejnjokjkinpkaaDoor.M
