/- Plain mathematics: the least word by going over all places that are not done yet. No program text is named. -/
import Derived.Test.YtbacngbcnkikiaaDoorWfs
namespace Go.Proofs.YtbacngbcnkikiaaDoor.M

/-- the places below m that are not done -/
def lft (D : Nat → Bool) (m : Nat) : List Nat := (List.range m).filter fun i => !D i
theorem mem_lft {D : Nat → Bool} {m i : Nat} : i ∈ lft D m ↔ i < m ∧ D i = false := by unfold lft; rw [List.mem_filter, List.mem_range]; simp
theorem lft_sorted (D : Nat → Bool) (m : Nat) : (lft D m).Pairwise (· < ·) := List.pairwise_lt_range.filter _
def upD (D : Nat → Bool) (b : Nat) : Nat → Bool := fun i => D i || i == b
/-- may the place come next? -/
def okp (f : Nat → Nat → Bool) (r : Nat → Nat) (D : Nat → Bool) (j : Nat) : Prop := D j = false ∧ ∀ i, i < j → D i = false → f (r i) (r j) = true
theorem lft_split {D : Nat → Bool} {m b : Nat} (hb : b < m) (hD : D b = false) : ∃ post, lft D m = lft D b ++ b :: post ∧ lft (upD D b) m = lft D b ++ post := by
  have e : List.range m = List.range b ++ b :: List.range' (b + 1) (m - b - 1) := by
    rw [List.range_eq_range', List.range_eq_range', show b :: List.range' (b + 1) (m - b - 1) = List.range' b (m - b - 1 + 1) from rfl]
    have := List.range'_append (s := 0) (m := b) (n := m - b - 1 + 1) (step := 1)
    rw [Nat.zero_add, Nat.one_mul] at this
    rw [this]
    congr 1
    omega
  refine ⟨(List.range' (b + 1) (m - b - 1)).filter fun i => !D i, ?_, ?_⟩
  · unfold lft
    rw [e, List.filter_append, List.filter_cons, hD]
    rfl
  · unfold lft
    rw [e, List.filter_append, List.filter_cons]
    have e1 : (!upD D b b) = false := by simp [upD]
    rw [e1]
    congr 1
    · apply List.filter_congr
      intro i hi
      have := List.mem_range.1 hi
      have : (i == b) = false := by simp; omega
      simp [upD, this]
    · simp only [Bool.false_eq_true, if_false]
      apply List.filter_congr
      intro i hi
      have := List.mem_range'_1.1 hi
      have : (i == b) = false := by simp; omega
      simp [upD, this]
theorem may_split {f : Nat → Nat → Bool} {x : Nat} {p q : List Nat} (h : ∀ y, y ∈ p → f x y = true) : may f x (p ++ x :: q) = true := by
  induction p with
  | nil => exact may_head x q
  | cons y p ih =>
    simp only [List.cons_append, may]
    by_cases e : y = x
    · rw [if_pos e]
    · rw [if_neg e, h y List.mem_cons_self, ih (fun z hz => h z (List.mem_cons_of_mem _ hz))]; rfl
theorem may_parts {f : Nat → Nat → Bool} {x : Nat} : ∀ {w : List Nat}, may f x w = true → ∃ p q, w = p ++ x :: q ∧ ∀ y, y ∈ p → f x y = true
  | y :: r, h => by
    simp only [may] at h
    by_cases e : y = x
    · subst e; exact ⟨[], r, rfl, fun z hz => by cases hz⟩
    · rw [if_neg e, Bool.and_eq_true] at h
      obtain ⟨p, q, e1, e2⟩ := may_parts h.2
      refine ⟨y :: p, q, by rw [e1]; rfl, fun z hz => ?_⟩
      rcases List.mem_cons.1 hz with hz | hz
      · rw [hz]; exact h.1
      · exact e2 z hz
theorem may_lft {f : Nat → Nat → Bool} (hf : Fr f) {r : Nat → Nat} {D : Nat → Bool} {m x : Nat} (h : may f x ((lft D m).map r) = true) : ∃ j, j < m ∧ r j = x ∧ okp f r D j := by
  obtain ⟨p, q, e, hp⟩ := may_parts h
  obtain ⟨l1, l2, e1, e2, e3⟩ := List.map_eq_append_iff.1 e
  obtain ⟨j, l3, rfl, e4, e5⟩ := List.map_eq_cons_iff.1 e3
  have hj : j ∈ lft D m := by rw [e1]; exact List.mem_append_right _ List.mem_cons_self
  have hs := lft_sorted D m
  rw [e1, List.pairwise_append] at hs
  refine ⟨j, (mem_lft.1 hj).1, e4, (mem_lft.1 hj).2, fun i hi hDi => ?_⟩
  have him : i ∈ lft D m := mem_lft.2 ⟨by have := (mem_lft.1 hj).1; omega, hDi⟩
  rw [e1] at him
  rcases List.mem_append.1 him with h1 | h1
  · rw [hf.sym, e4]
    exact hp _ (by rw [← e2]; exact List.mem_map_of_mem h1)
  · rcases List.mem_cons.1 h1 with h2 | h2
    · omega
    · have := (List.pairwise_cons.1 hs.2.1).1 i h2; omega
theorem rl_step {f : Nat → Nat → Bool} (hf : Fr f) {M : Nat} {r : Nat → Nat} {D : Nat → Bool} {m b : Nat} (hb : b < m) (hr : r b < M) (hok : okp f r D b) (hmin : ∀ j, j < m → okp f r D j → r b ≤ r j) : lword f M ((lft D m).map r) = r b :: lword f M ((lft (upD D b) m).map r) := by
  obtain ⟨post, e1, e2⟩ := lft_split hb hok.1
  have hpre : ∀ y, y ∈ (lft D b).map r → f (r b) y = true := fun y hy => by
    obtain ⟨i, hi, rfl⟩ := List.mem_map.1 hy
    obtain ⟨h1, h2⟩ := mem_lft.1 hi
    rw [hf.sym]; exact hok.2 i h1 h2
  have ew : (lft D m).map r = (lft D b).map r ++ r b :: post.map r := by rw [e1, List.map_append, List.map_cons]
  have hmay : may f (r b) ((lft D m).map r) = true := by rw [ew]; exact may_split hpre
  obtain ⟨z, hz, hzx⟩ := least_is (p := fun x => may f x ((lft D m).map r)) hr hmay
  obtain ⟨z1, z2, z3⟩ := least_some hz
  obtain ⟨j, j1, j2, j3⟩ := may_lft hf z2
  have := hmin j j1 j3
  have e : z = r b := by omega
  subst e
  have hn : r b ∉ (lft D b).map r := fun hm => by
    have := hpre _ hm
    rw [hf.self] at this; cases this
  have her : ((lft D m).map r).erase (r b) = (lft (upD D b) m).map r := by
    rw [ew, List.erase_append_right _ hn, List.erase_cons_head, e2, List.map_append]
  have hlen : ((lft (upD D b) m).map r).length + 1 = ((lft D m).map r).length := by rw [e1, e2]; simp; omega
  unfold lword
  rw [← hlen]
  simp only [lwd, hz]
  rw [her]
theorem lft_len {D : Nat → Bool} {m b : Nat} (hb : b < m) (hD : D b = false) : (lft (upD D b) m).length + 1 = (lft D m).length := by
  obtain ⟨post, e1, e2⟩ := lft_split hb hD
  rw [e1, e2]; simp; omega
theorem lft_none (m : Nat) : lft (fun _ => false) m = List.range m := by unfold lft; rw [List.filter_eq_self]; intro _ _; rfl
/-- one of those left may come next -/
theorem okp_some {f : Nat → Nat → Bool} {r : Nat → Nat} {D : Nat → Bool} {m : Nat} (h : 0 < (lft D m).length) : ∃ j, j < m ∧ okp f r D j := by
  cases e : lft D m with
  | nil => rw [e] at h; exact absurd h (Nat.lt_irrefl _)
  | cons j l =>
    have hj : j ∈ lft D m := by rw [e]; exact List.mem_cons_self
    have hs := lft_sorted D m
    rw [e, List.pairwise_cons] at hs
    refine ⟨j, (mem_lft.1 hj).1, (mem_lft.1 hj).2, fun i hi hDi => ?_⟩
    have him : i ∈ lft D m := mem_lft.2 ⟨by have := (mem_lft.1 hj).1; omega, hDi⟩
    rw [e] at him
    rcases List.mem_cons.1 him with h1 | h1
    · omega
    · have := hs.1 i h1; omega
/-- the best so far -/
def bst (f : Nat → Nat → Bool) (r : Nat → Nat) (D : Nat → Bool) (b : Int) (j : Nat) : Prop := (b = -1 ∧ ∀ i, i < j → ¬ okp f r D i) ∨ ∃ b' : Nat, b = b' ∧ b' < j ∧ okp f r D b' ∧ ∀ i, i < j → okp f r D i → r b' ≤ r i
theorem bst_zero (f : Nat → Nat → Bool) (r : Nat → Nat) (D : Nat → Bool) : bst f r D (-1) 0 := .inl ⟨rfl, fun _ hi => absurd hi (Nat.not_lt_zero _)⟩
theorem bst_skip {f : Nat → Nat → Bool} {r : Nat → Nat} {D : Nat → Bool} {b : Int} {j : Nat} (h : bst f r D b j) (hn : ¬ okp f r D j) : bst f r D b (j + 1) := by
  rcases h with ⟨h1, h2⟩ | ⟨b', h1, h2, h3, h4⟩
  · refine .inl ⟨h1, fun i hi => ?_⟩
    by_cases e : i = j
    · subst e; exact hn
    · exact h2 i (by omega)
  · refine .inr ⟨b', h1, by omega, h3, fun i hi ho => ?_⟩
    by_cases e : i = j
    · subst e; exact absurd ho hn
    · exact h4 i (by omega) ho
theorem bst_first {f : Nat → Nat → Bool} {r : Nat → Nat} {D : Nat → Bool} {j : Nat} (h : bst f r D (-1) j) (ho : okp f r D j) : bst f r D (j : Nat) (j + 1) := by
  rcases h with ⟨_, h2⟩ | ⟨b', h1, _⟩
  · refine .inr ⟨j, rfl, by omega, ho, fun i hi hi2 => ?_⟩
    by_cases e : i = j
    · subst e; exact Nat.le_refl _
    · exact absurd hi2 (h2 i (by omega))
  · omega
theorem bst_less {f : Nat → Nat → Bool} {r : Nat → Nat} {D : Nat → Bool} {b j : Nat} (h : bst f r D (b : Nat) j) (ho : okp f r D j) (hl : r j < r b) : bst f r D (j : Nat) (j + 1) := by
  rcases h with ⟨h1, _⟩ | ⟨b', h1, h2, h3, h4⟩
  · omega
  · obtain rfl : b = b' := by omega
    refine .inr ⟨j, rfl, by omega, ho, fun i hi hi2 => ?_⟩
    by_cases e : i = j
    · subst e; exact Nat.le_refl _
    · have := h4 i (by omega) hi2; omega
theorem bst_more {f : Nat → Nat → Bool} {r : Nat → Nat} {D : Nat → Bool} {b j : Nat} (h : bst f r D (b : Nat) j) (hl : ¬ r j < r b) : bst f r D (b : Nat) (j + 1) := by
  rcases h with ⟨h1, _⟩ | ⟨b', h1, h2, h3, h4⟩
  · omega
  · obtain rfl : b = b' := by omega
    refine .inr ⟨b, rfl, by omega, h3, fun i hi hi2 => ?_⟩
    by_cases e : i = j
    · subst e; omega
    · exact h4 i (by omega) hi2
end Go.Proofs.YtbacngbcnkikiaaDoor.M
