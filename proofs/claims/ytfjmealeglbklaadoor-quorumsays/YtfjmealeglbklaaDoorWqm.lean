/- Plain mathematics of sets that meet: the least ones are enough; what is full cannot be bettered (GARCIA-MOLINA, BARBARA); who has most votes meets (GIFFORD); more honest ones than liars, and a set left (MALKHI, REITER). No program text is named. -/
import Derived.Test.YtfjmealeglbklaaDoorFst
namespace Go.Proofs.YtfjmealeglbklaaDoor.M

theorem sub_refl (a : Nat) : subB a a = true := subB_iff.2 fun _ h => h
theorem sub_trans {a b c : Nat} (h : subB a b = true) (k : subB b c = true) : subB a c = true := subB_iff.2 fun j hj => subB_iff.1 k j (subB_iff.1 h j hj)
theorem sub_anti {a b : Nat} (h : subB a b = true) (k : subB b a = true) : a = b := by
  apply Nat.eq_of_testBit_eq
  intro j
  cases e : a.testBit j with
  | true => exact (subB_iff.1 h j e).symm
  | false =>
    cases f : b.testBit j with
    | false => rfl
    | true => rw [subB_iff.1 k j f] at e; cases e
theorem sub_le {a b : Nat} (h : subB a b = true) : a ≤ b := by
  have : a &&& b = a := by unfold subB at h; exact beq_iff_eq.1 h
  rw [← this]; exact Nat.and_le_right
/-- two have nothing in common -/
theorem apart_iff {a b : Nat} : a &&& b = 0 ↔ ∀ j, a.testBit j = true → b.testBit j = false := by
  constructor
  · intro h j hj
    have : (a &&& b).testBit j = false := by rw [h]; exact Nat.zero_testBit j
    rw [Nat.testBit_and, hj, Bool.true_and] at this; exact this
  · intro h
    apply Nat.eq_of_testBit_eq
    intro j
    rw [Nat.zero_testBit, Nat.testBit_and]
    cases e : a.testBit j with
    | false => rfl
    | true => rw [h j e]; rfl
/-- all of n that are not in s -/
def cpl (n s : Nat) : Nat := 2 ^ n - 1 - s
theorem cpl_lt {n s : Nat} : cpl n s < 2 ^ n := by have := Nat.two_pow_pos n; unfold cpl; omega
theorem cpl_bit {n s : Nat} (h : s < 2 ^ n) (j : Nat) : (cpl n s).testBit j = (decide (j < n) && !s.testBit j) := by
  have : cpl n s = 2 ^ n - (s + 1) := by unfold cpl; omega
  rw [this]; exact Nat.testBit_two_pow_sub_succ h j
theorem sub_cpl {n a s : Nat} (ha : a < 2 ^ n) (hs : s < 2 ^ n) : subB a (cpl n s) = true ↔ a &&& s = 0 := by
  rw [apart_iff, subB_iff]
  constructor
  · intro h j hj
    have := h j hj
    rw [cpl_bit hs] at this
    cases e : s.testBit j with
    | false => rfl
    | true => rw [e] at this; simp at this
  · intro h j hj
    rw [cpl_bit hs, h j hj]
    simp [lt_of_testBit ha hj]

/-- is one of the sets in some? -/
def hasQ (l : List Nat) (s : Nat) : Bool := l.any fun a => subB a s
theorem hasQ_iff {l : List Nat} {s : Nat} : hasQ l s = true ↔ ∃ a, a ∈ l ∧ subB a s = true := List.any_eq_true
theorem hasQ_up {l : List Nat} {s t : Nat} (h : hasQ l s = true) (k : subB s t = true) : hasQ l t = true := by
  obtain ⟨a, h1, h2⟩ := hasQ_iff.1 h
  exact hasQ_iff.2 ⟨a, h1, sub_trans h2 k⟩
/-- right sets of n -/
structure QOk (n : Nat) (l : List Nat) : Prop where
  some : l ≠ []
  lt : ∀ a, a ∈ l → a < 2 ^ n
  pos : ∀ a, a ∈ l → a ≠ 0
  meet : ∀ a b, a ∈ l → b ∈ l → a &&& b ≠ 0

/-- is it one of the sets, with no other one in it? -/
def lowQ (l : List Nat) (s : Nat) : Bool := l.contains s && l.all fun a => a == s || !subB a s
def leastQ (n : Nat) (l : List Nat) : List Nat := (List.range (2 ^ n)).filter (lowQ l)
theorem lowQ_iff {l : List Nat} {s : Nat} : lowQ l s = true ↔ s ∈ l ∧ ∀ a, a ∈ l → subB a s = true → a = s := by
  unfold lowQ
  rw [Bool.and_eq_true, List.contains_iff_mem, List.all_eq_true]
  constructor
  · rintro ⟨h1, h2⟩
    refine ⟨h1, fun a ha hs => ?_⟩
    have := h2 a ha
    rw [hs] at this; simpa using this
  · rintro ⟨h1, h2⟩
    refine ⟨h1, fun a ha => ?_⟩
    cases e : subB a s with
    | false => simp
    | true => simp [h2 a ha e]
theorem leastQ_iff {n : Nat} {l : List Nat} (hl : QOk n l) {s : Nat} : s ∈ leastQ n l ↔ lowQ l s = true := by
  unfold leastQ
  rw [List.mem_filter, List.mem_range]
  exact ⟨fun h => h.2, fun h => ⟨hl.lt s (lowQ_iff.1 h).1, h⟩⟩
/-- below each of the sets is one of the least -/
theorem low_below {l : List Nat} : ∀ (k a : Nat), a ≤ k → a ∈ l → ∃ b, lowQ l b = true ∧ subB b a = true := by
  intro k
  induction k with
  | zero =>
    intro a h ha
    refine ⟨a, lowQ_iff.2 ⟨ha, fun b hb hs => ?_⟩, sub_refl a⟩
    have := sub_le hs; omega
  | succ k ih =>
    intro a h ha
    cases e : lowQ l a with
    | true => exact ⟨a, e, sub_refl a⟩
    | false =>
      have : ∃ b, b ∈ l ∧ subB b a = true ∧ b ≠ a := by
        refine Classical.byContradiction fun hn => ?_
        have : lowQ l a = true := lowQ_iff.2 ⟨ha, fun b hb hs => Classical.byContradiction fun hne => hn ⟨b, hb, hs, hne⟩⟩
        rw [e] at this; cases this
      obtain ⟨b, hb, hs, hne⟩ := this
      have := sub_le hs
      obtain ⟨c, h1, h2⟩ := ih b (by omega) hb
      exact ⟨c, h1, sub_trans h2 hs⟩
theorem least_has {n : Nat} {l : List Nat} (hl : QOk n l) (s : Nat) : hasQ (leastQ n l) s = hasQ l s := by
  apply Bool.eq_iff_iff.2
  rw [hasQ_iff, hasQ_iff]
  constructor
  · rintro ⟨a, h1, h2⟩
    exact ⟨a, (lowQ_iff.1 ((leastQ_iff hl).1 h1)).1, h2⟩
  · rintro ⟨a, h1, h2⟩
    obtain ⟨b, h3, h4⟩ := low_below a a (Nat.le_refl a) h1
    exact ⟨b, (leastQ_iff hl).2 h3, sub_trans h4 h2⟩
theorem least_apart {n : Nat} {l : List Nat} (hl : QOk n l) {a b : Nat} (ha : a ∈ leastQ n l) (hb : b ∈ leastQ n l) (h : subB a b = true) : a = b :=
  (lowQ_iff.1 ((leastQ_iff hl).1 hb)).2 a (lowQ_iff.1 ((leastQ_iff hl).1 ha)).1 h
theorem leastQ_ok {n : Nat} {l : List Nat} (hl : QOk n l) : QOk n (leastQ n l) where
  some := by
    obtain ⟨a, ha⟩ := List.exists_mem_of_ne_nil l hl.some
    obtain ⟨b, h3, _⟩ := low_below a a (Nat.le_refl a) ha
    exact List.ne_nil_of_mem ((leastQ_iff hl).2 h3)
  lt a h := hl.lt a (lowQ_iff.1 ((leastQ_iff hl).1 h)).1
  pos a h := hl.pos a (lowQ_iff.1 ((leastQ_iff hl).1 h)).1
  meet a b h k := hl.meet a b (lowQ_iff.1 ((leastQ_iff hl).1 h)).1 (lowQ_iff.1 ((leastQ_iff hl).1 k)).1
/-- rows that rise are no longer than what holds all they hold -/
theorem rise_len : ∀ (s l : List Nat), s.Pairwise (· < ·) → (∀ a, a ∈ s → a ∈ l) → s.length ≤ l.length := by
  intro s
  induction s with
  | nil => intro l _ _; simp
  | cons a s ih =>
    intro l h hm
    have h1 := List.pairwise_cons.1 h
    have := ih (l.erase a) h1.2 (fun b hb => (List.mem_erase_of_ne (by have := h1.1 b hb; omega)).2 (hm b (List.mem_cons_of_mem _ hb)))
    have ha : a ∈ l := hm a List.mem_cons_self
    rw [List.length_erase_of_mem ha] at this
    have := List.length_pos_of_mem ha
    simp only [List.length_cons]; omega
theorem least_rise (n : Nat) (l : List Nat) : (leastQ n l).Pairwise (· < ·) := List.pairwise_lt_range.filter _
theorem least_len {n : Nat} {l : List Nat} (hl : QOk n l) : (leastQ n l).length ≤ l.length :=
  rise_len _ _ (least_rise n l) fun _ h => (lowQ_iff.1 ((leastQ_iff hl).1 h)).1

/-- of the nodes s and all others, neither has a set -/
def openQ (n : Nat) (l : List Nat) (s : Nat) : Bool := !hasQ l s && !hasQ l (cpl n s)
def fullQ (n : Nat) (l : List Nat) : Option Nat := (List.range (2 ^ n)).find? (openQ n l)
theorem full_some {n : Nat} {l : List Nat} {s : Nat} (h : fullQ n l = some s) : s < 2 ^ n ∧ hasQ l s = false ∧ hasQ l (cpl n s) = false := by
  have h1 := List.mem_of_find?_eq_some h
  have h2 := List.find?_some h
  rw [List.mem_range] at h1
  unfold openQ at h2
  simp only [Bool.and_eq_true, Bool.not_eq_true'] at h2
  exact ⟨h1, h2.1, h2.2⟩
theorem full_none {n : Nat} {l : List Nat} (h : fullQ n l = none) {s : Nat} (hs : s < 2 ^ n) (k : hasQ l s = false) : hasQ l (cpl n s) = true := by
  have := List.find?_eq_none.1 h s (List.mem_range.2 hs)
  unfold openQ at this
  rw [k] at this
  cases e : hasQ l (cpl n s) with
  | true => rfl
  | false => rw [e] at this; exact absurd rfl this
/-- the nodes that are told meet all -/
theorem open_meets {n : Nat} {l : List Nat} (hl : QOk n l) {s : Nat} (h : fullQ n l = some s) {a : Nat} (ha : a ∈ l) : a &&& s ≠ 0 := by
  obtain ⟨h1, _, h3⟩ := full_some h
  intro h4
  have : hasQ l (cpl n s) = true := hasQ_iff.2 ⟨a, ha, (sub_cpl (hl.lt a ha) h1).2 h4⟩
  rw [h3] at this; cases this
/-- what is full cannot be bettered -/
theorem full_best {n : Nat} {l o : List Nat} (ho : QOk n o) (h : fullQ n l = none) (hlo : ∀ a, a ∈ l → hasQ o a = true) {b : Nat} (hb : b ∈ o) : hasQ l b = true := by
  cases e : hasQ l b with
  | true => rfl
  | false =>
    obtain ⟨a, h1, h2⟩ := hasQ_iff.1 (full_none h (ho.lt b hb) e)
    obtain ⟨c, h3, h4⟩ := hasQ_iff.1 (hlo a h1)
    exact absurd ((sub_cpl (ho.lt c h3) (ho.lt b hb)).1 (sub_trans h4 h2)) (ho.meet c b h3 hb)

/-- what the nodes of s weigh -/
def wtQ (f : Nat → Nat) : Nat → Nat → Nat
  | 0, _ => 0
  | n + 1, s => wtQ f n s + (if s.testBit n then f n else 0)
theorem wt_sub {f : Nat → Nat} {s t : Nat} (h : subB s t = true) : ∀ n, wtQ f n s ≤ wtQ f n t := by
  intro n
  induction n with
  | zero => exact Nat.le_refl _
  | succ n ih =>
    show wtQ f n s + _ ≤ wtQ f n t + _
    have := subB_iff.1 h n
    cases e : s.testBit n with
    | false => simp only [Bool.false_eq_true, if_false]; omega
    | true => rw [this e]; simp only [if_true]; omega
theorem wt_apart {f : Nat → Nat} {s t a : Nat} (h : s &&& t = 0) : ∀ n, (∀ j, j < n → a.testBit j = true) → wtQ f n s + wtQ f n t ≤ wtQ f n a := by
  intro n
  induction n with
  | zero => intro _; exact Nat.le_refl _
  | succ n ih =>
    intro ha
    show wtQ f n s + _ + (wtQ f n t + _) ≤ wtQ f n a + _
    have h1 := ih fun j hj => ha j (by omega)
    have h2 := apart_iff.1 h n
    rw [ha n (by omega)]
    cases e : s.testBit n with
    | true => rw [h2 e]; simp only [Bool.false_eq_true, if_false, if_true]; omega
    | false =>
      cases g : t.testBit n with
      | true => simp only [Bool.false_eq_true, if_false, if_true]; omega
      | false => simp only [Bool.false_eq_true, if_false, if_true]; omega
theorem wt_zero (f : Nat → Nat) : ∀ n, wtQ f n 0 = 0 := by
  intro n
  induction n with
  | zero => rfl
  | succ n ih => show wtQ f n 0 + _ = 0; rw [ih, Nat.zero_testBit]; rfl
theorem all_bits {n j : Nat} (h : j < n) : (2 ^ n - 1).testBit j = true := by
  rw [Nat.testBit_two_pow_sub_one]; exact decide_eq_true h
/-- the least sets of nodes that weigh enough -/
def voteB (f : Nat → Nat) (n need s : Nat) : Bool := decide (need ≤ wtQ f n s) && (List.range s).all fun t => !subB t s || decide (wtQ f n t < need)
def votes (f : Nat → Nat) (n need : Nat) : List Nat := (List.range (2 ^ n)).filter (voteB f n need)
theorem voteB_iff {f : Nat → Nat} {n need s : Nat} : voteB f n need s = true ↔ need ≤ wtQ f n s ∧ ∀ t, subB t s = true → need ≤ wtQ f n t → t = s := by
  unfold voteB
  rw [Bool.and_eq_true, decide_eq_true_eq, List.all_eq_true]
  constructor
  · rintro ⟨h1, h2⟩
    refine ⟨h1, fun t ht hn => Classical.byContradiction fun hne => ?_⟩
    have := sub_le ht
    have := h2 t (List.mem_range.2 (by omega))
    rw [ht] at this
    simp at this; omega
  · rintro ⟨h1, h2⟩
    refine ⟨h1, fun t ht => ?_⟩
    rw [List.mem_range] at ht
    cases e : subB t s with
    | false => rfl
    | true =>
      have : ¬ need ≤ wtQ f n t := fun h => by have := h2 t e h; omega
      simp; omega
/-- who has most votes meets -/
theorem votes_meet {f : Nat → Nat} {n need s t : Nat} (h : wtQ f n (2 ^ n - 1) < 2 * need) (hs : need ≤ wtQ f n s) (ht : need ≤ wtQ f n t) : s &&& t ≠ 0 := by
  intro h0
  have := wt_apart (f := f) h0 n (a := 2 ^ n - 1) fun j hj => all_bits hj
  omega
theorem mem_votes {f : Nat → Nat} {n need s : Nat} : s ∈ votes f n need ↔ s < 2 ^ n ∧ voteB f n need s = true := by
  unfold votes; rw [List.mem_filter, List.mem_range]
theorem vote_below {f : Nat → Nat} {n need : Nat} : ∀ (k s : Nat), s ≤ k → need ≤ wtQ f n s → ∃ b, voteB f n need b = true ∧ subB b s = true := by
  intro k
  induction k with
  | zero =>
    intro s h hs
    refine ⟨s, voteB_iff.2 ⟨hs, fun b hb _ => ?_⟩, sub_refl s⟩
    have := sub_le hb; omega
  | succ k ih =>
    intro s h hs
    cases e : voteB f n need s with
    | true => exact ⟨s, e, sub_refl s⟩
    | false =>
      have : ∃ b, subB b s = true ∧ need ≤ wtQ f n b ∧ b ≠ s := by
        refine Classical.byContradiction fun hn => ?_
        have : voteB f n need s = true := voteB_iff.2 ⟨hs, fun b hb hw => Classical.byContradiction fun hne => hn ⟨b, hb, hw, hne⟩⟩
        rw [e] at this; cases this
      obtain ⟨b, hb, hw, hne⟩ := this
      have := sub_le hb
      obtain ⟨c, h1, h2⟩ := ih b (by omega) hw
      exact ⟨c, h1, sub_trans h2 hb⟩
theorem votes_has {f : Nat → Nat} {n need s : Nat} (hs : s < 2 ^ n) (h : need ≤ wtQ f n s) : hasQ (votes f n need) s = true := by
  obtain ⟨b, h1, h2⟩ := vote_below s s (Nat.le_refl s) h
  exact hasQ_iff.2 ⟨b, mem_votes.2 ⟨by have := sub_le h2; omega, h1⟩, h2⟩
theorem votes_ok {f : Nat → Nat} {n need : Nat} (h1 : 1 ≤ need) (h2 : need ≤ wtQ f n (2 ^ n - 1)) (h : wtQ f n (2 ^ n - 1) < 2 * need) : QOk n (votes f n need) where
  some := by
    have hp := Nat.two_pow_pos n
    obtain ⟨b, hb, _⟩ := hasQ_iff.1 (votes_has (s := 2 ^ n - 1) (by omega) h2)
    exact List.ne_nil_of_mem hb
  lt a ha := (mem_votes.1 ha).1
  pos a ha := by
    rintro rfl
    have := (voteB_iff.1 (mem_votes.1 ha).2).1
    rw [wt_zero] at this; omega
  meet a b ha hb := votes_meet h (voteB_iff.1 (mem_votes.1 ha).2).1 (voteB_iff.1 (mem_votes.1 hb).2).1
theorem votes_apart {f : Nat → Nat} {n need a b : Nat} (ha : a ∈ votes f n need) (hb : b ∈ votes f n need) (h : subB a b = true) : a = b :=
  (voteB_iff.1 (mem_votes.1 hb).2).2 a h (voteB_iff.1 (mem_votes.1 ha).2).1
theorem votes_more {f : Nat → Nat} {n need a : Nat} (ha : a ∈ votes f n (need + 1)) : hasQ (votes f n need) a = true :=
  votes_has (mem_votes.1 ha).1 (Nat.le_of_succ_le (voteB_iff.1 (mem_votes.1 ha).2).1)

/-- the least that any two have in common -/
def meetQ (n : Nat) (l : List Nat) : Nat := l.foldl (fun m a => l.foldl (fun m b => min m (cnt n (a &&& b))) m) n
theorem foldmin_le (g : Nat → Nat) : ∀ (l : List Nat) (m : Nat), l.foldl (fun m b => min m (g b)) m ≤ m ∧ (∀ b, b ∈ l → l.foldl (fun m b => min m (g b)) m ≤ g b) ∧ (l.foldl (fun m b => min m (g b)) m = m ∨ ∃ b, b ∈ l ∧ l.foldl (fun m b => min m (g b)) m = g b) := by
  intro l
  induction l with
  | nil => intro m; exact ⟨Nat.le_refl _, fun _ h => absurd h List.not_mem_nil, Or.inl rfl⟩
  | cons a l ih =>
    intro m
    obtain ⟨h1, h2, h3⟩ := ih (min m (g a))
    simp only [List.foldl_cons]
    refine ⟨by omega, fun b hb => ?_, ?_⟩
    · rcases List.mem_cons.1 hb with rfl | hb
      · omega
      · exact h2 b hb
    · rcases h3 with h3 | ⟨b, hb, h3⟩
      · by_cases hm : m ≤ g a
        · exact Or.inl (by omega)
        · exact Or.inr ⟨a, List.mem_cons_self, by omega⟩
      · exact Or.inr ⟨b, List.mem_cons_of_mem _ hb, h3⟩
theorem fold2_le (g : Nat → Nat → Nat) (r : List Nat) : ∀ (l : List Nat) (m : Nat), l.foldl (fun m a => r.foldl (fun m b => min m (g a b)) m) m ≤ m ∧ (∀ a b, a ∈ l → b ∈ r → l.foldl (fun m a => r.foldl (fun m b => min m (g a b)) m) m ≤ g a b) ∧ (l.foldl (fun m a => r.foldl (fun m b => min m (g a b)) m) m = m ∨ ∃ a b, a ∈ l ∧ b ∈ r ∧ l.foldl (fun m a => r.foldl (fun m b => min m (g a b)) m) m = g a b) := by
  intro l
  induction l with
  | nil => intro m; exact ⟨Nat.le_refl _, fun _ _ h => absurd h List.not_mem_nil, Or.inl rfl⟩
  | cons a l ih =>
    intro m
    obtain ⟨k1, k2, k3⟩ := foldmin_le (g a) r m
    obtain ⟨h1, h2, h3⟩ := ih (r.foldl (fun m b => min m (g a b)) m)
    simp only [List.foldl_cons]
    refine ⟨by omega, fun x y hx hy => ?_, ?_⟩
    · rcases List.mem_cons.1 hx with rfl | hx
      · have := k2 y hy; omega
      · exact h2 x y hx hy
    · rcases h3 with h3 | ⟨x, y, hx, hy, h3⟩
      · rcases k3 with k3 | ⟨b, hb, k3⟩
        · exact Or.inl (by omega)
        · exact Or.inr ⟨a, b, List.mem_cons_self, hb, by omega⟩
      · exact Or.inr ⟨x, y, List.mem_cons_of_mem _ hx, hy, h3⟩
theorem meet_le {n : Nat} {l : List Nat} {a b : Nat} (ha : a ∈ l) (hb : b ∈ l) : meetQ n l ≤ cnt n (a &&& b) := (fold2_le (fun a b => cnt n (a &&& b)) l l n).2.1 a b ha hb
theorem meet_is {n : Nat} {l : List Nat} (hl : l ≠ []) : ∃ a b, a ∈ l ∧ b ∈ l ∧ meetQ n l = cnt n (a &&& b) := by
  rcases (fold2_le (fun a b => cnt n (a &&& b)) l l n).2.2 with h | ⟨a, b, ha, hb, h⟩
  · obtain ⟨a, ha⟩ := List.exists_mem_of_ne_nil l hl
    refine ⟨a, a, ha, ha, ?_⟩
    have h1 := meet_le (n := n) ha ha
    have h2 := cnt_le n (a &&& a)
    have h3 : meetQ n l = n := h
    omega
  · exact ⟨a, b, ha, hb, h⟩
theorem cntq_pos : ∀ (n s : Nat), s < 2 ^ n → s ≠ 0 → 1 ≤ cnt n s := by
  intro n s hs h0
  refine Classical.byContradiction fun hn => h0 ?_
  have key : ∀ m, cnt m s = 0 → ∀ j, j < m → s.testBit j = false := by
    intro m
    induction m with
    | zero => intro _ j hj; omega
    | succ m ih =>
      intro hc j hj
      have hc : cnt m s + (if s.testBit m then 1 else 0) = 0 := hc
      by_cases e : j = m
      · subst e
        cases hb : s.testBit j with
        | false => rfl
        | true => rw [hb] at hc; simp at hc
      · exact ih (by omega) j (by omega)
  apply Nat.eq_of_testBit_eq
  intro j
  rw [Nat.zero_testBit]
  by_cases hj : j < n
  · exact key n (by omega) j hj
  · cases hb : s.testBit j with
    | false => rfl
    | true => exact absurd (lt_of_testBit hs hb) hj
theorem and_lt2 {n a b : Nat} (ha : a < 2 ^ n) : a &&& b < 2 ^ n := Nat.lt_of_le_of_lt Nat.and_le_left ha
theorem meet_pos {n : Nat} {l : List Nat} (hl : QOk n l) : 1 ≤ meetQ n l := by
  obtain ⟨a, b, ha, hb, h⟩ := meet_is (n := n) hl.some
  rw [h]
  exact cntq_pos n _ (and_lt2 (hl.lt a ha)) (hl.meet a b ha hb)
/-- the liars that are masked: one more than twice so many is in common -/
theorem liars_mask {n : Nat} {l : List Nat} {k a b : Nat} (hk : 2 * k + 1 ≤ meetQ n l) (ha : a ∈ l) (hb : b ∈ l) : k < cnt n (a &&& b) - k := by
  have := meet_le (n := n) ha hb; omega
theorem liars_tight {n : Nat} {l : List Nat} (hl : QOk n l) {k : Nat} (hk : meetQ n l < 2 * (k + 1) + 1) : ∃ a b, a ∈ l ∧ b ∈ l ∧ cnt n (a &&& b) ≤ 2 * k + 2 := by
  obtain ⟨a, b, ha, hb, h⟩ := meet_is (n := n) hl.some
  exact ⟨a, b, ha, hb, by omega⟩

/-- with whichever k gone, is a set left? -/
def lostQ (n : Nat) (l : List Nat) (k : Nat) : Bool := (List.range (2 ^ n)).all fun s => !(cnt n s == k && !hasQ l (cpl n s))
/-- how many may fail, from k on, tried for d rounds -/
def failQ (n : Nat) (l : List Nat) : Nat → Nat → Nat
  | 0, k => k
  | d + 1, k => if lostQ n l (k + 1) then failQ n l d (k + 1) else k
theorem lost_iff {n : Nat} {l : List Nat} {k : Nat} : lostQ n l k = true ↔ ∀ s, s < 2 ^ n → cnt n s = k → hasQ l (cpl n s) = true := by
  unfold lostQ
  rw [List.all_eq_true]
  constructor
  · intro h s hs hc
    have := h s (List.mem_range.2 hs)
    rw [hc] at this
    simpa using this
  · intro h s hs
    rw [List.mem_range] at hs
    by_cases hc : cnt n s = k
    · rw [h s hs hc]; simp
    · simp [hc]
theorem cnt_all : ∀ n, cnt n (2 ^ n - 1) = n := by
  have key : ∀ n s, (∀ j, j < n → s.testBit j = true) → cnt n s = n := by
    intro n
    induction n with
    | zero => intro s _; rfl
    | succ n ih => intro s h; show cnt n s + _ = n + 1; rw [ih s fun j hj => h j (by omega), h n (by omega)]; rfl
  exact fun n => key n _ fun j hj => all_bits hj
theorem cnt_zero : ∀ n, cnt n 0 = 0 := by
  intro n
  induction n with
  | zero => rfl
  | succ n ih => show cnt n 0 + _ = 0; rw [ih, Nat.zero_testBit]; rfl
/-- with all gone no set is left -/
theorem lost_all {n : Nat} {l : List Nat} (hl : QOk n l) : lostQ n l n = false := by
  cases e : lostQ n l n with
  | false => rfl
  | true =>
    have hp := Nat.two_pow_pos n
    have := lost_iff.1 e (2 ^ n - 1) (by omega) (cnt_all n)
    obtain ⟨a, ha, hs⟩ := hasQ_iff.1 this
    have := sub_le hs
    have h0 : cpl n (2 ^ n - 1) = 0 := by unfold cpl; omega
    exact absurd (by omega : a = 0) (hl.pos a ha)
/-- as far as it went, a set is left whichever so many are gone -/
theorem fail_all {n : Nat} {l : List Nat} : ∀ (d k : Nat), (∀ i, i ≤ k → lostQ n l i = true) → (∀ i, i ≤ failQ n l d k → lostQ n l i = true) ∧ k ≤ failQ n l d k ∧ failQ n l d k ≤ k + d := by
  intro d
  induction d with
  | zero => intro k h; exact ⟨h, Nat.le_refl _, Nat.le_refl _⟩
  | succ d ih =>
    intro k h
    unfold failQ
    cases e : lostQ n l (k + 1) with
    | false => simp only [Bool.false_eq_true, if_false]; exact ⟨h, Nat.le_refl _, by omega⟩
    | true =>
      simp only [if_true]
      obtain ⟨h1, h2, h3⟩ := ih (k + 1) (fun i hi => by
        by_cases hj : i = k + 1
        · rw [hj]; exact e
        · exact h i (by omega))
      exact ⟨h1, by omega, by omega⟩
theorem lost_none {n : Nat} {l : List Nat} (hl : QOk n l) : lostQ n l 0 = true := by
  rw [lost_iff]
  intro s hs hc
  have h0 : s = 0 := Classical.byContradiction fun hn => by have := cntq_pos n s hs hn; omega
  subst h0
  obtain ⟨a, ha⟩ := List.exists_mem_of_ne_nil l hl.some
  refine hasQ_iff.2 ⟨a, ha, (sub_cpl (hl.lt a ha) hs).2 (Nat.and_zero a)⟩
theorem fail_lt {n : Nat} {l : List Nat} (hl : QOk n l) : failQ n l n 0 < n := by
  obtain ⟨h1, _, h3⟩ := fail_all (n := n) (l := l) n 0 (fun i hi => by rw [Nat.le_zero.1 hi]; exact lost_none hl)
  refine Classical.byContradiction fun hn => ?_
  have := h1 n (by omega)
  rw [lost_all hl] at this; cases this
/-- with so many gone, whichever they are, a set is left -/
theorem fail_left {n : Nat} {l : List Nat} (hl : QOk n l) {s : Nat} (hs : s < 2 ^ n) (h : cnt n s ≤ failQ n l n 0) : hasQ l (cpl n s) = true :=
  lost_iff.1 ((fail_all (n := n) (l := l) n 0 (fun i hi => by rw [Nat.le_zero.1 hi]; exact lost_none hl)).1 _ h) s hs rfl
end Go.Proofs.YtfjmealeglbklaaDoor.M
