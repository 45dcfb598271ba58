/- Plain mathematics of traces (events, each at a process, each told behind the one of which it heard): what is wrong with one, what happened before what, which of its process an event is, and when two traces are one; told in another order it is the same trace. No program text is named. -/
import Derived.Test.YtfjmealeglbklaaDoorDil
namespace Go.Proofs.YtfjmealeglbklaaDoor.M

/-- where event i was -/
def pr (T : List (Int × Int)) (i : Nat) : Int := (T[i]?.getD (0, 0)).1
/-- of which event it heard -/
def fm (T : List (Int × Int)) (i : Nat) : Int := (T[i]?.getD (0, 0)).2
/-- what is wrong with event i -/
def evC (P : Int) (T : List (Int × Int)) (i : Nat) : Nat :=
  if 0 ≤ pr T i ∧ pr T i ≤ P - 1 ∧ -1 ≤ fm T i ∧ fm T i ≤ (i : Int) - 1 then (if 0 ≤ fm T i ∧ pr T (fm T i).toNat = pr T i then 6 else 0) else 1
/-- what is wrong with the first event below k that has a fault -/
def evTo (P : Int) (T : List (Int × Int)) : Nat → Nat
  | 0 => 0
  | k + 1 => if evTo P T k = 0 then evC P T k else evTo P T k
/-- what is wrong with a trace -/
def tcode (P : Int) (T : List (Int × Int)) : Nat := if 1 ≤ P ∧ P ≤ 5 then (if 24 < T.length then 4 else evTo P T T.length) else 1
structure TOk (P : Int) (T : List (Int × Int)) : Prop where
  p1 : 1 ≤ P
  p5 : P ≤ 5
  len : T.length ≤ 24
  pr0 : ∀ i, i < T.length → 0 ≤ pr T i
  prP : ∀ i, i < T.length → pr T i < P
  fm0 : ∀ i, i < T.length → -1 ≤ fm T i
  fmI : ∀ i, i < T.length → fm T i < (i : Int)
  apart : ∀ i, i < T.length → 0 ≤ fm T i → pr T (fm T i).toNat ≠ pr T i
theorem evC_zero {P : Int} {T : List (Int × Int)} {i : Nat} : evC P T i = 0 ↔ (0 ≤ pr T i ∧ pr T i ≤ P - 1 ∧ -1 ≤ fm T i ∧ fm T i ≤ (i : Int) - 1) ∧ ¬ (0 ≤ fm T i ∧ pr T (fm T i).toNat = pr T i) := by
  unfold evC
  split
  · rename_i h
    split
    · rename_i h2; simp [h, h2]
    · rename_i h2; simp only [h, h2]; simp
  · rename_i h; simp [h]
theorem evTo_zero {P : Int} {T : List (Int × Int)} (k : Nat) : evTo P T k = 0 ↔ ∀ i, i < k → evC P T i = 0 := by
  induction k with
  | zero => simp [evTo]
  | succ k ih =>
    simp only [evTo]
    constructor
    · intro h i hi
      by_cases h0 : evTo P T k = 0
      · rw [if_pos h0] at h
        by_cases e : i = k
        · subst e; exact h
        · exact ih.1 h0 i (by omega)
      · rw [if_neg h0] at h; exact absurd h h0
    · intro h
      have h0 := ih.2 (fun i hi => h i (by omega))
      rw [if_pos h0]; exact h k (by omega)
theorem evTo_stay {P : Int} {T : List (Int × Int)} {k : Nat} (h : evTo P T k ≠ 0) (d : Nat) : evTo P T (k + d) = evTo P T k := by
  induction d with
  | zero => rfl
  | succ d ih =>
    show evTo P T (k + d + 1) = _
    simp only [evTo]
    rw [ih, if_neg h]
theorem evTo_first {P : Int} {T : List (Int × Int)} {k n : Nat} (h0 : evTo P T k = 0) (hk : k < n) (h : evC P T k ≠ 0) : evTo P T n = evC P T k := by
  have e : evTo P T (k + 1) = evC P T k := by simp only [evTo]; rw [if_pos h0]
  have := evTo_stay (P := P) (T := T) (k := k + 1) (by rw [e]; exact h) (n - (k + 1))
  rw [show k + 1 + (n - (k + 1)) = n by omega, e] at this
  exact this
theorem tcode_zero {P : Int} {T : List (Int × Int)} : tcode P T = 0 ↔ TOk P T := by
  unfold tcode
  constructor
  · intro h
    split at h
    · rename_i hp
      split at h
      · cases h
      · rename_i hl
        have he := (evTo_zero T.length).1 h
        exact ⟨hp.1, hp.2, by omega, fun i hi => (evC_zero.1 (he i hi)).1.1, fun i hi => by have := (evC_zero.1 (he i hi)).1.2.1; omega, fun i hi => (evC_zero.1 (he i hi)).1.2.2.1, fun i hi => by have := (evC_zero.1 (he i hi)).1.2.2.2; omega, fun i hi h0 e => (evC_zero.1 (he i hi)).2 ⟨h0, e⟩⟩
    · cases h
  · intro h
    rw [if_pos ⟨h.p1, h.p5⟩, if_neg (by have := h.len; omega)]
    exact (evTo_zero _).2 (fun i hi => evC_zero.2 ⟨⟨h.pr0 i hi, by have := h.prP i hi; omega, h.fm0 i hi, by have := h.fmI i hi; omega⟩, fun e => h.apart i hi e.1 e.2⟩)

/-! ### what happened before what -/
/-- event j is told ahead of i at its process, or i heard of it -/
def mustB (T : List (Int × Int)) (j i : Nat) : Bool := pr T j == pr T i || fm T i == (j : Int)
def bacc (T : List (Int × Int)) (out : List Nat) (i : Nat) : Nat → Nat
  | 0 => 0
  | j + 1 => if mustB T j i then bacc T out i j ||| (row out j ||| 1 <<< j) else bacc T out i j
def bfs (T : List (Int × Int)) : Nat → List Nat
  | 0 => []
  | i + 1 => bfs T i ++ [bacc T (bfs T i) i i]
/-- of each event all that happened before it -/
def before (T : List (Int × Int)) : List Nat := bfs T T.length
theorem bfs_length (T : List (Int × Int)) (k : Nat) : (bfs T k).length = k := by
  induction k with
  | zero => rfl
  | succ k ih => simp [bfs, ih]
theorem before_length (T : List (Int × Int)) : (before T).length = T.length := bfs_length T _
theorem bfs_row (T : List (Int × Int)) {k i : Nat} (h : i < k) : row (bfs T k) i = bacc T (bfs T i) i i := by
  induction k with
  | zero => omega
  | succ k ih =>
    unfold row
    simp only [bfs]
    by_cases e : i = k
    · subst e
      rw [List.getElem?_append_right (by rw [bfs_length]; omega), bfs_length]
      simp
    · rw [List.getElem?_append_left (by rw [bfs_length]; omega)]
      exact ih (by omega)
/-- all that happened before event i -/
def bs (T : List (Int × Int)) (i : Nat) : Nat := bacc T (bfs T i) i i
theorem before_row (T : List (Int × Int)) {i : Nat} (h : i < T.length) : row (before T) i = bs T i := bfs_row T h
theorem bacc_bit (T : List (Int × Int)) (i : Nat) {m : Nat} (hm : m ≤ i) (k : Nat) : (bacc T (bfs T i) i m).testBit k = true ↔ ∃ j, j < m ∧ mustB T j i = true ∧ (k = j ∨ (bs T j).testBit k = true) := by
  induction m with
  | zero => simp [bacc]
  | succ m ih =>
    simp only [bacc]
    have ih := ih (by omega)
    by_cases h : mustB T m i = true
    · rw [if_pos h, Nat.testBit_or, Nat.testBit_or, Bool.or_eq_true, Bool.or_eq_true, ih, bfs_row T (by omega), Nat.shiftLeft_eq, Nat.one_mul, Nat.testBit_two_pow, decide_eq_true_eq]
      constructor
      · rintro (⟨j, a, b, c⟩ | (c | c))
        · exact ⟨j, by omega, b, c⟩
        · exact ⟨m, by omega, h, .inr c⟩
        · exact ⟨m, by omega, h, .inl c.symm⟩
      · rintro ⟨j, a, b, c⟩
        by_cases e : j = m
        · subst e
          rcases c with c | c
          · exact .inr (.inr c.symm)
          · exact .inr (.inl c)
        · exact .inl ⟨j, by omega, b, c⟩
    · rw [if_neg h, ih]
      constructor
      · rintro ⟨j, a, b, c⟩
        exact ⟨j, by omega, b, c⟩
      · rintro ⟨j, a, b, c⟩
        by_cases e : j = m
        · subst e; exact absurd b h
        · exact ⟨j, by omega, b, c⟩
theorem bs_bit (T : List (Int × Int)) (i k : Nat) : (bs T i).testBit k = true ↔ ∃ j, j < i ∧ mustB T j i = true ∧ (k = j ∨ (bs T j).testBit k = true) := bacc_bit T i (Nat.le_refl _) k
theorem bs_in (T : List (Int × Int)) (i : Nat) : ∀ k, (bs T i).testBit k = true → k < i := by
  induction i using Nat.strongRecOn with
  | _ i ih =>
    intro k h
    obtain ⟨j, a, _, c⟩ := (bs_bit T i k).1 h
    rcases c with c | c
    · omega
    · have := ih j a k c; omega
theorem bs_lt (T : List (Int × Int)) (i : Nat) : bs T i < 2 ^ i := by
  apply Nat.lt_pow_two_of_testBit
  intro k hk
  cases h : (bs T i).testBit k with
  | false => rfl
  | true => exact absurd (bs_in T i k h) (by omega)
theorem bacc_in (T : List (Int × Int)) (i : Nat) {m : Nat} (hm : m ≤ i) : bacc T (bfs T i) i m < 2 ^ m := by
  apply Nat.lt_pow_two_of_testBit
  intro k hk
  cases h : (bacc T (bfs T i) i m).testBit k with
  | false => rfl
  | true =>
    obtain ⟨j, a, _, c⟩ := (bacc_bit T i hm k).1 h
    rcases c with c | c
    · omega
    · have := bs_in T j k c; omega
theorem bs_must {T : List (Int × Int)} {j i : Nat} (hj : j < i) (h : mustB T j i = true) : (bs T i).testBit j = true := (bs_bit T i j).2 ⟨j, hj, h, .inl rfl⟩
theorem bs_trans (T : List (Int × Int)) (i : Nat) : ∀ j k, (bs T i).testBit j = true → (bs T j).testBit k = true → (bs T i).testBit k = true := by
  induction i using Nat.strongRecOn with
  | _ i ih =>
    intro j k h1 h2
    obtain ⟨m, a, b, c⟩ := (bs_bit T i j).1 h1
    refine (bs_bit T i k).2 ⟨m, a, b, .inr ?_⟩
    rcases c with rfl | c
    · exact h2
    · exact ih m a j k c h2
/-- IT IS THE LEAST -/
theorem bs_least {T : List (Int × Int)} {n : Nat} (O : Nat → Nat) (h1 : ∀ i j, i < n → j < i → mustB T j i = true → (O i).testBit j = true) (h2 : ∀ i j, i < n → j < i → (O i).testBit j = true → ∀ k, (O j).testBit k = true → (O i).testBit k = true) (i : Nat) (hi : i < n) : ∀ k, (bs T i).testBit k = true → (O i).testBit k = true := by
  induction i using Nat.strongRecOn with
  | _ i ih =>
    intro k h
    obtain ⟨j, a, b, c⟩ := (bs_bit T i k).1 h
    have hj := h1 i j hi a b
    rcases c with rfl | c
    · exact hj
    · exact h2 i j hi a hj k (ih j a (by omega) k c)

/-! ### which of its process -/
def nth (T : List (Int × Int)) (i : Nat) : Nat := cb i fun j => pr T j == pr T i
theorem nth_le (T : List (Int × Int)) (i : Nat) : nth T i ≤ i := cb_le _ _
theorem cb_more {n m : Nat} (h : n ≤ m) (p : Nat → Bool) : cb n p ≤ cb m p := by
  induction m with
  | zero => obtain rfl : n = 0 := by omega
            exact Nat.le_refl _
  | succ m ih =>
    by_cases e : n = m + 1
    · subst e; exact Nat.le_refl _
    · have := ih (by omega)
      simp only [cb]; omega
theorem cb_at {n : Nat} {p : Nat → Bool} {b : Bool} (h : p n = b) : cb (n + 1) p = cb n p + (if b then 1 else 0) := by subst h; rfl
theorem nth_lt {T : List (Int × Int)} {i j : Nat} (h : i < j) (e : pr T i = pr T j) : nth T i < nth T j := by
  unfold nth
  have h1 : cb (i + 1) (fun k => pr T k == pr T j) = cb i (fun k => pr T k == pr T i) + 1 := by
    rw [cb_at (b := true) (by simp [e]), e]; rfl
  have := cb_more (show i + 1 ≤ j by omega) (fun k => pr T k == pr T j)
  omega
theorem nth_inj {T : List (Int × Int)} {i j : Nat} (e : pr T i = pr T j) (h : nth T i = nth T j) : i = j := by
  rcases Nat.lt_trichotomy i j with h1 | h1 | h1
  · have := nth_lt h1 e; omega
  · exact h1
  · have := nth_lt h1 e.symm; omega
/-- event i of T and event j of U heard of none, or of the same one -/
def linkB (T U : List (Int × Int)) (i j : Nat) : Bool :=
  (decide (fm T i < 0) && decide (fm U j < 0)) || (decide (0 ≤ fm T i) && decide (0 ≤ fm U j) && (pr T (fm T i).toNat == pr U (fm U j).toNat) && (nth T (fm T i).toNat == nth U (fm U j).toNat))
def keyB (T U : List (Int × Int)) (i j : Nat) : Bool := pr T i == pr U j && nth T i == nth U j
def foundTo (T U : List (Int × Int)) (i : Nat) : Nat → Bool
  | 0 => false
  | j + 1 => if keyB T U i j then linkB T U i j else foundTo T U i j
/-- events below m have each one of U that heard of the same -/
def sameTo (T U : List (Int × Int)) : Nat → Bool
  | 0 => true
  | m + 1 => sameTo T U m && foundTo T U m U.length
/-- two traces are one -/
def sameB (P : Int) (T : List (Int × Int)) (Q : Int) (U : List (Int × Int)) : Bool := P == Q && T.length == U.length && sameTo T U T.length
theorem keyB_one {T U : List (Int × Int)} {i j k : Nat} (h1 : keyB T U i j = true) (h2 : keyB T U i k = true) : j = k := by
  unfold keyB at h1 h2
  simp only [Bool.and_eq_true, beq_iff_eq] at h1 h2
  exact nth_inj (h1.1.symm.trans h2.1) (h1.2.symm.trans h2.2)
theorem foundTo_iff {T U : List (Int × Int)} {i : Nat} (n : Nat) : foundTo T U i n = true ↔ ∃ j, j < n ∧ keyB T U i j = true ∧ linkB T U i j = true := by
  induction n with
  | zero => simp [foundTo]
  | succ n ih =>
    simp only [foundTo]
    by_cases h : keyB T U i n = true
    · rw [if_pos h]
      constructor
      · intro h1; exact ⟨n, by omega, h, h1⟩
      · rintro ⟨j, _, a, b⟩
        rw [keyB_one h a]; exact b
    · rw [if_neg h, ih]
      constructor
      · rintro ⟨j, a, b⟩; exact ⟨j, by omega, b⟩
      · rintro ⟨j, a, b, c⟩
        by_cases e : j = n
        · subst e; exact absurd b h
        · exact ⟨j, by omega, b, c⟩
theorem sameTo_iff {T U : List (Int × Int)} (m : Nat) : sameTo T U m = true ↔ ∀ i, i < m → ∃ j, j < U.length ∧ keyB T U i j = true ∧ linkB T U i j = true := by
  induction m with
  | zero => simp [sameTo]
  | succ m ih =>
    simp only [sameTo]
    rw [Bool.and_eq_true, ih, foundTo_iff]
    constructor
    · rintro ⟨h1, h2⟩ i hi
      by_cases e : i = m
      · subst e; exact h2
      · exact h1 i (by omega)
    · intro h
      exact ⟨fun i hi => h i (by omega), h m (by omega)⟩
theorem linkB_self (T : List (Int × Int)) (i : Nat) : linkB T T i i = true := by
  unfold linkB
  by_cases h : fm T i < 0
  · simp [h]
  · simp; omega
theorem same_self (P : Int) (T : List (Int × Int)) : sameB P T P T = true := by
  unfold sameB
  simp only [beq_self_eq_true, Bool.true_and]
  exact (sameTo_iff _).2 (fun i hi => ⟨i, hi, by simp [keyB], linkB_self T i⟩)

/-! ### told in another order -/
/-- i and the one ahead of it the other way round -/
def sw (i k : Nat) : Nat := if k = i then i - 1 else if k = i - 1 then i else k
def swI (i : Nat) (f : Int) : Int := if f = (i : Int) then (i : Int) - 1 else if f = (i : Int) - 1 then (i : Int) else f
theorem sw_sw {i : Nat} (hi : 1 ≤ i) (k : Nat) : sw i (sw i k) = k := by
  unfold sw
  by_cases h1 : k = i
  · rw [if_pos h1, if_neg (by omega), if_pos rfl, h1]
  · rw [if_neg h1]
    by_cases h2 : k = i - 1
    · rw [if_pos h2, if_pos rfl, h2]
    · rw [if_neg h2, if_neg h1, if_neg h2]
theorem sw_lt {i n : Nat} (hi : i < n) {k : Nat} (hk : k < n) : sw i k < n := by
  unfold sw; split
  · omega
  · split <;> omega
theorem swI_nat {i : Nat} (hi : 1 ≤ i) {f : Int} (h : 0 ≤ f) : swI i f = (sw i f.toNat : Int) := by
  obtain ⟨k, rfl⟩ : ∃ k : Nat, f = k := ⟨f.toNat, by omega⟩
  rw [Int.toNat_natCast]
  unfold swI sw
  by_cases h1 : k = i
  · rw [if_pos (show (k : Int) = i by omega), if_pos h1]; omega
  · rw [if_neg (show ¬ (k : Int) = i by omega), if_neg h1]
    by_cases h2 : k = i - 1
    · rw [if_pos (show (k : Int) = (i : Int) - 1 by omega), if_pos h2]
    · rw [if_neg (show ¬ (k : Int) = (i : Int) - 1 by omega), if_neg h2]
theorem swI_neg {i : Nat} (hi : 1 ≤ i) {f : Int} (h : f < 0) : swI i f = f := by
  unfold swI
  rw [if_neg (by omega), if_neg (by omega)]
/-- the trace with event i told ahead of the one ahead of it -/
def swapT (T : List (Int × Int)) (i : Nat) : List (Int × Int) := (List.range T.length).map fun k => (pr T (sw i k), swI i (fm T (sw i k)))
theorem swapT_length (T : List (Int × Int)) (i : Nat) : (swapT T i).length = T.length := by simp [swapT]
theorem swapT_pr {T : List (Int × Int)} {i k : Nat} (h : k < T.length) : pr (swapT T i) k = pr T (sw i k) := by
  unfold pr swapT
  simp [h, pr]
theorem swapT_fm {T : List (Int × Int)} {i k : Nat} (h : k < T.length) : fm (swapT T i) k = swI i (fm T (sw i k)) := by
  unfold fm swapT
  simp [h, fm]
theorem cb_swap {i k : Nat} (hi : 1 ≤ i) (hk : i < k) (p : Nat → Bool) : cb k (fun j => p (sw i j)) = cb k p := by
  induction k with
  | zero => omega
  | succ k ih =>
    by_cases e : k = i
    · subst e
      obtain ⟨m, rfl⟩ : ∃ m, k = m + 1 := ⟨k - 1, by omega⟩
      have h1 : cb m (fun j => p (sw (m + 1) j)) = cb m p := cb_congr (fun j hj => by unfold sw; rw [if_neg (by omega), if_neg (by omega)])
      have h2 : sw (m + 1) m = m + 1 := by unfold sw; rw [if_neg (by omega), if_pos (by omega)]
      have h3 : sw (m + 1) (m + 1) = m := by unfold sw; rw [if_pos rfl]; rfl
      rw [cb_at (n := m + 1) (b := p m) (by rw [h3]), cb_at (n := m) (b := p (m + 1)) (by rw [h2]), cb_at (n := m + 1) (p := p) rfl, cb_at (n := m) (p := p) rfl, h1]; omega
    · have : sw i k = k := by unfold sw; rw [if_neg (by omega), if_neg (by omega)]
      rw [cb_at (n := k) (b := p k) (by rw [this]), cb_at (n := k) (p := p) rfl, ih (by omega)]
theorem swapT_nth {T : List (Int × Int)} {i k : Nat} (hi : 1 ≤ i) (hin : i < T.length) (hne : pr T i ≠ pr T (i - 1)) (hk : k < T.length) : nth (swapT T i) k = nth T (sw i k) := by
  unfold nth
  have e1 : cb k (fun j => pr (swapT T i) j == pr (swapT T i) k) = cb k (fun j => pr T (sw i j) == pr T (sw i k)) := cb_congr (fun j hj => by rw [swapT_pr (by omega), swapT_pr hk])
  rw [e1]
  by_cases h1 : i < k
  · have hs : sw i k = k := by unfold sw; rw [if_neg (by omega), if_neg (by omega)]
    rw [hs]
    exact cb_swap hi h1 (fun j => pr T j == pr T k)
  · by_cases h2 : k = i
    · subst h2
      have hs : sw k k = k - 1 := by unfold sw; rw [if_pos rfl]
      rw [hs]
      obtain ⟨m, rfl⟩ : ∃ m, k = m + 1 := ⟨k - 1, by omega⟩
      simp only [Nat.add_sub_cancel]
      have h3 : sw (m + 1) m = m + 1 := by unfold sw; rw [if_neg (by omega), if_pos (by omega)]
      have h4 : cb m (fun j => pr T (sw (m + 1) j) == pr T m) = cb m (fun j => pr T j == pr T m) := cb_congr (fun j hj => by
        have : sw (m + 1) j = j := by unfold sw; rw [if_neg (by omega), if_neg (by omega)]
        rw [this])
      have : (pr T (m + 1) == pr T m) = false := by simpa using hne
      rw [cb_at (b := false) (by rw [h3]; exact this), h4]; simp
    · by_cases h3 : k = i - 1
      · have hs : sw i k = i := by unfold sw; rw [if_neg h2, if_pos h3]
        rw [hs]
        obtain ⟨m, rfl⟩ : ∃ m, i = m + 1 := ⟨i - 1, by omega⟩
        obtain rfl : k = m := by omega
        have h4 : cb k (fun j => pr T (sw (k + 1) j) == pr T (k + 1)) = cb k (fun j => pr T j == pr T (k + 1)) := cb_congr (fun j hj => by
          have : sw (k + 1) j = j := by unfold sw; rw [if_neg (by omega), if_neg (by omega)]
          rw [this])
        have : (pr T k == pr T (k + 1)) = false := by
          have : pr T (k + 1) ≠ pr T k := by simpa using hne
          simpa using fun e => this e.symm
        rw [h4, cb_at (b := false) this]; simp
      · have hs : sw i k = k := by unfold sw; rw [if_neg h2, if_neg h3]
        rw [hs]
        exact cb_congr (fun j hj => by
          have : sw i j = j := by unfold sw; rw [if_neg (by omega), if_neg (by omega)]
          rw [this])
theorem swapT_ok {P : Int} {T : List (Int × Int)} (h : TOk P T) {i : Nat} (hi : 1 ≤ i) (hin : i < T.length) (hf : fm T i ≠ (i : Int) - 1) : TOk P (swapT T i) := by
  have hlen := swapT_length T i
  refine ⟨h.p1, h.p5, by rw [hlen]; exact h.len, fun k hk => ?_, fun k hk => ?_, fun k hk => ?_, fun k hk => ?_, fun k hk => ?_⟩
  · rw [hlen] at hk; rw [swapT_pr hk]; exact h.pr0 _ (sw_lt hin hk)
  · rw [hlen] at hk; rw [swapT_pr hk]; exact h.prP _ (sw_lt hin hk)
  · rw [hlen] at hk; rw [swapT_fm hk]
    have h1 := h.fm0 _ (sw_lt hin hk)
    by_cases h0 : fm T (sw i k) < 0
    · rw [swI_neg hi h0]; exact h1
    · rw [swI_nat hi (by omega)]; omega
  · rw [hlen] at hk; rw [swapT_fm hk]
    have h1 := h.fmI _ (sw_lt hin hk)
    by_cases h2 : k = i
    · subst h2
      have hs : sw k k = k - 1 := by unfold sw; rw [if_pos rfl]
      rw [hs] at h1 ⊢
      unfold swI
      rw [if_neg (by omega), if_neg (by omega)]; omega
    · by_cases h3 : k = i - 1
      · have hs : sw i k = i := by unfold sw; rw [if_neg h2, if_pos h3]
        rw [hs] at h1 ⊢
        unfold swI
        rw [if_neg (by omega), if_neg hf]; omega
      · have hs : sw i k = k := by unfold sw; rw [if_neg h2, if_neg h3]
        rw [hs] at h1 ⊢
        unfold swI
        split
        · omega
        · split <;> omega
  · rw [hlen] at hk; rw [swapT_fm hk, swapT_pr hk]
    intro h0
    have h1 := h.fmI _ (sw_lt hin hk)
    have hsl := sw_lt hin hk
    by_cases hn : fm T (sw i k) < 0
    · rw [swI_neg hi hn] at h0; omega
    · have hfl : (fm T (sw i k)).toNat < T.length := by omega
      rw [swI_nat hi (by omega), Int.toNat_natCast, swapT_pr (sw_lt hin hfl), sw_sw hi]
      exact h.apart _ hsl (by omega)
theorem same_link {T U : List (Int × Int)} {i j : Nat} (h0 : fm T i < 0 → fm U j < 0) (h1 : 0 ≤ fm T i → 0 ≤ fm U j ∧ pr T (fm T i).toNat = pr U (fm U j).toNat ∧ nth T (fm T i).toNat = nth U (fm U j).toNat) : linkB T U i j = true := by
  unfold linkB
  by_cases h : fm T i < 0
  · simp [h, h0 h]
  · obtain ⟨a, b, c⟩ := h1 (by omega)
    simp only [Bool.or_eq_true, Bool.and_eq_true, decide_eq_true_eq, beq_iff_eq]
    exact .inr ⟨⟨⟨by omega, a⟩, b⟩, c⟩
/-- TOLD IN ANOTHER ORDER IT IS ONE TRACE -/
theorem same_swap {P : Int} {T : List (Int × Int)} (h : TOk P T) {i : Nat} (hi : 1 ≤ i) (hin : i < T.length) (hne : pr T i ≠ pr T (i - 1)) : sameB P T P (swapT T i) = true ∧ sameB P (swapT T i) P T = true := by
  have hlen := swapT_length T i
  unfold sameB
  simp only [beq_self_eq_true, Bool.true_and, hlen]
  have hfl : ∀ k, k < T.length → 0 ≤ fm T k → (fm T k).toNat < T.length := fun k hk h0 => by have := h.fmI k hk; omega
  constructor
  · refine (sameTo_iff _).2 (fun k hk => ⟨sw i k, by rw [hlen]; exact sw_lt hin hk, ?_, ?_⟩)
    · unfold keyB
      rw [swapT_pr (sw_lt hin hk), swapT_nth hi hin hne (sw_lt hin hk), sw_sw hi]; simp
    · refine same_link (fun h0 => ?_) (fun h0 => ?_)
      · rw [swapT_fm (sw_lt hin hk), sw_sw hi, swI_neg hi h0]; exact h0
      · have hf := hfl k hk h0
        rw [swapT_fm (sw_lt hin hk), sw_sw hi, swI_nat hi h0, Int.toNat_natCast, swapT_pr (sw_lt hin hf), swapT_nth hi hin hne (sw_lt hin hf), sw_sw hi]
        exact ⟨by omega, rfl, rfl⟩
  · refine (sameTo_iff _).2 (fun k hk => ⟨sw i k, sw_lt hin hk, ?_, ?_⟩)
    · unfold keyB
      rw [swapT_pr hk, swapT_nth hi hin hne hk]; simp
    · have hsl := sw_lt hin hk
      refine same_link (fun h0 => ?_) (fun h0 => ?_)
      · rw [swapT_fm hk] at h0
        by_cases hn : fm T (sw i k) < 0
        · exact hn
        · rw [swI_nat hi (by omega)] at h0; omega
      · rw [swapT_fm hk] at h0 ⊢
        by_cases hn : fm T (sw i k) < 0
        · rw [swI_neg hi hn] at h0; omega
        · have hf := hfl _ hsl (by omega)
          rw [swI_nat hi (by omega), Int.toNat_natCast, swapT_pr (sw_lt hin hf), swapT_nth hi hin hne (sw_lt hin hf), sw_sw hi]
          exact ⟨by omega, rfl, rfl⟩
end Go.Proofs.YtfjmealeglbklaaDoor.M
