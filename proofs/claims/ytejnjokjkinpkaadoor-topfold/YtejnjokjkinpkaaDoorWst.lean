/- Plain mathematics of the steps of a word: each letter comes into the first step behind the last one that has a letter with which it may not change places; the word of all steps is the same word, words that are the same have the same steps, and there are as many as the longest row that stays. No program text is named. -/
import Derived.Test.YtejnjokjkinpkaaDoorWrd
namespace Go.Proofs.YtejnjokjkinpkaaDoor.M

/-- has a step a letter with which this one may not change places? -/
def tied (f : Nat → Nat → Bool) (m c L : Nat) : Bool := (List.range m).any fun y => L.testBit y && !f c y
theorem tied_iff {f : Nat → Nat → Bool} {m c L : Nat} : tied f m c L = true ↔ ∃ y, y < m ∧ L.testBit y = true ∧ f c y = false := by
  unfold tied
  rw [List.any_eq_true]
  constructor
  · rintro ⟨y, hy, h⟩
    rw [Bool.and_eq_true] at h
    exact ⟨y, List.mem_range.1 hy, h.1, by simpa using h.2⟩
  · rintro ⟨y, hy, h1, h2⟩
    exact ⟨y, List.mem_range.2 hy, by simp [h1, h2]⟩
/-- how many of the first n steps there are up to the last one that has such a letter -/
def lastT (f : Nat → Nat → Bool) (m c : Nat) (S : Nat → Nat) : Nat → Nat
  | 0 => 0
  | n + 1 => if tied f m c (S n) then n + 1 else lastT f m c S n
theorem lastT_le (f : Nat → Nat → Bool) (m c : Nat) (S : Nat → Nat) : ∀ n, lastT f m c S n ≤ n
  | 0 => Nat.le_refl _
  | n + 1 => by
    simp only [lastT]
    split
    · exact Nat.le_refl _
    · have := lastT_le f m c S n; omega
theorem lastT_above {f : Nat → Nat → Bool} {m c : Nat} {S : Nat → Nat} : ∀ {n k : Nat}, lastT f m c S n ≤ k → k < n → tied f m c (S k) = false
  | n + 1, k, h, hk => by
    simp only [lastT] at h
    by_cases e : tied f m c (S n) = true
    · rw [if_pos e] at h; omega
    · rw [if_neg e] at h
      by_cases c2 : k = n
      · subst c2; simpa using e
      · exact lastT_above h (by omega)
theorem lastT_tied {f : Nat → Nat → Bool} {m c : Nat} {S : Nat → Nat} : ∀ {n k : Nat}, lastT f m c S n = k + 1 → tied f m c (S k) = true
  | n + 1, k, h => by
    simp only [lastT] at h
    by_cases e : tied f m c (S n) = true
    · rw [if_pos e] at h
      obtain rfl : n = k := by omega
      exact e
    · rw [if_neg e] at h
      exact lastT_tied h
theorem lastT_uniq {f : Nat → Nat → Bool} {m c : Nat} {S : Nat → Nat} {n t : Nat} (h1 : t ≤ n) (h2 : ∀ k, t ≤ k → k < n → tied f m c (S k) = false) (h3 : ∀ k, t = k + 1 → tied f m c (S k) = true) : lastT f m c S n = t := by
  have a := lastT_le f m c S n
  rcases Nat.lt_trichotomy (lastT f m c S n) t with h | h | h
  · exfalso
    obtain ⟨k, rfl⟩ : ∃ k, t = k + 1 := ⟨t - 1, by omega⟩
    have := h3 k rfl
    rw [lastT_above (n := n) (k := k) (by omega) (by omega)] at this
    cases this
  · exact h
  · exfalso
    obtain ⟨k, hk⟩ : ∃ k, lastT f m c S n = k + 1 := ⟨lastT f m c S n - 1, by omega⟩
    have := lastT_tied hk
    rw [h2 k (by omega) (by omega)] at this
    cases this
theorem lastT_congr {f : Nat → Nat → Bool} {m c : Nat} {S S' : Nat → Nat} {n : Nat} (h : ∀ k, k < n → tied f m c (S k) = tied f m c (S' k)) : lastT f m c S n = lastT f m c S' n := by
  induction n with
  | zero => rfl
  | succ n ih => simp only [lastT]; rw [h n (by omega), ih (fun k hk => h k (by omega))]
theorem lastT_more {f : Nat → Nat → Bool} {m c : Nat} {S : Nat → Nat} {n n' : Nat} (hn : n ≤ n') (h : ∀ k, n ≤ k → tied f m c (S k) = false) : lastT f m c S n' = lastT f m c S n := by
  induction n' with
  | zero =>
    obtain rfl : n = 0 := by omega
    rfl
  | succ k ih =>
    by_cases e : n = k + 1
    · subst e; rfl
    · simp only [lastT]; rw [h k (by omega)]; simp only [Bool.false_eq_true, if_false]; exact ih (by omega)
/-- steps: how many, and each as a set of letters -/
structure Sts where
  n : Nat
  lv : Nat → Nat
def sts0 : Sts := ⟨0, fun _ => 0⟩
/-- where a letter comes -/
def whr (f : Nat → Nat → Bool) (m : Nat) (S : Sts) (c : Nat) : Nat := lastT f m c S.lv S.n
def ins (f : Nat → Nat → Bool) (m : Nat) (S : Sts) (c : Nat) : Sts := ⟨Nat.max S.n (whr f m S c + 1), fun i => if i = whr f m S c then S.lv i ||| 2 ^ c else S.lv i⟩
/-- the steps of a word -/
def stp (f : Nat → Nat → Bool) (m : Nat) (w : List Nat) : Sts := w.foldl (ins f m) sts0
theorem stp_snoc (f : Nat → Nat → Bool) (m : Nat) (w : List Nat) (c : Nat) : stp f m (w ++ [c]) = ins f m (stp f m w) c := by unfold stp; rw [List.foldl_append]; rfl
theorem whr_le (f : Nat → Nat → Bool) (m : Nat) (S : Sts) (c : Nat) : whr f m S c ≤ S.n := lastT_le _ _ _ _ _
theorem bit_or (L c x : Nat) : (L ||| 2 ^ c).testBit x = (L.testBit x || decide (c = x)) := by rw [Nat.testBit_or, Nat.testBit_two_pow]
/-- What always holds of steps. -/
structure WF (f : Nat → Nat → Bool) (m : Nat) (S : Sts) : Prop where
  zero : ∀ i, S.n ≤ i → S.lv i = 0
  pos : ∀ i, i < S.n → S.lv i ≠ 0
  lt : ∀ i x, (S.lv i).testBit x = true → x < m
  free : ∀ i x y, (S.lv i).testBit x = true → (S.lv i).testBit y = true → x ≠ y → f x y = true
  tie : ∀ i x, (S.lv (i + 1)).testBit x = true → tied f m x (S.lv i) = true
theorem tied_zero (f : Nat → Nat → Bool) (m c : Nat) : tied f m c 0 = false := by
  cases h : tied f m c 0 with
  | false => rfl
  | true => obtain ⟨y, _, h1, _⟩ := tied_iff.1 h; simp at h1
theorem tied_or {f : Nat → Nat → Bool} {m c L d : Nat} (h : tied f m c L = true) : tied f m c (L ||| 2 ^ d) = true := by
  obtain ⟨y, h1, h2, h3⟩ := tied_iff.1 h
  exact tied_iff.2 ⟨y, h1, by rw [bit_or, h2]; rfl, h3⟩
theorem tied_free {f : Nat → Nat → Bool} {m c L d : Nat} (h : f c d = true) : tied f m c (L ||| 2 ^ d) = tied f m c L := by
  rw [Bool.eq_iff_iff]
  constructor
  · intro k
    obtain ⟨y, h1, h2, h3⟩ := tied_iff.1 k
    rw [bit_or, Bool.or_eq_true] at h2
    rcases h2 with h2 | h2
    · exact tied_iff.2 ⟨y, h1, h2, h3⟩
    · have : d = y := of_decide_eq_true h2
      subst this
      rw [h] at h3; cases h3
  · exact tied_or
theorem WF.zero0 (f : Nat → Nat → Bool) (m : Nat) : WF f m sts0 := ⟨fun _ _ => rfl, fun i hi => absurd hi (Nat.not_lt_zero _), fun i x h => by simp [sts0] at h, fun i x y h => by simp [sts0] at h, fun i x h => by simp [sts0] at h⟩
/-- a letter is not in a step of which it is free, and is free of all that are -/
theorem untied {f : Nat → Nat → Bool} {m c L y : Nat} (h : tied f m c L = false) (hy : y < m) (hb : L.testBit y = true) : f c y = true := by
  cases e : f c y with
  | true => rfl
  | false => rw [tied_iff.2 ⟨y, hy, hb, e⟩] at h; cases h
theorem WF.at_free {f : Nat → Nat → Bool} {m : Nat} {S : Sts} (h : WF f m S) (c : Nat) {k : Nat} (hk : whr f m S c ≤ k) : tied f m c (S.lv k) = false := by
  by_cases e : k < S.n
  · exact lastT_above hk e
  · rw [h.zero k (by omega)]; exact tied_zero _ _ _
theorem WF.ins {f : Nat → Nat → Bool} {m : Nat} {S : Sts} (hf : Fr f) (h : WF f m S) {c : Nat} (hc : c < m) : WF f m (M.ins f m S c) := by
  have hw := whr_le f m S c
  have un := h.at_free c (Nat.le_refl (whr f m S c))
  have hmx : (M.ins f m S c).n = max S.n (whr f m S c + 1) := rfl
  have lv : ∀ i, (M.ins f m S c).lv i = if i = whr f m S c then S.lv i ||| 2 ^ c else S.lv i := fun i => rfl
  refine ⟨fun i hi => ?_, fun i hi => ?_, fun i x hx => ?_, fun i x y hx hy hne => ?_, fun i x hx => ?_⟩
  · rw [lv, if_neg (by omega)]; exact h.zero i (by omega)
  · rw [lv]
    by_cases e : i = whr f m S c
    · rw [if_pos e]
      intro h0
      have := bit_or (S.lv i) c c
      rw [h0] at this
      simp at this
    · rw [if_neg e]; exact h.pos i (by omega)
  · rw [lv] at hx
    by_cases e : i = whr f m S c
    · rw [if_pos e, bit_or, Bool.or_eq_true] at hx
      rcases hx with hx | hx
      · exact h.lt i x hx
      · have := of_decide_eq_true hx; omega
    · rw [if_neg e] at hx; exact h.lt i x hx
  · rw [lv] at hx hy
    by_cases e : i = whr f m S c
    · rw [if_pos e, bit_or, Bool.or_eq_true] at hx hy
      rw [← e] at un
      rcases hx with hx | hx
      · rcases hy with hy | hy
        · exact h.free i x y hx hy hne
        · obtain rfl : c = y := of_decide_eq_true hy
          rw [hf.sym]; exact untied un (h.lt i x hx) hx
      · obtain rfl : c = x := of_decide_eq_true hx
        rcases hy with hy | hy
        · exact untied un (h.lt i y hy) hy
        · exact absurd (of_decide_eq_true hy) hne
    · rw [if_neg e] at hx hy; exact h.free i x y hx hy hne
  · rw [lv] at hx ⊢
    have up : ∀ x, tied f m x (S.lv i) = true → tied f m x (if i = whr f m S c then S.lv i ||| 2 ^ c else S.lv i) = true := fun x k => by
      split
      · exact tied_or k
      · exact k
    apply up
    by_cases e : i + 1 = whr f m S c
    · rw [if_pos e, bit_or, Bool.or_eq_true] at hx
      rcases hx with hx | hx
      · exact h.tie i x hx
      · obtain rfl : c = x := of_decide_eq_true hx
        exact lastT_tied e.symm
    · rw [if_neg e] at hx; exact h.tie i x hx
theorem WF.all {f : Nat → Nat → Bool} {m : Nat} (hf : Fr f) : ∀ (w : List Nat) {S : Sts}, WF f m S → (∀ x, x ∈ w → x < m) → WF f m (w.foldl (M.ins f m) S)
  | [], _, h, _ => h
  | c :: r, _, h, hm => WF.all hf r (h.ins hf (hm c List.mem_cons_self)) (fun x hx => hm x (List.mem_cons_of_mem _ hx))
theorem stp_wf {f : Nat → Nat → Bool} {m : Nat} (hf : Fr f) {w : List Nat} (hm : ∀ x, x ∈ w → x < m) : WF f m (stp f m w) := WF.all hf w (WF.zero0 f m) hm
/-! ### the word of all steps -/
def bitsL (m L : Nat) : List Nat := (List.range m).filter fun x => L.testBit x
def flat (m : Nat) (S : Nat → Nat) : Nat → List Nat
  | 0 => []
  | n + 1 => flat m S n ++ bitsL m (S n)
theorem mem_bitsL {m L x : Nat} : x ∈ bitsL m L ↔ x < m ∧ L.testBit x = true := by unfold bitsL; rw [List.mem_filter, List.mem_range]
theorem bitsL_zero (m : Nat) : bitsL m 0 = [] := by
  unfold bitsL
  rw [List.filter_eq_nil_iff]
  intro x _
  simp
theorem only_bitsL (a b m L : Nat) : only a b (bitsL m L) = (List.range m).filter fun x => L.testBit x && (x == a || x == b) := by
  unfold only bitsL
  rw [List.filter_filter]
  congr 1
  funext x
  exact Bool.and_comm _ _
theorem filter_one {m c : Nat} {p : Nat → Bool} (hc : c < m) (hp : p c = true) (ho : ∀ x, x < m → x ≠ c → p x = false) : (List.range m).filter p = [c] := by
  induction m with
  | zero => omega
  | succ m ih =>
    rw [List.range_succ, List.filter_append]
    by_cases e : c = m
    · subst e
      have h0 : (List.range c).filter p = [] := by
        rw [List.filter_eq_nil_iff]
        intro x hx
        have := List.mem_range.1 hx
        simp [ho x (by omega) (by omega)]
      rw [h0]
      simp [hp]
    · rw [ih (by omega) (fun x hx hne => ho x (by omega) hne)]
      simp [ho m (by omega) (by omega)]
theorem flat_congr {m : Nat} {S S' : Nat → Nat} {n : Nat} (h : ∀ i, i < n → S i = S' i) : flat m S n = flat m S' n := by
  induction n with
  | zero => rfl
  | succ n ih => simp only [flat]; rw [ih (fun i hi => h i (by omega)), h n (by omega)]
theorem only_flat_more {a b m : Nat} {S : Nat → Nat} {k n : Nat} (hk : k ≤ n) (h : ∀ i, k ≤ i → i < n → only a b (bitsL m (S i)) = []) : only a b (flat m S n) = only a b (flat m S k) := by
  induction n with
  | zero =>
    obtain rfl : k = 0 := by omega
    rfl
  | succ n ih =>
    by_cases e : k = n + 1
    · subst e; rfl
    · simp only [flat]
      rw [only_app, h n (by omega) (by omega), List.append_nil]
      exact ih (by omega) (fun i h1 h2 => h i h1 (by omega))
theorem only_flat_congr {a b m : Nat} {S S' : Nat → Nat} {n : Nat} (h : ∀ i, i < n → only a b (bitsL m (S i)) = only a b (bitsL m (S' i))) : only a b (flat m S n) = only a b (flat m S' n) := by
  induction n with
  | zero => rfl
  | succ n ih => simp only [flat]; rw [only_app, only_app, ih (fun i hi => h i (by omega)), h n (by omega)]
/-- a letter more: the word of all steps is the same as with it behind -/
theorem flat_ins {f : Nat → Nat → Bool} {m : Nat} {S : Sts} (hf : Fr f) (h : WF f m S) {c : Nat} (hc : c < m) : Eqv f (flat m (ins f m S c).lv (ins f m S c).n) (flat m S.lv S.n ++ [c]) := by
  have hw := whr_le f m S c
  have hmx : (ins f m S c).n = max S.n (whr f m S c + 1) := rfl
  have lv : ∀ i, (ins f m S c).lv i = if i = whr f m S c then S.lv i ||| 2 ^ c else S.lv i := fun i => rfl
  have z : ∀ a b i, S.n ≤ i → only a b (bitsL m (S.lv i)) = [] := fun a b i hi => by rw [h.zero i hi, bitsL_zero]; rfl
  have key : ∀ d, f c d = false → only c d (flat m (ins f m S c).lv (ins f m S c).n) = only c d (flat m S.lv S.n ++ [c]) := fun d hd => by
    have none : ∀ k, whr f m S c ≤ k → only c d (bitsL m (S.lv k)) = [] := fun k hk => by
      apply only_none
      intro x hx
      obtain ⟨h1, h2⟩ := mem_bitsL.1 hx
      have h3 := untied (h.at_free c hk) h1 h2
      constructor
      · rintro rfl; rw [hf.self] at h3; cases h3
      · rintro rfl; rw [hd] at h3; cases h3
    rw [only_app, only_flat_more (k := whr f m S c) (S := S.lv) hw (fun i h1 _ => none i h1)]
    rw [only_flat_more (k := whr f m S c + 1) (n := (ins f m S c).n) (by omega) (fun i h1 _ => by rw [lv, if_neg (by omega)]; exact none i (by omega))]
    simp only [flat]
    rw [only_app]
    congr 1
    · exact only_flat_congr fun i hi => by rw [lv, if_neg (by omega)]
    · rw [lv, if_pos rfl, only_bitsL, only_cons, if_pos (.inl rfl), only_nil]
      have hn := none _ (Nat.le_refl _)
      rw [only_bitsL, List.filter_eq_nil_iff] at hn
      refine filter_one hc (by rw [bit_or]; simp) (fun x hx hne => ?_)
      have h1 := hn x (List.mem_range.2 hx)
      rw [bit_or]
      have h2 : decide (c = x) = false := by simp; omega
      rw [h2, Bool.or_false]
      simpa using h1
  intro a b e
  by_cases h1 : c = a
  · subst h1; exact key b e
  · by_cases h2 : c = b
    · subst h2
      rw [only_comm a c, only_comm a c]
      exact key a (by rw [hf.sym]; exact e)
    · rw [only_app, only_cons, if_neg (fun x => x.elim h1 h2), only_nil, List.append_nil]
      rw [only_flat_more (k := S.n) (n := (ins f m S c).n) (by omega) (fun i h3 _ => ?_)]
      · refine only_flat_congr fun i _ => ?_
        rw [lv]
        by_cases e2 : i = whr f m S c
        · rw [if_pos e2, only_bitsL, only_bitsL]
          congr 1
          funext x
          rw [bit_or]
          by_cases e3 : c = x
          · subst e3
            have : (c == a || c == b) = false := by simp [h1, h2]
            rw [this, Bool.and_false, Bool.and_false]
          · have : decide (c = x) = false := by simp [e3]
            rw [this, Bool.or_false]
        · rw [if_neg e2]
      · rw [lv]
        by_cases e2 : i = whr f m S c
        · rw [if_pos e2, h.zero i h3, only_bitsL, List.filter_eq_nil_iff]
          intro x _
          rw [bit_or]
          by_cases e3 : c = x
          · subst e3; simp [h1, h2]
          · simp [e3]
        · rw [if_neg e2]; exact z a b i h3
/-- the word of all steps is the same word -/
theorem stp_flat {f : Nat → Nat → Bool} {m : Nat} (hf : Fr f) : ∀ (w : List Nat) {S : Sts}, WF f m S → (∀ x, x ∈ w → x < m) → Eqv f (flat m (w.foldl (ins f m) S).lv (w.foldl (ins f m) S).n) (flat m S.lv S.n ++ w)
  | [], _, _, _ => by rw [List.append_nil]; exact Eqv.refl _
  | c :: r, S, h, hm => by
    have hc := hm c List.mem_cons_self
    have h1 := stp_flat hf r (h.ins hf hc) (fun x hx => hm x (List.mem_cons_of_mem _ hx))
    have h2 := Eqv.app (flat_ins hf h hc) (Eqv.refl (f := f) r)
    rw [List.append_assoc] at h2
    exact h1.trans h2
theorem stp_word {f : Nat → Nat → Bool} {m : Nat} (hf : Fr f) {w : List Nat} (hm : ∀ x, x ∈ w → x < m) : Eqv f (flat m (stp f m w).lv (stp f m w).n) w := stp_flat hf w (WF.zero0 f m) hm
/-! ### words that are the same have the same steps -/
theorem whr_free {f : Nat → Nat → Bool} {m : Nat} {S : Sts} (h : WF f m S) {c d : Nat} (hcd : f c d = true) : whr f m (ins f m S d) c = whr f m S c := by
  unfold whr
  have e1 : lastT f m c (ins f m S d).lv (ins f m S d).n = lastT f m c S.lv (ins f m S d).n := lastT_congr fun k _ => by
    show tied f m c (if k = whr f m S d then S.lv k ||| 2 ^ d else S.lv k) = _
    split
    · exact tied_free hcd
    · rfl
  rw [e1]
  exact lastT_more (show S.n ≤ max S.n _ by omega) (fun k hk => by rw [h.zero k hk]; exact tied_zero _ _ _)
theorem ins_swap {f : Nat → Nat → Bool} {m : Nat} (hf : Fr f) {S : Sts} (h : WF f m S) {c d : Nat} (hcd : f c d = true) : ins f m (ins f m S c) d = ins f m (ins f m S d) c := by
  have h1 := whr_free h hcd
  have h2 := whr_free h (c := d) (d := c) (by rw [hf.sym]; exact hcd)
  have e1 : (ins f m (ins f m S c) d).n = (ins f m (ins f m S d) c).n := by
    show max (max S.n (whr f m S c + 1)) (whr f m (ins f m S c) d + 1) = max (max S.n (whr f m S d + 1)) (whr f m (ins f m S d) c + 1)
    rw [h1, h2]; omega
  have e2 : (ins f m (ins f m S c) d).lv = (ins f m (ins f m S d) c).lv := by
    funext i
    show (if i = whr f m (ins f m S c) d then (if i = whr f m S c then S.lv i ||| 2 ^ c else S.lv i) ||| 2 ^ d else if i = whr f m S c then S.lv i ||| 2 ^ c else S.lv i) = if i = whr f m (ins f m S d) c then (if i = whr f m S d then S.lv i ||| 2 ^ d else S.lv i) ||| 2 ^ c else if i = whr f m S d then S.lv i ||| 2 ^ d else S.lv i
    rw [h1, h2]
    by_cases a : i = whr f m S c
    · rw [if_pos a, if_pos a]
      by_cases b : i = whr f m S d
      · rw [if_pos b, if_pos b, Nat.or_assoc, Nat.or_assoc, Nat.or_comm (2 ^ c)]
      · rw [if_neg b, if_neg b]
    · rw [if_neg a, if_neg a]
  cases hA : ins f m (ins f m S c) d
  cases hB : ins f m (ins f m S d) c
  rw [hA, hB] at e1 e2
  simp only at e1 e2
  rw [e1, e2]
theorem fold_front {f : Nat → Nat → Bool} {m : Nat} (hf : Fr f) {x : Nat} : ∀ {w : List Nat} {S : Sts}, WF f m S → (∀ y, y ∈ w → y < m) → M.may f x w = true → w.foldl (ins f m) S = (x :: w.erase x).foldl (ins f m) S
  | [], _, _, _, h => by cases h
  | z :: r, S, hS, hm, h => by
    simp only [M.may] at h
    by_cases e : z = x
    · subst e; rw [List.erase_cons_head]
    · rw [if_neg e, Bool.and_eq_true] at h
      rw [List.erase_cons_tail (by simpa using e)]
      have hz := hm z List.mem_cons_self
      have ih := fold_front hf (x := x) (w := r) (hS.ins hf hz) (fun y hy => hm y (List.mem_cons_of_mem _ hy)) h.2
      show r.foldl (ins f m) (ins f m S z) = (r.erase x).foldl (ins f m) (ins f m (ins f m S x) z)
      rw [ih]
      show (r.erase x).foldl (ins f m) (ins f m (ins f m S z) x) = _
      rw [ins_swap hf hS (by rw [hf.sym]; exact h.1)]
theorem fold_same {f : Nat → Nat → Bool} {m : Nat} (hf : Fr f) : ∀ {u v : List Nat} {S : Sts}, WF f m S → (∀ y, y ∈ u → y < m) → Eqv f u v → u.foldl (ins f m) S = v.foldl (ins f m) S
  | [], v, _, _, _, h => by rw [h.nil hf]
  | x :: r, v, S, hS, hm, h => by
    have hx : M.may f x v = true := by rw [← h.may hf]; exact may_head x r
    have hv : ∀ y, y ∈ v → y < m := fun y hy => hm y ((h.mem hf y).2 hy)
    rw [fold_front hf hS hv hx]
    have h2 := h.erase hf (may_head x r)
    rw [List.erase_cons_head] at h2
    show r.foldl (ins f m) (ins f m S x) = (v.erase x).foldl (ins f m) (ins f m S x)
    exact fold_same hf (hS.ins hf (hm x List.mem_cons_self)) (fun y hy => hm y (List.mem_cons_of_mem _ hy)) h2
theorem stp_same {f : Nat → Nat → Bool} {m : Nat} (hf : Fr f) {u v : List Nat} (hu : ∀ y, y ∈ u → y < m) (h : Eqv f u v) : stp f m u = stp f m v := fold_same hf (WF.zero0 f m) hu h
/-- words are the same just if their steps are -/
theorem stp_iff {f : Nat → Nat → Bool} {m : Nat} (hf : Fr f) {u v : List Nat} (hu : ∀ y, y ∈ u → y < m) (hv : ∀ y, y ∈ v → y < m) : Eqv f u v ↔ stp f m u = stp f m v := by
  constructor
  · exact stp_same hf hu
  · intro h
    exact ((stp_word hf hu).symm.trans (by rw [h]; exact Eqv.refl _)).trans (stp_word hf hv)
/-! ### by how long a row must stay ahead of it -/
/-- the greatest of g + 1 at those below i with which c may not change places; 0, if there is none -/
def mxr (f : Nat → Nat → Bool) (w : List Nat) (g : Nat → Nat) (c : Nat) : Nat → Nat
  | 0 => 0
  | i + 1 => if f (row w i) c = false ∧ mxr f w g c i < g i + 1 then g i + 1 else mxr f w g c i
/-- the step of place j -/
def lev (f : Nat → Nat → Bool) (m : Nat) (w : List Nat) (j : Nat) : Nat := whr f m (stp f m (w.take j)) (row w j)
theorem mxr_le {f : Nat → Nat → Bool} {w : List Nat} {g : Nat → Nat} {c i : Nat} : ∀ {n : Nat}, i < n → f (row w i) c = false → g i + 1 ≤ mxr f w g c n
  | n + 1, h, e => by
    simp only [mxr]
    by_cases c2 : i = n
    · subst c2; split <;> rename_i k
      · exact Nat.le_refl _
      · have : ¬ mxr f w g c i < g i + 1 := fun x => k ⟨e, x⟩
        omega
    · have := mxr_le (g := g) (n := n) (by omega) e
      split <;> omega
theorem mxr_at (f : Nat → Nat → Bool) (w : List Nat) (g : Nat → Nat) (c : Nat) : ∀ n, mxr f w g c n = 0 ∨ ∃ i, i < n ∧ f (row w i) c = false ∧ mxr f w g c n = g i + 1
  | 0 => .inl rfl
  | n + 1 => by
    simp only [mxr]
    split <;> rename_i k
    · exact .inr ⟨n, by omega, k.1, rfl⟩
    · rcases mxr_at f w g c n with h | ⟨i, a, b, e⟩
      · exact .inl h
      · exact .inr ⟨i, by omega, b, e⟩
theorem take_row {w : List Nat} {j : Nat} (h : j < w.length) : w.take (j + 1) = w.take j ++ [row w j] := by
  rw [List.take_add_one]
  unfold row
  rw [List.getElem?_eq_getElem h]
  rfl
/-- a step has just the letters of its places -/
theorem stp_bit {f : Nat → Nat → Bool} {m : Nat} {w : List Nat} (k x : Nat) : ∀ j, j ≤ w.length → (((stp f m (w.take j)).lv k).testBit x = true ↔ ∃ i, i < j ∧ lev f m w i = k ∧ row w i = x)
  | 0, _ => by simp [stp, sts0]
  | j + 1, hj => by
    rw [take_row (by omega), stp_snoc]
    have ih := stp_bit (f := f) (m := m) (w := w) k x j (by omega)
    show (if k = whr f m (stp f m (w.take j)) (row w j) then (stp f m (w.take j)).lv k ||| 2 ^ row w j else (stp f m (w.take j)).lv k).testBit x = true ↔ _
    by_cases e : k = whr f m (stp f m (w.take j)) (row w j)
    · rw [if_pos e, bit_or, Bool.or_eq_true, ih]
      constructor
      · rintro (⟨i, a, b, d⟩ | h)
        · exact ⟨i, by omega, b, d⟩
        · exact ⟨j, by omega, e.symm, of_decide_eq_true h⟩
      · rintro ⟨i, a, b, d⟩
        by_cases e2 : i = j
        · subst e2; exact .inr (decide_eq_true d)
        · exact .inl ⟨i, by omega, b, d⟩
    · rw [if_neg e, ih]
      constructor
      · rintro ⟨i, a, b, d⟩; exact ⟨i, by omega, b, d⟩
      · rintro ⟨i, a, b, d⟩
        refine ⟨i, ?_, b, d⟩
        by_cases e2 : i = j
        · subst e2; exact absurd b.symm e
        · omega
/-- the number of steps is one more than the greatest place -/
theorem stp_n {f : Nat → Nat → Bool} {m : Nat} {w : List Nat} : ∀ j, j ≤ w.length → (∀ i, i < j → lev f m w i < (stp f m (w.take j)).n) ∧ ((stp f m (w.take j)).n = 0 ∨ ∃ i, i < j ∧ (stp f m (w.take j)).n = lev f m w i + 1)
  | 0, _ => ⟨fun i hi => absurd hi (Nat.not_lt_zero _), .inl (by simp [stp, sts0])⟩
  | j + 1, hj => by
    rw [take_row (by omega), stp_snoc]
    obtain ⟨h1, h2⟩ := stp_n (f := f) (m := m) (w := w) j (by omega)
    have e : (ins f m (stp f m (w.take j)) (row w j)).n = max (stp f m (w.take j)).n (lev f m w j + 1) := rfl
    constructor
    · intro i hi
      rw [e]
      by_cases c : i = j
      · subst c; omega
      · have := h1 i (by omega); omega
    · right
      rw [e]
      by_cases c : (stp f m (w.take j)).n ≤ lev f m w j + 1
      · exact ⟨j, by omega, by omega⟩
      · rcases h2 with h2 | ⟨i, a, b⟩
        · omega
        · exact ⟨i, by omega, by omega⟩
/-- a letter's step is one behind the greatest of those that must stay ahead of it -/
theorem lev_is {f : Nat → Nat → Bool} {m : Nat} (hf : Fr f) {w : List Nat} (hm : ∀ x, x ∈ w → x < m) {j : Nat} (hj : j < w.length) : lev f m w j = mxr f w (lev f m w) (row w j) j := by
  have rm : ∀ i, i < w.length → row w i < m := fun i hi => hm _ (by unfold row; rw [List.getElem?_eq_getElem hi]; exact List.getElem_mem hi)
  obtain ⟨n1, n2⟩ := stp_n (f := f) (m := m) (w := w) j (by omega)
  have ti : ∀ k, tied f m (row w j) ((stp f m (w.take j)).lv k) = true ↔ ∃ i, i < j ∧ lev f m w i = k ∧ f (row w i) (row w j) = false := fun k => by
    rw [tied_iff]
    constructor
    · rintro ⟨y, _, b, d⟩
      obtain ⟨i, a, e1, e2⟩ := (stp_bit k y j (by omega)).1 b
      exact ⟨i, a, e1, by rw [e2, hf.sym]; exact d⟩
    · rintro ⟨i, a, e1, e2⟩
      exact ⟨row w i, rm i (by omega), (stp_bit k _ j (by omega)).2 ⟨i, a, e1, rfl⟩, by rw [hf.sym]; exact e2⟩
  unfold lev whr
  refine lastT_uniq ?_ (fun k hk1 hk2 => ?_) (fun k hk => ?_)
  · rcases mxr_at f w (lev f m w) (row w j) j with h | ⟨i, a, b, e⟩
    · show mxr f w (lev f m w) (row w j) j ≤ _; omega
    · show mxr f w (lev f m w) (row w j) j ≤ _
      have := n1 i a; omega
  · cases c : tied f m (row w j) ((stp f m (w.take j)).lv k) with
    | false => rfl
    | true =>
      obtain ⟨i, a, e1, e2⟩ := (ti k).1 c
      have := mxr_le (g := lev f m w) a e2
      have hk1' : mxr f w (lev f m w) (row w j) j ≤ k := hk1
      omega
  · rw [ti]
    have hk' : mxr f w (lev f m w) (row w j) j = k + 1 := hk
    rcases mxr_at f w (lev f m w) (row w j) j with h | ⟨i, a, b, e⟩
    · omega
    · exact ⟨i, a, by omega, b⟩
end Go.Proofs.YtejnjokjkinpkaaDoor.M
