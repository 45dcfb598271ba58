/- Plain mathematics of all events in one row: by clock, and of one clock by process; it is one list; each event stands behind all that happened before it. No program text is named. -/
import Derived.Test.YtlhpkpjcfjdgaaaDoorStp
namespace Go.Proofs.YtlhpkpjcfjdgaaaDoor.M

/-- a list whose things rise is told by what is in it -/
theorem rising_one {lt : Nat → Nat → Prop} (asym : ∀ a b, lt a b → ¬ lt b a) : ∀ (l m : List Nat), l.Pairwise lt → m.Pairwise lt → (∀ x, x ∈ l ↔ x ∈ m) → l = m
  | [], [], _, _, _ => rfl
  | [], b :: m, _, _, h => absurd ((h b).2 (by simp)) (by simp)
  | a :: l, [], _, _, h => absurd ((h a).1 (by simp)) (by simp)
  | a :: l, b :: m, h1, h2, h => by
    rw [List.pairwise_cons] at h1 h2
    have e : a = b := by
      have ha := (h a).1 (by simp)
      have hb := (h b).2 (by simp)
      rw [List.mem_cons] at ha hb
      rcases ha with ha | ha
      · exact ha
      · rcases hb with hb | hb
        · exact hb.symm
        · exact absurd (h1.1 b hb) (asym _ _ (h2.1 a ha))
    subst e
    rw [rising_one asym l m h1.2 h2.2 fun x => ?_]
    have hx := h x
    rw [List.mem_cons, List.mem_cons] at hx
    constructor
    · intro hl
      rcases hx.1 (.inr hl) with rfl | h3
      · have := h1.1 x hl; exact absurd this (asym _ _ this)
      · exact h3
    · intro hm
      rcases hx.2 (.inr hm) with rfl | h3
      · have := h2.1 x hm; exact absurd this (asym _ _ this)
      · exact h3

/-- event i stands ahead of event j in the row -/
def kl (T : List (Int × Int)) (i j : Nat) : Prop := ck T i < ck T j ∨ (ck T i = ck T j ∧ pr T i < pr T j)
theorem kl_asym (T : List (Int × Int)) (a b : Nat) (h : kl T a b) : ¬ kl T b a := by unfold kl at *; omega
theorem kl_total {T : List (Int × Int)} {a b : Nat} (h : a ≠ b) : kl T a b ∨ kl T b a := by
  unfold kl
  by_cases e : ck T a = ck T b
  · by_cases e2 : pr T a = pr T b
    · exact absurd e (ck_apart h e2)
    · omega
  · omega
theorem kl_before {T : List (Int × Int)} {i j : Nat} (h : (bs T i).testBit j = true) : kl T j i := .inl (ck_lt h)
/-- L is the row of n events -/
structure IsRw (T : List (Int × Int)) (n : Nat) (L : List Nat) : Prop where
  mem : ∀ x, x ∈ L ↔ x < n
  up : L.Pairwise (kl T)
theorem IsRw.one {T : List (Int × Int)} {n : Nat} {L M : List Nat} (h : IsRw T n L) (h2 : IsRw T n M) : L = M :=
  rising_one (kl_asym T) L M h.up h2.up fun x => (h.mem x).trans (h2.mem x).symm
theorem IsRw.nodup {T : List (Int × Int)} {n : Nat} {L : List Nat} (h : IsRw T n L) : L.Nodup := h.up.imp fun {a b} h e => by subst e; exact kl_asym T a a h h
/-- what stands at place k, and at places below it -/
theorem IsRw.at {T : List (Int × Int)} {n : Nat} {L : List Nat} (h : IsRw T n L) {k : Nat} (hk : k < L.length) : row L k < n ∧ row L k ∉ L.take k ∧ ∀ j, (bs T (row L k)).testBit j = true → j ∈ L.take k := by
  have e : row L k = L[k] := by unfold row; simp [hk]
  rw [e]
  refine ⟨(h.mem _).1 (List.getElem_mem hk), fun hm => ?_, fun j hj => ?_⟩
  · obtain ⟨m, hm1, hm2⟩ := List.getElem_of_mem hm
    have hmk : m < k := by rw [List.length_take] at hm1; omega
    rw [List.getElem_take] at hm2
    have := List.pairwise_iff_getElem.1 h.up m k (by omega) hk hmk
    rw [hm2] at this
    exact kl_asym T _ _ this this
  · have h1 : j < n := by
      have := bs_in T _ j hj
      have := (h.mem _).1 (List.getElem_mem hk)
      omega
    obtain ⟨m, hm1, hm2⟩ := List.getElem_of_mem ((h.mem j).2 h1)
    have hb := kl_before hj
    rcases Nat.lt_trichotomy m k with h2 | h2 | h2
    · rw [List.mem_iff_getElem]
      exact ⟨m, by rw [List.length_take]; omega, by rw [List.getElem_take]; exact hm2⟩
    · subst h2
      rw [hm2] at hb
      exact absurd hb (kl_asym T _ _ hb)
    · have := List.pairwise_iff_getElem.1 h.up k m hk hm1 h2
      rw [hm2] at this
      exact absurd hb (kl_asym T _ _ this)
theorem IsRw.length {T : List (Int × Int)} {n : Nat} {L : List Nat} (h : IsRw T n L) : L.length = n := by
  have h1 : (List.range n).Nodup := List.nodup_range
  have h2 : L.Perm (List.range n) := (List.perm_ext_iff_of_nodup h.nodup h1).2 fun x => by rw [h.mem, List.mem_range]
  have := h2.length_eq
  rw [List.length_range] at this
  exact this
/-- the set of what is in a list -/
def orL : List Nat → Nat
  | [] => 0
  | x :: l => orL l ||| 1 <<< x
theorem orL_bit (l : List Nat) (k : Nat) : (orL l).testBit k = true ↔ k ∈ l := by
  induction l with
  | nil => simp [orL]
  | cons x l ih =>
    simp only [orL]
    rw [Nat.testBit_or, Bool.or_eq_true, ih, Nat.shiftLeft_eq, Nat.one_mul, Nat.testBit_two_pow, decide_eq_true_eq, List.mem_cons]
    exact ⟨fun h => h.elim .inr (fun h => .inl h.symm), fun h => h.elim (fun h => .inr h.symm) .inl⟩
/-- the set of the first k -/
def tk (L : List Nat) (k : Nat) : Nat := orL (L.take k)
theorem tk_bit (L : List Nat) (k j : Nat) : (tk L k).testBit j = true ↔ j ∈ L.take k := orL_bit _ _
theorem tk_succ {L : List Nat} {k : Nat} (h : k < L.length) : tk L (k + 1) = tk L k ||| 1 <<< row L k := by
  have e : row L k = L[k] := by unfold row; simp [h]
  apply Nat.eq_of_testBit_eq
  intro j
  rw [Bool.eq_iff_iff, tk_bit, Nat.testBit_or, Bool.or_eq_true, tk_bit, Nat.shiftLeft_eq, Nat.one_mul, Nat.testBit_two_pow, decide_eq_true_eq, e]
  rw [List.take_add_one, List.getElem?_eq_getElem h, List.mem_append]
  simp only [Option.toList_some, List.mem_singleton]
  exact ⟨fun h => h.elim .inl (fun h => .inr h.symm), fun h => h.elim .inl (fun h => .inr h.symm)⟩
theorem tk_lt {T : List (Int × Int)} {n : Nat} {L : List Nat} (h : IsRw T n L) (k : Nat) : tk L k < 2 ^ n := by
  apply Nat.lt_pow_two_of_testBit
  intro j hj
  cases e : (tk L k).testBit j with
  | false => rfl
  | true =>
    have h1 := (tk_bit L k j).1 e
    have := (h.mem j).1 (List.mem_of_mem_take h1)
    omega

/-! ### the document's row -/
/-- of clock c at process p, below i -/
def ri (T : List (Int × Int)) (c : Nat) (p : Int) : Nat → List Nat
  | 0 => []
  | i + 1 => if ck T i = c ∧ pr T i = p then ri T c p i ++ [i] else ri T c p i
/-- of clock c at processes below p -/
def rp (T : List (Int × Int)) (c m : Nat) : Nat → List Nat
  | 0 => []
  | p + 1 => rp T c m p ++ ri T c (p : Int) m
/-- of clocks up to c -/
def rc (T : List (Int × Int)) (m P : Nat) : Nat → List Nat
  | 0 => []
  | c + 1 => rc T m P c ++ rp T (c + 1) m P
theorem ri_mem (T : List (Int × Int)) (c : Nat) (p : Int) (i x : Nat) : x ∈ ri T c p i ↔ x < i ∧ ck T x = c ∧ pr T x = p := by
  induction i with
  | zero => simp [ri]
  | succ i ih =>
    simp only [ri]
    by_cases h : ck T i = c ∧ pr T i = p
    · rw [if_pos h, List.mem_append, ih, List.mem_singleton]
      constructor
      · rintro (⟨a, b⟩ | rfl)
        · exact ⟨by omega, b⟩
        · exact ⟨by omega, h⟩
      · rintro ⟨a, b⟩
        by_cases e : x = i
        · exact .inr e
        · exact .inl ⟨by omega, b⟩
    · rw [if_neg h, ih]
      constructor
      · rintro ⟨a, b⟩; exact ⟨by omega, b⟩
      · rintro ⟨a, b⟩
        by_cases e : x = i
        · subst e; exact absurd b h
        · exact ⟨by omega, b⟩
theorem ri_up (T : List (Int × Int)) (c : Nat) (p : Int) (i : Nat) : (ri T c p i).Pairwise (kl T) := by
  induction i with
  | zero => simp [ri]
  | succ i ih =>
    simp only [ri]
    by_cases h : ck T i = c ∧ pr T i = p
    · rw [if_pos h, List.pairwise_append]
      refine ⟨ih, by simp, fun a ha b hb => ?_⟩
      rw [List.mem_singleton] at hb
      subst hb
      have := (ri_mem T c p b a).1 ha
      exact absurd (this.2.1.trans h.1.symm) (ck_apart (by omega) (this.2.2.trans h.2.symm))
    · rw [if_neg h]; exact ih
theorem rp_mem (T : List (Int × Int)) (c m p x : Nat) : x ∈ rp T c m p ↔ x < m ∧ ck T x = c ∧ 0 ≤ pr T x ∧ pr T x < p := by
  induction p with
  | zero => simp [rp]
  | succ p ih => simp only [rp]; rw [List.mem_append, ih, ri_mem]; omega
theorem rp_up (T : List (Int × Int)) (c m p : Nat) : (rp T c m p).Pairwise (kl T) := by
  induction p with
  | zero => simp [rp]
  | succ p ih =>
    simp only [rp]
    rw [List.pairwise_append]
    refine ⟨ih, ri_up T c p m, fun a ha b hb => ?_⟩
    have h1 := (rp_mem T c m p a).1 ha
    have h2 := (ri_mem T c p m b).1 hb
    exact .inr ⟨by omega, by omega⟩
theorem rc_mem (T : List (Int × Int)) (m P c x : Nat) : x ∈ rc T m P c ↔ x < m ∧ 1 ≤ ck T x ∧ ck T x ≤ c ∧ 0 ≤ pr T x ∧ pr T x < P := by
  induction c with
  | zero => simp [rc]; omega
  | succ c ih => simp only [rc]; rw [List.mem_append, ih, rp_mem]; omega
theorem rc_up (T : List (Int × Int)) (m P c : Nat) : (rc T m P c).Pairwise (kl T) := by
  induction c with
  | zero => simp [rc]
  | succ c ih =>
    simp only [rc]
    rw [List.pairwise_append]
    refine ⟨ih, rp_up T (c + 1) m P, fun a ha b hb => ?_⟩
    have h1 := (rc_mem T m P c a).1 ha
    have h2 := (rp_mem T (c + 1) m P b).1 hb
    exact .inl (by omega)
theorem rc_is {P : Nat} {T : List (Int × Int)} (h : TOk (P : Int) T) : IsRw T T.length (rc T T.length P T.length) :=
  ⟨fun x => by
    rw [rc_mem]
    refine ⟨fun h => h.1, fun hx => ⟨hx, ck_pos T x, by have := ck_le T x; omega, h.pr0 x hx, h.prP x hx⟩⟩, rc_up T _ _ _⟩
end Go.Proofs.YtlhpkpjcfjdgaaaDoor.M
