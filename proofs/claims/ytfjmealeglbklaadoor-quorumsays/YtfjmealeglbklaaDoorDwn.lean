/- Plain mathematics: closed sets of an order told by rows of bits: what a set closes to, its last things, the lattice, and how many there are: as many as sets side by side. No program text is named. -/
import Derived.Test.YtfjmealeglbklaaDoorExt
namespace Go.Proofs.YtfjmealeglbklaaDoor.M

/-- a set with all that stand ahead of any of it: t has of each thing all ahead -/
def downTo (t : List Nat) (s : Nat) : Nat → Nat
  | 0 => s
  | k + 1 => if s.testBit k then downTo t s k ||| row t k else downTo t s k
def down (t : List Nat) (s : Nat) : Nat := downTo t s t.length
theorem downTo_bit (t : List Nat) (s k j : Nat) : (downTo t s k).testBit j = true ↔ s.testBit j = true ∨ ∃ i, i < k ∧ s.testBit i = true ∧ (row t i).testBit j = true := by
  induction k with
  | zero => simp [downTo]
  | succ k ih =>
    simp only [downTo]
    by_cases h : s.testBit k = true
    · rw [if_pos h, Nat.testBit_or, Bool.or_eq_true, ih]
      constructor
      · rintro ((h1 | ⟨i, a, b, c⟩) | h1)
        · exact .inl h1
        · exact .inr ⟨i, by omega, b, c⟩
        · exact .inr ⟨k, by omega, h, h1⟩
      · rintro (h1 | ⟨i, a, b, c⟩)
        · exact .inl (.inl h1)
        · by_cases e : i = k
          · subst e; exact .inr c
          · exact .inl (.inr ⟨i, by omega, b, c⟩)
    · rw [if_neg h, ih]
      constructor
      · rintro (h1 | ⟨i, a, b, c⟩)
        · exact .inl h1
        · exact .inr ⟨i, by omega, b, c⟩
      · rintro (h1 | ⟨i, a, b, c⟩)
        · exact .inl h1
        · by_cases e : i = k
          · subst e; exact absurd b h
          · exact .inr ⟨i, by omega, b, c⟩
theorem downTo_lt {t : List Nat} (ht : Ok t) {s : Nat} (hs : s < 2 ^ t.length) (k : Nat) : downTo t s k < 2 ^ t.length := by
  induction k with
  | zero => exact hs
  | succ k ih =>
    simp only [downTo]
    split
    · exact Nat.or_lt_two_pow ih (ht k)
    · exact ih
theorem down_lt {t : List Nat} (ht : Ok t) {s : Nat} (hs : s < 2 ^ t.length) : down t s < 2 ^ t.length := downTo_lt ht hs _
theorem down_bit {t : List Nat} {s : Nat} (j : Nat) : (down t s).testBit j = true ↔ s.testBit j = true ∨ ∃ i, s.testBit i = true ∧ (row t i).testBit j = true := by
  unfold down
  rw [downTo_bit]
  constructor
  · rintro (h | ⟨i, _, b, c⟩)
    · exact .inl h
    · exact .inr ⟨i, b, c⟩
  · rintro (h | ⟨i, b, c⟩)
    · exact .inl h
    · exact .inr ⟨i, bit_in c, b, c⟩
/-- has all that stand ahead of any of it -/
def Closd (t : List Nat) (s : Nat) : Prop := ∀ i j, s.testBit i = true → (row t i).testBit j = true → s.testBit j = true
theorem closd_iff {t : List Nat} {s : Nat} : Closd t s ↔ down t s = s := by
  constructor
  · intro h
    apply Nat.eq_of_testBit_eq
    intro j
    rw [Bool.eq_iff_iff, down_bit]
    exact ⟨fun h1 => h1.elim id (fun ⟨i, a, b⟩ => h i j a b), .inl⟩
  · intro h i j hi hj
    rw [← h]
    exact (down_bit j).2 (.inr ⟨i, hi, hj⟩)
theorem down_closd {t : List Nat} (ht : Tr t) (s : Nat) : Closd t (down t s) := by
  intro i j hi hj
  rw [down_bit] at hi ⊢
  rcases hi with h | ⟨k, a, b⟩
  · exact .inr ⟨i, h, hj⟩
  · exact .inr ⟨k, a, ht.2 k i j b hj⟩
theorem down_has (t : List Nat) (s j : Nat) (h : s.testBit j = true) : (down t s).testBit j = true := (down_bit j).2 (.inl h)
theorem down_least {t : List Nat} {s x : Nat} (hx : Closd t x) (h : ∀ j, s.testBit j = true → x.testBit j = true) (j : Nat) (hj : (down t s).testBit j = true) : x.testBit j = true := by
  rcases (down_bit j).1 hj with h1 | ⟨i, a, b⟩
  · exact h j h1
  · exact hx i j (h i a) b
theorem closd_and {t : List Nat} {a b : Nat} (ha : Closd t a) (hb : Closd t b) : Closd t (a &&& b) := by
  intro i j hi hj
  rw [Nat.testBit_and, Bool.and_eq_true] at hi ⊢
  exact ⟨ha i j hi.1 hj, hb i j hi.2 hj⟩
theorem closd_or {t : List Nat} {a b : Nat} (ha : Closd t a) (hb : Closd t b) : Closd t (a ||| b) := by
  intro i j hi hj
  rw [Nat.testBit_or, Bool.or_eq_true] at hi ⊢
  exact hi.imp (fun h => ha i j h hj) (fun h => hb i j h hj)
theorem down_or (t : List Nat) (a b : Nat) : down t (a ||| b) = down t a ||| down t b := by
  apply Nat.eq_of_testBit_eq
  intro j
  rw [Bool.eq_iff_iff, down_bit, Nat.testBit_or, Nat.testBit_or, Bool.or_eq_true, Bool.or_eq_true, down_bit, down_bit]
  constructor
  · rintro ((h | h) | ⟨i, h1, h2⟩)
    · exact .inl (.inl h)
    · exact .inr (.inl h)
    · rw [Nat.testBit_or, Bool.or_eq_true] at h1
      exact h1.elim (fun h => .inl (.inr ⟨i, h, h2⟩)) (fun h => .inr (.inr ⟨i, h, h2⟩))
  · rintro ((h | ⟨i, h1, h2⟩) | (h | ⟨i, h1, h2⟩))
    · exact .inl (.inl h)
    · exact .inr ⟨i, by rw [Nat.testBit_or, h1]; rfl, h2⟩
    · exact .inl (.inr h)
    · exact .inr ⟨i, by rw [Nat.testBit_or, h1, Bool.or_true], h2⟩

/-! ### last things -/
def lastS (c : List Nat) (s : Nat) : Nat := cnt01 c.length (lastM c s)
theorem lastS_bit {c : List Nat} {s : Nat} (hs : s < 2 ^ c.length) (i : Nat) : (lastS c s).testBit i = true ↔ s.testBit i = true ∧ ∀ j, s.testBit j = true → (row c i).testBit j = false := by
  unfold lastS
  rw [cnt01_bit, Bool.and_eq_true, decide_eq_true_eq, lastM_eq hs, lastB_iff]
  constructor
  · rintro ⟨_, h1, h2⟩
    exact ⟨h1, fun j hj => h2 j (lt_of_testBit hs hj) hj⟩
  · rintro ⟨h1, h2⟩
    exact ⟨lt_of_testBit hs h1, h1, fun j _ hj => h2 j hj⟩
theorem lastS_lt (c : List Nat) (s : Nat) : lastS c s < 2 ^ c.length := by
  apply Nat.lt_pow_two_of_testBit
  intro i hi
  unfold lastS
  rw [cnt01_bit]
  simp; omega
/-- t has of each thing all ahead, c all behind -/
def Dual (c t : List Nat) : Prop := c.length = t.length ∧ ∀ i j, (row t i).testBit j = (row c j).testBit i
theorem lastS_side {c : List Nat} (hn : c.length ≤ 12) {s : Nat} (hs : s < 2 ^ c.length) : side c (lastS c s) = true := by
  rw [side_anti hn (lastS_lt c s)]
  intro i j _ _ hi hj
  exact ((lastS_bit hs i).1 hi).2 j ((lastS_bit hs j).1 hj).1
theorem last_above {c : List Nat} (hc : Tr c) {s : Nat} (hs : s < 2 ^ c.length) {j : Nat} (hj : s.testBit j = true) : ∃ i, (lastS c s).testBit i = true ∧ (i = j ∨ (row c j).testBit i = true) := by
  obtain ⟨m, hm, hS, hmx⟩ := topmost (strict_of hc) c.length _ (fun x => s.testBit x && (x == j || lt c j x)) (Nat.le_refl _) ⟨j, lt_of_testBit hs hj, by simp [hj]⟩
  simp only [Bool.and_eq_true, Bool.or_eq_true, beq_iff_eq] at hS
  refine ⟨m, (lastS_bit hs m).2 ⟨hS.1, fun x hx => ?_⟩, hS.2⟩
  cases hlt : (row c m).testBit x with
  | false => rfl
  | true =>
    have hjx : lt c j x = true := by
      rcases hS.2 with h | h
      · rw [← h]; exact hlt
      · exact hc.2 j m x h hlt
    have := hmx x (lt_of_testBit hs hx) (by rw [hx, hjx]; simp)
    unfold lt at this
    rw [hlt] at this; exact this
theorem down_last {c t : List Nat} (hd : Dual c t) (hc : Tr c) {s : Nat} (hs : s < 2 ^ c.length) (hcl : Closd t s) : down t (lastS c s) = s := by
  apply Nat.eq_of_testBit_eq
  intro j
  rw [Bool.eq_iff_iff, down_bit]
  constructor
  · rintro (h | ⟨i, a, b⟩)
    · exact ((lastS_bit hs j).1 h).1
    · exact hcl i j ((lastS_bit hs i).1 a).1 b
  · intro hj
    obtain ⟨i, a, b | b⟩ := last_above hc hs hj
    · rw [← b]; exact .inl a
    · exact .inr ⟨i, a, by rw [hd.2]; exact b⟩
theorem last_down {c t : List Nat} (hd : Dual c t) (hc : Tr c) (hto : Ok t) (hn : c.length ≤ 12) {a : Nat} (ha : a < 2 ^ c.length) (hside : side c a = true) : lastS c (down t a) = a := by
  have hanti := (side_anti hn ha).1 hside
  have hdl : down t a < 2 ^ c.length := by rw [hd.1]; exact down_lt hto (by rw [← hd.1]; exact ha)
  apply Nat.eq_of_testBit_eq
  intro j
  rw [Bool.eq_iff_iff, lastS_bit hdl]
  constructor
  · rintro ⟨h1, h2⟩
    rcases (down_bit j).1 h1 with h | ⟨i, x, y⟩
    · exact h
    · have := h2 i (down_has t a i x)
      rw [hd.2, this] at y; cases y
  · intro h
    refine ⟨down_has t a j h, fun k hk => ?_⟩
    cases hlt : (row c j).testBit k with
    | false => rfl
    | true =>
      rcases (down_bit k).1 hk with h1 | ⟨i, x, y⟩
      · have := hanti j k (lt_of_testBit ha h) (lt_of_testBit ha h1) h h1
        unfold lt at this
        rw [hlt] at this; cases this
      · rw [hd.2] at y
        have hji := hc.2 j k i hlt y
        have := hanti j i (lt_of_testBit ha h) (lt_of_testBit ha x) h x
        unfold lt at this
        rw [hji] at this; cases this
/-! ### how many -/
def closB (t : List Nat) (s : Nat) : Bool := down t s == s
def downs (t : List Nat) : Nat := cb (2 ^ t.length) (closB t)
def sides (c : List Nat) : Nat := cb (2 ^ c.length) (side c)
theorem closB_iff {t : List Nat} {s : Nat} : closB t s = true ↔ Closd t s := by unfold closB; rw [beq_iff_eq, closd_iff]
/-- AS MANY AS SETS SIDE BY SIDE -/
theorem downs_sides {c t : List Nat} (hd : Dual c t) (hc : Tr c) (ht : Tr t) (hto : Ok t) (hn : c.length ≤ 12) : downs t = sides c := by
  unfold downs sides
  rw [← hd.1]
  apply Nat.le_antisymm
  · refine pigeon _ _ _ _ (lastS c) (fun s hs h => ⟨lastS_lt c s, lastS_side hn hs⟩) (fun a b ha hb h1 h2 e => ?_)
    rw [← down_last hd hc ha (closB_iff.1 h1), ← down_last hd hc hb (closB_iff.1 h2), e]
  · refine pigeon _ _ _ _ (down t) (fun s hs h => ⟨by rw [hd.1]; exact down_lt hto (by rw [← hd.1]; exact hs), closB_iff.2 (down_closd ht s)⟩) (fun a b ha hb h1 h2 e => ?_)
    rw [← last_down hd hc hto hn ha h1, ← last_down hd hc hto hn hb h2, e]
theorem cb_filter (n : Nat) (p : Nat → Bool) : cb n p = ((List.range n).filter p).length := by
  induction n with
  | zero => rfl
  | succ n ih =>
    rw [List.range_succ, List.filter_append, List.length_append]
    simp only [cb]
    rw [ih]
    cases hp : p n <;> simp [hp]
theorem cb_ge_list {n : Nat} {p : Nat → Bool} {A : List Nat} (hnd : A.Nodup) (h : ∀ x, x ∈ A → x < n ∧ p x = true) : A.length ≤ cb n p := by
  rw [cb_filter]
  exact nodup_len_le _ _ hnd (fun x hx => List.mem_filter.2 ⟨List.mem_range.2 (h x hx).1, (h x hx).2⟩)
theorem side_pow {c : List Nat} (hc : Tr c) (i : Nat) : side c (2 ^ i) = true := by
  rw [side_iff]
  intro j _ hj
  rw [Nat.testBit_two_pow, decide_eq_true_eq] at hj
  rw [and_zero_iff]
  intro k hk
  rw [Nat.testBit_two_pow]
  simp only [decide_eq_false_iff_not]
  intro e
  rw [← e, ← hj, hc.1] at hk; cases hk
theorem ones_nodup (n : Nat) : (0 :: (List.range n).map (2 ^ ·)).Nodup := by
  rw [List.nodup_cons]
  refine ⟨fun h => ?_, nodup_map (fun a b e => (Nat.pow_right_inj (by omega)).1 e) List.nodup_range⟩
  obtain ⟨i, _, e⟩ := List.mem_map.1 h
  have := Nat.two_pow_pos i
  omega
theorem ones_mem {c : List Nat} (hc : Tr c) (x : Nat) (hx : x ∈ 0 :: (List.range c.length).map (2 ^ ·)) : x < 2 ^ c.length ∧ side c x = true := by
  rcases List.mem_cons.1 hx with rfl | h
  · exact ⟨Nat.two_pow_pos _, side_zero c⟩
  · obtain ⟨i, hi, rfl⟩ := List.mem_map.1 h
    exact ⟨Nat.pow_lt_pow_right (by omega) (List.mem_range.1 hi), side_pow hc i⟩
theorem sides_ge {c : List Nat} (hc : Tr c) : c.length + 1 ≤ sides c := by
  have := cb_ge_list (ones_nodup c.length) (ones_mem hc)
  unfold sides
  simpa using this
theorem pc_pow {i : Nat} (hi : i < 12) : pc (2 ^ i) = 1 := by
  have h : ∀ i, i < 12 → pc (2 ^ i) = 1 := by decide
  exact h i hi
theorem sides_more {c : List Nat} (hc : Tr c) (hn : c.length ≤ 12) {a : Nat} (ha : a < 2 ^ c.length) (hs : side c a = true) (h2 : 2 ≤ pc a) : c.length + 2 ≤ sides c := by
  have hnd : (a :: 0 :: (List.range c.length).map (2 ^ ·)).Nodup := by
    rw [List.nodup_cons]
    refine ⟨fun h => ?_, ones_nodup _⟩
    rcases List.mem_cons.1 h with rfl | h
    · have : pc 0 = 0 := by decide
      omega
    · obtain ⟨i, hi, rfl⟩ := List.mem_map.1 h
      rw [pc_pow (by have := List.mem_range.1 hi; omega)] at h2; omega
  have := cb_ge_list hnd (fun x hx => by
    rcases List.mem_cons.1 hx with rfl | h
    · exact ⟨ha, hs⟩
    · exact ones_mem hc x h)
  unfold sides
  simpa using this
theorem one_bit {n s i j : Nat} (hn : n ≤ 12) (hs : s < 2 ^ n) (h : pc s ≤ 1) (hi : s.testBit i = true) (hj : s.testBit j = true) : i = j := by
  by_cases e : i = j
  · exact e
  · have h1 := del_cb (n := n) (S := s.testBit) (lt_of_testBit hs hi) hi
    have h2 := del_cb (n := n) (S := del s.testBit i) (lt_of_testBit hs hj) (del_iff.2 ⟨hj, fun e' => e e'.symm⟩)
    rw [pc_cnt hn hs, cb_cnt] at h
    omega
theorem sides_chain {c : List Nat} (hn : c.length ≤ 12) (h : ∀ s, s < 2 ^ c.length → side c s = true → pc s ≤ 1) : sides c ≤ c.length + 1 := by
  refine pigeon_all (f := fun s => if s = 0 then c.length else Nat.log2 s) (fun s hs _ => ?_) (fun a b ha hb h1 h2 e => ?_)
  · show (if s = 0 then c.length else Nat.log2 s) < c.length + 1
    split
    · omega
    · rename_i h0
      have := (Nat.log2_lt h0).2 hs
      omega
  · have hlog : ∀ s, s ≠ 0 → s.testBit (Nat.log2 s) = true := fun s h0 => Nat.testBit_log2 h0
    have e' : (if a = 0 then c.length else Nat.log2 a) = (if b = 0 then c.length else Nat.log2 b) := e
    by_cases a0 : a = 0
    · by_cases b0 : b = 0
      · rw [a0, b0]
      · rw [if_pos a0, if_neg b0] at e'
        have := (Nat.log2_lt b0).2 hb
        omega
    · by_cases b0 : b = 0
      · rw [if_neg a0, if_pos b0] at e'
        have := (Nat.log2_lt a0).2 ha
        omega
      · rw [if_neg a0, if_neg b0] at e'
        apply Nat.eq_of_testBit_eq
        intro j
        have ka := hlog a a0
        have kb := hlog b b0
        rw [e'] at ka
        rw [Bool.eq_iff_iff]
        constructor
        · intro hj
          rw [one_bit hn ha (h a ha h1) hj ka]; exact kb
        · intro hj
          rw [one_bit hn hb (h b hb h2) hj kb]; exact ka
/-- EACH STEP MORE MAKES THEM NO MORE -/
theorem downs_le {t u : List Nat} (hl : t.length = u.length) (h : ∀ i j, (row t i).testBit j = true → (row u i).testBit j = true) : downs u ≤ downs t := by
  unfold downs
  rw [hl]
  exact cb_mono (fun s _ hs => closB_iff.2 (fun i j hi hj => closB_iff.1 hs i j hi (h i j hj)))
theorem downs_le_pow (t : List Nat) : downs t ≤ 2 ^ t.length := cb_le _ _
end Go.Proofs.YtfjmealeglbklaaDoor.M
